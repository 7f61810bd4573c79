/- reel.New, Label, Len, At, Erased, Protect, Write, Mark, Flush, Seek: their walks. -/
import Derived.Test.YtejgogahkjnefaaVt
import Derived.Deep.QuietTactic
import Derived.BigQuiet
namespace Go.Proofs.Ytejgogahkjnefaa
open Go.RowKit
set_option linter.unusedVariables false

/-- what a call of a volume comes to -/
def VolEnds (w : World) (B g : Nat) (r : VS × Int) (e : Ending) (w' : World) : Prop := e = .returned (.int .i64 r.2) ∧ Vol w' B g r.1 ∧ Stay B g w w'

/-- a new volume -/
def VS.new (rm : Int) : VS := ⟨rm, false, 0, ⟨#[]⟩, [], 0, 0, 0, false⟩
theorem VS.new_ok {rm : Int} (h0 : 0 ≤ rm) (h1 : rm ≤ 9223372036854775807) : (VS.new rm).ok :=
  ⟨by simp [VS.new], by simp [VS.new, wsum]; exact h0, h1, by simp [VS.new], by simp [VS.new], by simp [VS.new], by simp [VS.new], by simp [VS.new], by show 0 ≤ 1000000; decide, by simp [VS.new]⟩

set_option maxRecDepth 100000 in
set_option maxHeartbeats 400000 in
theorem new_vol (room rm : Int) (hr : room ≤ 9223372036854775807) (hrm' : max room 0 = rm) (w : World) :
    Calls Try.prog 16 #[.int .i64 room] w fun e w' => ∃ g, e = .returned (.pointer (some ⟨g, 0, none⟩)) ∧ Vol w' w.heap.size g (VS.new rm) ∧ Below w.heap.size w w' := by
  go_enter Try.func16, Try.ntmps16
  go_wp2_with fail
  refine (made_any room w).mono ?_
  rintro e w1 ⟨rfl, o, rfl⟩
  have hrm : (0 : Int) ≤ rm ∧ rm ≤ 9223372036854775807 := by omega
  rw [hrm']
  clear hrm'
  have hz : (w.alloc o).heap.size = w.heap.size + 1 := by simp
  have hD : Vol ((w.alloc o).alloc (.cells (volCells (VS.new rm) 0 (.slice none 0 0)) 56)) w.heap.size (w.heap.size + 1) (VS.new rm) := by
    refine ⟨VS.new_ok hrm.1 hrm.2, _, ?_, World.ownsRow_nil _ _ _ _, by omega⟩
    have := At.new (w.alloc o) 56 (volCells (VS.new rm) 0 (.slice none 0 0))
    rw [hz] at this
    exact this
  have hB : Below w.heap.size w ((w.alloc o).alloc (.cells (volCells (VS.new rm) 0 (.slice none 0 0)) 56)) := ((Below.refl _ w).alloc (Nat.le_refl _) _).alloc (by simp) _
  have HD := Lib.hid hD; clear hD
  have HB := Lib.hid hB; clear hB
  unfold volCells VS.new at HD HB
  simp only at HD HB
  go_wp2
  go_ret
  exact ⟨w.heap.size + 1, rfl, HD.out, HB.out⟩

section
variable {w : World} {B g : Nat} {s s' : VS} {v : Value}

theorem used_vol (h : Vol w B g s) : Calls Try.prog 32 #[.pointer (some ⟨g, 0, none⟩)] w fun e w' => e = .returned (.int .i64 ((wsum s.l : Nat) : Int)) ∧ w = w' := by
  obtain ⟨ok, v, h⟩ := h
  exact (used_any (h.meter ok)).mono fun _ _ ⟨he, hw⟩ => ⟨he, hw.symm⟩

/-- a cell of the volume's own is laid anew: nothing else turns -/
theorem VolAt.setOwn (h : VolAt w B g s v) (ok' : s'.ok) (i : Nat) (u : Value) (hl : s'.l = s.l) (he : (volCells s (wsum s.l : Nat) v).setIfInBounds i u = volCells s' (wsum s'.l : Nat) v) : Vol (w.setCell ⟨g, i, none⟩ u) B g s' ∧ Stay B g w (w.setCell ⟨g, i, none⟩ u) :=
  ⟨⟨ok', v, h.own hl (grown_set _ _ _ _) (by have := h.at_.set i u; rw [he] at this; exact this)⟩, h.stay (grown_set _ _ _ _) (by have := h.at_.set i u; rw [he] at this; exact rowOf_at this rfl)⟩



end
end Go.Proofs.Ytejgogahkjnefaa
