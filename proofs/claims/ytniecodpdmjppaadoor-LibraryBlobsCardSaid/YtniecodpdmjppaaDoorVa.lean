/- reel.New, Label, Len, At, Erased, Protect, Write, Mark, Flush, Seek: their walks. -/
import Derived.Test.YtniecodpdmjppaaDoorVt
import Derived.Deep.QuietTactic
import Derived.BigQuiet
namespace Go.Proofs.YtniecodpdmjppaaDoor
open Go.RowKit
set_option linter.unusedVariables false

/-- what a call of a volume comes to -/
def VolEnds (w : World) (B g : Nat) (r : VS × Int) (e : Ending) (w' : World) : Prop := e = .returned (.int .i64 r.2) ∧ Vol w' B g r.1 ∧ Stay B g w w'

/-- a new volume -/
def VS.new (rm : Int) : VS := ⟨rm, false, 0, ⟨#[]⟩, [], 0, 0, 0, false⟩
theorem VS.new_ok {rm : Int} (h0 : 0 ≤ rm) (h1 : rm ≤ 9223372036854775807) : (VS.new rm).ok :=
  ⟨by simp [VS.new], by simp [VS.new, wsum]; exact h0, h1, by simp [VS.new], by simp [VS.new], by simp [VS.new], by simp [VS.new], by simp [VS.new], by show 0 ≤ 1000000; decide, by simp [VS.new]⟩

set_option maxRecDepth 100000 in
set_option maxHeartbeats 400000 in
theorem new_vol (room rm : Int) (hr : room ≤ 9223372036854775807) (hrm' : max room 0 = rm) (w : World) :
    Calls Tryd.prog 20 #[.int .i64 room] w fun e w' => ∃ g, e = .returned (.pointer (some ⟨g, 0, none⟩)) ∧ Vol w' w.heap.size g (VS.new rm) ∧ Below w.heap.size w w' := by
  go_enter Tryd.func20, Tryd.ntmps20
  go_wp2_with fail
  refine (made_any room w).mono ?_
  rintro e w1 ⟨rfl, o, rfl⟩
  have hrm : (0 : Int) ≤ rm ∧ rm ≤ 9223372036854775807 := by omega
  rw [hrm']
  clear hrm'
  have hz : (w.alloc o).heap.size = w.heap.size + 1 := by simp
  have hD : Vol ((w.alloc o).alloc (.cells (volCells (VS.new rm) 0 (.slice none 0 0)) 51)) w.heap.size (w.heap.size + 1) (VS.new rm) := by
    refine ⟨VS.new_ok hrm.1 hrm.2, _, ?_, World.ownsRow_nil _ _ _ _, by omega⟩
    have := At.new (w.alloc o) 51 (volCells (VS.new rm) 0 (.slice none 0 0))
    rw [hz] at this
    exact this
  have hB : Below w.heap.size w ((w.alloc o).alloc (.cells (volCells (VS.new rm) 0 (.slice none 0 0)) 51)) := ((Below.refl _ w).alloc (Nat.le_refl _) _).alloc (by simp) _
  have HD := Lib.hid hD; clear hD
  have HB := Lib.hid hB; clear hB
  unfold volCells VS.new at HD HB
  simp only at HD HB
  go_wp2
  go_ret
  exact ⟨w.heap.size + 1, rfl, HD.out, HB.out⟩

section
variable {w : World} {B g : Nat} {s s' : VS} {v : Value}

set_option maxHeartbeats 400000 in
theorem len_vol (h : Vol w B g s) : Calls Tryd.prog 37 #[.pointer (some ⟨g, 0, none⟩)] w fun e w' => e = .returned (.int .i64 ((s.l.length : Nat) : Int)) ∧ w = w' := by
  obtain ⟨ok, v, h⟩ := h
  obtain ⟨A, c, rfl, hc, _, hnil, hsome⟩ := h.form
  have c5 := h.at_.cell 5
  clear hnil hsome h ok
  go_enter Tryd.func37, Tryd.ntmps37
  go_wp2
  go_ret
  exact ⟨rfl, rfl⟩

set_option maxHeartbeats 400000 in
theorem label_vol (h : Vol w B g s) : Calls Tryd.prog 13 #[.pointer (some ⟨g, 0, none⟩)] w fun e w' => e = .returned (.string s.lab) ∧ Below w.heap.size w w' := by
  obtain ⟨ok, v, h⟩ := h
  have c4 := h.at_.cell 4
  have hC := clone_any s.lab w (by have := ok.lab; omega)
  clear h ok
  go_enter Tryd.func13, Tryd.ntmps13
  go_wp2_with fail
  refine hC.mono ?_
  rintro e w1 ⟨rfl, hb⟩
  go_wp2
  go_ret
  exact ⟨rfl, hb⟩

theorem used_vol (h : Vol w B g s) : Calls Tryd.prog 14 #[.pointer (some ⟨g, 0, none⟩)] w fun e w' => e = .returned (.int .i64 ((wsum s.l : Nat) : Int)) ∧ w = w' := by
  obtain ⟨ok, v, h⟩ := h
  exact (used_any (h.meter ok)).mono fun _ _ ⟨he, hw⟩ => ⟨he, hw.symm⟩

/-- a cell of the volume's own is laid anew: nothing else turns -/
theorem VolAt.setOwn (h : VolAt w B g s v) (ok' : s'.ok) (i : Nat) (u : Value) (hl : s'.l = s.l) (he : (volCells s (wsum s.l : Nat) v).setIfInBounds i u = volCells s' (wsum s'.l : Nat) v) : Vol (w.setCell ⟨g, i, none⟩ u) B g s' ∧ Stay B g w (w.setCell ⟨g, i, none⟩ u) :=
  ⟨⟨ok', v, h.own hl (grown_set _ _ _ _) (by have := h.at_.set i u; rw [he] at this; exact this)⟩, h.stay (grown_set _ _ _ _) (by have := h.at_.set i u; rw [he] at this; exact rowOf_at this rfl)⟩



set_option maxHeartbeats 400000 in
theorem flush_vol (h : Vol w B g s) : Calls Tryd.prog 45 #[.pointer (some ⟨g, 0, none⟩)] w (VolEnds w B g s.flush) := by
  obtain ⟨ok, v, h⟩ := h
  have hT := try_vol h ok
  have OK := Lib.hid ok.tried
  by_cases hc : s.err = 0
  · have hr : s.flush = ({ s.tried with sure := s.l.length }, 0) := by unfold VS.flush; rw [if_neg (by simp [hc])]
    rw [hr]
    rw [hc] at hT
    clear hr hc h ok
    go_enter Tryd.func45, Tryd.ntmps45
    go_wp2_with fail
    refine hT.mono ?_
    rintro e w1 ⟨rfl, h1, st1, _⟩
    have HST := Lib.hid st1; clear st1 hT
    have f6 := h1.at_.frozen 6
    obtain ⟨A, k, rfl, hk, _, hnil, hsome⟩ := h1.form
    have c6 : w1.cell? ⟨g, 6, none⟩ = some (.int .i64 s.sure) := h1.at_.cell 6
    have c5 : w1.cell? ⟨g, 5, none⟩ = some (.slice A s.l.length k) := h1.at_.cell 5
    have R := Lib.hid (h1.setOwn (s' := { s.tried with sure := s.l.length }) ⟨OK.out.blk, OK.out.sum, OK.out.top, OK.out.lpos, OK.out.ltop, Nat.le_refl _, OK.out.pos, OK.out.len, OK.out.lab, OK.out.er⟩ 6 (.int .i64 ((s.l.length : Nat) : Int)) rfl rfl)
    clear hnil hsome h1 hk
    generalize s.l.length = n at *
    go_wp2
    go_ret
    exact ⟨rfl, R.out.1, HST.out.trans R.out.2⟩
  · have hr : s.flush = (s.tried, s.err) := by unfold VS.flush; rw [if_pos hc]
    rw [hr]
    generalize s.err = c at *
    clear hr h ok
    go_enter Tryd.func45, Tryd.ntmps45
    go_wp2_with fail
    refine hT.mono ?_
    rintro e w1 ⟨rfl, h1, st1, _⟩
    have HST := Lib.hid st1; clear st1 hT
    have H1 := Lib.hid h1; clear h1
    go_wp2
    go_ret
    exact ⟨rfl, ⟨OK.out, v, H1.out⟩, HST.out⟩

set_option maxHeartbeats 1000000 in
theorem seek_vol (h : Vol w B g s) (n : Int) : Calls Tryd.prog 38 #[.pointer (some ⟨g, 0, none⟩), .int .i64 n] w (VolEnds w B g (s.seek n)) := by
  obtain ⟨ok, v, h⟩ := h
  have hT := try_vol h ok
  have OK := Lib.hid ok.tried
  by_cases hc : s.err = 0
  · have hr : s.seek n = if n < 0 ∨ (s.l.length : Int) < n then (s.tried, 1) else ({ s.tried with pos := n.toNat }, 0) := by unfold VS.seek; rw [if_neg (by simp [hc])]
    rw [hr]
    rw [hc] at hT
    clear hr hc h ok
    by_cases hn : n < 0
    · rw [if_pos (.inl hn)]
      go_enter Tryd.func38, Tryd.ntmps38
      go_wp2_with fail
      refine hT.mono ?_
      rintro e w1 ⟨rfl, h1, st1, _⟩
      have HST := Lib.hid st1; clear st1 hT
      have H1 := Lib.hid h1; clear h1
      go_wp2
      go_ret
      exact ⟨rfl, ⟨OK.out, _, H1.out⟩, HST.out⟩
    · by_cases hg : (s.l.length : Int) < n
      · rw [if_pos (.inr hg)]
        go_enter Tryd.func38, Tryd.ntmps38
        go_wp2_with fail
        refine hT.mono ?_
        rintro e w1 ⟨rfl, h1, st1, _⟩
        have HST := Lib.hid st1; clear st1 hT
        have H1 := Lib.hid h1
        obtain ⟨A, k, rfl, hk, _, hnil, hsome⟩ := h1.form
        have c5 : w1.cell? ⟨g, 5, none⟩ = some (.slice A s.l.length k) := h1.at_.cell 5
        clear hnil hsome h1 hk
        generalize s.l.length = z at *
        go_wp2
        go_ret
        exact ⟨rfl, ⟨OK.out, _, H1.out⟩, HST.out⟩
      · rw [if_neg (by omega)]
        obtain ⟨q, rfl⟩ := Int.eq_ofNat_of_zero_le (Int.not_lt.1 hn)
        rw [Int.toNat_natCast]
        go_enter Tryd.func38, Tryd.ntmps38
        go_wp2_with fail
        refine hT.mono ?_
        rintro e w1 ⟨rfl, h1, st1, _⟩
        have HST := Lib.hid st1; clear st1 hT
        have f7 := h1.at_.frozen 7
        obtain ⟨A, k, rfl, hk, _, hnil, hsome⟩ := h1.form
        have c7 : w1.cell? ⟨g, 7, none⟩ = some (.int .i64 s.pos) := h1.at_.cell 7
        have c5 : w1.cell? ⟨g, 5, none⟩ = some (.slice A s.l.length k) := h1.at_.cell 5
        have R := Lib.hid (h1.setOwn (s' := { s.tried with pos := q }) ⟨OK.out.blk, OK.out.sum, OK.out.top, OK.out.lpos, OK.out.ltop, OK.out.sure, by show q ≤ s.l.length; omega, OK.out.len, OK.out.lab, OK.out.er⟩ 7 (.int .i64 ((q : Nat) : Int)) rfl rfl)
        clear hnil hsome h1 hk
        generalize s.l.length = z at *
        go_wp2
        go_ret
        exact ⟨rfl, R.out.1, HST.out.trans R.out.2⟩
  · have hr : s.seek n = (s.tried, s.err) := by unfold VS.seek; rw [if_pos hc]
    rw [hr]
    generalize s.err = c at *
    clear hr h ok
    go_enter Tryd.func38, Tryd.ntmps38
    go_wp2_with fail
    refine hT.mono ?_
    rintro e w1 ⟨rfl, h1, st1, _⟩
    have HST := Lib.hid st1; clear st1 hT
    have H1 := Lib.hid h1; clear h1
    go_wp2
    go_ret
    exact ⟨rfl, ⟨OK.out, v, H1.out⟩, HST.out⟩
end
end Go.Proofs.YtniecodpdmjppaaDoor
