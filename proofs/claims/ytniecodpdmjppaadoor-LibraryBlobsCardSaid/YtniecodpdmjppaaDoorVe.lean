/- (*reel.Volume).Crash: its walk. -/
import Derived.Test.YtniecodpdmjppaaDoorVd
import Derived.Lib.SliceRun
namespace Go.Proofs.YtniecodpdmjppaaDoor
open Go.RowKit
set_option linter.unusedVariables false

section
variable {w : World} {B g : Nat} {s s' : VS} {v : Value}

/-- numbers that can be read, whatever a volume's calls turn -/
def Reads (w : World) (B : Nat) (A : Option Addr) (l : List Int) : Prop := ∀ w', Stay0 B w w' → Lies w' w'.heap.size A (ints l)
theorem Reads.stay {w w' : World} {B : Nat} {A : Option Addr} {l : List Int} (h : Reads w B A l) (hs : Stay0 B w w') : Reads w' B A l := fun w'' h' => h w'' (hs.trans h')
theorem Reads.here {w : World} {B : Nat} {A : Option Addr} {l : List Int} (h : Reads w B A l) : Lies w w.heap.size A (ints l) := h w (Stay0.refl _ _)
theorem Reads.of_low {w : World} {B : Nat} {A : Option Addr} {l : List Int} (h : Lies w B A (ints l)) (hB : B ≤ w.heap.size) : Reads w B A l := fun w' hs => (h.below hs.below).more (Nat.le_trans hB hs.size)
theorem Reads.of_at {w : World} {B k : Nat} {cs : Array Value} {l : List Int} (h : At w k 3 cs) (hc : cs.toList = ints l) : Reads w B (some ⟨k, 0, none⟩) l := fun w' hs =>
  Lies.of_at (hs.at_ h (by decide) (by decide)) hc (hs.at_ h (by decide) (by decide)).lt

theorem VS.kept_le (s : VS) (ok : s.ok) (l : List Int) : ((s.kept (pickR l) : Nat) : Int) = s.sure + pickR l 0 ((s.l.length : Int) - s.sure + 1) ∧ s.kept (pickR l) ≤ s.l.length := by
  have h1 := pick_range l 0 ((s.l.length : Int) - s.sure + 1)
  have h2 := ok.sure
  have h3 := h1.2 (by omega)
  unfold VS.kept
  omega
theorem VS.part_le (s : VS) (l : List Int) : ((s.part (pickR l) : Nat) : Int) = pickR l 1 (((s.l[s.kept (pickR l)]?.getD .no).t.size : Nat) : Int) ∧ s.part (pickR l) ≤ (s.l[s.kept (pickR l)]?.getD .no).t.size := by
  have h1 := pick_range l 1 (((s.l[s.kept (pickR l)]?.getD .no).t.size : Nat) : Int)
  unfold VS.part
  by_cases h0 : 1 ≤ (((s.l[s.kept (pickR l)]?.getD .no).t.size : Nat) : Int)
  · have := h1.2 h0
    omega
  · rw [pick_out (by omega)]
    simp
theorem VS.ok.crash {s : VS} (h : s.ok) (l : List Int) : (s.crash (pickR l)).ok := by
  have h1 := (s.kept_le h l).2
  have h2 := s.part_le l
  have h3 := h.sum
  have h4 := h.len
  have hw := wsum_take_drop s.l (s.kept (pickR l))
  by_cases hp : s.part (pickR l) = 0
  · have e : s.left (pickR l) = s.l.take (s.kept (pickR l)) := by unfold VS.left; rw [if_pos hp]
    refine ⟨?_, ?_, h.top, h.lpos, h.ltop, Nat.le_refl _, Nat.zero_le _, ?_, h.lab, h.er⟩
    · show ∀ b ∈ s.left (pickR l), b.ok
      rw [e]
      exact fun b hb => h.blk b (List.mem_of_mem_take hb)
    · show ((wsum (s.left (pickR l)) : Nat) : Int) ≤ s.rm
      rw [e]; omega
    · show (s.left (pickR l)).length ≤ 1000000
      rw [e, List.length_take]; omega
  · have e : s.left (pickR l) = s.l.take (s.kept (pickR l)) ++ [⟨(s.l[s.kept (pickR l)]?.getD .no).t.extract 0 (s.part (pickR l)), false, true⟩] := by unfold VS.left; rw [if_neg hp]
    have hk : s.kept (pickR l) < s.l.length := by
      rcases Nat.lt_or_ge (s.kept (pickR l)) s.l.length with h' | h'
      · exact h'
      · rw [List.getElem?_eq_none h'] at h2
        have hz : (Option.getD (none : Option Blk) Blk.no).t.size = 0 := rfl
        omega
    rw [List.getElem?_eq_getElem hk] at h2 e
    simp only [Option.getD_some] at h2 e
    have hd := wsum_drop_step hk
    have hb := h.blk _ (List.getElem_mem hk)
    generalize s.l[s.kept (pickR l)] = b at *
    have hsz : (b.t.extract 0 (s.part (pickR l))).size = s.part (pickR l) := by rw [ByteArray.size_extract]; omega
    have hb1 := hb.1
    refine ⟨?_, ?_, h.top, h.lpos, h.ltop, Nat.le_refl _, Nat.zero_le _, ?_, h.lab, h.er⟩
    · show ∀ b ∈ s.left (pickR l), b.ok
      rw [e]
      intro c hc
      rcases List.mem_append.1 hc with h' | h'
      · exact h.blk c (List.mem_of_mem_take h')
      · rw [List.mem_singleton.1 h']
        exact ⟨by show (b.t.extract 0 (s.part (pickR l))).size ≤ 1000000; omega, fun h => by cases h⟩
    · show ((wsum (s.left (pickR l)) : Nat) : Int) ≤ s.rm
      rw [e, wsum_append, wsum_one]
      unfold Blk.wt at hd ⊢
      simp only
      omega
    · show (s.left (pickR l)).length ≤ 1000000
      rw [e, List.length_append, List.length_take]; simp; omega

def CrashEnds (w : World) (B g : Nat) (s : VS) (e : Ending) (w' : World) : Prop := e = .returned (.tuple #[]) ∧ Vol w' B g s ∧ Stay B g w w'

theorem crash_done {t : VS} (h : VolAt w B g t v) (ok : VS.ok { t with sure := t.l.length, pos := 0 }) :
    Vol ((w.setCell ⟨g, 6, none⟩ (.int .i64 ((t.l.length : Nat) : Int))).setCell ⟨g, 7, none⟩ (.int .i64 0)) B g { t with sure := t.l.length, pos := 0 } ∧ Stay B g w ((w.setCell ⟨g, 6, none⟩ (.int .i64 ((t.l.length : Nat) : Int))).setCell ⟨g, 7, none⟩ (.int .i64 0)) := by
  have a1 := h.at_.set 6 (.int .i64 ((t.l.length : Nat) : Int))
  have a2 := a1.set 7 (.int .i64 0)
  have hg : w.grownBy ((w.setCell ⟨g, 6, none⟩ (.int .i64 ((t.l.length : Nat) : Int))).setCell ⟨g, 7, none⟩ (.int .i64 0)) (some g) := grownBy_set (grown_set _ _ _ _) _ _
  exact ⟨⟨ok, v, h.own (s' := { t with sure := t.l.length, pos := 0 }) rfl hg a2⟩, h.stay hg (rowOf_at a2 rfl)⟩

/-- what is at hand where a crash ends -/
theorem crash_facts {t : VS} (h : VolAt w B g t v) : ∃ A c, v = .slice A t.l.length c ∧ w.cell? ⟨g, 5, none⟩ = some (.slice A t.l.length c) ∧ (∃ u, w.cell? ⟨g, 6, none⟩ = some u) ∧ (∃ u, w.cell? ⟨g, 7, none⟩ = some u) ∧ w.frozen? ⟨g, 6, none⟩ = false ∧ w.frozen? ⟨g, 7, none⟩ = false := by
  obtain ⟨A, c, rfl, _⟩ := h.form
  exact ⟨A, c, rfl, h.at_.cell 5, ⟨_, h.at_.cell 6⟩, ⟨_, h.at_.cell 7⟩, h.at_.frozen 6, h.at_.frozen 7⟩

end
end Go.Proofs.YtniecodpdmjppaaDoor
