/- A Dec's calls, told by a cursor that stops at the first error; tapefmt.Parse: its walk. -/
import Derived.Test.YtniecodpdmjppaaDoorCr
namespace Go.Proofs.YtniecodpdmjppaaDoor
open Go.RowKit
open Wm (num tk)
set_option linter.unusedVariables false

theorem curI_len (c : List UInt8 × Nat) (m : Nat) : (curI c m).1.1.length ≤ c.1.length := by
  unfold curI; split
  · exact Nat.le_refl _
  · exact tkI_len _ _
theorem curU_len (c : List UInt8 × Nat) : (curU c).1.1.length ≤ c.1.length := by
  unfold curU; split
  · exact Nat.le_refl _
  · exact Wm.tk_len _ _ _
theorem tkS_len (l : List UInt8) (m : Nat) : (tkS l m).1.length ≤ l.length := by
  have h := tkI_len l m
  unfold tkS
  split
  · exact h
  · split
    · exact h
    · simp only [List.length_drop]; omega
theorem curS_len (c : List UInt8 × Nat) (m : Nat) : (curS c m).1.1.length ≤ c.1.length := by
  unfold curS; split
  · exact Nat.le_refl _
  · exact tkS_len _ _
theorem curS_most (c : List UInt8 × Nat) (m : Nat) : (curS c m).2.length ≤ m := by
  unfold curS; split
  · exact Nat.zero_le _
  · simp only
    have h := tkI_most c.1 m
    unfold tkS
    split
    · exact Nat.zero_le _
    · split
      · exact Nat.zero_le _
      · simp only [List.length_take]; omega
theorem curI_most (c : List UInt8 × Nat) (m : Nat) : (curI c m).2 ≤ m := by
  unfold curI; split
  · exact Nat.zero_le _
  · exact tkI_most _ _
theorem curU_bound (c : List UInt8 × Nat) : (curU c).2 < 18446744073709551616 := by
  unfold curU; split
  · show 0 < _; decide
  · exact Wm.tk_bound _ _ _ (by decide)

section
variable (g : Nat) (c : List UInt8 × Nat) (w : World)
theorem decU_cur (h : DecIs w g c.1 c.2) : Calls Tryd.prog 79 #[.pointer (some ⟨g, 0, none⟩)] w (DecRet g (curU c).1.1 (curU c).1.2 (.int .u64 ((curU c).2 : Nat)) w) := by
  obtain ⟨l, e⟩ := c
  unfold curU
  by_cases h0 : e ≠ 0
  · rw [if_pos h0]; exact decU_bad g l e h0 w h
  · obtain rfl : e = 0 := by omega
    rw [if_neg (by simp)]
    exact decU_any g l w h
theorem decI_cur (m : Nat) (hm : m ≤ 9223372036854775807) (h : DecIs w g c.1 c.2) : Calls Tryd.prog 78 #[.pointer (some ⟨g, 0, none⟩), .int .i64 (m : Int)] w (DecRet g (curI c m).1.1 (curI c m).1.2 (.int .i64 ((curI c m).2 : Nat)) w) := by
  obtain ⟨l, e⟩ := c
  unfold curI
  by_cases h0 : e ≠ 0
  · rw [if_pos h0]; exact decI_bad g l e h0 m w h (by omega)
  · obtain rfl : e = 0 := by omega
    rw [if_neg (by simp)]
    have := decI_any g l (m : Int) w h (by omega)
    rwa [Int.toNat_natCast] at this
theorem decS_cur (m : Nat) (hm : m ≤ 9223372036854775807) (hl : c.1.length ≤ 140737488355328) (h : DecIs w g c.1 c.2) : Calls Tryd.prog 77 #[.pointer (some ⟨g, 0, none⟩), .int .i64 (m : Int)] w (DecRet g (curS c m).1.1 (curS c m).1.2 (.string ⟨(curS c m).2.toArray⟩) w) := by
  obtain ⟨l, e⟩ := c
  unfold curS
  by_cases h0 : e ≠ 0
  · rw [if_pos h0]; exact decS_bad g l e h0 m w h (by omega)
  · obtain rfl : e = 0 := by omega
    rw [if_neg (by simp)]
    have := decS_any g l (m : Int) w h (by omega) hl
    rwa [Int.toNat_natCast] at this
theorem decFail_cur (n : Nat) (h : DecIs w g c.1 c.2) : Calls Tryd.prog 80 #[.pointer (some ⟨g, 0, none⟩), .int .i64 (n : Nat)] w (DecRet g c.1 (if c.2 = 0 then n else c.2) (.tuple #[]) w) := dfail_any g n c.1 c.2 w h
theorem decDone_cur (h : DecIs w g c.1 c.2) : Calls Tryd.prog 81 #[.pointer (some ⟨g, 0, none⟩)] w (DecRet g c.1 (doneErr c.1 c.2) (.int .i64 (doneErr c.1 c.2 : Nat)) w) := done_any g c.1 c.2 w h
end
end Go.Proofs.YtniecodpdmjppaaDoor
