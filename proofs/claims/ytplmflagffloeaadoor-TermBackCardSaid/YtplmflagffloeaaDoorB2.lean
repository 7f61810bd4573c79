/- Cr, Td: merged (a claim holds few files). -/
import Derived.Test.YtplmflagffloeaaDoorDs
import Derived.Test.YtplmflagffloeaaDoorEs
/- A Dec's calls as a cursor that stops at the first error; numbers' lengths. No walk is here. -/
namespace Go.Proofs.YtplmflagffloeaaDoor
open Go.RowKit
open Wm (num tk)
set_option linter.unusedVariables false

/-! numbers' lengths -/
theorem cont_len : ∀ (k v : Nat), v < 128 ^ k → (Wm.cont v).length ≤ k := by
  intro k
  induction k with
  | zero => intro v h; have : v = 0 := by simpa using h
            rw [this, Wm.cont_zero]; simp
  | succ k ih =>
    intro v h
    by_cases h0 : v = 0
    · rw [h0, Wm.cont_zero]; simp
    · rw [Wm.cont_pos h0, List.length_append]
      have := ih (v / 128) (by rw [Nat.pow_succ] at h; exact Nat.div_lt_of_lt_mul (by omega))
      simp; omega
theorem num_lt (k v : Nat) (h : v < 128 ^ (k + 1)) : (num v).length ≤ k + 1 := by
  unfold num
  have := cont_len k (v / 128) (by rw [Nat.pow_succ] at h; exact Nat.div_lt_of_lt_mul (by omega))
  simp; omega
theorem text_len (s : ByteArray) : (text s).length = (num s.size).length + s.size := by unfold text; rw [List.length_append, size_list]

/-! a cursor that stops at the first error -/
def curU (c : List UInt8 × Nat) : (List UInt8 × Nat) × Nat := if c.2 ≠ 0 then (c, 0) else (((tk c.1 0 true).1, (tk c.1 0 true).2.1), (tk c.1 0 true).2.2)
def curI (c : List UInt8 × Nat) (most : Nat) : (List UInt8 × Nat) × Nat := if c.2 ≠ 0 then (c, 0) else (((tkI c.1 most).1, (tkI c.1 most).2.1), (tkI c.1 most).2.2)
def curS (c : List UInt8 × Nat) (most : Nat) : (List UInt8 × Nat) × List UInt8 := if c.2 ≠ 0 then (c, []) else (((tkS c.1 most).1, (tkS c.1 most).2.1), (tkS c.1 most).2.2)

theorem tkI_numb (n most : Nat) (s : List UInt8) (hn : n < 18446744073709551616) (h : n ≤ most) : tkI (num n ++ s) most = (s, 0, n) := by
  unfold tkI
  rw [Wm.tk_num s n hn, if_neg (by simpa using h)]
theorem curU_num (v : Nat) (s : List UInt8) (h : v < 18446744073709551616) : curU (num v ++ s, 0) = ((s, 0), v) := by
  unfold curU
  rw [if_neg (by simp), Wm.tk_num s v h]
theorem curI_num (v most : Nat) (s : List UInt8) (h : v < 18446744073709551616) (hm : v ≤ most) : curI (num v ++ s, 0) most = ((s, 0), v) := by
  unfold curI
  rw [if_neg (by simp), tkI_numb v most s h hm]
theorem curS_text (x : ByteArray) (s : List UInt8) (most : Nat) (h : x.size ≤ most) (hm : most < 18446744073709551616) : curS (text x ++ s, 0) most = ((s, 0), x.data.toList) := by
  unfold curS
  rw [if_neg (by simp)]
  unfold tkS text
  rw [List.append_assoc, tkI_numb _ _ _ (by omega) h]
  simp [show ¬ x.size + s.length < x.size by omega]

end Go.Proofs.YtplmflagffloeaaDoor

/- A Dec's calls, told by a cursor that stops at the first error; tapefmt.Parse: its walk. -/
namespace Go.Proofs.YtplmflagffloeaaDoor
open Go.RowKit
open Wm (num tk)
set_option linter.unusedVariables false

theorem curI_len (c : List UInt8 × Nat) (m : Nat) : (curI c m).1.1.length ≤ c.1.length := by
  unfold curI; split
  · exact Nat.le_refl _
  · exact tkI_len _ _
theorem curU_len (c : List UInt8 × Nat) : (curU c).1.1.length ≤ c.1.length := by
  unfold curU; split
  · exact Nat.le_refl _
  · exact Wm.tk_len _ _ _
theorem tkS_len (l : List UInt8) (m : Nat) : (tkS l m).1.length ≤ l.length := by
  have h := tkI_len l m
  unfold tkS
  split
  · exact h
  · split
    · exact h
    · simp only [List.length_drop]; omega
theorem curS_len (c : List UInt8 × Nat) (m : Nat) : (curS c m).1.1.length ≤ c.1.length := by
  unfold curS; split
  · exact Nat.le_refl _
  · exact tkS_len _ _
theorem curS_most (c : List UInt8 × Nat) (m : Nat) : (curS c m).2.length ≤ m := by
  unfold curS; split
  · exact Nat.zero_le _
  · simp only
    have h := tkI_most c.1 m
    unfold tkS
    split
    · exact Nat.zero_le _
    · split
      · exact Nat.zero_le _
      · simp only [List.length_take]; omega
theorem curI_most (c : List UInt8 × Nat) (m : Nat) : (curI c m).2 ≤ m := by
  unfold curI; split
  · exact Nat.zero_le _
  · exact tkI_most _ _
theorem curU_bound (c : List UInt8 × Nat) : (curU c).2 < 18446744073709551616 := by
  unfold curU; split
  · show 0 < _; decide
  · exact Wm.tk_bound _ _ _ (by decide)

section
variable (g : Nat) (c : List UInt8 × Nat) (w : World)
theorem decU_cur (h : DecIs w g c.1 c.2) : Calls Tryd.prog 72 #[.pointer (some ⟨g, 0, none⟩)] w (DecRet g (curU c).1.1 (curU c).1.2 (.int .u64 ((curU c).2 : Nat)) w) := by
  obtain ⟨l, e⟩ := c
  unfold curU
  by_cases h0 : e ≠ 0
  · rw [if_pos h0]; exact decU_bad g l e h0 w h
  · obtain rfl : e = 0 := by omega
    rw [if_neg (by simp)]
    exact decU_any g l w h
theorem decI_cur (m : Nat) (hm : m ≤ 9223372036854775807) (h : DecIs w g c.1 c.2) : Calls Tryd.prog 52 #[.pointer (some ⟨g, 0, none⟩), .int .i64 (m : Int)] w (DecRet g (curI c m).1.1 (curI c m).1.2 (.int .i64 ((curI c m).2 : Nat)) w) := by
  obtain ⟨l, e⟩ := c
  unfold curI
  by_cases h0 : e ≠ 0
  · rw [if_pos h0]; exact decI_bad g l e h0 m w h (by omega)
  · obtain rfl : e = 0 := by omega
    rw [if_neg (by simp)]
    have := decI_any g l (m : Int) w h (by omega)
    rwa [Int.toNat_natCast] at this
theorem decS_cur (m : Nat) (hm : m ≤ 9223372036854775807) (hl : c.1.length ≤ 140737488355328) (h : DecIs w g c.1 c.2) : Calls Tryd.prog 54 #[.pointer (some ⟨g, 0, none⟩), .int .i64 (m : Int)] w (DecRet g (curS c m).1.1 (curS c m).1.2 (.string ⟨(curS c m).2.toArray⟩) w) := by
  obtain ⟨l, e⟩ := c
  unfold curS
  by_cases h0 : e ≠ 0
  · rw [if_pos h0]; exact decS_bad g l e h0 m w h (by omega)
  · obtain rfl : e = 0 := by omega
    rw [if_neg (by simp)]
    have := decS_any g l (m : Int) w h (by omega) hl
    rwa [Int.toNat_natCast] at this
theorem decFail_cur (n : Nat) (h : DecIs w g c.1 c.2) : Calls Tryd.prog 73 #[.pointer (some ⟨g, 0, none⟩), .int .i64 (n : Nat)] w (DecRet g c.1 (if c.2 = 0 then n else c.2) (.tuple #[]) w) := dfail_any g n c.1 c.2 w h
theorem decDone_cur (h : DecIs w g c.1 c.2) : Calls Tryd.prog 53 #[.pointer (some ⟨g, 0, none⟩)] w (DecRet g c.1 (doneErr c.1 c.2) (.int .i64 (doneErr c.1 c.2 : Nat)) w) := done_any g c.1 c.2 w h
end
end Go.Proofs.YtplmflagffloeaaDoor
