/- A Dec's calls as a cursor that stops at the first error; numbers' lengths. No walk is here. -/
import Derived.Test.YtniecodpdmjppaaDoorDs
import Derived.Test.YtniecodpdmjppaaDoorEs
namespace Go.Proofs.YtniecodpdmjppaaDoor
open Go.RowKit
open Wm (num tk)
set_option linter.unusedVariables false

/-! numbers' lengths -/
theorem cont_len : ∀ (k v : Nat), v < 128 ^ k → (Wm.cont v).length ≤ k := by
  intro k
  induction k with
  | zero => intro v h; have : v = 0 := by simpa using h
            rw [this, Wm.cont_zero]; simp
  | succ k ih =>
    intro v h
    by_cases h0 : v = 0
    · rw [h0, Wm.cont_zero]; simp
    · rw [Wm.cont_pos h0, List.length_append]
      have := ih (v / 128) (by rw [Nat.pow_succ] at h; exact Nat.div_lt_of_lt_mul (by omega))
      simp; omega
theorem num_lt (k v : Nat) (h : v < 128 ^ (k + 1)) : (num v).length ≤ k + 1 := by
  unfold num
  have := cont_len k (v / 128) (by rw [Nat.pow_succ] at h; exact Nat.div_lt_of_lt_mul (by omega))
  simp; omega
theorem text_len (s : ByteArray) : (text s).length = (num s.size).length + s.size := by unfold text; rw [List.length_append, size_list]

/-! a cursor that stops at the first error -/
def curU (c : List UInt8 × Nat) : (List UInt8 × Nat) × Nat := if c.2 ≠ 0 then (c, 0) else (((tk c.1 0 true).1, (tk c.1 0 true).2.1), (tk c.1 0 true).2.2)
def curI (c : List UInt8 × Nat) (most : Nat) : (List UInt8 × Nat) × Nat := if c.2 ≠ 0 then (c, 0) else (((tkI c.1 most).1, (tkI c.1 most).2.1), (tkI c.1 most).2.2)
def curS (c : List UInt8 × Nat) (most : Nat) : (List UInt8 × Nat) × List UInt8 := if c.2 ≠ 0 then (c, []) else (((tkS c.1 most).1, (tkS c.1 most).2.1), (tkS c.1 most).2.2)

theorem tkI_numb (n most : Nat) (s : List UInt8) (hn : n < 18446744073709551616) (h : n ≤ most) : tkI (num n ++ s) most = (s, 0, n) := by
  unfold tkI
  rw [Wm.tk_num s n hn, if_neg (by simpa using h)]
theorem curU_num (v : Nat) (s : List UInt8) (h : v < 18446744073709551616) : curU (num v ++ s, 0) = ((s, 0), v) := by
  unfold curU
  rw [if_neg (by simp), Wm.tk_num s v h]
theorem curI_num (v most : Nat) (s : List UInt8) (h : v < 18446744073709551616) (hm : v ≤ most) : curI (num v ++ s, 0) most = ((s, 0), v) := by
  unfold curI
  rw [if_neg (by simp), tkI_numb v most s h hm]
theorem curS_text (x : ByteArray) (s : List UInt8) (most : Nat) (h : x.size ≤ most) (hm : most < 18446744073709551616) : curS (text x ++ s, 0) most = ((s, 0), x.data.toList) := by
  unfold curS
  rw [if_neg (by simp)]
  unfold tkS text
  rw [List.append_assoc, tkI_numb _ _ _ (by omega) h]
  simp [show ¬ x.size + s.length < x.size by omega]

end Go.Proofs.YtniecodpdmjppaaDoor
