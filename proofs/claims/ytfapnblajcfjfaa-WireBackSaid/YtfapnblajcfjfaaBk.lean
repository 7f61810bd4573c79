/- Plain mathematics: what was written is taken again. -/
import Derived.Test.YtfapnblajcfjfaaDl
import Derived.Test.YtfapnblajcfjfaaHe
namespace Go.Proofs.Ytfapnblajcfjfaa
open Go.RowKit
open Wm (num tk)

theorem tkI_num (n most : Nat) (s : List UInt8) (hn : n < 18446744073709551616) (h : n ≤ most) : tkI (num n ++ s) most = (s, 0, n) := by
  unfold tkI
  rw [Wm.tk_num s n hn, if_neg (by simpa using h)]
theorem tkI_big (n most : Nat) (s : List UInt8) (hn : n < 18446744073709551616) (h : most < n) : tkI (num n ++ s) most = (s, 11, 0) := by
  unfold tkI
  rw [Wm.tk_num s n hn, if_pos (by simpa using h)]
theorem tkB_flag (b : Bool) (s : List UInt8) : tkB ([flag b] ++ s) = (s, 0, b) := by cases b <;> rfl
theorem tkS_text (x : ByteArray) (s : List UInt8) (h : x.size ≤ 200) : tkS (text x ++ s) 200 = (s, 0, x.data.toList) := by
  unfold tkS text
  rw [List.append_assoc, tkI_num _ _ _ (by omega) h]
  simp

theorem tkInts_nums (each : Nat) (s : List UInt8) (he : each < 18446744073709551616) : ∀ (l acc : List Int), (∀ n ∈ l, n ≤ 9223372036854775807) →
    ((∀ n ∈ l, n.toNat ≤ each) ∧ tkInts each l.length (nums l ++ s) acc = (s, 0, acc ++ l.map fun n => (n.toNat : Int))) ∨ ∃ r, tkInts each l.length (nums l ++ s) acc = (r, 11, []) := by
  intro l
  induction l with
  | nil => intro acc _; left; simp [nums, tkInts]
  | cons a l ih =>
    intro acc h
    have ha := h a (by simp)
    have e0 : nums (a :: l) ++ s = num a.toNat ++ (nums l ++ s) := by simp [nums]
    rw [List.length_cons, tkInts, e0]
    by_cases hb : a.toNat ≤ each
    · rw [tkI_num _ _ _ (by omega) hb, if_neg (by simp)]
      rcases ih (acc ++ [(a.toNat : Int)]) (fun n hn => h n (by simp [hn])) with ⟨h1, h2⟩ | ⟨r, hr⟩
      · left
        refine ⟨fun n hn => ?_, ?_⟩
        · rcases List.mem_cons.1 hn with rfl | hn
          · exact hb
          · exact h1 n hn
        · rw [h2]; simp
      · right
        exact ⟨r, hr⟩
    · right
      rw [tkI_big _ _ _ (by omega) (by omega), if_pos (by simp)]
      exact ⟨_, rfl⟩

theorem tkList_nums (l : List Int) (s : List UInt8) (hl : ∀ n ∈ l, n ≤ 9223372036854775807) (h20 : l.length ≤ 20) :
    (tkList (num l.length ++ nums l ++ s) 20 4611686018427387904 = (s, 0, l.map fun n => (n.toNat : Int))) ∨ ∃ r, tkList (num l.length ++ nums l ++ s) 20 4611686018427387904 = (r, 11, []) := by
  unfold tkList
  rw [List.append_assoc, tkI_num _ _ _ (by omega) h20, if_neg (by simp)]
  rcases tkInts_nums 4611686018427387904 s (by omega) l [] hl with ⟨_, h⟩ | h
  · left; simpa using h
  · right; exact h

theorem things_drop {l : List Th} {k : Nat} (h : k < l.length) : things (l.drop k) = (l[k]).bytes ++ things (l.drop (k + 1)) := by
  unfold things
  rw [List.drop_eq_getElem_cons h, List.flatMap_cons]
end Go.Proofs.Ytfapnblajcfjfaa
