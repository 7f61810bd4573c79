/- glacier/meter.Pick and the reference's: their walks. -/
import Derived.Test.YtniecodpdmjppaaDoorMd
namespace Go.Proofs.YtniecodpdmjppaaDoor
open Go.RowKit
set_option linter.unusedVariables false


/-- element k of a list of numbers that came in -/
theorem Lies.int {w : World} {B : Nat} {A : Option Addr} {l : List Int} (h : Lies w B A (ints l)) {k : Nat} (hk : k < l.length) : ∃ ad, A = some ad ∧ ad.block < B ∧ w.cell? (ad.add k) = some (.int .i64 l[k]) := by
  obtain ⟨ad, h1, h2, h3⟩ := h.round (k := k) (by simpa [ints] using hk)
  exact ⟨ad, h1, h2, by rw [h3]; simp [ints]⟩


/-- element at of l modulo n, as a number from 0 on; 0 if there is none -/
def pickR (l : List Int) (at_ n : Int) : Int := if 0 ≤ at_ ∧ 1 ≤ n then (l.getD at_.toNat 0) % n else 0

theorem mod_pos (x n : Int) (hn : 1 ≤ n) (h : 0 ≤ x.tmod n) : x.tmod n = x % n := by
  have h1 := Int.tmod_add_mul_tdiv x n
  have h2 : x.tmod n < n := Int.tmod_lt_of_pos _ (by omega)
  have h4 : x % n = x.tmod n % n := by
    have h5 := congrArg (· % n) h1.symm
    simp only [Int.add_mul_emod_self_left] at h5
    exact h5
  rw [h4, Int.emod_eq_of_lt h h2]
theorem mod_neg (x n : Int) (hn : 1 ≤ n) (h : x.tmod n < 0) : x.tmod n + n = x % n := by
  have h1 := Int.tmod_add_mul_tdiv x n
  have h2 : -n < x.tmod n := by have := Int.lt_tmod_of_pos x (b := n) (by omega); omega
  have h3 : x = (x.tmod n + n) + n * (x.tdiv n - 1) := by rw [Int.mul_sub]; omega
  have h4 : x % n = (x.tmod n + n) % n := by
    have h5 := congrArg (· % n) h3
    simp only [Int.add_mul_emod_self_left] at h5
    exact h5
  rw [h4, Int.emod_eq_of_lt (by omega) (by omega)]

theorem pick_in {l : List Int} {k : Nat} {n : Int} (hk : k < l.length) (hn : 1 ≤ n) : pickR l (k : Int) n = l[k] % n := by
  unfold pickR
  rw [if_pos ⟨by omega, hn⟩, Int.toNat_natCast, List.getD_eq_getElem?_getD, List.getElem?_eq_getElem hk]
  rfl
theorem pick_out {l : List Int} {at_ n : Int} (h : at_ < 0 ∨ (l.length : Int) ≤ at_ ∨ n < 1) : pickR l at_ n = 0 := by
  unfold pickR
  split
  · rename_i h1
    rw [List.getD_eq_getElem?_getD, List.getElem?_eq_none (by omega)]
    simp
  · rfl
theorem pick_range (l : List Int) (at_ n : Int) : 0 ≤ pickR l at_ n ∧ (1 ≤ n → pickR l at_ n < n) := by
  unfold pickR
  split
  · rename_i h1
    exact ⟨Int.emod_nonneg _ (by omega), fun _ => Int.emod_lt_of_pos _ (by omega)⟩
  · exact ⟨Int.le_refl _, fun h => by omega⟩

end Go.Proofs.YtniecodpdmjppaaDoor
