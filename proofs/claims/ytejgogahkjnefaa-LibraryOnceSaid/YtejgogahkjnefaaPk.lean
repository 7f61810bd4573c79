/- glacier/meter.Pick and the reference's: their walks. -/
import Derived.Test.YtejgogahkjnefaaMd
namespace Go.Proofs.Ytejgogahkjnefaa
open Go.RowKit
set_option linter.unusedVariables false


/-- element k of a list of numbers that came in -/
theorem Lies.int {w : World} {B : Nat} {A : Option Addr} {l : List Int} (h : Lies w B A (ints l)) {k : Nat} (hk : k < l.length) : ∃ ad, A = some ad ∧ ad.block < B ∧ w.cell? (ad.add k) = some (.int .i64 l[k]) := by
  obtain ⟨ad, h1, h2, h3⟩ := h.round (k := k) (by simpa [ints] using hk)
  exact ⟨ad, h1, h2, by rw [h3]; simp [ints]⟩


/-- element at of l modulo n, as a number from 0 on; 0 if there is none -/
def pickR (l : List Int) (at_ n : Int) : Int := if 0 ≤ at_ ∧ 1 ≤ n then (l.getD at_.toNat 0) % n else 0

theorem mod_pos (x n : Int) (hn : 1 ≤ n) (h : 0 ≤ x.tmod n) : x.tmod n = x % n := by
  have h1 := Int.tmod_add_mul_tdiv x n
  have h2 : x.tmod n < n := Int.tmod_lt_of_pos _ (by omega)
  have h4 : x % n = x.tmod n % n := by
    have h5 := congrArg (· % n) h1.symm
    simp only [Int.add_mul_emod_self_left] at h5
    exact h5
  rw [h4, Int.emod_eq_of_lt h h2]
theorem mod_neg (x n : Int) (hn : 1 ≤ n) (h : x.tmod n < 0) : x.tmod n + n = x % n := by
  have h1 := Int.tmod_add_mul_tdiv x n
  have h2 : -n < x.tmod n := by have := Int.lt_tmod_of_pos x (b := n) (by omega); omega
  have h3 : x = (x.tmod n + n) + n * (x.tdiv n - 1) := by rw [Int.mul_sub]; omega
  have h4 : x % n = (x.tmod n + n) % n := by
    have h5 := congrArg (· % n) h3
    simp only [Int.add_mul_emod_self_left] at h5
    exact h5
  rw [h4, Int.emod_eq_of_lt (by omega) (by omega)]

theorem pick_in {l : List Int} {k : Nat} {n : Int} (hk : k < l.length) (hn : 1 ≤ n) : pickR l (k : Int) n = l[k] % n := by
  unfold pickR
  rw [if_pos ⟨by omega, hn⟩, Int.toNat_natCast, List.getD_eq_getElem?_getD, List.getElem?_eq_getElem hk]
  rfl
theorem pick_out {l : List Int} {at_ n : Int} (h : at_ < 0 ∨ (l.length : Int) ≤ at_ ∨ n < 1) : pickR l at_ n = 0 := by
  unfold pickR
  split
  · rename_i h1
    rw [List.getD_eq_getElem?_getD, List.getElem?_eq_none (by omega)]
    simp
  · rfl
theorem pick_range (l : List Int) (at_ n : Int) : 0 ≤ pickR l at_ n ∧ (1 ≤ n → pickR l at_ n < n) := by
  unfold pickR
  split
  · rename_i h1
    exact ⟨Int.emod_nonneg _ (by omega), fun _ => Int.emod_lt_of_pos _ (by omega)⟩
  · exact ⟨Int.le_refl _, fun h => by omega⟩

set_option maxHeartbeats 1000000 in
theorem pick_any (A : Option Addr) (c : Nat) (l : List Int) (at_ n : Int) (B : Nat) (w : World) (hL : Lies w B A (ints l)) (hl : ∀ x ∈ l, -9223372036854775808 ≤ x ∧ x ≤ 9223372036854775807) (hlen : l.length ≤ 9223372036854775807)
    (hn1 : n ≤ 9223372036854775807) :
    Calls Try.prog 24 #[.slice A l.length c, .int .i64 at_, .int .i64 n] w fun e w' => e = .returned (.int .i64 (pickR l at_ n)) ∧ w' = w := by
  by_cases h0 : at_ < 0
  · have e0 := pick_out (l := l) (n := n) (.inl h0)
    rw [e0]
    go_enter Try.func24, Try.ntmps24
    go_wp2
    go_ret
    exact ⟨rfl, rfl⟩
  · by_cases h1 : (l.length : Int) ≤ at_
    · have e0 := pick_out (n := n) (.inr (.inl h1))
      rw [e0]
      go_enter Try.func24, Try.ntmps24
      go_wp2
      go_ret
      exact ⟨rfl, rfl⟩
    · by_cases h2 : n < 1
      · have e0 := pick_out (l := l) (at_ := at_) (.inr (.inr h2))
        rw [e0]
        go_enter Try.func24, Try.ntmps24
        go_wp2
        go_ret
        exact ⟨rfl, rfl⟩
      · obtain ⟨k, rfl⟩ := Int.eq_ofNat_of_zero_le (Int.not_lt.1 h0)
        have hlt : k < l.length := by omega
        have hn : 1 ≤ n := by omega
        have e0 := pick_in hlt hn
        rw [e0]
        obtain ⟨ad, rfl, _, hc⟩ := hL.int hlt
        have hx := hl _ (List.getElem_mem hlt)
        clear hL hl e0
        generalize l[k] = x at *
        have hp := mod_pos x n hn
        have hq := mod_neg x n hn
        have hr : -n < x.tmod n ∧ x.tmod n < n := ⟨by have := Int.lt_tmod_of_pos x (b := n) (by omega); omega, Int.tmod_lt_of_pos _ (by omega)⟩
        generalize hT : x.tmod n = T at *
        have hwr : IntKind.i64.wrap T = T := IntWalk.i64_in _ ⟨by omega, by omega⟩
        have hn0 : n ≠ 0 := by omega
        generalize hM : x % n = M at *
        by_cases hneg : T < 0
        · have HQ := Lib.hid (hq hneg)
          clear hp hq
          go_enter Try.func24, Try.ntmps24
          go_wp2
          go_ret
          exact ⟨by rw [← HQ.out]; rfl, rfl⟩
        · have HQ := Lib.hid (hp (by omega))
          clear hp hq
          go_enter Try.func24, Try.ntmps24
          go_wp2
          go_ret
          exact ⟨by rw [← HQ.out]; rfl, rfl⟩

end Go.Proofs.Ytejgogahkjnefaa
