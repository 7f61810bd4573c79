/- glacier/meter.Sum: its walk; slices of numbers that a call makes for itself. -/
import Derived.Test.YtpjimnaponmffaaMl
namespace Go.Proofs.Ytpjimnaponmffaa
open Go.RowKit

theorem info_int : (Try.prog.info? 3).map (fun i => (i.zero, i.size, i.bytes)) = some (some (.int .i64 0), 1, 8) := by kernel_rfl

/-- the sum of the numbers above 0 -/
def sumUp (l : List Int) : Int := (l.map fun n => max n 0).sum

theorem sumUp_take {l : List Int} {k : Nat} (h : k < l.length) : sumUp (l.take (k + 1)) = sumUp (l.take k) + max l[k] 0 := by
  unfold sumUp
  rw [List.take_succ_eq_append_getElem h, List.map_append, List.sum_append]
  simp
theorem sumUp_pos : ∀ (l : List Int), 0 ≤ sumUp l := by
  intro l
  induction l with
  | nil => exact Int.le_refl _
  | cons a l ih => unfold sumUp at ih ⊢; rw [List.map_cons, List.sum_cons]; omega
theorem sumUp_append (a b : List Int) : sumUp (a ++ b) = sumUp a + sumUp b := by
  unfold sumUp; rw [List.map_append, List.sum_append]
theorem sumUp_mono (l : List Int) (k : Nat) : sumUp (l.take k) ≤ sumUp l := by
  have h := sumUp_append (l.take k) (l.drop k)
  rw [List.take_append_drop] at h
  have := sumUp_pos (l.drop k)
  omega
theorem sumUp_reverse (l : List Int) : sumUp l.reverse = sumUp l := by
  unfold sumUp; rw [List.map_reverse, List.sum_reverse]

/-- what Sum returns -/
def total (l : List Int) : Int := min (sumUp l) 4611686018427387904
theorem total_over {l : List Int} {k : Nat} (h : k < l.length) (hv : 4611686018427387904 - sumUp (l.take k) < l[k]) (hs : sumUp (l.take k) ≤ 4611686018427387904) : total l = 4611686018427387904 := by
  have h1 := sumUp_take h
  have h2 := sumUp_mono l (k + 1)
  unfold total
  omega
theorem total_all {l : List Int} (hs : sumUp l ≤ 4611686018427387904) : total l = sumUp l := by unfold total; omega

set_option maxHeartbeats 1000000 in
theorem sum_any (A : Option Addr) (c : Nat) (l : List Int) (n : Nat) (hn : l.length = n) (B : Nat) (w : World) (hL : Lies w B A (ints l)) (hl : ∀ x ∈ l, -9223372036854775808 ≤ x ∧ x ≤ 9223372036854775807) (hlen : l.length ≤ 9223372036854775807) :
    Calls Try.prog 26 #[.slice A n c] w fun e w' => e = .returned (.int .i64 (total l)) ∧ w' = w := by
  subst hn
  have HL := Lib.hid hL; clear hL
  go_enter Try.func26, Try.ntmps26
  go_wp2
  go_loopw [3, 8] (fun s i wr => ∃ (k : Nat), k ≤ l.length ∧ i = .int .i64 (k : Int) ∧ s = .int .i64 (sumUp (l.take k)) ∧ sumUp (l.take k) ≤ 4611686018427387904 ∧ w = wr)
    (fun _ i _ => l.length - (intOf i).toNat)
  case atStart => exact ⟨0, by omega, rfl, by simp [sumUp], by simp [sumUp], by simp⟩
  case round =>
    obtain ⟨k, hk, rfl, rfl, hs, rfl⟩ := hrel
    by_cases hlt : k < l.length
    · obtain ⟨ad, rfl, _, hc⟩ := HL.out.int hlt
      have hx := hl _ (List.getElem_mem hlt)
      have hpos := sumUp_pos (l.take k)
      have HT := Lib.hid (sumUp_take hlt)
      have HO := Lib.hid (fun hv => total_over hlt hv hs)
      generalize l[k] = x at *
      generalize sumUp (l.take k) = s at *
      by_cases hov : 4611686018427387904 - s < x
      · go_wp2
        go_ret
        exact ⟨by rw [HO.out hov]; rfl, rfl⟩
      · by_cases hneg : x < 0
        · have e0 : sumUp (l.take (k + 1)) = s := by rw [HT.out]; omega
          have E0 := Lib.hid e0; clear e0
          go_wp2
          go_roundw
          case rel => exact ⟨k + 1, by omega, by go_num, by rw [E0.out], by rw [E0.out]; omega, by simp⟩
          case measure => simp [intOf]; omega
        · have e0 : sumUp (l.take (k + 1)) = s + x := by rw [HT.out]; omega
          have E0 := Lib.hid e0; clear e0
          go_wp2
          go_roundw
          case rel => exact ⟨k + 1, by omega, by go_num, by rw [E0.out], by rw [E0.out]; omega, by simp⟩
          case measure => simp [intOf]; omega
    · obtain rfl : k = l.length := by omega
      rw [List.take_length] at hs
      rw [List.take_length]
      have HA := Lib.hid (total_all hs)
      generalize sumUp l = s at *
      go_wp2
      go_ret
      exact ⟨by rw [HA.out]; rfl, rfl⟩

/-- a slice of the call's own, as a slice that is read -/
theorem own_slice {w : World} {B n : Nat} {e : TypeId} {v : Value} {xs : List Value} (h : w.ownsRow B e 1 v n xs) : ∃ A c, v = .slice A n c ∧ Lies w w.heap.size A xs ∧ (∀ ad, A = some ad → B ≤ ad.block) ∧ n ≤ c := by
  rcases h.2 with ⟨rfl, rfl⟩ | ⟨g, cap, cur, rfl, hB, hg, hn, _⟩
  · have : xs = [] := List.eq_nil_of_length_eq_zero (by simpa using h.1)
    subst this
    exact ⟨none, 0, rfl, Lies.nil, by simp, Nat.le_refl _⟩
  · refine ⟨some ⟨g, 0, none⟩, cap, rfl, fun j u hj => ⟨_, rfl, (h.lt g rfl).2, h.cells (g := g) rfl j u hj⟩, ?_, ?_⟩
    · intro ad hA
      simp at hA
      subst hA
      exact hB
    · exact hn

theorem ints_new {W : World} (xs : List Value) (hx : xs = []) (c : Nat) (hc : c = 0) : (W.alloc (.cells #[] 3)).ownsRow W.heap.size 3 1 (.slice (some ⟨W.heap.size, 0, none⟩) 0 c) 0 xs := by
  subst hx; subst hc
  exact World.ownsRow_made W #[] 0 (Nat.le_refl _) (by unfold maxLen; omega) rfl
end Go.Proofs.Ytpjimnaponmffaa
