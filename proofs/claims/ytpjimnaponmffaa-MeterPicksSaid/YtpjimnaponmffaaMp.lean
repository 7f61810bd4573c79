/- 'choices and sums': glacierlaw03.MeterPicks returns true for every input. No condition. -/
import Derived.Test.YtpjimnaponmffaaMa
import Derived.Test.YtpjimnaponmffaaMk
import Derived.Test.YtpjimnaponmffaaLw
import Derived.Test.YtpjimnaponmffaaOp
import Derived.Test.YtpjimnaponmffaaRows
import Derived.ProofKit
import Derived.OpenShut
namespace Go.Proofs.Ytpjimnaponmffaa.meterPicks
open Go.ChangeShapes Go.WideShapes Go.ChangeAt Go.RowKit
set_option linter.unusedVariables false

theorem own : ownKnob Try.prog.godebug = none := by kernel_rfl

theorem capped_step {l : List Int} {k : Nat} (h : k < l.length) : min (min (sumUp (l.take k)) 4611686018427387904 + max l[k] 0) 4611686018427387904 = min (sumUp (l.take (k + 1))) 4611686018427387904 := by
  rw [sumUp_take h]
  omega

/-- the sum so far, at most 2^62 -/
def capped (l : List Int) (k : Nat) : Int := min (sumUp (l.take k)) 4611686018427387904
theorem capped_range (l : List Int) (k : Nat) : 0 ≤ capped l k ∧ capped l k ≤ 4611686018427387904 := by
  have := sumUp_pos (l.take k)
  unfold capped
  omega

set_option maxRecDepth 100000 in
set_option maxHeartbeats 1000000 in
theorem walk (A : Option Addr) (c : Nat) (l : List Int) (at_ n : Int) (w : World) (hlc : l.length ≤ 9223372036854775807) (hL : Lies w w.heap.size A (ints l)) (hl : ∀ x ∈ l, -9223372036854775808 ≤ x ∧ x ≤ 9223372036854775807)
    (hn1 : n ≤ 9223372036854775807) :
    Calls Try.prog 4 #[.slice A l.length c, .int .i64 at_, .int .i64 n] w fun e w' => e = .returned (.bool true) ∧ Below w.heap.size w w' := by
  have HL := Lib.hid hL; clear hL
  have Hl := Lib.hid hl; clear hl
  go_enter Try.func4, Try.ntmps4
  go_wp2
  go_loopw [7, 12] (fun s i wr => ∃ k : Nat, k ≤ l.length ∧ i = .int .i64 (k : Int) ∧ s = .int .u64 (capped l k) ∧ w = wr)
    (fun _ i _ => l.length - (intOf i).toNat)
  case atStart => exact ⟨0, by omega, rfl, rfl, by simp⟩
  case round =>
    obtain ⟨k, hk, rfl, rfl, rfl⟩ := hrel
    obtain ⟨hr0, hr1⟩ := capped_range l k
    by_cases hlt : k < l.length
    · obtain ⟨ad, rfl, _, hc⟩ := HL.out.int hlt
      have hx := Hl.out _ (List.getElem_mem hlt)
      have HT := Lib.hid (show min (capped l k + max l[k] 0) 4611686018427387904 = capped l (k + 1) from capped_step hlt)
      generalize l[k] = x at *
      generalize capped l k = s at *
      by_cases hneg : x < 0
      · have e0 : capped l (k + 1) = s := by rw [← HT.out]; omega
        have E0 := Lib.hid e0; clear e0 HT
        go_wp2
        go_roundw
        case rel => exact ⟨k + 1, by omega, by go_num, by rw [E0.out], by simp⟩
        case measure => simp [intOf]; omega
      · by_cases hbig : 4611686018427387904 < s + x
        · have e0 : capped l (k + 1) = 4611686018427387904 := by rw [← HT.out]; omega
          have E0 := Lib.hid e0; clear e0 HT
          go_wp2
          go_roundw
          case rel => exact ⟨k + 1, by omega, by go_num, by rw [E0.out], by simp⟩
          case measure => simp [intOf]; omega
        · have e0 : capped l (k + 1) = s + x := by rw [← HT.out]; omega
          have E0 := Lib.hid e0; clear e0 HT
          go_wp2
          go_roundw
          case rel => exact ⟨k + 1, by omega, by go_num, by rw [E0.out], by simp⟩
          case measure => simp [intOf]; omega
    · obtain rfl : k = l.length := by omega
      have hT : capped l l.length = total l := by unfold capped total; rw [List.take_length]
      rw [hT] at hr0 hr1 ⊢
      clear hT
      go_wp2_with fail
      refine (dev_awake_any _).mono ?_
      rintro e w2 ⟨rfl, hb2⟩
      have HL2 := Lib.hid (HL.out.below hb2)
      clear HL
      go_wp2_with fail
      refine (pick_any A c l at_ n _ w2 HL2.out Hl.out hlc hn1).mono ?_
      rintro e w3 ⟨rfl, rfl⟩
      go_wp2_with fail
      refine (refpick_any A c l at_ n _ w3 HL2.out Hl.out hlc hn1).mono ?_
      rintro e w4 ⟨rfl, rfl⟩
      generalize pickR l at_ n = p at *
      go_wp2_with fail
      refine (sum_any A c l _ rfl _ w4 HL2.out Hl.out hlc).mono ?_
      rintro e w5 ⟨rfl, rfl⟩
      generalize total l = T at *
      go_wp2_with fail
      refine (sum_any none 0 [] _ rfl 0 w5 Lies.nil (by simp) (by simp)).mono ?_
      rintro e w6 ⟨rfl, rfl⟩
      rw [show total [] = 0 from rfl]
      go_wp2
      go_ret
      exact ⟨rfl, hb2⟩

set_option maxRecDepth 100000 in
theorem lifted (os : Os) (started : os.Started) (H : Type) (enc : TypeId × Value → H) :
    ReturnsInHanded {} Try.checked os 4 .any (Rows.meterPicksSpec.pre6 enc Try.prog Try.f4 Rows.meterPicksRow.domain false) (Rows.meterPicksSpec.post enc Try.prog Try.f4 false true false false) := by
  refine returnsInHanded_of_change (C := Try.checked) own started (by kernel_rfl) Try.func4
    (ChangeSpec.witness6 (enc := enc) (C := Try.checked) false ⟨#[], #[.slice none 0 0, .int .i64 0, .int .i64 0], []⟩ 8 (by kernel_rfl) (by kernel_rfl) (by kernel_rfl) (by kernel_rfl)) ?_
  intro W base args ds gs before hval0 hW hcnd _
  have hval : ∀ (j : Nat) t v, Try.f4.params[j]? = some t → args[j]? = some v → Value.okWide Try.prog W .any base t v := hval0
  have hW' := hW
  obtain ⟨p, q, hA0, hV, rfl, hfz, hnd⟩ := hW
  have hA : DataW.TrodAll enc Try.prog W 0 (fun _ => true) true Try.f4.params.toList args.toList ds p := hA0
  rw [Try.params4] at hA hval
  obtain ⟨v0, vs0, d0, ds0, p0, q0, hargs, rfl, rfl, h0, r0⟩ := trodAll_cons hA
  obtain ⟨v1, vs1, d1, ds1, p1, q1, rfl, rfl, rfl, h1, r1⟩ := trodAll_cons r0
  obtain ⟨v2, vs2, d2, ds2, p2, q2, rfl, rfl, rfl, h2, r2⟩ := trodAll_cons r1
  obtain ⟨rfl, rfl, rfl⟩ := trodAll_nil r2
  obtain rfl : args = #[v0, v1, v2] := by cases args; simp_all
  obtain ⟨rfl, rfl⟩ := trodVars_none hV
  obtain ⟨A1, c1, l, rfl, hc0, hL0, hl0⟩ := open_list_ints Try.underlying48 Try.underlying3 (by kernel_rfl) (hval 0 48 v0 rfl rfl) h0
  obtain ⟨a1, rfl, rfl, rfl, w1⟩ := open_int Try.underlying3 (hval 1 3 v1 rfl rfl) h1
  obtain ⟨a2, rfl, rfl, rfl, w2⟩ := open_int Try.underlying3 (hval 2 3 v2 rfl rfl) h2
  refine (walk A1 c1 l a1 a2 W (slice_max Try.underlying48 h0) hL0 hl0 (bounds_i64 w2).2).mono fun e W' ⟨he, hg⟩ => ?_
  subst he
  exact ⟨_, rfl, law_post (tb := 4) hW' rfl (by kernel_rfl) Try.underlying4 (by rw [Try.params4]; decide +kernel) rfl hg⟩

theorem proved : Rows.MeterPicksSaid :=
  OpenClaim.holds_of_wide 4 Try.f4 rfl rfl rfl rfl rfl rfl rfl ⟨rfl, rfl, rfl, rfl, rfl⟩ rfl rfl rfl rfl rfl (by kernel_rfl) Try.func4 (by kernel_rfl)
    (of_decide_eq_true (by kernel_rfl)) (by unfold Func.isWrapper; first | (rw [if_pos (by decide +kernel)]; kernel_rfl) | (rw [if_neg (by decide +kernel)]; exact ⟨rfl, rfl⟩))
    (fun os started H enc _ => lifted os started H enc)
#print axioms proved
end Go.Proofs.Ytpjimnaponmffaa.meterPicks
