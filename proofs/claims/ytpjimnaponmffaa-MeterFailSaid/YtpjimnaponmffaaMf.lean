/- 'what is armed fails once': glacierlaw03.MeterFail returns true for every input. No condition. -/
import Derived.Test.YtpjimnaponmffaaMa
import Derived.Test.YtpjimnaponmffaaMl
import Derived.Test.YtpjimnaponmffaaLw
import Derived.Test.YtpjimnaponmffaaOp
import Derived.Test.YtpjimnaponmffaaRows
import Derived.ProofKit
import Derived.OpenShut
namespace Go.Proofs.Ytpjimnaponmffaa.meterFail
open Go.ChangeShapes Go.WideShapes Go.ChangeAt Go.RowKit

theorem own : ownKnob Try.prog.godebug = none := by kernel_rfl

set_option maxHeartbeats 1000000 in
theorem walk (n : Int) (hn0 : -9223372036854775808 ≤ n) (w : World) :
    Calls Try.prog 7 #[.int .i64 n] w fun e w' => e = .returned (.bool true) ∧ Below w.heap.size w w' := by
  go_enter Try.func7, Try.ntmps7
  go_wp2_with fail
  refine (dev_awake_any _).mono ?_
  rintro e w0 ⟨rfl, hb0⟩
  have hs0 := hb0.size
  by_cases hr : n < 0 ∨ 200 < n
  · have fin : Hid (∀ W, Below w0.heap.size w0 W → Below w.heap.size w W) := Lib.hid (fun W h => hb0.trans (h.mono hs0))
    clear hb0
    by_cases hneg : n < 0
    · go_wp2_with fail
      refine (dev_awake_any _).mono ?_
      rintro e w2 ⟨rfl, hb⟩
      go_wp2
      go_ret
      exact ⟨rfl, fin.out _ hb⟩
    · have hbig : 200 < n := by omega
      go_wp2_with fail
      refine (dev_awake_any _).mono ?_
      rintro e w2 ⟨rfl, hb⟩
      go_wp2
      go_ret
      exact ⟨rfl, fin.out _ hb⟩
  · have hn1 : 0 ≤ n := by omega
    have hn2 : n ≤ 200 := by omega
    clear hr
    obtain ⟨m, rfl⟩ := Int.eq_ofNat_of_zero_le hn1
    go_wp2_with fail
    have hb1 : Below w.heap.size w (w0.alloc (.cells #[.bool false, .int .i64 0] 27)) := hb0.alloc hs0 _
    have hk1 := Lk.new w0
    have hs1 : w.heap.size ≤ (w0.alloc (.cells #[.bool false, .int .i64 0] 27)).heap.size := by simp; omega
    generalize w0.alloc (.cells #[.bool false, .int .i64 0] 27) = w1 at *
    generalize w0.heap.size = g at *
    generalize hG : w.heap.size = G at *
    have HG := Lib.hid hG; clear hG
    refine (fail_lk hk1 (m : Int) hn0).mono ?_
    rintro e w2 ⟨rfl, hk2, hg⟩
    obtain ⟨hb2, hs2⟩ := below_dev hb1 hs1 hs0 hg
    rw [show armed (m : Int) = (m : Int) + 1 by unfold armed; rw [if_neg (by omega), if_neg (by omega)]] at hk2
    clear hg hk1 hb1 hs1 hb0
    have K1 := Lib.hid hk2; clear hk2
    have B1 := Lib.hid hb2; clear hb2
    go_wp2
    go_loopw [4] (fun i wr => ∃ (k : Nat), k ≤ m ∧ i = .int .i64 (k : Int) ∧ Hid (Lk wr g false ((m : Int) + 1 - k)) ∧ Hid (Below G w wr) ∧ G ≤ wr.heap.size)
      (fun i _ => m - (intOf i).toNat)
    case atStart => exact ⟨0, by omega, rfl, by simpa using K1, B1, hs2⟩
    case round =>
      obtain ⟨k, hk, rfl, HK, HB, hs⟩ := hrel
      have hl1 : k < m → tryR false ((m : Int) + 1 - k) = ((m : Int) + 1 - (k + 1 : Nat), 0) := fun h => by
        unfold tryR
        rw [if_neg (by decide), if_neg (by omega), if_neg (by omega)]
        congr 1
        omega
      have HT := Lib.hid hl1; clear hl1
      by_cases hlt : k < m
      · go_wp2_with fail
        have c3 := try_lk HK.out
        rw [HT.out hlt] at c3
        refine c3.mono ?_
        rintro e w3 ⟨rfl, hk3, hg⟩
        obtain ⟨hb3, hs3⟩ := below_dev HB.out hs hs0 hg
        clear hg HK HB c3
        have K3 := Lib.hid hk3; clear hk3
        have B3 := Lib.hid hb3; clear hb3
        go_wp2
        go_roundw
        case rel => exact ⟨k + 1, by omega, by go_num, K3, B3, hs3⟩
        case measure => simp [intOf]; omega
      · obtain rfl : k = m := by omega
        have hk3 := HK.out
        rw [show (k : Int) + 1 - k = 1 by omega] at hk3
        have hb3 := HB.out
        clear HK HB K1 B1 HT
        go_wp2_with fail
        have c3 := try_lk hk3
        rw [show tryR false 1 = (0, 8) from rfl] at c3
        refine c3.mono ?_
        rintro e w4 ⟨rfl, hk4, hg⟩
        obtain ⟨hb4, hs4⟩ := below_dev hb3 hs hs0 hg
        clear hg hk3 hb3 c3
        go_wp2_with fail
        have c3 := try_lk hk4
        rw [show tryR false 0 = (0, 0) from rfl] at c3
        refine c3.mono ?_
        rintro e w5 ⟨rfl, hk5, hg⟩
        obtain ⟨hb5, hs5⟩ := below_dev hb4 hs4 hs0 hg
        clear hg hk4 hb4 c3
        go_wp2_with fail
        refine (lost_lk hk5).mono ?_
        rintro e w6 ⟨rfl, rfl⟩
        go_wp2
        go_ret
        exact ⟨rfl, by rw [HG.out]; exact hb5⟩

set_option maxRecDepth 100000 in
theorem lifted (os : Os) (started : os.Started) (H : Type) (enc : TypeId × Value → H) :
    ReturnsInHanded {} Try.checked os 7 .any (Rows.meterFailSpec.pre6 enc Try.prog Try.f7 Rows.meterFailRow.domain false) (Rows.meterFailSpec.post enc Try.prog Try.f7 false true false false) := by
  refine returnsInHanded_of_change (C := Try.checked) own started (by kernel_rfl) Try.func7
    (ChangeSpec.witness6 (enc := enc) (C := Try.checked) false ⟨#[], #[.int .i64 0], []⟩ 8 (by kernel_rfl) (by kernel_rfl) (by kernel_rfl) (by kernel_rfl)) ?_
  intro W base args ds gs before hval0 hW hcnd _
  have hval : ∀ (j : Nat) t v, Try.f7.params[j]? = some t → args[j]? = some v → Value.okWide Try.prog W .any base t v := hval0
  have hW' := hW
  obtain ⟨p, q, hA0, hV, rfl, hfz, hnd⟩ := hW
  have hA : DataW.TrodAll enc Try.prog W 0 (fun _ => true) true Try.f7.params.toList args.toList ds p := hA0
  rw [Try.params7] at hA hval
  obtain ⟨v0, vs0, d0, ds0, p0, q0, hargs, rfl, rfl, h0, r0⟩ := trodAll_cons hA
  obtain ⟨rfl, rfl, rfl⟩ := trodAll_nil r0
  obtain rfl : args = #[v0] := by cases args; simp_all
  obtain ⟨rfl, rfl⟩ := trodVars_none hV
  obtain ⟨a0, rfl, rfl, rfl, w0⟩ := open_int Try.underlying3 (hval 0 3 v0 rfl rfl) h0
  refine (walk a0 (bounds_i64 w0).1 W).mono fun e W' ⟨he, hg⟩ => ?_
  subst he
  exact ⟨_, rfl, law_post (tb := 4) hW' rfl (by kernel_rfl) Try.underlying4 (by rw [Try.params7]; decide +kernel) rfl hg⟩

theorem proved : Rows.MeterFailSaid :=
  OpenClaim.holds_of_wide 7 Try.f7 rfl rfl rfl rfl rfl rfl rfl ⟨rfl, rfl, rfl, rfl, rfl⟩ rfl rfl rfl rfl rfl (by kernel_rfl) Try.func7 (by kernel_rfl)
    (of_decide_eq_true (by kernel_rfl)) (by unfold Func.isWrapper; first | (rw [if_pos (by decide +kernel)]; kernel_rfl) | (rw [if_neg (by decide +kernel)]; exact ⟨rfl, rfl⟩))
    (fun os started H enc _ => lifted os started H enc)
#print axioms proved
end Go.Proofs.Ytpjimnaponmffaa.meterFail
