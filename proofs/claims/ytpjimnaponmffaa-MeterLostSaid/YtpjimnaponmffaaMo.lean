/- 'what is lost stays so': glacierlaw03.MeterLost returns true for every input. No condition. -/
import Derived.Test.YtpjimnaponmffaaMa
import Derived.Test.YtpjimnaponmffaaMl
import Derived.Test.YtpjimnaponmffaaLw
import Derived.Test.YtpjimnaponmffaaOp
import Derived.Test.YtpjimnaponmffaaRows
import Derived.ProofKit
import Derived.OpenShut
namespace Go.Proofs.Ytpjimnaponmffaa.meterLost
open Go.ChangeShapes Go.WideShapes Go.ChangeAt Go.RowKit

theorem own : ownKnob Try.prog.godebug = none := by kernel_rfl

set_option maxHeartbeats 1000000 in
theorem walk (A : Option Addr) (c : Nat) (l : List Int) (w : World) (hlc : l.length ≤ c) (hL : Lies w w.heap.size A (ints l)) (hl : ∀ x ∈ l, -9223372036854775808 ≤ x ∧ x ≤ 9223372036854775807) :
    Calls Try.prog 6 #[.slice A l.length c] w fun e w' => e = .returned (.bool true) ∧ Below w.heap.size w w' := by
  go_enter Try.func6, Try.ntmps6
  go_wp2_with fail
  have hb0 : Below w.heap.size w (w.alloc (.cells #[.bool false, .int .i64 0] 27)) := (Below.refl _ w).alloc (Nat.le_refl _) _
  have hk0 := Lk.new w
  have hs0 : w.heap.size ≤ (w.alloc (.cells #[.bool false, .int .i64 0] 27)).heap.size := by simp
  generalize w.alloc (.cells #[.bool false, .int .i64 0] 27) = w0 at *
  generalize hG : w.heap.size = G at *
  have HG := Lib.hid hG; clear hG
  refine (lose_lk hk0).mono ?_
  rintro e w1 ⟨rfl, hk1, hg⟩
  obtain ⟨hb1, hs1⟩ := below_dev hb0 hs0 (Nat.le_refl _) hg
  clear hg hk0 hb0 hs0
  go_wp2
  have HL := Lib.hid hL; clear hL
  have K1 := Lib.hid hk1; clear hk1
  have B1 := Lib.hid hb1; clear hb1
  go_loopw [4] (fun i wr => ∃ (k : Nat) (lf : Int), k ≤ l.length ∧ k ≤ 20 ∧ i = .int .i64 (k : Int) ∧ Hid (Lk wr G true lf) ∧ Hid (Below G w wr) ∧ G ≤ wr.heap.size)
    (fun i _ => l.length - (intOf i).toNat)
  case atStart => exact ⟨0, 0, by omega, by omega, rfl, K1, B1, hs1⟩
  case round =>
    obtain ⟨k, lf, hk, hk20, rfl, HK, HB, hs⟩ := hrel
    by_cases hgo : k < l.length ∧ k < 20
    · obtain ⟨hlt, h20⟩ := hgo
      obtain ⟨ad, rfl, _, hc⟩ := (HL.out.below HB.out).int hlt
      have hx := hl _ (List.getElem_mem hlt)
      generalize l[k] = x at *
      go_wp2_with fail
      refine (fail_lk HK.out x hx.1).mono ?_
      rintro e w2 ⟨rfl, hk2, hg⟩
      obtain ⟨hb2, hs2⟩ := below_dev HB.out hs (Nat.le_refl _) hg
      clear hg HK HB hc
      go_wp2_with fail
      have c3 := try_lk hk2
      refine c3.mono ?_
      rintro e w3 ⟨he, hk3, hg⟩
      obtain ⟨hb3, hs3⟩ := below_dev hb2 hs2 (Nat.le_refl _) hg
      rw [show tryR true (armed x) = (armed x, 14) from rfl] at he hk3
      subst he
      clear hg hk2 hb2 c3
      go_wp2_with fail
      refine (lost_lk hk3).mono ?_
      rintro e w4 ⟨rfl, rfl⟩
      have K3 := Lib.hid hk3; clear hk3
      have B3 := Lib.hid hb3; clear hb3
      go_wp2
      go_roundw
      case rel => exact ⟨k + 1, armed x, by omega, by omega, by go_num, K3, B3, hs3⟩
      case measure => simp [intOf]; omega
    · have fin : Hid (∀ W, Below wr.heap.size wr W → Below G w W) := Lib.hid (fun W h => HB.out.trans (h.mono hs))
      clear HB HK K1 B1 HL
      by_cases hlt : k < l.length
      · obtain rfl : k = 20 := by omega
        go_wp2_with fail
        refine (dev_awake_any _).mono ?_
        rintro e w2 ⟨rfl, hb⟩
        go_wp2
        go_ret
        exact ⟨rfl, by rw [HG.out]; exact fin.out _ hb⟩
      · obtain rfl : k = l.length := by omega
        go_wp2_with fail
        refine (dev_awake_any _).mono ?_
        rintro e w2 ⟨rfl, hb⟩
        go_wp2
        go_ret
        exact ⟨rfl, by rw [HG.out]; exact fin.out _ hb⟩

set_option maxRecDepth 100000 in
theorem lifted (os : Os) (started : os.Started) (H : Type) (enc : TypeId × Value → H) :
    ReturnsInHanded {} Try.checked os 6 .any (Rows.meterLostSpec.pre6 enc Try.prog Try.f6 Rows.meterLostRow.domain false) (Rows.meterLostSpec.post enc Try.prog Try.f6 false true false false) := by
  refine returnsInHanded_of_change (C := Try.checked) own started (by kernel_rfl) Try.func6
    (ChangeSpec.witness6 (enc := enc) (C := Try.checked) false ⟨#[], #[.slice none 0 0], []⟩ 8 (by kernel_rfl) (by kernel_rfl) (by kernel_rfl) (by kernel_rfl)) ?_
  intro W base args ds gs before hval0 hW hcnd _
  have hval : ∀ (j : Nat) t v, Try.f6.params[j]? = some t → args[j]? = some v → Value.okWide Try.prog W .any base t v := hval0
  have hW' := hW
  obtain ⟨p, q, hA0, hV, rfl, hfz, hnd⟩ := hW
  have hA : DataW.TrodAll enc Try.prog W 0 (fun _ => true) true Try.f6.params.toList args.toList ds p := hA0
  rw [Try.params6] at hA hval
  obtain ⟨v0, vs0, d0, ds0, p0, q0, hargs, rfl, rfl, h0, r0⟩ := trodAll_cons hA
  obtain ⟨rfl, rfl, rfl⟩ := trodAll_nil r0
  obtain rfl : args = #[v0] := by cases args; simp_all
  obtain ⟨rfl, rfl⟩ := trodVars_none hV
  obtain ⟨A1, c1, l, rfl, hc0, hL0, hl0⟩ := open_list_ints Try.underlying48 Try.underlying3 (by kernel_rfl) (hval 0 48 v0 rfl rfl) h0
  refine (walk A1 c1 l W hc0 hL0 hl0).mono fun e W' ⟨he, hg⟩ => ?_
  subst he
  exact ⟨_, rfl, law_post (tb := 4) hW' rfl (by kernel_rfl) Try.underlying4 (by rw [Try.params6]; decide +kernel) rfl hg⟩

theorem proved : Rows.MeterLostSaid :=
  OpenClaim.holds_of_wide 6 Try.f6 rfl rfl rfl rfl rfl rfl rfl ⟨rfl, rfl, rfl, rfl, rfl⟩ rfl rfl rfl rfl rfl (by kernel_rfl) Try.func6 (by kernel_rfl)
    (of_decide_eq_true (by kernel_rfl)) (by unfold Func.isWrapper; first | (rw [if_pos (by decide +kernel)]; kernel_rfl) | (rw [if_neg (by decide +kernel)]; exact ⟨rfl, rfl⟩))
    (fun os started H enc _ => lifted os started H enc)
#print axioms proved
end Go.Proofs.Ytpjimnaponmffaa.meterLost
