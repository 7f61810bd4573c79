/- 'numbers are added in any order': glacierlaw03.MeterSum returns true for every input. No condition. -/
import Derived.Test.YtpjimnaponmffaaMa
import Derived.Test.YtpjimnaponmffaaMs
import Derived.Test.YtpjimnaponmffaaLw
import Derived.Test.YtpjimnaponmffaaOp
import Derived.Test.YtpjimnaponmffaaRows
import Derived.ProofKit
import Derived.OpenShut
namespace Go.Proofs.Ytpjimnaponmffaa.meterSum
open Go.ChangeShapes Go.WideShapes Go.ChangeAt Go.RowKit

theorem own : ownKnob Try.prog.godebug = none := by kernel_rfl

theorem min20 {α : Type} (l : List α) : (if (20 : Int) < (l.length : Int) then (20 : Int) else (l.length : Int)) = ((l.take 20).length : Int) := by
  rw [List.length_take]; split <;> omega

theorem back_step {l : List Int} {j : Nat} (h : j < l.length) : ints (l.drop j).reverse = ints (l.drop (j + 1)).reverse ++ [.int .i64 l[j]] := by
  unfold ints
  rw [List.drop_eq_getElem_cons h, List.reverse_cons, List.map_append]
  rfl

theorem below_own {w W W' : World} {B n : Nat} {e : TypeId} {v : Value} {xs : List Value} (hb : Below B w W) (hs : B ≤ W.heap.size) (hown : W.ownsRow B e 1 v n xs) (hg : W.grownBy W' v.ownBlock) : Below B w W' := by
  rcases hown.2 with ⟨rfl, _⟩ | ⟨g, cap, cur, rfl, hB, hat, _⟩
  · exact hb.trans ⟨hg.os, hg.tape, hg.output, hg.size, fun k hk => hg.block k (by omega) (by simp [Value.ownBlock])⟩
  · exact below_of_grownBy hb hg hs hB

theorem total_rev (l : List Int) : total l.reverse = total l := by unfold total; rw [sumUp_reverse]
theorem total_two (l : List Int) : total [total l, -5] = total l := by
  have h := sumUp_pos l
  have h1 : 0 ≤ total l := by unfold total; omega
  have h2 : sumUp [total l, -5] = total l := by unfold sumUp; simp; omega
  rw [show total [total l, -5] = min (sumUp [total l, -5]) 4611686018427387904 from rfl, h2]
  unfold total
  omega
theorem total_range (l : List Int) : 0 ≤ total l ∧ total l ≤ 4611686018427387904 := by
  have h := sumUp_pos l
  unfold total
  omega

set_option maxRecDepth 100000 in
set_option maxHeartbeats 1000000 in
theorem walk (A : Option Addr) (c : Nat) (l0 : List Int) (w : World) (hlc : l0.length ≤ c) (hL : Lies w w.heap.size A (ints (l0.take 20))) (hl : ∀ x ∈ l0.take 20, -9223372036854775808 ≤ x ∧ x ≤ 9223372036854775807) :
    Calls Try.prog 8 #[.slice A l0.length c] w fun e w' => e = .returned (.bool true) ∧ Below w.heap.size w w' := by
  obtain ⟨is, hse, hsz0, hsz1, hsz2⟩ := info_parts info_int
  have HL := Lib.hid hL; clear hL
  have Hl := Lib.hid hl; clear hl
  obtain ⟨m, hm⟩ : ∃ m, (l0.take 20).length = m := ⟨_, rfl⟩
  have hm20 : m ≤ 20 := by rw [← hm]; exact List.length_take_le _ _
  have hml : m ≤ l0.length := by rw [← hm, List.length_take]; omega
  have e20 : min (l0.length : Int) 20 = (m : Int) := by rw [← hm, List.length_take]; omega
  have e20' := min20 l0
  rw [hm] at e20'
  have HM := Lib.hid hm; clear hm
  go_enter Try.func8, Try.ntmps8
  go_wp2_with fail
  clear e20 e20'
  obtain ⟨l, hl⟩ : ∃ l, l0.take 20 = l := ⟨_, rfl⟩
  rw [hl] at HL Hl HM
  clear hl
  have hown0 := ints_new (W := w) (ints (l.drop m).reverse) (by rw [← HM.out]; simp [ints]) 0 rfl
  have hb0 : Below w.heap.size w (w.alloc (.cells #[] 3)) := (Below.refl _ w).alloc (Nat.le_refl _) _
  have hs0 : w.heap.size ≤ (w.alloc (.cells #[] 3)).heap.size := by simp
  generalize w.alloc (.cells #[] 3) = w0 at *
  generalize hG : w.heap.size = G at *
  have HG := Lib.hid hG; clear hG
  have HO := Lib.hid hown0; clear hown0
  have HB0 := Lib.hid hb0; clear hb0
  go_loopw [3, 4] (fun v i wr => ∃ j d : Nat, j + d = m ∧ i = .int .i64 ((j : Int) - 1) ∧ Hid (wr.ownsRow G 3 1 v d (ints (l.drop j).reverse)) ∧ Hid (Below G w wr) ∧ G ≤ wr.heap.size)
    (fun _ i _ => (intOf i + 1).toNat)
  case atStart => exact ⟨m, 0, by omega, rfl, HO, HB0, hs0⟩
  case round =>
    obtain ⟨j, d, hj, rfl, HOw, HB, hs⟩ := hrel
    cases j with
    | succ k =>
      have hlt : k < l.length := by rw [HM.out]; omega
      obtain ⟨ad, rfl, _, hc⟩ := (HL.out.below HB.out).int hlt
      have hx := Hl.out _ (List.getElem_mem hlt)
      have HT := Lib.hid (back_step hlt)
      generalize l[k] = x at *
      have ei : (((k + 1 : Nat) : Int) - 1) = (k : Int) := by omega
      rw [ei]
      clear ei HO HB0
      have hkm : k < m := by omega
      go_wp2_with (at_builtin; refine wpList_append_own _ rfl _ _ 48 rfl G 3 is (.int .i64 0) 1 8 Try.underlying48 hse hsz0 hsz1 hsz2 rfl (by decide) _ _ _ rfl (HOw.out.alloc _) ⟨wr.heap.size, 0, none⟩ 1 1 [.int .i64 x] rfl rfl ?c1 ?c2 ?c3 ?c4 ?c5 ?_)
      case c1 => exact cell_one_new _ _ _
      case c2 => intro u hu; simp at hu; subst hu; rfl
      case c3 => unfold maxLen; omega
      case c4 => omega
      case c5 => simp; omega
      intro v' w1 hown' hgrow _
      have R1 : Hid (w1.ownsRow G 3 1 v' (d + 1) (ints (l.drop k).reverse)) := Lib.hid (by rw [HT.out]; exact hown')
      have R2 : Hid (Below G w w1) := Lib.hid (by
        have hb := HB.out.alloc hs (.cells #[.int .i64 x] 3)
        exact below_own hb (by simp; omega) (HOw.out.alloc _) hgrow)
      have R3 : G ≤ w1.heap.size := by have := hgrow.size; simp at this; omega
      clear hown' hgrow HOw HB hc
      go_wp2
      go_roundw
      case rel => exact ⟨k, d + 1, by omega, rfl, R1, R2, R3⟩
      case measure => simp [intOf]
    | zero =>
      obtain rfl : d = m := by omega
      obtain ⟨A2, c2, rfl, hL2, _, hc2⟩ := own_slice HOw.out
      have HL2 := Lib.hid hL2; clear hL2
      have e0 : ((0 : Nat) : Int) - 1 = -1 := by omega
      rw [e0]
      clear e0 HO HB0 HOw
      have HLr := Lib.hid (HL.out.below HB.out)
      rw [List.drop_zero] at HL2
      go_wp2_with fail
      refine (dev_awake_any _).mono ?_
      rintro e w2 ⟨rfl, hb2⟩
      have HL3 := Lib.hid (HLr.out.below (hb2.mono hs))
      have HL4 := Lib.hid (HL2.out.below hb2)
      have HB2 := Lib.hid (HB.out.trans (hb2.mono hs))
      have hs2 : G ≤ w2.heap.size := by have := hb2.size; omega
      clear HLr HL2 HB HL hb2
      have hm1 := HM.out
      have hr := total_range l
      have HR := Lib.hid (total_rev l)
      have H2 := Lib.hid (total_two l)
      go_wp2_with fail
      refine (sum_any A c l _ hm1 _ w2 HL3.out Hl.out (by omega)).mono ?_
      rintro e w3 ⟨rfl, rfl⟩
      go_wp2_with fail
      refine (sum_any A2 c2 l.reverse _ (by rw [List.length_reverse]; exact hm1) _ w3 HL4.out (fun x hx => Hl.out x (List.mem_reverse.1 hx)) (by rw [List.length_reverse]; omega)).mono ?_
      rintro e w4 ⟨rfl, rfl⟩
      rw [HR.out]
      generalize hT : total l = T at *
      have HT := Lib.hid hT; clear hT
      go_wp2_with fail
      refine (sum_any A c l _ hm1 _ w4 HL3.out Hl.out (by omega)).mono ?_
      rintro e w5 ⟨rfl, rfl⟩
      rw [HT.out]
      have HL5 : Hid (Lies (w5.alloc (.cells #[.int .i64 T, .int .i64 (-5)] 3)) (w5.heap.size + 1) (some ⟨w5.heap.size, 0, none⟩) (ints [T, -5])) :=
        Lib.hid (Lies.of_at (At.new _ _ _) rfl (by omega))
      have HL6 := Lib.hid (HL3.out.below (((Below.refl _ w5).alloc (Nat.le_refl _) (.cells #[.int .i64 T, .int .i64 (-5)] 3)).mono hs2))
      have HB3 := Lib.hid (HB2.out.alloc hs2 (.cells #[.int .i64 T, .int .i64 (-5)] 3))
      clear HL3 HL4 HB2
      go_wp2_with fail
      generalize w5.alloc (.cells #[.int .i64 T, .int .i64 (-5)] 3) = w6 at *
      refine (sum_any _ _ [T, -5] _ rfl _ w6 HL5.out (by intro x hx; simp at hx; omega) (by simp)).mono ?_
      rintro e w7 ⟨rfl, rfl⟩
      rw [H2.out]
      go_wp2_with fail
      refine (sum_any A c l _ hm1 _ w7 HL6.out Hl.out (by omega)).mono ?_
      rintro e w8 ⟨rfl, rfl⟩
      rw [HT.out]
      go_wp2
      go_ret
      exact ⟨rfl, by rw [HG.out]; exact HB3.out⟩

set_option maxRecDepth 100000 in
theorem lifted (os : Os) (started : os.Started) (H : Type) (enc : TypeId × Value → H) :
    ReturnsInHanded {} Try.checked os 8 .any (Rows.meterSumSpec.pre6 enc Try.prog Try.f8 Rows.meterSumRow.domain false) (Rows.meterSumSpec.post enc Try.prog Try.f8 false true false false) := by
  refine returnsInHanded_of_change (C := Try.checked) own started (by kernel_rfl) Try.func8
    (ChangeSpec.witness6 (enc := enc) (C := Try.checked) false ⟨#[], #[.slice none 0 0], []⟩ 8 (by kernel_rfl) (by kernel_rfl) (by kernel_rfl) (by kernel_rfl)) ?_
  intro W base args ds gs before hval0 hW hcnd _
  have hval : ∀ (j : Nat) t v, Try.f8.params[j]? = some t → args[j]? = some v → Value.okWide Try.prog W .any base t v := hval0
  have hW' := hW
  obtain ⟨p, q, hA0, hV, rfl, hfz, hnd⟩ := hW
  have hA : DataW.TrodAll enc Try.prog W 0 (fun _ => true) true Try.f8.params.toList args.toList ds p := hA0
  rw [Try.params8] at hA hval
  obtain ⟨v0, vs0, d0, ds0, p0, q0, hargs, rfl, rfl, h0, r0⟩ := trodAll_cons hA
  obtain ⟨rfl, rfl, rfl⟩ := trodAll_nil r0
  obtain rfl : args = #[v0] := by cases args; simp_all
  obtain ⟨rfl, rfl⟩ := trodVars_none hV
  obtain ⟨A1, c1, l, rfl, hc0, hL0, hl0⟩ := open_list_ints Try.underlying48 Try.underlying3 (by kernel_rfl) (hval 0 48 v0 rfl rfl) h0
  refine (walk A1 c1 l W hc0 (by unfold ints; rw [List.map_take]; exact hL0.take 20) (fun x hx => hl0 x (List.mem_of_mem_take hx))).mono fun e W' ⟨he, hg⟩ => ?_
  subst he
  exact ⟨_, rfl, law_post (tb := 4) hW' rfl (by kernel_rfl) Try.underlying4 (by rw [Try.params8]; decide +kernel) rfl hg⟩

theorem proved : Rows.MeterSumSaid :=
  OpenClaim.holds_of_wide 8 Try.f8 rfl rfl rfl rfl rfl rfl rfl ⟨rfl, rfl, rfl, rfl, rfl⟩ rfl rfl rfl rfl rfl (by kernel_rfl) Try.func8 (by kernel_rfl)
    (of_decide_eq_true (by kernel_rfl)) (by unfold Func.isWrapper; first | (rw [if_pos (by decide +kernel)]; kernel_rfl) | (rw [if_neg (by decide +kernel)]; exact ⟨rfl, rfl⟩))
    (fun os started H enc _ => lifted os started H enc)
#print axioms proved
end Go.Proofs.Ytpjimnaponmffaa.meterSum
