/- 'what was appended is there up to some place': glacierlaw04.PlatterTorn returns true for every input. No condition. -/
import Derived.Test.YtokepandiigjlaaPo
import Derived.Test.YtokepandiigjlaaCu
import Derived.Test.YtokepandiigjlaaLw
import Derived.Test.YtokepandiigjlaaOp
import Derived.Test.YtokepandiigjlaaRows
import Derived.ProofKit
import Derived.OpenShut
namespace Go.Proofs.Ytokepandiigjlaa.platterTorn
open Go.ChangeShapes Go.WideShapes Go.ChangeAt Go.RowKit Go.Sort
open Go.ChangeMaps (open_string)
open Pm (Key Fi St Files)
set_option linter.unusedVariables false

theorem own : ownKnob Try.prog.godebug = none := by kernel_rfl

/-- what a crash leaves of a file that was appended to since it was synced -/
theorem torn_crash (O R : List UInt8) (v : Int) : ∃ (q : Nat) (f' : Fi), Pm.crashes (pickR [v]) [fileA] 0 [(fileA, ⟨⟨true, O ++ R⟩, ⟨true, O⟩⟩)] = [(fileA, f')] ∧ f'.now = ⟨true, (O ++ R).take (O.length + q)⟩ ∧ q ≤ R.length ∧ (0 ≤ v → v ≤ R.length → (q : Int) = v) := by
  by_cases hR : R = []
  · subst hR
    refine ⟨0, _, Pm.one_crash_safe _ _ (by simp [Pm.Fi.safe]), by simp, by simp, fun h0 h1 => ?_⟩
    simp at h1
    omega
  · have hpos : 0 < R.length := List.length_pos_iff.2 hR
    have hs : (Fi.safe ⟨⟨true, O ++ R⟩, ⟨true, O⟩⟩) = false := by simp [Pm.Fi.safe, hR]
    have hc : O.length < (O ++ R).length ∧ (O ++ R).take O.length = O := ⟨by simp; omega, by simp⟩
    have he : ((O ++ R).length : Int) - O.length + 1 = R.length + 1 := by simp; omega
    have hl := Pm.left_ex (f := ⟨⟨true, O ++ R⟩, ⟨true, O⟩⟩) rfl rfl (pickR [v] 0)
    have h1 := Pm.one_crash (pickR [v]) fileA hs hl
    have hn := Int.emod_nonneg v (b := (R.length : Int) + 1) (by omega)
    have hm := Int.emod_lt_of_pos v (b := (R.length : Int) + 1) (by omega)
    obtain ⟨q, hq⟩ := Int.eq_ofNat_of_zero_le hn
    have hleft : Pm.left ⟨⟨true, O ++ R⟩, ⟨true, O⟩⟩ (pickR [v] 0) = ⟨true, (O ++ R).take (O.length + q)⟩ := by
      unfold Pm.left
      simp only
      rw [if_pos hc, he, pick_one v _ (by omega), hq]
      by_cases h0 : q = 0
      · subst h0
        rw [if_pos (show ((0 : Nat) : Int) = 0 from rfl)]
        simp
      · rw [if_neg (by omega)]
        simp
    refine ⟨q, _, h1, by rw [hleft]; rfl, by omega, fun h0 h2 => ?_⟩
    rw [← hq, Int.emod_eq_of_lt h0 (by omega)]

theorem ext_list (o r : ByteArray) (k : Nat) : ((o ++ r).extract 0 k).toList = (o.data.toList ++ r.data.toList).take k := by
  rw [ByteArray.toList_eq, ByteArray.data_extract, ByteArray.data_append]
  simp [List.take_append]

set_option maxRecDepth 100000 in
set_option maxHeartbeats 2000000 in
theorem walk (s0 s1 : ByteArray) (v : Int) (hv : -9223372036854775808 ≤ v ∧ v ≤ 9223372036854775807) (w : World) :
    Calls Try.prog 5 #[.string s0, .string s1, .int .i64 v] w fun e w' => e = .returned (.bool true) ∧ Below w.heap.size w w' := by
  have hC1 := cut_any s0 60
  have hC2 := cut_any s1 60
  have hz1 := cutTo_le s0 60
  have hz2 := cutTo_le s1 60
  generalize cutTo s0 60 = o at *
  generalize cutTo s1 60 = r at *
  have hol : o.data.toList.length = o.size := by simp
  have hrl : r.data.toList.length = r.size := by simp
  go_enter Try.func5, Try.ntmps5
  go_wp2_with fail
  refine (hC1 w).mono ?_
  rintro e w0 ⟨rfl, rfl⟩
  clear hC1
  go_wp2_with fail
  refine (hC2 w).mono ?_
  rintro e w0 ⟨rfl, rfl⟩
  clear hC2
  go_wp2_with fail
  refine (new_any 1000 1000 (by omega) rfl w).mono ?_
  rintro e w1 ⟨g, m, rfl, h1, hb1⟩
  have hs1 := hb1.size
  generalize hB : w.heap.size = B at *
  have HB := Lib.hid hB; clear hB
  go_wp2_with fail
  refine (awake4_any w1).mono ?_
  rintro e w2 ⟨rfl, hb2⟩
  have H2 := Lib.hid (h1.below hb2)
  have HB2 := Lib.hid (hb1.trans (hb2.mono hs1))
  have hs2 : B ≤ w2.heap.size := Nat.le_trans hs1 hb2.size
  clear h1 hb1 hb2 hs1
  go_wp2_with fail
  refine (write_ok H2.out hs2 ⟨#[97]⟩ o (by decide) (by decide) (by show (0 : Int) + o.size ≤ _; omega) (by decide) (by show (o.size : Int) - 0 ≤ 1000 - 0; omega)).mono ?_
  rintro e w3 ⟨rfl, h3, hb3⟩
  rw [show Pm.set [] (⟨#[97]⟩ : ByteArray).data.toList ⟨⟨true, o.data.toList⟩, (Pm.fi [] (⟨#[97]⟩ : ByteArray).data.toList).sure⟩ = [(fileA, ⟨⟨true, o.data.toList⟩, .no⟩)] from rfl] at h3
  have hs3 : B ≤ w3.heap.size := Nat.le_trans h3.lt.2.2.1 (Nat.le_of_lt h3.lt.1)
  have H3 := Lib.hid h3
  have HB3 := Lib.hid (HB2.out.trans hb3)
  clear h3 hb3 H2 HB2 hs2
  go_wp2_with fail
  refine (syncall_ok H3.out hs3 (by rw [Pm.one_keys]; decide) (by simp)).mono ?_
  rintro e w4 ⟨rfl, h4, hb4⟩
  rw [Pm.one_keys, Pm.one_syncs fileA rfl] at h4
  have hs4 : B ≤ w4.heap.size := Nat.le_trans h4.lt.2.2.1 (Nat.le_of_lt h4.lt.1)
  have H4 := Lib.hid h4
  have HB4 := Lib.hid (HB3.out.trans hb4)
  clear h4 hb4 H3 HB3 hs3
  have hus4 : Pm.used [(fileA, Pm.still ⟨true, o.data.toList⟩)] = o.size := by rw [Pm.one_used, Pm.still_weight, hol]
  have hfi4 : Pm.fi [(fileA, Pm.still ⟨true, o.data.toList⟩)] (⟨#[97]⟩ : ByteArray).data.toList = Pm.still ⟨true, o.data.toList⟩ := Pm.one_fi _ _
  go_wp2_with fail
  refine (append_ok H4.out hs4 ⟨#[97]⟩ r (by decide) (by decide) (by rw [hus4]; omega) (by simp) (by rw [hus4, hfi4, Pm.still_weight]; show ((o.data.toList.length : Nat) : Int) + r.size - (o.data.toList.length : Nat) ≤ _; omega)).mono ?_
  rintro e w5 ⟨rfl, h5, hb5⟩
  rw [hfi4, show Pm.set [(fileA, Pm.still ⟨true, o.data.toList⟩)] (⟨#[97]⟩ : ByteArray).data.toList ⟨⟨true, (Pm.still ⟨true, o.data.toList⟩).now.t ++ r.data.toList⟩, (Pm.still ⟨true, o.data.toList⟩).sure⟩ = [(fileA, ⟨⟨true, o.data.toList ++ r.data.toList⟩, ⟨true, o.data.toList⟩⟩)] from Pm.one_set _ _ rfl] at h5
  have hs5 : B ≤ w5.heap.size := Nat.le_trans h5.lt.2.2.1 (Nat.le_of_lt h5.lt.1)
  have H5 := Lib.hid h5
  have HB5 := Lib.hid (HB4.out.trans hb5)
  clear h5 hb5 H4 HB4 hs4 hus4 hfi4
  have hus5 : Pm.used [(fileA, (⟨⟨true, o.data.toList ++ r.data.toList⟩, ⟨true, o.data.toList⟩⟩ : Fi))] ≤ 120 := by rw [Pm.one_used]; unfold Pm.Fi.weight; simp only [List.length_append]; omega
  have hC := crash_new H5.out hs5 (by rw [Pm.one_keys]; decide) (by simp) (by omega) v hv
  rw [Pm.one_keys] at hC
  obtain ⟨q, f', hcr, hnow, hq, hqv⟩ := torn_crash o.data.toList r.data.toList v
  rw [hcr] at hC
  have HC := Lib.hid hC
  clear hC hcr hus5
  go_wp2_with fail
  refine HC.out.mono ?_
  rintro e w6 ⟨rfl, h6, hb6⟩
  have hs6 : B ≤ w6.heap.size := Nat.le_trans h6.lt.2.2.1 (Nat.le_of_lt h6.lt.1)
  have H6 := Lib.hid h6
  have HB6 := Lib.hid (HB5.out.trans hb6)
  clear h6 hb6 H5 HB5 HC hs5
  obtain ⟨sv, hsv⟩ : ∃ sv : ByteArray, (⟨((o.data.toList ++ r.data.toList).take (o.data.toList.length + q)).toArray⟩ : ByteArray) = sv := ⟨_, rfl⟩
  have hR := read_ok H6.out hs6 ⟨#[97]⟩ (by decide)
  have hfi6 : Pm.fi [(fileA, f')] (⟨#[97]⟩ : ByteArray).data.toList = f' := Pm.one_fi _ _
  rw [hfi6, hnow, if_pos rfl] at hR
  simp only [hsv] at hR
  have hsz : sv.size = o.size + q := by
    rw [← hsv]
    show (((o.data.toList ++ r.data.toList).take (o.data.toList.length + q)).toArray).size = _
    simp
    omega
  have hcmp : (((o ++ r).extract 0 (o.size + q)).toList == sv.toList) = true := by
    rw [ext_list, ByteArray.toList_eq, ← hsv]
    simp
  have hcmp2 : (!((o ++ r).extract 0 (o.size + q)).toList == sv.toList) = false := by rw [hcmp]; rfl
  have HR := Lib.hid hR
  clear hR hfi6 hnow hsv H6
  go_wp2_with fail
  refine HR.out.mono ?_
  rintro e w7 ⟨rfl, h7, hb7⟩
  have HB7 := Lib.hid (HB6.out.trans hb7)
  clear h7 hb7 HR HB6
  have hall : (o ++ r).size = o.size + r.size := by simp
  have hrq : q ≤ r.size := by omega
  by_cases hc : v < 0
  · go_wp2
    go_ret
    exact ⟨rfl, by rw [HB.out]; exact HB7.out⟩
  · by_cases hd : (r.size : Int) < v
    · go_wp2
      go_ret
      exact ⟨rfl, by rw [HB.out]; exact HB7.out⟩
    · have hqe := hqv (by omega) (by rw [hrl]; omega)
      subst hqe
      clear hqv
      go_wp2
      go_ret
      exact ⟨rfl, by rw [HB.out]; exact HB7.out⟩

set_option maxRecDepth 100000 in
theorem lifted (os : Os) (started : os.Started) (H : Type) (enc : TypeId × Value → H) :
    ReturnsInHanded {} Try.checked os 5 .any (Rows.platterTornSpec.pre6 enc Try.prog Try.f5 Rows.platterTornRow.domain false) (Rows.platterTornSpec.post enc Try.prog Try.f5 false true false false) := by
  refine returnsInHanded_of_change (C := Try.checked) own started (by kernel_rfl) Try.func5
    (ChangeSpec.witness6 (enc := enc) (C := Try.checked) false ⟨#[], #[.string ⟨#[]⟩, .string ⟨#[]⟩, .int .i64 0], []⟩ 8 (by kernel_rfl) (by kernel_rfl) (by kernel_rfl) (by kernel_rfl)) ?_
  intro W base args ds gs before hval0 hW hcnd _
  have hval : ∀ (j : Nat) t v, Try.f5.params[j]? = some t → args[j]? = some v → Value.okWide Try.prog W .any base t v := hval0
  have hW' := hW
  obtain ⟨p, q, hA0, hV, rfl, hfz, hnd⟩ := hW
  have hA : DataW.TrodAll enc Try.prog W 0 (fun _ => true) true Try.f5.params.toList args.toList ds p := hA0
  rw [Try.params5] at hA hval
  obtain ⟨v0, vs0, d0, ds0, p0, q0, hargs, rfl, rfl, h0, r0⟩ := trodAll_cons hA
  obtain ⟨v1, vs1, d1, ds1, p1, q1, rfl, rfl, rfl, h1, r1⟩ := trodAll_cons r0
  obtain ⟨v2, vs2, d2, ds2, p2, q2, rfl, rfl, rfl, h2, r2⟩ := trodAll_cons r1
  obtain ⟨rfl, rfl, rfl⟩ := trodAll_nil r2
  obtain rfl : args = #[v0, v1, v2] := by cases args; simp_all
  obtain ⟨rfl, rfl⟩ := trodVars_none hV
  obtain ⟨s0, rfl, rfl, rfl, hs0⟩ := open_string Try.underlying9 (hval 0 9 v0 rfl rfl) h0
  obtain ⟨s1, rfl, rfl, rfl, hs1⟩ := open_string Try.underlying9 (hval 1 9 v1 rfl rfl) h1
  obtain ⟨a2, rfl, rfl, rfl, w2⟩ := open_int Try.underlying3 (hval 2 3 v2 rfl rfl) h2
  refine (walk s0 s1 a2 (bounds_i64 w2) W).mono fun e W' ⟨he, hg⟩ => ?_
  subst he
  exact ⟨_, rfl, law_post (tb := 4) hW' rfl (by kernel_rfl) Try.underlying4 (by rw [Try.params5]; decide +kernel) rfl hg⟩

theorem proved : Rows.PlatterTornSaid :=
  OpenClaim.holds_of_wide 5 Try.f5 rfl rfl rfl rfl rfl rfl rfl ⟨rfl, rfl, rfl, rfl, rfl⟩ rfl rfl rfl rfl rfl (by kernel_rfl) Try.func5 (by kernel_rfl)
    (of_decide_eq_true (by kernel_rfl)) (by unfold Func.isWrapper; first | (rw [if_pos (by decide +kernel)]; kernel_rfl) | (rw [if_neg (by decide +kernel)]; exact ⟨rfl, rfl⟩))
    (fun os started H enc _ => lifted os started H enc)
#print axioms proved
end Go.Proofs.Ytokepandiigjlaa.platterTorn
