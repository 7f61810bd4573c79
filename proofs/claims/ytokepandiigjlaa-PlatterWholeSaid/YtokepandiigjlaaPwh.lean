/- 'what was written anew is there whole, or what was': glacierlaw04.PlatterWhole returns true for every input. No condition. -/
import Derived.Test.YtokepandiigjlaaPn
import Derived.Test.YtokepandiigjlaaCu
import Derived.Test.YtokepandiigjlaaLw
import Derived.Test.YtokepandiigjlaaOp
import Derived.Test.YtokepandiigjlaaRows
import Derived.ProofKit
import Derived.OpenShut
namespace Go.Proofs.Ytokepandiigjlaa.platterWhole
open Go.ChangeShapes Go.WideShapes Go.ChangeAt Go.RowKit Go.Sort
open Go.ChangeMaps (open_string)
open Pm (Key Fi St Files)
set_option linter.unusedVariables false

theorem own : ownKnob Try.prog.godebug = none := by kernel_rfl

/-- what a crash leaves of a file that was written anew since it was synced -/
theorem whole_crash (O W : List UInt8) (v : Int) : ∃ (S : List UInt8) (f' : Fi), Pm.crashes (pickR [v]) [fileA] 0 [(fileA, ⟨⟨true, W⟩, ⟨true, O⟩⟩)] = [(fileA, f')] ∧ f'.now = ⟨true, S⟩ ∧
    (O.length ≤ W.length → W.take O.length = O → O.length ≤ S.length ∧ S.length ≤ W.length) ∧ (¬(O.length ≤ W.length ∧ W.take O.length = O) → S = W ∨ S = O) ∧ S.length ≤ max O.length W.length := by
  by_cases hs : (Fi.safe ⟨⟨true, W⟩, ⟨true, O⟩⟩) = true
  · have hW : W = O := by simpa [Pm.Fi.safe] using hs
    exact ⟨W, _, Pm.one_crash_safe _ _ hs, rfl, fun h _ => ⟨h, Nat.le_refl _⟩, fun _ => .inl rfl, by omega⟩
  · have hs' : (Fi.safe ⟨⟨true, W⟩, ⟨true, O⟩⟩) = false := by simpa using hs
    have hne : W ≠ O := fun e => hs (by simp [Pm.Fi.safe, e])
    have hl := Pm.left_ex (f := ⟨⟨true, W⟩, ⟨true, O⟩⟩) rfl rfl (pickR [v] 0)
    have h1 := Pm.one_crash (pickR [v]) fileA hs' hl
    by_cases hc : O.length < W.length ∧ W.take O.length = O
    · by_cases h0 : pickR [v] 0 ((W.length : Int) - O.length + 1) = 0
      · have hleft : Pm.left ⟨⟨true, W⟩, ⟨true, O⟩⟩ (pickR [v] 0) = ⟨true, O⟩ := by
          unfold Pm.left
          simp only
          rw [if_pos hc, if_pos h0]
        exact ⟨O, _, h1, by rw [hleft]; rfl, fun _ _ => ⟨Nat.le_refl _, by omega⟩, fun h => absurd ⟨by omega, hc.2⟩ h, by omega⟩
      · have hleft : Pm.left ⟨⟨true, W⟩, ⟨true, O⟩⟩ (pickR [v] 0) = ⟨true, W.take (O.length + (pickR [v] 0 ((W.length : Int) - O.length + 1)).toNat)⟩ := by
          unfold Pm.left
          simp only
          rw [if_pos hc, if_neg h0]
        refine ⟨_, _, h1, by rw [hleft]; rfl, fun _ _ => ?_, fun h => absurd ⟨by omega, hc.2⟩ h, ?_⟩
        · rw [List.length_take]; omega
        · rw [List.length_take]; omega
    · have hno : ¬(O.length ≤ W.length ∧ W.take O.length = O) := by
        rintro ⟨h2, h3⟩
        by_cases h4 : O.length < W.length
        · exact hc ⟨h4, h3⟩
        · have h5 : O.length = W.length := by omega
          rw [h5, List.take_length] at h3
          exact hne h3
      by_cases h0 : pickR [v] 0 2 = 1
      · have hleft : Pm.left ⟨⟨true, W⟩, ⟨true, O⟩⟩ (pickR [v] 0) = ⟨true, W⟩ := by
          unfold Pm.left
          simp only
          rw [if_neg hc, if_pos h0]
        exact ⟨W, _, h1, by rw [hleft]; rfl, fun a b => absurd ⟨a, b⟩ hno, fun _ => .inl rfl, by omega⟩
      · have hleft : Pm.left ⟨⟨true, W⟩, ⟨true, O⟩⟩ (pickR [v] 0) = ⟨true, O⟩ := by
          unfold Pm.left
          simp only
          rw [if_neg hc, if_neg h0]
        exact ⟨O, _, h1, by rw [hleft]; rfl, fun a b => absurd ⟨a, b⟩ hno, fun _ => .inr rfl, by omega⟩

theorem ext_one (r : ByteArray) (k : Nat) : (r.extract 0 k).toList = r.data.toList.take k := by
  rw [ByteArray.toList_eq, ByteArray.data_extract]
  simp

set_option maxRecDepth 100000 in
set_option maxHeartbeats 2000000 in
theorem walk (s0 s1 : ByteArray) (v : Int) (hv : -9223372036854775808 ≤ v ∧ v ≤ 9223372036854775807) (w : World) :
    Calls Try.prog 6 #[.string s0, .string s1, .int .i64 v] w fun e w' => e = .returned (.bool true) ∧ Below w.heap.size w w' := by
  have hC1 := cut_any s0 60
  have hC2 := cut_any s1 60
  have hz1 := cutTo_le s0 60
  have hz2 := cutTo_le s1 60
  generalize cutTo s0 60 = o at *
  generalize cutTo s1 60 = r at *
  have hol : o.data.toList.length = o.size := by simp
  have hrl : r.data.toList.length = r.size := by simp
  go_enter Try.func6, Try.ntmps6
  go_wp2_with fail
  refine (hC1 w).mono ?_
  rintro e w0 ⟨rfl, rfl⟩
  clear hC1
  go_wp2_with fail
  refine (hC2 w).mono ?_
  rintro e w0 ⟨rfl, rfl⟩
  clear hC2
  go_wp2_with fail
  refine (new_any 1000 1000 (by omega) rfl w).mono ?_
  rintro e w1 ⟨g, m, rfl, h1, hb1⟩
  have hs1 := hb1.size
  generalize hB : w.heap.size = B at *
  have HB := Lib.hid hB; clear hB
  go_wp2_with fail
  refine (awake4_any w1).mono ?_
  rintro e w2 ⟨rfl, hb2⟩
  have H2 := Lib.hid (h1.below hb2)
  have HB2 := Lib.hid (hb1.trans (hb2.mono hs1))
  have hs2 : B ≤ w2.heap.size := Nat.le_trans hs1 hb2.size
  clear h1 hb1 hb2 hs1
  go_wp2_with fail
  refine (write_ok H2.out hs2 ⟨#[97]⟩ o (by decide) (by decide) (by show (0 : Int) + o.size ≤ _; omega) (by decide) (by show (o.size : Int) - 0 ≤ 1000 - 0; omega)).mono ?_
  rintro e w3 ⟨rfl, h3, hb3⟩
  rw [show Pm.set [] (⟨#[97]⟩ : ByteArray).data.toList ⟨⟨true, o.data.toList⟩, (Pm.fi [] (⟨#[97]⟩ : ByteArray).data.toList).sure⟩ = [(fileA, ⟨⟨true, o.data.toList⟩, .no⟩)] from rfl] at h3
  have hs3 : B ≤ w3.heap.size := Nat.le_trans h3.lt.2.2.1 (Nat.le_of_lt h3.lt.1)
  have H3 := Lib.hid h3
  have HB3 := Lib.hid (HB2.out.trans hb3)
  clear h3 hb3 H2 HB2 hs2
  go_wp2_with fail
  refine (sync_new H3.out hs3 ⟨#[97]⟩ (by decide) (by simp)).mono ?_
  rintro e w4 ⟨rfl, h4, hb4⟩
  rw [show (⟨#[97]⟩ : ByteArray).data.toList = fileA from rfl, Pm.one_syncs fileA rfl] at h4
  have hs4 : B ≤ w4.heap.size := Nat.le_trans h4.lt.2.2.1 (Nat.le_of_lt h4.lt.1)
  have H4 := Lib.hid h4
  have HB4 := Lib.hid (HB3.out.trans hb4)
  clear h4 hb4 H3 HB3 hs3
  have hus4 : Pm.used [(fileA, Pm.still ⟨true, o.data.toList⟩)] = o.size := by rw [Pm.one_used, Pm.still_weight, hol]
  have hfi4 : Pm.fi [(fileA, Pm.still ⟨true, o.data.toList⟩)] (⟨#[97]⟩ : ByteArray).data.toList = Pm.still ⟨true, o.data.toList⟩ := Pm.one_fi _ _
  go_wp2_with fail
  refine (write_ok H4.out hs4 ⟨#[97]⟩ r (by decide) (by decide) (by rw [hus4]; omega) (by simp) (by rw [hus4, hfi4, Pm.still_weight]; show (r.size : Int) - (o.data.toList.length : Nat) ≤ _; omega)).mono ?_
  rintro e w5 ⟨rfl, h5, hb5⟩
  rw [hfi4, show Pm.set [(fileA, Pm.still ⟨true, o.data.toList⟩)] (⟨#[97]⟩ : ByteArray).data.toList ⟨⟨true, r.data.toList⟩, (Pm.still ⟨true, o.data.toList⟩).sure⟩ = [(fileA, ⟨⟨true, r.data.toList⟩, ⟨true, o.data.toList⟩⟩)] from Pm.one_set _ _ rfl] at h5
  have hs5 : B ≤ w5.heap.size := Nat.le_trans h5.lt.2.2.1 (Nat.le_of_lt h5.lt.1)
  have H5 := Lib.hid h5
  have HB5 := Lib.hid (HB4.out.trans hb5)
  clear h5 hb5 H4 HB4 hs4 hus4 hfi4
  have hus5 : Pm.used [(fileA, (⟨⟨true, r.data.toList⟩, ⟨true, o.data.toList⟩⟩ : Fi))] ≤ 120 := by rw [Pm.one_used]; unfold Pm.Fi.weight; simp only; omega
  have hC := crash_new H5.out hs5 (by rw [Pm.one_keys]; decide) (by simp) (by omega) v hv
  rw [Pm.one_keys] at hC
  obtain ⟨S, f', hcr, hnow, hyes, hnot, hSl⟩ := whole_crash o.data.toList r.data.toList v
  rw [hcr] at hC
  have HC := Lib.hid hC
  clear hC hcr hus5
  go_wp2_with fail
  refine HC.out.mono ?_
  rintro e w6 ⟨rfl, h6, hb6⟩
  have hs6 : B ≤ w6.heap.size := Nat.le_trans h6.lt.2.2.1 (Nat.le_of_lt h6.lt.1)
  have H6 := Lib.hid h6
  have HB6 := Lib.hid (HB5.out.trans hb6)
  clear h6 hb6 H5 HB5 HC hs5
  obtain ⟨sv, hsv⟩ : ∃ sv : ByteArray, (⟨S.toArray⟩ : ByteArray) = sv := ⟨_, rfl⟩
  have hR := read_ok H6.out hs6 ⟨#[97]⟩ (by decide)
  have hfi6 : Pm.fi [(fileA, f')] (⟨#[97]⟩ : ByteArray).data.toList = f' := Pm.one_fi _ _
  rw [hfi6, hnow, if_pos rfl] at hR
  simp only [hsv] at hR
  have hsl : sv.data.toList = S := by rw [← hsv]
  have hsz : sv.size = S.length := by rw [← hsl]; simp
  have HR := Lib.hid hR
  clear hR hfi6 hnow hsv H6
  go_wp2_with fail
  refine HR.out.mono ?_
  rintro e w7 ⟨rfl, h7, hb7⟩
  have HB7 := Lib.hid (HB6.out.trans hb7)
  clear h7 hb7 HR HB6
  rw [hol, hrl] at hyes hnot
  rw [hol, hrl] at hSl
  by_cases hlen : o.size ≤ r.size
  · by_cases hbeg : r.data.toList.take o.size = o.data.toList
    · obtain ⟨hy1, hy2⟩ := hyes hlen hbeg
      have hcmp : ((r.extract 0 o.size).toList == o.toList) = true := by rw [ext_one, ByteArray.toList_eq, hbeg]; simp
      clear hyes hnot
      go_wp2
      go_ret
      exact ⟨rfl, by rw [HB.out]; exact HB7.out⟩
    · have hn := hnot (fun h => hbeg h.2)
      have hcmp : ((r.extract 0 o.size).toList == o.toList) = false := by rw [ext_one, ByteArray.toList_eq]; simpa using hbeg
      clear hyes hnot
      rcases hn with h | h
      · have hc1 : (sv.toList == r.toList) = true := by rw [ByteArray.toList_eq, ByteArray.toList_eq, hsl, h]; simp
        go_wp2
        go_ret
        exact ⟨rfl, by rw [HB.out]; exact HB7.out⟩
      · by_cases he : sv.toList = r.toList
        · have hc1 : (sv.toList == r.toList) = true := by simpa using he
          go_wp2
          go_ret
          exact ⟨rfl, by rw [HB.out]; exact HB7.out⟩
        · have hc1 : (sv.toList == r.toList) = false := by simpa using he
          have hc2 : (sv.toList == o.toList) = true := by rw [ByteArray.toList_eq, ByteArray.toList_eq, hsl, h]; simp
          go_wp2
          go_ret
          exact ⟨rfl, by rw [HB.out]; exact HB7.out⟩
  · have hn := hnot (fun h => hlen h.1)
    clear hyes hnot
    rcases hn with h | h
    · have hc1 : (sv.toList == r.toList) = true := by rw [ByteArray.toList_eq, ByteArray.toList_eq, hsl, h]; simp
      go_wp2
      go_ret
      exact ⟨rfl, by rw [HB.out]; exact HB7.out⟩
    · by_cases he : sv.toList = r.toList
      · have hc1 : (sv.toList == r.toList) = true := by simpa using he
        go_wp2
        go_ret
        exact ⟨rfl, by rw [HB.out]; exact HB7.out⟩
      · have hc1 : (sv.toList == r.toList) = false := by simpa using he
        have hc2 : (sv.toList == o.toList) = true := by rw [ByteArray.toList_eq, ByteArray.toList_eq, hsl, h]; simp
        go_wp2
        go_ret
        exact ⟨rfl, by rw [HB.out]; exact HB7.out⟩

set_option maxRecDepth 100000 in
theorem lifted (os : Os) (started : os.Started) (H : Type) (enc : TypeId × Value → H) :
    ReturnsInHanded {} Try.checked os 6 .any (Rows.platterWholeSpec.pre6 enc Try.prog Try.f6 Rows.platterWholeRow.domain false) (Rows.platterWholeSpec.post enc Try.prog Try.f6 false true false false) := by
  refine returnsInHanded_of_change (C := Try.checked) own started (by kernel_rfl) Try.func6
    (ChangeSpec.witness6 (enc := enc) (C := Try.checked) false ⟨#[], #[.string ⟨#[]⟩, .string ⟨#[]⟩, .int .i64 0], []⟩ 8 (by kernel_rfl) (by kernel_rfl) (by kernel_rfl) (by kernel_rfl)) ?_
  intro W base args ds gs before hval0 hW hcnd _
  have hval : ∀ (j : Nat) t v, Try.f6.params[j]? = some t → args[j]? = some v → Value.okWide Try.prog W .any base t v := hval0
  have hW' := hW
  obtain ⟨p, q, hA0, hV, rfl, hfz, hnd⟩ := hW
  have hA : DataW.TrodAll enc Try.prog W 0 (fun _ => true) true Try.f6.params.toList args.toList ds p := hA0
  rw [Try.params6] at hA hval
  obtain ⟨v0, vs0, d0, ds0, p0, q0, hargs, rfl, rfl, h0, r0⟩ := trodAll_cons hA
  obtain ⟨v1, vs1, d1, ds1, p1, q1, rfl, rfl, rfl, h1, r1⟩ := trodAll_cons r0
  obtain ⟨v2, vs2, d2, ds2, p2, q2, rfl, rfl, rfl, h2, r2⟩ := trodAll_cons r1
  obtain ⟨rfl, rfl, rfl⟩ := trodAll_nil r2
  obtain rfl : args = #[v0, v1, v2] := by cases args; simp_all
  obtain ⟨rfl, rfl⟩ := trodVars_none hV
  obtain ⟨s0, rfl, rfl, rfl, hs0⟩ := open_string Try.underlying9 (hval 0 9 v0 rfl rfl) h0
  obtain ⟨s1, rfl, rfl, rfl, hs1⟩ := open_string Try.underlying9 (hval 1 9 v1 rfl rfl) h1
  obtain ⟨a2, rfl, rfl, rfl, w2⟩ := open_int Try.underlying3 (hval 2 3 v2 rfl rfl) h2
  refine (walk s0 s1 a2 (bounds_i64 w2) W).mono fun e W' ⟨he, hg⟩ => ?_
  subst he
  exact ⟨_, rfl, law_post (tb := 4) hW' rfl (by kernel_rfl) Try.underlying4 (by rw [Try.params6]; decide +kernel) rfl hg⟩

theorem proved : Rows.PlatterWholeSaid :=
  OpenClaim.holds_of_wide 6 Try.f6 rfl rfl rfl rfl rfl rfl rfl ⟨rfl, rfl, rfl, rfl, rfl⟩ rfl rfl rfl rfl rfl (by kernel_rfl) Try.func6 (by kernel_rfl)
    (of_decide_eq_true (by kernel_rfl)) (by unfold Func.isWrapper; first | (rw [if_pos (by decide +kernel)]; kernel_rfl) | (rw [if_neg (by decide +kernel)]; exact ⟨rfl, rfl⟩))
    (fun os started H enc _ => lifted os started H enc)
#print axioms proved
end Go.Proofs.Ytokepandiigjlaa.platterWhole
