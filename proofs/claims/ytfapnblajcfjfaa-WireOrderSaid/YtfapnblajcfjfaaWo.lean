/- 'of two numbers the greater one's bytes come behind the other one's': glacierlaw01.WireOrder returns true for every input. No condition. -/
import Derived.Test.YtfapnblajcfjfaaAw
import Derived.Test.YtfapnblajcfjfaaLw
import Derived.Test.YtfapnblajcfjfaaRows
import Derived.ProofKit
import Derived.OpenShut
namespace Go.Proofs.Ytfapnblajcfjfaa.wireOrder
open Go.ChangeShapes Go.WideShapes Go.ChangeAt Go.RowKit
open Wm (num)
set_option linter.unusedVariables false

theorem own : ownKnob Try.prog.godebug = none := by kernel_rfl

theorem str_list (l : List UInt8) : (⟨l.toArray⟩ : ByteArray).toList = l := by rw [ByteArray.toList_eq]
theorem str_size (l : List UInt8) : (⟨l.toArray⟩ : ByteArray).size = l.length := by simp [ByteArray.size]

theorem order_gt {a b : Nat} (h : b < a) {s t : ByteArray} (hs : (⟨(num a).toArray⟩ : ByteArray) = s) (ht : (⟨(num b).toArray⟩ : ByteArray) = t) :
    t.size < s.size ∨ (s.size ≤ t.size ∧ ((s.size : Int) == (t.size : Int)) = true ∧ Op.bytesLess s.toList t.toList = false ∧ (s.toList == t.toList) = false) := by
  subst hs; subst ht
  simp only [str_list, str_size]
  rcases Wm.num_pre h with h1 | ⟨h1, h2⟩
  · exact .inl h1
  · obtain ⟨h3, h4⟩ := Wm.less_asymm _ _ h2
    exact .inr ⟨by omega, by rw [beq_iff_eq]; omega, h3, beq_eq_false_iff_ne.2 h4⟩

theorem order_lt {a b : Nat} (h : a < b) {s t : ByteArray} (hs : (⟨(num a).toArray⟩ : ByteArray) = s) (ht : (⟨(num b).toArray⟩ : ByteArray) = t) :
    (s.toList == t.toList) = false ∧ (s.size < t.size ∨ (t.size ≤ s.size ∧ ((s.size : Int) == (t.size : Int)) = true ∧ Op.bytesLess s.toList t.toList = true)) := by
  subst hs; subst ht
  simp only [str_list, str_size]
  rcases Wm.num_pre h with h1 | ⟨h1, h2⟩
  · exact ⟨beq_eq_false_iff_ne.2 (fun e => by rw [e] at h1; omega), .inl h1⟩
  · exact ⟨beq_eq_false_iff_ne.2 (Ne.symm (Wm.less_asymm _ _ h2).2), .inr ⟨by omega, by rw [beq_iff_eq]; omega, h2⟩⟩

set_option maxHeartbeats 1000000 in
theorem walk (a b : Nat) (ha : a < 18446744073709551616) (hb : b < 18446744073709551616) (w : World) :
    Calls Try.prog 5 #[.int .u64 a, .int .u64 b] w fun e w' => e = .returned (.bool true) ∧ Below w.heap.size w w' := by
  obtain ⟨s, hs⟩ : ∃ s, (⟨(num a).toArray⟩ : ByteArray) = s := ⟨_, rfl⟩
  obtain ⟨t, ht⟩ : ∃ t, (⟨(num b).toArray⟩ : ByteArray) = t := ⟨_, rfl⟩
  have hgt := fun h => order_gt (a := a) (b := b) h hs ht
  have hlt := fun h => order_lt (a := a) (b := b) h hs ht
  have heq : a = b → s = t := fun h => by subst h; rw [← hs, ← ht]
  have HS := Lib.hid hs; clear hs
  have HT := Lib.hid ht; clear ht
  have HGT := Lib.hid hgt; clear hgt
  have HLT := Lib.hid hlt; clear hlt
  have HEQ := Lib.hid heq; clear heq
  go_enter Try.func5, Try.ntmps5
  go_wp2_with fail
  have hb0 : Below w.heap.size w ((w.alloc (.cells #[.pointer none, .int .i64 0] 26)).alloc (.cells #[.pointer none, .int .i64 0] 26)) := ((Below.refl _ w).alloc (Nat.le_refl _) _).alloc (by simp) _
  have he0 := (EncIs.new w).alloc (.cells #[.pointer none, .int .i64 0] 26)
  have hf0 := EncIs.new (w.alloc (.cells #[.pointer none, .int .i64 0] 26))
  have hz1 : (w.alloc (.cells #[.pointer none, .int .i64 0] 26)).heap.size = w.heap.size + 1 := by simp
  rw [hz1] at hf0
  clear hz1
  have hz0 : ((w.alloc (.cells #[.pointer none, .int .i64 0] 26)).alloc (.cells #[.pointer none, .int .i64 0] 26)).heap.size = w.heap.size + 1 + 1 := by simp
  generalize (w.alloc (.cells #[.pointer none, .int .i64 0] 26)).alloc (.cells #[.pointer none, .int .i64 0] 26) = w0 at *
  have Z0 := Lib.hid hz0; clear hz0
  generalize hG : w.heap.size = G at *
  have HG := Lib.hid hG; clear hG
  refine (encU_any G [] [a] (by simpa using ha) _ _ _ (he0.alloc _) (Lies.new w0 23 #[.int .u64 a] _ _ Z0.out.symm rfl) (by simp)).mono ?_
  rintro x w1 ⟨rfl, he1, hg1⟩
  obtain ⟨cse, hae⟩ := (he0.alloc (.cells #[.int .u64 a] 23)).at_
  have hf1 := (hf0.alloc (.cells #[.int .u64 a] 23)).grown hae (by decide) (by omega) hg1
  obtain ⟨hb1, hs1⟩ := EncRet.then hb0 (by rw [Z0.out]; omega) (Nat.le_refl _) hg1
  have eu : [] ++ unums [a] = num a := by simp [unums]
  rw [eu] at he1
  clear eu hg1 he0 hb0 hae hf0
  have hla := Wm.num_len a ha
  go_wp2_with fail
  refine (bytes_any G _ w1 he1 (by omega)).mono ?_
  rintro x w2 ⟨rfl, hb2⟩
  have hf2 := hf1.below hb2 rfl
  have hb3 := hb1.trans (hb2.mono (by omega))
  have hs2 : G ≤ w2.heap.size := by have := hb2.size; omega
  rw [HS.out]
  clear hb2 hf1 hb1 he1
  go_wp2_with fail
  refine (encU_any (G + 1) [] [b] (by simpa using hb) _ _ _ (hf2.alloc _) (Lies.new w2 23 #[.int .u64 b] _ _ rfl rfl) (by simp)).mono ?_
  rintro x w3 ⟨rfl, hf3, hg3⟩
  obtain ⟨hb4, hs4⟩ := EncRet.then hb3 hs2 (by omega) hg3
  have eu : [] ++ unums [b] = num b := by simp [unums]
  rw [eu] at hf3
  clear eu hg3 hf2 hb3
  have hlb := Wm.num_len b hb
  go_wp2_with fail
  refine (bytes_any (G + 1) _ w3 hf3 (by omega)).mono ?_
  rintro x w4 ⟨rfl, hb5⟩
  have hb6 := hb4.trans (hb5.mono (by omega))
  have hs6 : G ≤ w4.heap.size := by have := hb5.size; omega
  rw [HT.out]
  clear hb5 hb4 hf3
  clear hla hlb
  have fin : ∀ (W : World), Below w4.heap.size w4 W → Below w.heap.size w W := fun W h => by rw [HG.out]; exact hb6.trans (h.mono hs6)
  have FIN := Lib.hid fin; clear fin hb6
  by_cases hab : b < a
  · rcases HGT.out hab with h1 | ⟨h1, h2, h3, h4⟩
    · go_wp2_with fail
      refine (awake_any _).mono ?_
      rintro x w5 ⟨rfl, hb7⟩
      go_wp2
      go_ret
      exact ⟨rfl, FIN.out _ hb7⟩
    · go_wp2_with fail
      refine (awake_any _).mono ?_
      rintro x w5 ⟨rfl, hb7⟩
      go_wp2
      go_ret
      exact ⟨rfl, FIN.out _ hb7⟩
  · by_cases hlt' : a < b
    · have hne : ((a : Int) == (b : Int)) = false := by rw [beq_eq_false_iff_ne]; omega
      obtain ⟨h0, h1 | ⟨h1, h2, h3⟩⟩ := HLT.out hlt'
      all_goals
        go_wp2_with fail
        refine (awake_any _).mono ?_
        rintro x w5 ⟨rfl, hb7⟩
        go_wp2
        go_ret
        exact ⟨rfl, FIN.out _ hb7⟩
    · obtain rfl : a = b := by omega
      obtain rfl := HEQ.out rfl
      have h1 := Wm.less_irrefl s.toList
      go_wp2_with fail
      refine (awake_any _).mono ?_
      rintro x w5 ⟨rfl, hb7⟩
      go_wp2
      go_ret
      exact ⟨rfl, FIN.out _ hb7⟩

set_option maxRecDepth 100000 in
theorem lifted (os : Os) (started : os.Started) (H : Type) (enc : TypeId × Value → H) :
    ReturnsInHanded {} Try.checked os 5 .any (Rows.wireOrderSpec.pre6 enc Try.prog Try.f5 Rows.wireOrderRow.domain false) (Rows.wireOrderSpec.post enc Try.prog Try.f5 false true false false) := by
  refine returnsInHanded_of_change (C := Try.checked) own started (by kernel_rfl) Try.func5
    (ChangeSpec.witness6 (enc := enc) (C := Try.checked) false ⟨#[], #[.int .u64 0, .int .u64 0], []⟩ 8 (by kernel_rfl) (by kernel_rfl) (by kernel_rfl) (by kernel_rfl)) ?_
  intro W base args ds gs before hval0 hW hcnd _
  have hval : ∀ (j : Nat) t v, Try.f5.params[j]? = some t → args[j]? = some v → Value.okWide Try.prog W .any base t v := hval0
  have hW' := hW
  obtain ⟨p, q, hA0, hV, rfl, hfz, hnd⟩ := hW
  have hA : DataW.TrodAll enc Try.prog W 0 (fun _ => true) true Try.f5.params.toList args.toList ds p := hA0
  rw [Try.params5] at hA hval
  obtain ⟨v0, vs0, d0, ds0, p0, q0, hargs, rfl, rfl, h0, r0⟩ := trodAll_cons hA
  obtain ⟨v1, vs1, d1, ds1, p1, q1, rfl, rfl, rfl, h1, r1⟩ := trodAll_cons r0
  obtain ⟨rfl, rfl, rfl⟩ := trodAll_nil r1
  obtain rfl : args = #[v0, v1] := by cases args; simp_all
  obtain ⟨rfl, rfl⟩ := trodVars_none hV
  obtain ⟨a0, rfl, rfl, rfl, w0⟩ := open_int Try.underlying23 (hval 0 23 v0 rfl rfl) h0
  obtain ⟨a1, rfl, rfl, rfl, w1⟩ := open_int Try.underlying23 (hval 1 23 v1 rfl rfl) h1
  have b0 := bounds_u64 w0
  have b1 := bounds_u64 w1
  obtain ⟨a, rfl⟩ := Int.eq_ofNat_of_zero_le b0.1
  obtain ⟨b, rfl⟩ := Int.eq_ofNat_of_zero_le b1.1
  refine (walk a b (by omega) (by omega) W).mono fun e W' ⟨he, hg⟩ => ?_
  subst he
  exact ⟨_, rfl, law_post (tb := 4) hW' rfl (by kernel_rfl) Try.underlying4 (by rw [Try.params5]; decide +kernel) rfl hg⟩

theorem proved : Rows.WireOrderSaid :=
  OpenClaim.holds_of_wide 5 Try.f5 rfl rfl rfl rfl rfl rfl rfl ⟨rfl, rfl, rfl, rfl, rfl⟩ rfl rfl rfl rfl rfl (by kernel_rfl) Try.func5 (by kernel_rfl)
    (of_decide_eq_true (by kernel_rfl)) (by unfold Func.isWrapper; first | (rw [if_pos (by decide +kernel)]; kernel_rfl) | (rw [if_neg (by decide +kernel)]; exact ⟨rfl, rfl⟩))
    (fun os started H enc _ => lifted os started H enc)
#print axioms proved
end Go.Proofs.Ytfapnblajcfjfaa.wireOrder
