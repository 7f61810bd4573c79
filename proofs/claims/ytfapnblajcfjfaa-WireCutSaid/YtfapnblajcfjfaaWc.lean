/- 'bytes of a text that are cut off lack bytes, wherever that is': glacierlaw01.WireCut returns true for every input. No condition. -/
import Derived.Test.YtfapnblajcfjfaaAw
import Derived.Test.YtfapnblajcfjfaaCu
import Derived.Test.YtfapnblajcfjfaaLw
import Derived.Test.YtfapnblajcfjfaaRows
import Derived.ProofKit
import Derived.OpenShut
namespace Go.Proofs.Ytfapnblajcfjfaa.wireCut
open Go.ChangeShapes Go.WideShapes Go.ChangeAt Go.RowKit
open Go.ChangeMaps (open_string)
open Wm (num tk)

theorem own : ownKnob Try.prog.godebug = none := by kernel_rfl

theorem cut_off (s : ByteArray) (hs : s.size ≤ 200) (c : Nat) (hc : c < (text s).length) : (tkS ((text s).take c) 200).2.1 = 2 ∧ (tkS ((text s).take c) 200).2.2 = [] := by
  unfold text at hc ⊢
  by_cases h : c < (num s.size).length
  · have e : tkI ((num s.size ++ s.data.toList).take c) 200 = ([], 2, 0) := by
      rw [List.take_append_of_le_length (by omega)]
      unfold tkI
      rw [Wm.tk_num_cut _ _ (by omega) h]
      rfl
    unfold tkS
    rw [e]
    exact ⟨rfl, rfl⟩
  · have e : tkI ((num s.size ++ s.data.toList).take c) 200 = (s.data.toList.take (c - (num s.size).length), 0, s.size) := by
      rw [List.take_append, List.take_of_length_le (by omega)]
      unfold tkI
      rw [Wm.tk_num _ _ (by omega), if_neg (by show ¬ 200 < s.size; omega)]
    have hl : (s.data.toList.take (c - (num s.size).length)).length < s.size := by
      rw [List.length_take]
      rw [List.length_append, size_list] at hc
      omega
    unfold tkS
    rw [e, if_neg (by simp), if_pos hl]
    exact ⟨rfl, rfl⟩

set_option maxHeartbeats 1000000 in
theorem walk (s0 : ByteArray) (cut : Int) (w : World) :
    Calls Try.prog 7 #[.string s0, .int .i64 cut] w fun e w' => e = .returned (.bool true) ∧ Below w.heap.size w w' := by
  have hle := cutTo_le s0 200
  have hC := cut_any s0 200 w
  generalize cutTo s0 200 = s at *
  have hoff := Lib.hid (cut_off s hle)
  have hlen : (text s).length = (num s.size).length + s.size := by unfold text; rw [List.length_append, size_list]
  have hnl := Wm.num_len s.size (by omega)
  obtain ⟨t, ht⟩ : ∃ t, (⟨(text s).toArray⟩ : ByteArray) = t := ⟨_, rfl⟩
  obtain ⟨htz, htl⟩ := list_of_string ht
  have htb : t.size ≤ 300 := by omega
  have HT := Lib.hid ht; clear ht
  have HZ := Lib.hid htz; clear htz
  have HL := Lib.hid htl; clear htl
  have HN := Lib.hid hlen; clear hlen
  go_enter Try.func7, Try.ntmps7
  go_wp2_with fail
  refine hC.mono ?_
  rintro x w' ⟨rfl, rfl⟩
  clear hC
  go_wp2_with fail
  have hb0 : Below w.heap.size w (w.alloc (.cells #[.pointer none, .int .i64 0] 26)) := (Below.refl _ w).alloc (Nat.le_refl _) _
  have he0 := EncIs.new w
  have hz0 : (w.alloc (.cells #[.pointer none, .int .i64 0] 26)).heap.size = w.heap.size + 1 := by simp
  generalize w.alloc (.cells #[.pointer none, .int .i64 0] 26) = w0 at *
  have Z0 := Lib.hid hz0; clear hz0
  generalize hG : w.heap.size = G at *
  have HG := Lib.hid hG; clear hG
  refine (encS_any G [] [s] _ _ _ (he0.alloc _) (Lies.new w0 9 #[.string s] _ _ Z0.out.symm rfl) (by simp [texts]; have := HN.out; omega)).mono ?_
  rintro x w1 ⟨rfl, he1, hg1⟩
  obtain ⟨hb1, hs1⟩ := EncRet.then hb0 (by rw [Z0.out]; omega) (Nat.le_refl _) hg1
  have eu : [] ++ texts [s] = text s := by simp [texts]
  rw [eu] at he1
  clear eu hg1 he0 hb0
  go_wp2_with fail
  refine (bytes_any G _ w1 he1 (by have := HN.out; omega)).mono ?_
  rintro x w2 ⟨rfl, hb2⟩
  have hb3 := hb1.trans (hb2.mono (by omega))
  have hs3 : G ≤ w2.heap.size := by have := hb2.size; omega
  rw [HT.out]
  clear hb2 hb1 he1
  go_wp2_with fail
  refine (awake_any _).mono ?_
  rintro x w3 ⟨rfl, hb4⟩
  have hb5 := hb3.trans (hb4.mono hs3)
  have hs5 : G ≤ w3.heap.size := by have := hb4.size; omega
  clear hb4 hb3
  have fin : ∀ (W : World), Below w3.heap.size w3 W → Below w.heap.size w W := fun W h => by rw [HG.out]; exact hb5.trans (h.mono hs5)
  have FIN := Lib.hid fin; clear fin hb5
  by_cases h1 : cut < 0
  · go_wp2_with fail
    refine (awake_any _).mono ?_
    rintro x w4 ⟨rfl, hb4⟩
    go_wp2
    go_ret
    exact ⟨rfl, FIN.out _ hb4⟩
  · by_cases h2 : (t.size : Int) ≤ cut
    · go_wp2_with fail
      refine (awake_any _).mono ?_
      rintro x w4 ⟨rfl, hb4⟩
      go_wp2
      go_ret
      exact ⟨rfl, FIN.out _ hb4⟩
    · obtain ⟨c, rfl⟩ := Int.eq_ofNat_of_zero_le (by omega : 0 ≤ cut)
      have hcl : c ≤ t.size := by omega
      obtain ⟨o1, o2⟩ := hoff.out c (by have := HZ.out; omega)
      have etk : (t.extract 0 c).data.toList = (text s).take c := by rw [Lib.extract_data, HL.out]; simp
      have hxs : (t.extract 0 c).size ≤ 140737488355328 := by rw [ByteArray.size_extract]; omega
      have hxl : ((text s).take c).length ≤ 140737488355328 := by rw [List.length_take]; have := HZ.out; omega
      have ETK := Lib.hid etk; clear etk
      have O1 := Lib.hid o1; clear o1
      have O2 := Lib.hid o2; clear o2
      go_wp2_with fail
      refine (from_any _ _ hxs).mono ?_
      rintro x w4 ⟨g, rfl, hg4, hd4, hb4⟩
      rw [ETK.out] at hd4
      go_wp2_with fail
      refine (decS_any g _ 200 w4 hd4 (by omega) hxl).mono ?_
      rintro x w5 ⟨rfl, hd5, hg5⟩
      have e200 : (200 : Int).toNat = 200 := rfl
      rw [e200, O1.out] at hd5
      rw [e200, O2.out]
      have hb6 := FIN.out _ (below_of_grownBy hb4 hg5 (by have := hb4.size; omega) hg4)
      clear hg5 hd4 hb4 e200
      go_wp2_with fail
      refine (err_any g _ _ w5 hd5).mono ?_
      rintro x w6 ⟨rfl, rfl⟩
      go_wp2
      go_ret
      exact ⟨rfl, hb6⟩

set_option maxRecDepth 100000 in
theorem lifted (os : Os) (started : os.Started) (H : Type) (enc : TypeId × Value → H) :
    ReturnsInHanded {} Try.checked os 7 .any (Rows.wireCutSpec.pre6 enc Try.prog Try.f7 Rows.wireCutRow.domain false) (Rows.wireCutSpec.post enc Try.prog Try.f7 false true false false) := by
  refine returnsInHanded_of_change (C := Try.checked) own started (by kernel_rfl) Try.func7
    (ChangeSpec.witness6 (enc := enc) (C := Try.checked) false ⟨#[], #[.string ⟨#[]⟩, .int .i64 0], []⟩ 8 (by kernel_rfl) (by kernel_rfl) (by kernel_rfl) (by kernel_rfl)) ?_
  intro W base args ds gs before hval0 hW hcnd _
  have hval : ∀ (j : Nat) t v, Try.f7.params[j]? = some t → args[j]? = some v → Value.okWide Try.prog W .any base t v := hval0
  have hW' := hW
  obtain ⟨p, q, hA0, hV, rfl, hfz, hnd⟩ := hW
  have hA : DataW.TrodAll enc Try.prog W 0 (fun _ => true) true Try.f7.params.toList args.toList ds p := hA0
  rw [Try.params7] at hA hval
  obtain ⟨v0, vs0, d0, ds0, p0, q0, hargs, rfl, rfl, h0, r0⟩ := trodAll_cons hA
  obtain ⟨v1, vs1, d1, ds1, p1, q1, rfl, rfl, rfl, h1, r1⟩ := trodAll_cons r0
  obtain ⟨rfl, rfl, rfl⟩ := trodAll_nil r1
  obtain rfl : args = #[v0, v1] := by cases args; simp_all
  obtain ⟨rfl, rfl⟩ := trodVars_none hV
  obtain ⟨s, rfl, rfl, rfl, hs⟩ := open_string Try.underlying9 (hval 0 9 v0 rfl rfl) h0
  obtain ⟨a1, rfl, rfl, rfl, w1⟩ := open_int Try.underlying3 (hval 1 3 v1 rfl rfl) h1

  refine (walk s a1 W).mono fun e W' ⟨he, hg⟩ => ?_
  subst he
  exact ⟨_, rfl, law_post (tb := 4) hW' rfl (by kernel_rfl) Try.underlying4 (by rw [Try.params7]; decide +kernel) rfl hg⟩

theorem proved : Rows.WireCutSaid :=
  OpenClaim.holds_of_wide 7 Try.f7 rfl rfl rfl rfl rfl rfl rfl ⟨rfl, rfl, rfl, rfl, rfl⟩ rfl rfl rfl rfl rfl (by kernel_rfl) Try.func7 (by kernel_rfl)
    (of_decide_eq_true (by kernel_rfl)) (by unfold Func.isWrapper; first | (rw [if_pos (by decide +kernel)]; kernel_rfl) | (rw [if_neg (by decide +kernel)]; exact ⟨rfl, rfl⟩))
    (fun os started H enc _ => lifted os started H enc)
#print axioms proved
end Go.Proofs.Ytfapnblajcfjfaa.wireCut
