/- 'things are written as the page says': glacierlaw01.WireWrites returns true for every input. No condition. -/
import Derived.Test.YtfapnblajcfjfaaHe
import Derived.Test.YtfapnblajcfjfaaLw
import Derived.Test.YtfapnblajcfjfaaOt
import Derived.Test.YtfapnblajcfjfaaRows
import Derived.ProofKit
import Derived.OpenShut
namespace Go.Proofs.Ytfapnblajcfjfaa.wireWrites
open Go.ChangeShapes Go.WideShapes Go.ChangeAt Go.RowKit
open Go.ChangeMaps (open_string)
open Wm (num)

theorem own : ownKnob Try.prog.godebug = none := by kernel_rfl

set_option maxRecDepth 100000 in
set_option maxHeartbeats 4000000 in
theorem walk (A : Option Addr) (c : Nat) (l : List Th) (a b : Nat) (s t : ByteArray) (ha : a < 18446744073709551616) (hb : b < 18446744073709551616) (w : World) (hT : Things w w.heap.size A l) :
    Calls Try.prog 3 #[.slice A l.length c, .int .u64 (a : Nat), .int .u64 (b : Nat), .string s, .string t] w fun e w' => e = .returned (.bool true) ∧ Below w.heap.size w w' := by
  have hok0 : ∀ x ∈ l, x.ok w w.heap.size := fun x hx => by
    obtain ⟨i, hi, rfl⟩ := List.getElem_of_mem hx
    obtain ⟨_, _, _, _, h⟩ := hT i hi
    exact h
  have HOK := Lib.hid hok0; clear hok0
  have HTh := Lib.hid hT; clear hT
  go_enter Try.func3, Try.ntmps3
  go_wp2
  have h0 := Here.start w 0 w.heap.size rfl [] (by simp)
  have e0 : w.drewN 0 = w := rfl
  rw [e0] at h0
  clear e0
  generalize (w.alloc (.cells #[.pointer none, .int .i64 0] 26)).alloc (.cells #[.pointer none, .int .i64 0] 26) = W0 at *
  have H0 := Lib.hid h0; clear h0
  go_loopw [13, 14] (fun ss i wr => ∃ k : Nat, k ≤ l.length ∧ k ≤ 30 ∧ i = .int .i64 (k : Int) ∧ ss = .string ⟨(things (l.take k)).toArray⟩ ∧ Hid (Here w wr w.heap.size (w.heap.size + 2) [] (things (l.take k)) []))
    (fun _ i _ => 30 - (intOf i).toNat)
  case atStart => exact ⟨0, by omega, by omega, rfl, by simp [things], by simpa [things] using H0⟩
  case round =>
    obtain ⟨k, hk, hk30, rfl, rfl, HH⟩ := hrel
    by_cases hlt : k < l.length ∧ k < 30
    · obtain ⟨hlt, hlt30⟩ := hlt
      obtain ⟨ad, rfl, hadB, hc, hok⟩ := HTh.out.below HH.out.1 k hlt
      have HT := Lib.hid (things_take hlt)
      generalize l[k] = x at *
      obtain ⟨K, N, M, U, I, S, A', L, c'⟩ := x
      have q0 : wr.cell? (ad.add (k * 7)) = some (.int .i64 K) := hc 0 _ rfl
      have q1 : wr.cell? ⟨(ad.add (k * 7)).block, (ad.add (k * 7)).off + 1, none⟩ = some (.int .i64 N) := by rw [← addr_at ad (k * 7) 0]; exact hc 1 _ rfl
      have q2 : wr.cell? ⟨(ad.add (k * 7)).block, (ad.add (k * 7)).off + 2, none⟩ = some (.int .i64 M) := by rw [← addr_at ad (k * 7) 1]; exact hc 2 _ rfl
      have q3 : wr.cell? ⟨(ad.add (k * 7)).block, (ad.add (k * 7)).off + 3, none⟩ = some (.int .u64 (U : Nat)) := by rw [← addr_at ad (k * 7) 2]; exact hc 3 _ rfl
      have q4 : wr.cell? ⟨(ad.add (k * 7)).block, (ad.add (k * 7)).off + 4, none⟩ = some (.bool I) := by rw [← addr_at ad (k * 7) 3]; exact hc 4 _ rfl
      have q5 : wr.cell? ⟨(ad.add (k * 7)).block, (ad.add (k * 7)).off + 5, none⟩ = some (.string S) := by rw [← addr_at ad (k * 7) 4]; exact hc 5 _ rfl
      have q6 : wr.cell? ⟨(ad.add (k * 7)).block, (ad.add (k * 7)).off + 6, none⟩ = some (.slice A' L.length c') := by rw [← addr_at ad (k * 7) 5]; exact hc 6 _ rfl
      clear hc
      have hln : (things (l.take k)).length ≤ 6600 := by
        have := things_len w w.heap.size (l.take k) (fun x hx => HOK.out x (List.mem_of_mem_take hx))
        rw [List.length_take] at this
        omega
      have hxl := Th.bytes_len _ wr w.heap.size hok
      have hP := put_any w.heap.size (things (l.take k)) ⟨K, N, M, U, I, S, A', L, c'⟩ wr HH.out.a hok (by omega)
      clear hok
      generalize (Th.mk K N M U I S A' L c').bytes = y at *
      generalize things (l.take k) = X at *
      obtain ⟨s1, hs1⟩ : ∃ s1, (⟨X.toArray⟩ : ByteArray) = s1 := ⟨_, rfl⟩
      obtain ⟨s2, hs2⟩ : ∃ s2, (⟨y.toArray⟩ : ByteArray) = s2 := ⟨_, rfl⟩
      have hz1 : s1.size ≤ 6600 := by rw [← hs1, str_len]; exact hln
      have hz2 : s2.size ≤ 220 := by rw [← hs2, str_len]; exact hxl
      have he : (s1 ++ s2 : ByteArray) = ⟨(X ++ y).toArray⟩ := by rw [← hs1, ← hs2]; exact str_append _ _
      rw [hs1]
      unfold PutRet at hP
      rw [hs2] at hP
      have HE := Lib.hid he; clear he
      clear hs1 hs2
      unfold Th.val at hP
      go_wp2_with fail
      refine hP.mono ?_
      rintro z w1 ⟨rfl, hi, hg⟩
      have R := Lib.hid (HH.out.onA hg hi)
      clear hP hi hg HH q0 q1 q2 q3 q4 q5 q6
      go_wp2
      go_roundw
      case rel => exact ⟨k + 1, by omega, by omega, by go_num, by rw [HT.out, ← HE.out], by rw [HT.out]; exact R⟩
      case measure => simp [intOf]; omega
    · have hln : (things (l.take k)).length ≤ 6600 := by
        have := things_len w w.heap.size (l.take k) (fun x hx => HOK.out x (List.mem_of_mem_take hx))
        rw [List.length_take] at this
        omega
      generalize things (l.take k) = X at *
      have hex : (¬ k < l.length) ∨ (k < l.length ∧ ¬ k < 30) := by omega
      have hC1 := fun W => cut_any s 100 W
      have hC2 := fun W => cut_any t 100 W
      have hle1 := cutTo_le s 100
      have hle2 := cutTo_le t 100
      generalize cutTo s 100 = s' at *
      generalize cutTo t 100 = t' at *
      have hna := Wm.num_len a ha
      have hnb := Wm.num_len b hb
      have hts : (text s').length ≤ 110 := by unfold text; rw [List.length_append, size_list]; have := Wm.num_len s'.size (by omega); omega
      have htt : (text t').length ≤ 110 := by unfold text; rw [List.length_append, size_list]; have := Wm.num_len t'.size (by omega); omega
      obtain ⟨F, hF⟩ : ∃ F, (⟨(num a ++ num b ++ (text s' ++ text t') ++ [1, 0] ++ [3, 0]).toArray⟩ : ByteArray) = F := ⟨_, rfl⟩
      obtain ⟨Fa, hFa⟩ : ∃ F, (⟨(num a).toArray⟩ : ByteArray) = F := ⟨_, rfl⟩
      obtain ⟨Fb, hFb⟩ : ∃ F, (⟨(num b).toArray⟩ : ByteArray) = F := ⟨_, rfl⟩
      obtain ⟨Fs, hFs⟩ : ∃ F, (⟨(text s').toArray⟩ : ByteArray) = F := ⟨_, rfl⟩
      obtain ⟨Ft, hFt⟩ : ∃ F, (⟨(text t').toArray⟩ : ByteArray) = F := ⟨_, rfl⟩
      have z1 : Fa.size ≤ 10 := by rw [← hFa, str_len]; exact hna
      have z2 : Fb.size ≤ 10 := by rw [← hFb, str_len]; exact hnb
      have z3 : Fs.size ≤ 110 := by rw [← hFs, str_len]; exact hts
      have z4 : Ft.size ≤ 110 := by rw [← hFt, str_len]; exact htt
      have hfin : (F.toList == (Fa ++ Fb ++ Fs ++ Ft ++ (⟨#[1, 0, 3, 0]⟩ : ByteArray)).toList) = true := by
        rw [beq_iff_eq, ← hF, ← hFa, ← hFb, ← hFs, ← hFt]
        simp [ByteArray.toList_eq]
      obtain ⟨Q, hQ⟩ : ∃ Q, (⟨X.toArray⟩ : ByteArray) = Q := ⟨_, rfl⟩
      rw [hQ]
      have HQ := Lib.hid hQ; clear hQ
      have HF := Lib.hid hF; clear hF
      have HFa := Lib.hid hFa; clear hFa
      have HFb := Lib.hid hFb; clear hFb
      have HFs := Lib.hid hFs; clear hFs
      have HFt := Lib.hid hFt; clear hFt
      rcases hex with h1 | ⟨h1, h2⟩
      all_goals
        go_wp2_with fail
        refine (hC1 _).mono ?_
        rintro z W' ⟨rfl, rfl⟩
        go_wp2_with fail
        refine (hC2 _).mono ?_
        rintro z W' ⟨rfl, rfl⟩
        go_wp2_with fail
        refine (encU_any (w.heap.size + 1) _ [a, b] (by simp; omega) _ _ _ (HH.out.alloc _).b (Lies.new wr 23 #[.int .u64 (a : Nat), .int .u64 (b : Nat)] _ _ rfl rfl) (by simp)).mono ?_
        rintro z W1 ⟨rfl, hi, hg⟩
        have eu : [] ++ unums [a, b] = num a ++ num b := by simp [unums]
        rw [eu] at hi
        have R1 := Lib.hid ((HH.out.alloc (.cells #[.int .u64 (a : Nat), .int .u64 (b : Nat)] 23)).onB hg hi)
        clear hi hg HH eu
        go_wp2_with fail
        refine (encS_any (w.heap.size + 1) _ [s', t'] _ _ _ (R1.out.alloc _).b (Lies.new W1 9 #[.string s', .string t'] _ _ rfl rfl) (by simp [texts]; omega)).mono ?_
        rintro z W2 ⟨rfl, hi, hg⟩
        have eu : texts [s', t'] = text s' ++ text t' := by simp [texts]
        rw [eu] at hi
        have R2 := Lib.hid ((R1.out.alloc (.cells #[.string s', .string t'] 9)).onB hg hi)
        clear hi hg R1 eu
        go_wp2_with fail
        refine (encB_any (w.heap.size + 1) _ [true, false] _ _ _ (R2.out.alloc _).b (Lies.new W2 4 #[.bool true, .bool false] _ _ rfl rfl) (by simp; omega)).mono ?_
        rintro z W3 ⟨rfl, hi, hg⟩
        have eu : flags [true, false] = [1, 0] := by simp [flags, flag]
        rw [eu] at hi
        have R3 := Lib.hid ((R2.out.alloc (.cells #[.bool true, .bool false] 4)).onB hg hi)
        clear hi hg R2 eu
        go_wp2_with fail
        refine (encI_any (w.heap.size + 1) _ [3, -1] (by simp) _ _ _ (R3.out.alloc _).b (Lies.new W3 3 #[.int .i64 3, .int .i64 (-1)] _ _ rfl rfl) (by simp; omega)).mono ?_
        rintro z W4 ⟨rfl, hi, hg⟩
        have eu : nums [3, -1] = [3, 0] := by simp [nums, Wm.num_small]
        rw [eu] at hi
        have R4 := Lib.hid ((R3.out.alloc (.cells #[.int .i64 3, .int .i64 (-1)] 3)).onB hg hi)
        clear hi hg R3 eu
        go_wp2_with fail
        refine (awake_any W4).mono ?_
        rintro z W5 ⟨rfl, hb5⟩
        have R5 := R4.out.below hb5
        clear hb5 R4
        go_wp2_with fail
        refine (bytes_any w.heap.size _ W5 R5.a (by omega)).mono ?_
        rintro z W6 ⟨rfl, hb6⟩
        have R6 := R5.below hb6
        rw [HQ.out]
        clear hb6 R5
        go_wp2_with fail
        refine (bytes_any (w.heap.size + 1) _ W6 R6.b (by simp; omega)).mono ?_
        rintro z W7 ⟨rfl, hb7⟩
        have R7 := R6.below hb7
        rw [HF.out]
        clear hb7 R6
        go_wp2_with fail
        refine (refU_any a (by omega) W7).mono ?_
        rintro z W8 ⟨rfl, hb8⟩
        have R8 := R7.below hb8
        rw [HFa.out]
        clear hb8 R7
        go_wp2_with fail
        refine (refU_any b (by omega) W8).mono ?_
        rintro z W9 ⟨rfl, hb9⟩
        have R9 := R8.below hb9
        rw [HFb.out]
        clear hb9 R8
        go_wp2_with fail
        refine (refS_any s' (by omega) W9).mono ?_
        rintro z W10 ⟨rfl, hb10⟩
        have R10 := R9.below hb10
        rw [HFs.out]
        clear hb10 R9
        go_wp2_with fail
        refine (refS_any t' (by omega) W10).mono ?_
        rintro z W11 ⟨rfl, hb11⟩
        have R11 := R10.below hb11
        rw [HFt.out]
        clear hb11 R10
        go_wp2
        go_ret
        exact ⟨rfl, R11.1⟩

set_option maxRecDepth 100000 in
theorem lifted (os : Os) (started : os.Started) (H : Type) (enc : TypeId × Value → H) :
    ReturnsInHanded {} Try.checked os 3 .any (Rows.wireWritesSpec.pre6 enc Try.prog Try.f3 Rows.wireWritesRow.domain false) (Rows.wireWritesSpec.post enc Try.prog Try.f3 false true false false) := by
  refine returnsInHanded_of_change (C := Try.checked) own started (by kernel_rfl) Try.func3
    (ChangeSpec.witness6 (enc := enc) (C := Try.checked) false ⟨#[], #[.slice none 0 0, .int .u64 0, .int .u64 0, .string ⟨#[]⟩, .string ⟨#[]⟩], []⟩ 8 (by kernel_rfl) (by kernel_rfl) (by kernel_rfl) (by kernel_rfl)) ?_
  intro W base args ds gs before hval0 hW hcnd _
  have hval : ∀ (j : Nat) t v, Try.f3.params[j]? = some t → args[j]? = some v → Value.okWide Try.prog W .any base t v := hval0
  have hW' := hW
  obtain ⟨p, q, hA0, hV, rfl, hfz, hnd⟩ := hW
  have hA : DataW.TrodAll enc Try.prog W 0 (fun _ => true) true Try.f3.params.toList args.toList ds p := hA0
  rw [Try.params3] at hA hval
  obtain ⟨v0, vs0, d0, ds0, p0, q0, hargs, rfl, rfl, h0, r0⟩ := trodAll_cons hA
  obtain ⟨v1, vs1, d1, ds1, p1, q1, rfl, rfl, rfl, h1, r1⟩ := trodAll_cons r0
  obtain ⟨v2, vs2, d2, ds2, p2, q2, rfl, rfl, rfl, h2, r2⟩ := trodAll_cons r1
  obtain ⟨v3, vs3, d3, ds3, p3, q3, rfl, rfl, rfl, h3, r3⟩ := trodAll_cons r2
  obtain ⟨v4, vs4, d4, ds4, p4, q4, rfl, rfl, rfl, h4, r4⟩ := trodAll_cons r3
  obtain ⟨rfl, rfl, rfl⟩ := trodAll_nil r4
  obtain rfl : args = #[v0, v1, v2, v3, v4] := by cases args; simp_all
  obtain ⟨rfl, rfl⟩ := trodVars_none hV
  obtain ⟨A, c, l, rfl, hT⟩ := open_things (hval 0 22 v0 rfl rfl) h0
  obtain ⟨a1, rfl, rfl, rfl, w1⟩ := open_int Try.underlying23 (hval 1 23 v1 rfl rfl) h1
  obtain ⟨a2, rfl, rfl, rfl, w2⟩ := open_int Try.underlying23 (hval 2 23 v2 rfl rfl) h2
  obtain ⟨s3, rfl, rfl, rfl, hs3⟩ := open_string Try.underlying9 (hval 3 9 v3 rfl rfl) h3
  obtain ⟨s4, rfl, rfl, rfl, hs4⟩ := open_string Try.underlying9 (hval 4 9 v4 rfl rfl) h4
  have b1 := bounds_u64 w1
  have b2 := bounds_u64 w2
  obtain ⟨a, rfl⟩ := Int.eq_ofNat_of_zero_le b1.1
  obtain ⟨b, rfl⟩ := Int.eq_ofNat_of_zero_le b2.1
  refine (walk A c l a b s3 s4 (by omega) (by omega) W hT).mono fun e W' ⟨he, hg⟩ => ?_
  subst he
  exact ⟨_, rfl, law_post (tb := 4) hW' rfl (by kernel_rfl) Try.underlying4 (by rw [Try.params3]; decide +kernel) rfl hg⟩

theorem proved : Rows.WireWritesSaid :=
  OpenClaim.holds_of_wide 3 Try.f3 rfl rfl rfl rfl rfl rfl rfl ⟨rfl, rfl, rfl, rfl, rfl⟩ rfl rfl rfl rfl rfl (by kernel_rfl) Try.func3 (by kernel_rfl)
    (of_decide_eq_true (by kernel_rfl)) (by unfold Func.isWrapper; first | (rw [if_pos (by decide +kernel)]; kernel_rfl) | (rw [if_neg (by decide +kernel)]; exact ⟨rfl, rfl⟩))
    (fun os started H enc _ => lifted os started H enc)
#print axioms proved
end Go.Proofs.Ytfapnblajcfjfaa.wireWrites
