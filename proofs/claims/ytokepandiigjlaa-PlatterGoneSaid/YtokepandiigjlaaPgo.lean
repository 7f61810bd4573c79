/- 'a file that was removed is gone, or there again': glacierlaw04.PlatterGone returns true for every input. No condition. -/
import Derived.Test.YtokepandiigjlaaPre
import Derived.Test.YtokepandiigjlaaCu
import Derived.Test.YtokepandiigjlaaLw
import Derived.Test.YtokepandiigjlaaOp
import Derived.Test.YtokepandiigjlaaRows
import Derived.ProofKit
import Derived.OpenShut
namespace Go.Proofs.Ytokepandiigjlaa.platterGone
open Go.ChangeShapes Go.WideShapes Go.ChangeAt Go.RowKit Go.Sort
open Go.ChangeMaps (open_string)
open Pm (Key Fi St Files)
set_option linter.unusedVariables false

theorem own : ownKnob Try.prog.godebug = none := by kernel_rfl

/-- a crash by choices that came in -/
theorem crash_in {w : World} {B g m : Nat} {rm : Int} {lo : Bool} {lf : Int} {L : Files} (h : Has w B g m rm lo lf L) (hB : B ≤ w.heap.size) (hks : ∀ k ∈ Pm.keys L, k.length ≤ 140737488355328) (hLen : L.length ≤ 1000000) (hrm : (Pm.used L : Int) ≤ 140737488355328)
    (A : Option Addr) (c : Nat) (l : List Int) (hL : Lies w B A (ints l)) (hl : ∀ x ∈ l, -9223372036854775808 ≤ x ∧ x ≤ 9223372036854775807) (hlen : l.length ≤ 9223372036854775807) :
    Calls Try.prog 30 #[.pointer (some ⟨g, 0, none⟩), .slice A l.length c] w fun e w' => e = .returned (.tuple #[]) ∧ Has w' B g m rm lo lf (Pm.crashes (pickR l) (Pm.keys L) 0 L) ∧ Below B w w' := by
  refine crash_any h hB hks hLen hrm A c l _ rfl B hB hL ?_ hl hlen
  intro us G hd b hb ad hA hne
  have hpos : 0 < l.length := List.length_pos_iff.2 hne
  obtain ⟨ad', e1, e2, _⟩ := hL.int hpos
  rw [hA] at e1
  cases e1
  have h1 := hd.gB
  have h2 := hd.mB
  rcases hb with rfl | rfl <;> omega

/-- what a crash leaves of a file that was removed since it was synced -/
theorem gone_crash (S : List UInt8) (c : Int → Int → Int) : Pm.crashes c [fileA] 0 [(fileA, ⟨St.no, ⟨true, S⟩⟩)] = [] ∨ Pm.crashes c [fileA] 0 [(fileA, ⟨St.no, ⟨true, S⟩⟩)] = [(fileA, Pm.still ⟨true, S⟩)] := by
  have hs : (Fi.safe ⟨St.no, ⟨true, S⟩⟩) = false := by simp [Pm.Fi.safe, Pm.St.no]
  by_cases h0 : c 0 2 = 1
  · have hleft : Pm.left ⟨St.no, ⟨true, S⟩⟩ (c 0) = St.no := by
      unfold Pm.left
      simp only
      rw [if_neg (by simp [Pm.St.no]), if_pos h0]
    exact .inl (Pm.one_crash_gone c fileA hs (by rw [hleft]; rfl))
  · have hleft : Pm.left ⟨St.no, ⟨true, S⟩⟩ (c 0) = ⟨true, S⟩ := by
      unfold Pm.left
      simp only
      rw [if_neg (by simp [Pm.St.no]), if_neg h0]
    have := Pm.one_crash c fileA hs (by rw [hleft])
    rw [hleft] at this
    exact .inr this

set_option maxRecDepth 100000 in
set_option maxHeartbeats 2000000 in
theorem walk (s0 : ByteArray) (sy : Bool) (A : Option Addr) (c : Nat) (l : List Int) (w : World) (hL : Lies w w.heap.size A (ints l)) (hl : ∀ x ∈ l, -9223372036854775808 ≤ x ∧ x ≤ 9223372036854775807) (hlen : l.length ≤ 9223372036854775807) :
    Calls Try.prog 8 #[.string s0, .bool sy, .slice A l.length c] w fun e w' => e = .returned (.bool true) ∧ Below w.heap.size w w' := by
  have HL := Lib.hid hL; clear hL
  have hC1 := cut_any s0 60
  have hz1 := cutTo_le s0 60
  generalize cutTo s0 60 = o at *
  have hol : o.data.toList.length = o.size := by simp
  go_enter Try.func8, Try.ntmps8
  go_wp2_with fail
  refine (hC1 w).mono ?_
  rintro e w0 ⟨rfl, rfl⟩
  clear hC1
  go_wp2_with fail
  refine (new_any 1000 1000 (by omega) rfl w).mono ?_
  rintro e w1 ⟨g, m, rfl, h1, hb1⟩
  have hs1 := hb1.size
  generalize hB : w.heap.size = B at *
  have HB := Lib.hid hB; clear hB
  go_wp2_with fail
  refine (awake4_any w1).mono ?_
  rintro e w2 ⟨rfl, hb2⟩
  have H2 := Lib.hid (h1.below hb2)
  have HB2 := Lib.hid (hb1.trans (hb2.mono hs1))
  have hs2 : B ≤ w2.heap.size := Nat.le_trans hs1 hb2.size
  clear h1 hb1 hb2 hs1
  go_wp2_with fail
  refine (write_ok H2.out hs2 ⟨#[97]⟩ o (by decide) (by decide) (by show (0 : Int) + o.size ≤ _; omega) (by decide) (by show (o.size : Int) - 0 ≤ 1000 - 0; omega)).mono ?_
  rintro e w3 ⟨rfl, h3, hb3⟩
  rw [show Pm.set [] (⟨#[97]⟩ : ByteArray).data.toList ⟨⟨true, o.data.toList⟩, (Pm.fi [] (⟨#[97]⟩ : ByteArray).data.toList).sure⟩ = [(fileA, ⟨⟨true, o.data.toList⟩, .no⟩)] from rfl] at h3
  have hs3 : B ≤ w3.heap.size := Nat.le_trans h3.lt.2.2.1 (Nat.le_of_lt h3.lt.1)
  have H3 := Lib.hid h3
  have HB3 := Lib.hid (HB2.out.trans hb3)
  clear h3 hb3 H2 HB2 hs2
  go_wp2_with fail
  refine (syncall_ok H3.out hs3 (by rw [Pm.one_keys]; decide) (by simp)).mono ?_
  rintro e w4 ⟨rfl, h4, hb4⟩
  rw [Pm.one_keys, Pm.one_syncs fileA rfl] at h4
  have hs4 : B ≤ w4.heap.size := Nat.le_trans h4.lt.2.2.1 (Nat.le_of_lt h4.lt.1)
  have H4 := Lib.hid h4
  have HB4 := Lib.hid (HB3.out.trans hb4)
  clear h4 hb4 H3 HB3 hs3
  have hRM := remove_ok (H4.out.alloc (.cells #[.string ⟨#[97]⟩] 9)) (by simp; omega) (some ⟨w4.heap.size, 0, none⟩) 1 [fileA] 1 rfl (by simp) (w4.heap.size + 1) (by simp) (Lies.of_at (At.new w4 9 #[.string ⟨#[97]⟩]) rfl (by omega)) (by simp [fileA]) (by intro k hk; simp at hk; subst hk; rw [Pm.one_fi]; rfl) (by simp)
  have HRM := Lib.hid hRM
  clear hRM
  go_wp2_with fail
  refine HRM.out.mono ?_
  rintro e w5 ⟨rfl, h5, hb5⟩
  rw [show Pm.removes [fileA] [(fileA, Pm.still ⟨true, o.data.toList⟩)] = [(fileA, ⟨St.no, ⟨true, o.data.toList⟩⟩)] by
    unfold Pm.removes Pm.removes
    rw [Pm.one_fi]
    exact Pm.one_set _ _ rfl] at h5
  have hs5 : B ≤ w5.heap.size := Nat.le_trans h5.lt.2.2.1 (Nat.le_of_lt h5.lt.1)
  have H5 := Lib.hid h5
  have HB5 := Lib.hid (HB4.out.trans (((Below.refl B w4).alloc hs4 _).trans hb5))
  clear h5 hb5 H4 HB4 hs4 HRM
  have hus5 : Pm.used [(fileA, (⟨St.no, ⟨true, o.data.toList⟩⟩ : Fi))] ≤ 120 := by rw [Pm.one_used]; unfold Pm.Fi.weight; simp [Pm.St.no]; omega
  cases sy with
  | true =>
    go_wp2_with fail
    refine (sync_new H5.out hs5 ⟨#[97]⟩ (by decide) (by simp)).mono ?_
    rintro e w6 ⟨rfl, h6, hb6⟩
    rw [show (⟨#[97]⟩ : ByteArray).data.toList = fileA from rfl, Pm.one_syncs_gone fileA rfl] at h6
    have hs6 : B ≤ w6.heap.size := Nat.le_trans h6.lt.2.2.1 (Nat.le_of_lt h6.lt.1)
    have H6 := Lib.hid h6
    have HB6 := Lib.hid (HB5.out.trans hb6)
    have HL6 : Hid (Lies w6 B A (ints l)) := Lib.hid (by
      have h0 := HL.out
      exact h0.below HB6.out)
    clear h6 hb6 H5 HB5 hs5 hus5
    go_wp2_with fail
    refine (crash_in H6.out hs6 (by simp [Pm.keys]) (by simp) (by decide) A c l HL6.out hl hlen).mono ?_
    rintro e w7 ⟨rfl, h7, hb7⟩
    rw [show Pm.crashes (pickR l) (Pm.keys []) 0 [] = [] from rfl] at h7
    have hs7 : B ≤ w7.heap.size := Nat.le_trans h7.lt.2.2.1 (Nat.le_of_lt h7.lt.1)
    have H7 := Lib.hid h7
    have HB7 := Lib.hid (HB6.out.trans hb7)
    clear h7 hb7 H6 HB6 hs6 HL6
    go_wp2_with fail
    refine (read_ok H7.out hs7 ⟨#[97]⟩ (by decide)).mono ?_
    rintro e w8 ⟨he, h8, hb8⟩
    have he' : e = .returned (.tuple #[.string ⟨#[]⟩, .int .i64 5]) := by rw [he]; rfl
    subst he'
    clear he
    have H8 := Lib.hid h8
    have HB8 := Lib.hid (HB7.out.trans hb8)
    clear h8 hb8 H7 HB7 hs7
    go_wp2_with fail
    refine (has_used H8.out).mono ?_
    rintro e w9 ⟨he, rfl⟩
    have he' : e = .returned (.int .i64 0) := by rw [he]; rfl
    subst he'
    clear he
    go_wp2
    go_ret
    exact ⟨rfl, by rw [HB.out]; exact HB8.out⟩
  | false =>
    have HL5 : Hid (Lies w5 B A (ints l)) := Lib.hid (by
      have h0 := HL.out
      exact h0.below HB5.out)
    have hC := crash_in H5.out hs5 (by rw [Pm.one_keys]; decide) (by simp) (by omega) A c l HL5.out hl hlen
    rw [Pm.one_keys] at hC
    rcases gone_crash o.data.toList (pickR l) with hcr | hcr
    · rw [hcr] at hC
      have HC := Lib.hid hC
      clear hC hcr
      go_wp2_with fail
      refine HC.out.mono ?_
      rintro e w7 ⟨rfl, h7, hb7⟩
      have hs7 : B ≤ w7.heap.size := Nat.le_trans h7.lt.2.2.1 (Nat.le_of_lt h7.lt.1)
      have H7 := Lib.hid h7
      have HB7 := Lib.hid (HB5.out.trans hb7)
      clear h7 hb7 H5 HB5 HL5 hs5 HC
      go_wp2_with fail
      refine (read_ok H7.out hs7 ⟨#[97]⟩ (by decide)).mono ?_
      rintro e w8 ⟨he, h8, hb8⟩
      have he' : e = .returned (.tuple #[.string ⟨#[]⟩, .int .i64 5]) := by rw [he]; rfl
      subst he'
      clear he
      have H8 := Lib.hid h8
      have HB8 := Lib.hid (HB7.out.trans hb8)
      clear h8 hb8 H7 HB7 hs7
      go_wp2_with fail
      refine (has_used H8.out).mono ?_
      rintro e w9 ⟨he, rfl⟩
      have he' : e = .returned (.int .i64 0) := by rw [he]; rfl
      subst he'
      clear he
      go_wp2
      go_ret
      exact ⟨rfl, by rw [HB.out]; exact HB8.out⟩
    · rw [hcr] at hC
      have HC := Lib.hid hC
      clear hC hcr
      go_wp2_with fail
      refine HC.out.mono ?_
      rintro e w7 ⟨rfl, h7, hb7⟩
      have hs7 : B ≤ w7.heap.size := Nat.le_trans h7.lt.2.2.1 (Nat.le_of_lt h7.lt.1)
      have H7 := Lib.hid h7
      have HB7 := Lib.hid (HB5.out.trans hb7)
      clear h7 hb7 H5 HB5 HL5 hs5 HC
      have hR := read_ok H7.out hs7 ⟨#[97]⟩ (by decide)
      have hfi7 : Pm.fi [(fileA, Pm.still ⟨true, o.data.toList⟩)] (⟨#[97]⟩ : ByteArray).data.toList = Pm.still ⟨true, o.data.toList⟩ := Pm.one_fi _ _
      rw [hfi7, show (Pm.still ⟨true, o.data.toList⟩).now = ⟨true, o.data.toList⟩ from rfl, if_pos rfl] at hR
      simp only at hR
      rw [show (⟨o.data.toList.toArray⟩ : ByteArray) = o by simp] at hR
      have HR := Lib.hid hR
      clear hR hfi7
      go_wp2_with fail
      refine HR.out.mono ?_
      rintro e w8 ⟨rfl, h8, hb8⟩
      have HB8 := Lib.hid (HB7.out.trans hb8)
      clear h8 hb8 H7 HB7 hs7 HR
      have hoo : (o.toList == o.toList) = true := by simp
      go_wp2
      go_ret
      exact ⟨rfl, by rw [HB.out]; exact HB8.out⟩

set_option maxRecDepth 100000 in
theorem lifted (os : Os) (started : os.Started) (H : Type) (enc : TypeId × Value → H) :
    ReturnsInHanded {} Try.checked os 8 .any (Rows.platterGoneSpec.pre6 enc Try.prog Try.f8 Rows.platterGoneRow.domain false) (Rows.platterGoneSpec.post enc Try.prog Try.f8 false true false false) := by
  refine returnsInHanded_of_change (C := Try.checked) own started (by kernel_rfl) Try.func8
    (ChangeSpec.witness6 (enc := enc) (C := Try.checked) false ⟨#[], #[.string ⟨#[]⟩, .bool false, .slice none 0 0], []⟩ 8 (by kernel_rfl) (by kernel_rfl) (by kernel_rfl) (by kernel_rfl)) ?_
  intro W base args ds gs before hval0 hW hcnd _
  have hval : ∀ (j : Nat) t v, Try.f8.params[j]? = some t → args[j]? = some v → Value.okWide Try.prog W .any base t v := hval0
  have hW' := hW
  obtain ⟨p, q, hA0, hV, rfl, hfz, hnd⟩ := hW
  have hA : DataW.TrodAll enc Try.prog W 0 (fun _ => true) true Try.f8.params.toList args.toList ds p := hA0
  rw [Try.params8] at hA hval
  obtain ⟨v0, vs0, d0, ds0, p0, q0, hargs, rfl, rfl, h0, r0⟩ := trodAll_cons hA
  obtain ⟨v1, vs1, d1, ds1, p1, q1, rfl, rfl, rfl, h1, r1⟩ := trodAll_cons r0
  obtain ⟨v2, vs2, d2, ds2, p2, q2, rfl, rfl, rfl, h2, r2⟩ := trodAll_cons r1
  obtain ⟨rfl, rfl, rfl⟩ := trodAll_nil r2
  obtain rfl : args = #[v0, v1, v2] := by cases args; simp_all
  obtain ⟨rfl, rfl⟩ := trodVars_none hV
  obtain ⟨s0, rfl, rfl, rfl, hs0⟩ := open_string Try.underlying9 (hval 0 9 v0 rfl rfl) h0
  obtain ⟨b1, rfl, rfl, rfl⟩ := open_bool Try.underlying4 (hval 1 4 v1 rfl rfl) h1
  obtain ⟨A1, c1, l, rfl, hc2, hL2, hl2⟩ := open_list_ints Try.underlying35 Try.underlying3 (by kernel_rfl) (hval 2 35 v2 rfl rfl) h2
  refine (walk s0 b1 A1 c1 l W hL2 hl2 (slice_max Try.underlying35 h2)).mono fun e W' ⟨he, hg⟩ => ?_
  subst he
  exact ⟨_, rfl, law_post (tb := 4) hW' rfl (by kernel_rfl) Try.underlying4 (by rw [Try.params8]; decide +kernel) rfl hg⟩

theorem proved : Rows.PlatterGoneSaid :=
  OpenClaim.holds_of_wide 8 Try.f8 rfl rfl rfl rfl rfl rfl rfl ⟨rfl, rfl, rfl, rfl, rfl⟩ rfl rfl rfl rfl rfl (by kernel_rfl) Try.func8 (by kernel_rfl)
    (of_decide_eq_true (by kernel_rfl)) (by unfold Func.isWrapper; first | (rw [if_pos (by decide +kernel)]; kernel_rfl) | (rw [if_neg (by decide +kernel)]; exact ⟨rfl, rfl⟩))
    (fun os started H enc _ => lifted os started H enc)
#print axioms proved
end Go.Proofs.Ytokepandiigjlaa.platterGone
