/- 'it is written at its end alone': glacierlaw05.ReelEnd returns true for every input. No condition. -/
import Derived.Test.YtchpdeogmbbjgaaVx
import Derived.Test.YtchpdeogmbbjgaaCu
import Derived.Test.YtchpdeogmbbjgaaLw
import Derived.Test.YtchpdeogmbbjgaaOp
import Derived.Test.YtchpdeogmbbjgaaRows
import Derived.Deep.DeepCutAuto
import Derived.ProofKit
import Derived.OpenShut
namespace Go.Proofs.Ytchpdeogmbbjgaa.reelEnd
open Go.ChangeShapes Go.WideShapes Go.ChangeAt Go.RowKit
open Go.ChangeMaps (open_string)
set_option linter.unusedVariables false

theorem own : ownKnob Try.prog.godebug = none := by kernel_rfl

set_option maxRecDepth 100000 in
set_option maxHeartbeats 4000000 in
theorem walk (A : Option Addr) (c : Nat) (l : List ByteArray) (at_ : Int) (s0 : ByteArray) (w : World) (hL : Lies w w.heap.size A (l.map Value.string)) (hlen : l.length ≤ 9223372036854775807) :
    Calls Try.prog 5 #[.slice A l.length c, .int .i64 at_, .string s0] w fun e w' => e = .returned (.bool true) ∧ Below w.heap.size w w' := by
  have HL := Lib.hid hL; clear hL
  obtain ⟨N, hN⟩ : ∃ N, N = min l.length 8 := ⟨_, rfl⟩
  have hN8 : N ≤ 8 := by omega
  have hNl : N ≤ l.length := by omega
  have HN := Lib.hid hN
  clear hN
  go_enter Try.func5, Try.ntmps5
  go_wp2_with fail
  refine (new_vol 100000 100000 (by omega) rfl w).mono ?_
  rintro e w1 ⟨g, rfl, h1, hb1⟩
  have hs1 := hb1.size
  generalize hB : w.heap.size = B at *
  have HB := Lib.hid hB; clear hB
  go_wp2_with fail
  refine (awake5_any w1).mono ?_
  rintro e w2 ⟨rfl, hb2⟩
  have H2 := Lib.hid (h1.below hb2)
  have HB2 := Lib.hid (hb1.trans (hb2.mono hs1))
  clear h1 hb1 hb2 hs1
  go_upto_region 4 with fail
  go_cut [8] (fun n wx => n = .int .i64 (N : Int) ∧ wx = w2)
  case first =>
    go_wp2_with fail
    all_goals
      go_meet
      exact ⟨by have := HN.out; congr 1; omega, rfl⟩
  case rest =>
  obtain ⟨rfl, rfl⟩ := hcut
  clear HN
  go_wp2
  go_loopw [9] (fun i wr => ∃ (k : Nat) (s : VS) (ts : List ByteArray), k ≤ N ∧ i = .int .i64 (k : Int) ∧ ts.length = k ∧ Hid (s.Has ts) ∧ Hid (Vol wr B g s) ∧ Hid (Below B w wr))
    (fun i _ => N - (intOf i).toNat)
  case atStart => exact ⟨0, VS.new 100000, [], by omega, rfl, rfl, Lib.hid .new, H2, HB2⟩
  case round =>
    clear H2 HB2
    obtain ⟨k, s, ts, hk, rfl, htl, HS, HV, HBW⟩ := hrel
    by_cases hlt : k < N
    · obtain ⟨ad, rfl, _, hc⟩ := Lies.str (HL.out.below HBW.out) (k := k) (by omega)
      generalize l[k] = x at *
      have hC := cut_any x 30 wr
      have hz := cutTo_le x 30
      generalize cutTo x 30 = t at *
      have hadd := HS.out.add (by omega) t (by omega)
      have hW := write_vol HV.out t (by omega) (by rw [HS.out.length]; omega)
      rw [hadd.1] at hW
      have HHas := Lib.hid hadd.2
      have HTL := Lib.hid htl
      clear hadd htl
      go_wp2_with fail
      refine hC.mono ?_
      rintro e w3 ⟨rfl, rfl⟩
      clear hC
      go_wp2_with fail
      refine hW.mono ?_
      rintro e w3 ⟨rfl, h3, st3⟩
      have H3 : Hid (Vol w3 B g { s with l := s.l ++ [Blk.mk t false false], pos := s.pos + 1 }) := Lib.hid h3
      have HB3 := Lib.hid (HBW.out.trans st3.below)
      clear h3 st3 hW HV HBW hc HS
      go_wp2
      go_roundw
      case rel => exact ⟨k + 1, { s with l := s.l ++ [Blk.mk t false false], pos := s.pos + 1 }, ts ++ [t], by omega, by go_num, by rw [List.length_append, HTL.out]; rfl, HHas, H3, HB3⟩
      case measure => simp [intOf]; omega
    · obtain rfl : k = N := by omega
      have hlk : s.l.length = k := by rw [HS.out.length, htl]
      have hpk : s.pos = k := by rw [HS.out.fresh.pos, hlk]
      have hseek := HS.out.fresh.calm.seek at_
      rw [hlk] at hseek
      have hcm := HS.out.fresh.calm
      have hSK := seek_vol HV.out at_
      rw [hseek] at hSK
      have HLK := Lib.hid hlk
      have HPK := Lib.hid hpk
      clear hlk hpk hseek htl
      by_cases hbad : at_ < 0 ∨ (k : Int) < at_
      · rw [if_pos hbad] at hSK
        by_cases hneg : at_ < 0
        · go_wp2_with fail
          refine hSK.mono ?_
          rintro e w3 ⟨rfl, h3, st3⟩
          have hA := at_vol h3
          simp only [HPK.out] at hA
          have HB3 := Lib.hid (HBW.out.trans st3.below)
          clear h3 st3 hSK HV HBW
          go_wp2_with fail
          refine hA.mono ?_
          rintro e w4 ⟨rfl, rfl⟩
          clear hA
          go_wp2
          go_ret
          exact ⟨rfl, by rw [HB.out]; exact HB3.out⟩
        · have hbig : (k : Int) < at_ := by omega
          go_wp2_with fail
          refine hSK.mono ?_
          rintro e w3 ⟨rfl, h3, st3⟩
          have hA := at_vol h3
          simp only [HPK.out] at hA
          have HB3 := Lib.hid (HBW.out.trans st3.below)
          clear h3 st3 hSK HV HBW
          go_wp2_with fail
          refine hA.mono ?_
          rintro e w4 ⟨rfl, rfl⟩
          clear hA
          go_wp2
          go_ret
          exact ⟨rfl, by rw [HB.out]; exact HB3.out⟩
      · rw [if_neg hbad] at hSK
        have hU0 := used_vol HV.out
        have hC := fun W => cut_any s0 30 W
        have hz := cutTo_le s0 30
        generalize cutTo s0 30 = t at *
        have hcm2 : VS.Calm { s with pos := at_.toNat } := ⟨hcm.lo, hcm.lf, hcm.pr⟩
        have hsz : wsum s.l ≤ 6400 := by
          have h1 := texts_sum HS.out.short
          rw [← HS.out.l] at h1
          have h2 := HS.out.length
          have h3 := HLK.out
          have h4 : ts.length * (60 + 4) ≤ 8 * 64 := Nat.mul_le_mul (by omega) (by omega)
          omega
        obtain ⟨q, rfl⟩ := Int.eq_ofNat_of_zero_le (show 0 ≤ at_ by omega)
        rw [Int.toNat_natCast] at hSK hcm2
        have hSK : Calls Try.prog 15 #[.pointer (some ⟨g, 0, none⟩), .int .i64 (q : Int)] wr (VolEnds wr B g ({ s with pos := q }, 0)) := hSK
        have hqk : q ≤ k := by omega
        clear hbad
        have HWR : Hid (∀ W, Vol W B g { s with pos := q } → Calls Try.prog 20 #[.pointer (some ⟨g, 0, none⟩), .string t] W (VolEnds W B g (VS.add { s with pos := q } ⟨t, false, false⟩))) := Lib.hid fun W h => write_vol h t (by omega) (by show s.l.length < 1000000; rw [HLK.out]; omega)
        by_cases hlo : q < k
        · have hres : VS.add { s with pos := q } ⟨t, false, false⟩ = ({ s with pos := q }, 16) := by
            rw [hcm2.add, if_pos (.inl (by show q < s.l.length; rw [HLK.out]; exact hlo))]
          rw [hres] at HWR
          obtain ⟨u, hu⟩ : ∃ u, wsum s.l = u := ⟨_, rfl⟩
          rw [hu] at hU0
          have HU := Lib.hid hu
          clear hres hu hcm hcm2 hsz
          go_wp2_with fail
          refine hU0.mono ?_
          rintro e w3 ⟨rfl, rfl⟩
          clear hU0
          go_wp2_with fail
          refine hSK.mono ?_
          rintro e w3 ⟨rfl, h3, st3⟩
          have H3 := Lib.hid h3
          have HB3 := Lib.hid (HBW.out.trans st3.below)
          clear h3 st3 hSK HBW HV
          go_wp2_with fail
          refine (hC _).mono ?_
          rintro e w4 ⟨rfl, rfl⟩
          go_wp2_with fail
          refine (HWR.out _ H3.out).mono ?_
          rintro e w4 ⟨rfl, h4, st4⟩
          have hLn := len_vol h4
          have hUs := used_vol h4
          simp only [HLK.out, HU.out] at hLn hUs
          have HB4 := Lib.hid (HB3.out.trans st4.below)
          clear h4 st4 H3 HB3 HWR hC
          go_wp2_with fail
          refine hLn.mono ?_
          rintro e w5 ⟨rfl, rfl⟩
          go_wp2_with fail
          refine hUs.mono ?_
          rintro e w5 ⟨rfl, rfl⟩
          clear hLn hUs
          go_wp2
          go_ret
          exact ⟨rfl, by rw [HB.out]; exact HB4.out⟩
        · obtain rfl : q = k := by omega
          have hres : VS.add { s with pos := q } ⟨t, false, false⟩ = ({ s with l := s.l ++ [Blk.mk t false false], pos := q + 1 }, 0) := by
            have e2 : Blk.wt ⟨t, false, false⟩ = t.size + 4 := rfl
            have e3 := HS.out.fresh.rm
            rw [hcm2.add_end _ (by show q = s.l.length; rw [HLK.out]) HS.out.fresh.torn (by show ((wsum s.l : Nat) : Int) + _ ≤ s.rm; rw [e2, e3]; omega)]
          rw [hres] at HWR
          obtain ⟨u, hu⟩ : ∃ u, wsum s.l = u := ⟨_, rfl⟩
          rw [hu] at hU0
          clear hres hu hcm hcm2 hsz
          have hll : (s.l ++ [Blk.mk t false false]).length = q + 1 := by rw [List.length_append, HLK.out]; rfl
          have HLL := Lib.hid hll; clear hll
          go_wp2_with fail
          refine hU0.mono ?_
          rintro e w3 ⟨rfl, rfl⟩
          clear hU0
          go_wp2_with fail
          refine hSK.mono ?_
          rintro e w3 ⟨rfl, h3, st3⟩
          have H3 := Lib.hid h3
          have HB3 := Lib.hid (HBW.out.trans st3.below)
          clear h3 st3 hSK HBW HV
          go_wp2_with fail
          refine (hC _).mono ?_
          rintro e w4 ⟨rfl, rfl⟩
          go_wp2_with fail
          refine (HWR.out _ H3.out).mono ?_
          rintro e w4 ⟨rfl, h4, st4⟩
          have hLn := len_vol h4
          simp only [HLL.out] at hLn
          have HB4 := Lib.hid (HB3.out.trans st4.below)
          clear h4 st4 H3 HB3 HWR hC
          go_wp2_with fail
          refine hLn.mono ?_
          rintro e w5 ⟨rfl, rfl⟩
          clear hLn
          go_wp2
          go_ret
          exact ⟨rfl, by rw [HB.out]; exact HB4.out⟩

set_option maxRecDepth 100000 in
theorem lifted (os : Os) (started : os.Started) (H : Type) (enc : TypeId × Value → H) :
    ReturnsInHanded {} Try.checked os 5 .any (Rows.reelEndSpec.pre6 enc Try.prog Try.f5 Rows.reelEndRow.domain false) (Rows.reelEndSpec.post enc Try.prog Try.f5 false true false false) := by
  refine returnsInHanded_of_change (C := Try.checked) own started (by kernel_rfl) Try.func5
    (ChangeSpec.witness6 (enc := enc) (C := Try.checked) false ⟨#[], #[.slice none 0 0, .int .i64 0, .string ⟨#[]⟩], []⟩ 8 (by kernel_rfl) (by kernel_rfl) (by kernel_rfl) (by kernel_rfl)) ?_
  intro W base args ds gs before hval0 hW hcnd _
  have hval : ∀ (j : Nat) t v, Try.f5.params[j]? = some t → args[j]? = some v → Value.okWide Try.prog W .any base t v := hval0
  have hW' := hW
  obtain ⟨p, q, hA0, hV, rfl, hfz, hnd⟩ := hW
  have hA : DataW.TrodAll enc Try.prog W 0 (fun _ => true) true Try.f5.params.toList args.toList ds p := hA0
  rw [Try.params5] at hA hval
  obtain ⟨v0, vs0, d0, ds0, p0, q0, hargs, rfl, rfl, h0, r0⟩ := trodAll_cons hA
  obtain ⟨v1, vs1, d1, ds1, p1, q1, rfl, rfl, rfl, h1, r1⟩ := trodAll_cons r0
  obtain ⟨v2, vs2, d2, ds2, p2, q2, rfl, rfl, rfl, h2, r2⟩ := trodAll_cons r1
  obtain ⟨rfl, rfl, rfl⟩ := trodAll_nil r2
  obtain rfl : args = #[v0, v1, v2] := by cases args; simp_all
  obtain ⟨rfl, rfl⟩ := trodVars_none hV
  obtain ⟨A1, c1, l, rfl, hc0, hL0⟩ := open_texts Try.underlying57 Try.underlying9 (by kernel_rfl) (hval 0 57 v0 rfl rfl) h0
  obtain ⟨a1, rfl, rfl, rfl, w1⟩ := open_int Try.underlying3 (hval 1 3 v1 rfl rfl) h1
  obtain ⟨s2, rfl, rfl, rfl, hs2⟩ := open_string Try.underlying9 (hval 2 9 v2 rfl rfl) h2
  refine (walk A1 c1 l a1 s2 W hL0 (slice_max Try.underlying57 h0)).mono fun e W' ⟨he, hg⟩ => ?_
  subst he
  exact ⟨_, rfl, law_post (tb := 4) hW' rfl (by kernel_rfl) Try.underlying4 (by rw [Try.params5]; decide +kernel) rfl hg⟩

theorem proved : Rows.ReelEndSaid :=
  OpenClaim.holds_of_wide 5 Try.f5 rfl rfl rfl rfl rfl rfl rfl ⟨rfl, rfl, rfl, rfl, rfl⟩ rfl rfl rfl rfl rfl (by kernel_rfl) Try.func5 (by kernel_rfl)
    (of_decide_eq_true (by kernel_rfl)) (by unfold Func.isWrapper; first | (rw [if_pos (by decide +kernel)]; kernel_rfl) | (rw [if_neg (by decide +kernel)]; exact ⟨rfl, rfl⟩))
    (fun os started H enc _ => lifted os started H enc)
#print axioms proved
end Go.Proofs.Ytchpdeogmbbjgaa.reelEnd
