/- Yn: merged (a claim holds few files). -/
import Derived.Test.YtplmflagffloeaaDoorM14
import Derived.Deep.DeepCutAuto
import Derived.Deep.CutBlock
import Derived.Deep.QuietTactic
import Derived.BigQuiet
/- glacierlaw09.TermParts: its walk. -/
namespace Go.Proofs.YtplmflagffloeaaDoor
open Go.RowKit
open Sm
open Wm (num)
open Pm (Key St)
set_option linter.unusedVariables false
set_option linter.unusedSimpArgs false

/-- the terms, as the law takes them -/
def tmOf (l : List Int) (i : Nat) : Nat := (min (max (l.getD i 0) 0) 100).toNat
theorem tmOf_le (l : List Int) (i : Nat) : tmOf l i ≤ 100 := by unfold tmOf; omega
theorem tmOf_eq {l : List Int} {i : Nat} (h : i < l.length) : min (max l[i] 0) 100 = (tmOf l i : Int) := by
  unfold tmOf
  rw [List.getD_eq_getElem?_getD, List.getElem?_eq_getElem h]
  simp only [Option.getD_some]
  omega

set_option maxRecDepth 100000 in
set_option maxHeartbeats 8000000 in
theorem walk_tparts (A : Option Addr) (cap : Nat) (cmds : List ByteArray) (A2 : Option Addr) (cap2 : Nat) (tms : List Int) (n most : Int) (w : World) (hS : Steps w) (hL : Lies w w.heap.size A (strs cmds)) (hL2 : Lies w w.heap.size A2 (ints tms)) : Calls Tryd.prog 5 #[.slice A cmds.length cap, .slice A2 tms.length cap2, .int .i64 n, .int .i64 most] w fun e w' => e = .returned (.bool true) ∧ Below w.heap.size w w' := by
  obtain ⟨i0, hie, hz0, hz1, hz2⟩ := info_parts info_en
  have hN := newX 100000 100000 (by omega) rfl w
  obtain ⟨B, hB⟩ : ∃ B, w.heap.size = B := ⟨_, rfl⟩
  have hS0 := hS.1
  rw [hB] at hN hS0 hL hL2 ⊢
  have HST : Hid (∀ W, Below B w W → Steps W) := Lib.hid fun W h => hS.below h hS0
  have HL := Lib.hid hL
  have HL2 := Lib.hid hL2
  have hCu : ∀ s W, Calls Tryd.prog 9 #[.string s, .int .i64 20] W fun e w' => e = .returned (.string (cutTo s 20)) ∧ W = w' := fun s W => cut_any s 20 W
  have HCU := Lib.hid hCu
  have hc3 := en_cells
  obtain ⟨N, hNN⟩ : ∃ N : Nat, min (min cmds.length tms.length) 10 = N := ⟨_, rfl⟩
  clear hS hL hL2 hCu
  go_enter Tryd.func5, Tryd.ntmps5
  go_wp2_with fail
  refine hN.mono ?_
  rintro e w1 ⟨g, m, rfl, hT1, hb1⟩
  have hAw := awake_any w1 (HST.out _ hb1)
  have HT1 := Lib.hid hT1
  have HB1 := Lib.hid hb1
  clear hN hT1 hb1
  go_wp2_with fail
  refine hAw.mono ?_
  rintro e w2 ⟨rfl, hb2⟩
  have hT2 := HT1.out.below hb2
  have hs1 := HB1.out.size
  have hb2 := HB1.out.trans (hb2.mono (by omega))
  have hs2 := hb2.size
  have G2 : Hid (LM w B g m 100000 (entsOf (tmOf tms) 20 (cmds.take 0)) (.slice (some ⟨w2.heap.size, 0, none⟩) 0 0) (w2.alloc (.cells #[] 30))) := Lib.hid ⟨hT2.alloc _, by
    have := row_empty w2 30 3
    exact ⟨this.1, this.2.imp id fun ⟨k, cap, cur, h1, h2, h3⟩ => ⟨k, cap, cur, h1, by omega, h3⟩⟩, hb2.alloc (by omega) _⟩
  clear hAw hT2 hb2 HT1 HB1
  go_upto_block 0 with fail
  go_cut [10] (fun lv wx => ∃ (k ge ce : Nat) (es : List En), k ≤ 10 ∧ lv = .slice (some ⟨ge, 0, none⟩) k ce ∧ k ≤ ce ∧ es.length = k ∧ Hid (∀ x ∈ es, x.ok) ∧ Hid (behind es 0 = es) ∧ (logOf es).length ≤ 680 ∧ Hid (LM w B g m 100000 es lv wx))
  case first =>
    go_wp2_with fail
    go_loopw [10, 11] (fun lv i wr => ∃ k ge ce : Nat, k ≤ N ∧ i = .int .i64 (k : Int) ∧ lv = .slice (some ⟨ge, 0, none⟩) k ce ∧ k ≤ ce ∧ Hid (LM w B g m 100000 (entsOf (tmOf tms) 20 (cmds.take k)) lv wr))
      (fun _ i _ => N - (intOf i).toNat)
    case atStart => exact ⟨0, _, 0, by omega, rfl, rfl, by omega, G2⟩
    case round =>
      clear G2
      obtain ⟨k, ge, ce, hk, rfl, rfl, hke, HG⟩ := hrel
      by_cases hlt : k < N
      · have hkc : k < cmds.length := by omega
        have hkt : k < tms.length := by omega
        have q1 : decide ((k : Int) < (cmds.length : Int)) = true := by simpa using hkc
        have q2 : decide ((k : Int) < (tms.length : Int)) = true := by simpa using hkt
        have q3 : decide ((k : Int) < 10) = true := by simp; omega
        obtain ⟨ad, rfl, hadB, hc⟩ := (HL.out.below HG.out.low).round (k := k) (by simpa [strs] using hkc)
        obtain ⟨ad2, rfl, hadB2, hcc⟩ := (HL2.out.below HG.out.low).round (k := k) (by simpa [ints] using hkt)
        have hval : ((strs cmds)[k]'(by simpa [strs] using hkc)) = .string cmds[k] := by simp [strs]
        have hval2 : ((ints tms)[k]'(by simpa [ints] using hkt)) = .int .i64 tms[k] := by simp [ints]
        rw [hval] at hc
        rw [hval2] at hcc
        clear hval hval2
        have HT := Lib.hid (entsOf_more (tmOf tms) 20 hkc)
        have hel : (entsOf (tmOf tms) 20 (cmds.take k)).length = k := by rw [entsOf_len, List.length_take]; omega
        have hmn := tmOf_eq hkt
        have hCw := HCU.out cmds[k]
        generalize tmOf tms k = tk at *
        generalize tms[k] = ti at *
        generalize cmds[k] = x at *
        generalize cutTo x 20 = y at *
        generalize entsOf (tmOf tms) 20 (cmds.take k) = es at *
        have hrow := HG.out.row
        have hsw : B ≤ wr.heap.size := by have := HG.out.low.size; have := hs2; have := hs1; omega
        have HROW := Lib.hid hrow
        have HCW := Lib.hid hCw
        have hcd : wr.drew.cell? (ad.add k) = some (.string x) := hc
        have hccd : wr.drew.cell? (ad2.add k) = some (.int .i64 ti) := hcc
        have hkw : IntKind.i64.wrap ((k : Int) + 1) = (k : Int) + 1 := by rw [IntKind.wrap_i64]; omega
        clear hrow hCw
        go_upto_region 8 with fail
        go_region_law (first
          | (refine step_append_lies _ (by rfl) _ _ _ (by rfl) B 30 i0 _ 3 32 Tryd.underlying27 hie hz0 hz1 hz2 rfl (by omega) (.slice (some ⟨ge, 0, none⟩) k ce) es.length (enCells es) (by rfl) ((HROW.out.drew).alloc _)
                  ⟨wr.heap.size, 0, none⟩ 1 1 [.int .i64 ((k : Int) + 1), .int .i64 (tk : Int), .string y] (by rfl) (by rfl) (World.news_of_block (cs := #[.int .i64 ((k : Int) + 1), .int .i64 (tk : Int), .string y]) (t := 30) (fr := (0, 0)) (heap_alloc_new wr.drew _)) (by simp [Value.oneCell'])
                  (by omega) (by unfold maxLen; omega) (by omega) (by simp; omega) (wr.heap.size + 1) (by simp) ?_; intro gg cap8 w8 hown hgrow hat hlt8)
          | (go_simp; go_wp2_with (go_at_call 9; refine (HCW.out _).mono ?_; rintro e w3 ⟨rfl, rfl⟩)))
        all_goals
          have hG8 : LM w B g m 100000 (es ++ [⟨k + 1, tk, y⟩]) (.slice (some ⟨gg, 0, none⟩) (es.length + 1) cap8) w8 := by
            have hd1 : LM w B g m 100000 es (.slice (some ⟨ge, 0, none⟩) k ce) wr.drew := ⟨HG.out.tx.below (Below.drew (Below.refl _ wr)), HROW.out.drew, Below.drew HG.out.low⟩
            have hd2 := hd1.alloc (show B ≤ wr.drew.heap.size from hsw) (.cells #[.int .i64 ((k : Int) + 1), .int .i64 (tk : Int), .string y] 30)
            have e : enCells [(⟨k + 1, tk, y⟩ : En)] = [.int .i64 ((k : Int) + 1), .int .i64 (tk : Int), .string y] := by simp [enCells, En.cells]
            have e2 : (es ++ [(⟨k + 1, tk, y⟩ : En)]).length = es.length + 1 := by rw [List.length_append]; rfl
            refine ⟨hd2.tx.row_grown hd2.row hgrow, ?_, hd2.low.trans (below_rowG hd2.row hgrow (by simp; omega))⟩
            rw [enCells_append, e, e2]
            exact hown
          have HG8 := Lib.hid hG8
          rw [hel] at HG8
          have HCP : Hid (es.length + 1 ≤ cap8) := Lib.hid (by
            rcases hown.2 with ⟨h1, _⟩ | ⟨_, _, _, h1, _, _, h2, _⟩
            · cases h1
            · injection h1 with _ _ h1; omega)
          clear hG8 hown hgrow hat hlt8 HROW HG hcd hccd hc hcc
          go_wp2
          go_roundw
          case rel => exact ⟨k + 1, gg, cap8, by omega, by go_num, rfl, by have := HCP.out; omega, by rw [HT.out]; exact HG8⟩
          case measure => simp [intOf]; omega
      · have hex : (¬ k < cmds.length) ∨ (k < cmds.length ∧ ¬ k < tms.length) ∨ (k < cmds.length ∧ k < tms.length ∧ ¬ k < 10) := by omega
        obtain ⟨l, hl⟩ : ∃ l, cmds.take k = l := ⟨_, rfl⟩
        have hll : l.length = k := by rw [← hl, List.length_take]; omega
        rw [hl] at HG
        have HOK := Lib.hid (entsOf_ok (tmOf tms) 20 (l := l) (by omega) (fun i => by have := tmOf_le tms i; omega) (by omega))
        have hlog := entsOf_log (tmOf tms) 20 (l := l) (by omega) (fun i => by have := tmOf_le tms i; omega) (by omega)
        have hel := entsOf_len (tmOf tms) 20 l
        have hbe := entsOf_row (tmOf tms) 20 l 0
        rw [List.drop_zero] at hbe
        have HBE := Lib.hid hbe
        clear hbe
        generalize entsOf (tmOf tms) 20 l = es at *
        rw [hll] at hel
        have HLOG := Lib.hid hlog
        have HEL := Lib.hid hel
        have HKE := Lib.hid hke
        have HK10 : Hid (k ≤ 10) := Lib.hid (by omega)
        clear hl hll hlog hel hke hlt
        rcases hex with h1 | ⟨h1, h2⟩ | ⟨h1, h2, h3⟩
        · have q1 : decide ((k : Int) < (cmds.length : Int)) = false := by simpa using h1
          go_wp2_with fail
          go_meet
          exact ⟨k, ge, ce, es, HK10.out, rfl, HKE.out, HEL.out, HOK, HBE, HLOG.out, HG⟩
        · have q1 : decide ((k : Int) < (cmds.length : Int)) = true := by simpa using h1
          have q2 : decide ((k : Int) < (tms.length : Int)) = false := by simpa using h2
          go_wp2_with fail
          go_meet
          exact ⟨k, ge, ce, es, HK10.out, rfl, HKE.out, HEL.out, HOK, HBE, HLOG.out, HG⟩
        · have q1 : decide ((k : Int) < (cmds.length : Int)) = true := by simpa using h1
          have q2 : decide ((k : Int) < (tms.length : Int)) = true := by simpa using h2
          have q3 : decide ((k : Int) < 10) = false := by simp; omega
          go_wp2_with fail
          go_meet
          exact ⟨k, ge, ce, es, HK10.out, rfl, HKE.out, HEL.out, HOK, HBE, HLOG.out, HG⟩
  case rest =>
    clear G2
    obtain ⟨k, ge, ce, es, hk10, rfl, hke, hel, HOK, HBE, hlog, HG⟩ := hcut
    generalize wc = wr at *
    obtain ⟨m', hm', hm2⟩ : ∃ m' : Nat, min (max n 0) (k : Int) = (m' : Int) ∧ m' ≤ k := ⟨(min (max n 0) (k : Int)).toNat, by omega, by omega⟩
    obtain ⟨M, hM, hM1, hM2⟩ : ∃ M : Nat, min (max most 1) 20 = (M : Int) ∧ 1 ≤ M ∧ M ≤ 20 := ⟨(min (max most 1) 20).toNat, by omega, by omega, by omega⟩
    have hEn0 : EnT wr (some ⟨ge, 0, none⟩) es := by
      obtain ⟨A', c', e, _, h⟩ := EnT.of_row HG.out.row
      injection e with e1 e2 e3
      rw [e1]
      exact h
    have HEN := Lib.hid hEn0
    have HTX := Lib.hid HG.out.tx
    have HLW := Lib.hid HG.out.low
    have hsw : B ≤ wr.heap.size := by have := HG.out.low.size; omega
    clear hEn0 HG
    generalize hAd : (⟨ge, 0, none⟩ : Addr) = ad at *
    clear hAd
    have htl : (es.take m').length = m' := by rw [List.length_take]; omega
    have hdl : (es.drop m').length = k - m' := by rw [List.length_drop]; omega
    have hsum : logOf (es.take m') ++ logOf (es.drop m') = logOf es := by rw [← logOf_append, List.take_append_drop]
    have hsl : (logOf (es.take m')).length + (logOf (es.drop m')).length = (logOf es).length := by rw [← hsum, List.length_append]
    have hC1 := appendX HTX.out hsw (HST.out wr HLW.out) (some ad) ce (es.take m') (by omega) (fun x hx => HOK.out x (List.mem_of_mem_take hx)) (HEN.out.take m') (by simp only [List.length_nil]; omega) (by omega)
    rw [htl, List.nil_append] at hC1
    have HSL := Lib.hid hsl
    have HSUM := Lib.hid hsum
    have hcm : m' ≤ ce := by omega
    have hcm2 : k ≤ ce := hke
    clear hsl hsum htl
    go_wp2_with fail
    refine hC1.mono ?_
    rintro e w3 ⟨rfl, hT3, hb3, hk3⟩
    have hb3 := HLW.out.trans hb3
    have hEn3 := HEN.out.keep hk3
    by_cases hcz : ce - m' = 0
    · have hdone : True := trivial
      have hEd : EnT w3 (some ad) (es.drop m') := by
        have hnil : es.drop m' = [] := List.eq_nil_of_length_eq_zero (by omega)
        rw [hnil]
        exact EnT.nil
      have hC3 := appendX hT3 (by have := hb3.size; omega) (HST.out w3 hb3) (some ad) 0 (es.drop m') (by omega) (fun x hx => HOK.out x (List.mem_of_mem_drop hx)) hEd (by have := HSL.out; simp only [List.length_nil]; omega) (by omega)
      clear hEd
      rw [hdl, HSUM.out] at hC3
      have HEN3 := Lib.hid hEn3
      have HB3 := Lib.hid hb3
      clear hC1 hT3 hb3 hk3 hEn3 HEN HTX HLW
      go_wp2_with fail
      refine hC3.mono ?_
      rintro e w5 ⟨rfl, hT5, hb5, hk5⟩
      have hb5 := HB3.out.trans hb5
      have HEN5 := Lib.hid (HEN3.out.keep hk5)
      have hC5 := loadX hT5 (HST.out w5 hb5) (t := 0) (v := 0) (b := 0) (bt := 0) (sn := ⟨#[]⟩) (.inl ⟨rfl, rfl, rfl⟩) (.inl ⟨rfl, rfl, rfl, rfl⟩) es (by omega) HOK.out (by omega) rfl
      rw [HBE.out] at hC5
      have HB5 := Lib.hid hb5
      clear hC3 hT5 hb5 hk5 HEN3 HB3
      go_wp2_with fail
      refine hC5.mono ?_
      rintro e w8 ⟨A8, c8, rfl, hc8, hEn8, hb8⟩
      have hs8 : B ≤ w8.heap.size := by have := HB5.out.size; have := hb8.size; omega
      have hl8 := HEN5.out.below hb8
      have hb8 := HB5.out.trans (hb8.mono (by have := HB5.out.size; omega))
      rw [hel] at hc8 ⊢
      have hbx := (Below.refl w8.heap.size w8).alloc (Nat.le_refl _) (.cells #[.int .i64 0, .int .i64 0, .int .i64 0, .int .i64 0, .string ⟨#[]⟩, .slice A8 k c8] 36)
      have HL9 := Lib.hid (hb8.alloc hs8 (.cells #[.int .i64 0, .int .i64 0, .int .i64 0, .int .i64 0, .string ⟨#[]⟩, .slice A8 k c8] 36))
      have HS9 : Hid (SAt (w8.alloc (.cells #[.int .i64 0, .int .i64 0, .int .i64 0, .int .i64 0, .string ⟨#[]⟩, .slice A8 k c8] 36)) w8.heap.size 0 0 0 0 ⟨#[]⟩ A8 c8 es) := Lib.hid ⟨by rw [hel]; exact At.new w8 36 _, hEn8.below hbx, by omega⟩
      have HE9 := Lib.hid (hl8.below hbx)
      clear hC5 hEn8 hb8 hl8 hbx HEN5 HB5
      go_upto_region 14 with fail
      generalize w8.alloc (.cells #[.int .i64 0, .int .i64 0, .int .i64 0, .int .i64 0, .string ⟨#[]⟩, .slice A8 k c8] 36) = w9 at *
      generalize w8.heap.size = S at *
      have s5 : w9.cell? ⟨S, 5, none⟩ = some (.slice A8 es.length c8) := HS9.out.at_.cell 5
      rw [hel] at s5
      have hS9z : S < w9.heap.size := HS9.out.at_.lt
      have hB9z : B ≤ w9.heap.size := by have := HL9.out.size; omega
      obtain ⟨Z, hZ⟩ : ∃ Z, w9.heap.size = Z := ⟨_, rfl⟩
      rw [hZ] at hS9z hB9z
      go_wp2
      go_loopw [14, 15] (fun ai ti wr => ∃ j t : Nat, t ≤ j ∧ j ≤ k ∧ ai = .int .i64 ((j : Int) + 1) ∧ ti = .int .i64 (t : Int) ∧ Hid (Below Z w9 wr))
        (fun ai _ _ => k + 1 - (intOf ai).toNat)
      case atStart => exact ⟨0, 0, by omega, by omega, rfl, rfl, Lib.hid (Below.refl _ _)⟩
      case round =>
        clear s5
        obtain ⟨j, t, htj, hjk, rfl, rfl, HB⟩ := hrel
        have q1 : decide ((t : Int) < 20) = true := by simp; omega
        by_cases hlt : j < k
        · have q2 : decide ((j : Int) + 1 ≤ (k : Int)) = true := by simp; omega
          have hA8 : ∃ a8, A8 = some a8 := by
            obtain ⟨a8, e, _⟩ := HS9.out.en j (by omega)
            exact ⟨a8, e⟩
          obtain ⟨a8, rfl⟩ := hA8
          have hbz : Below w9.heap.size w9 wr := by rw [hZ]; exact HB.out
          have hF := from_in (HS9.out.below hbz) (by omega) j (by omega) (by omega) M (by omega) (by omega)
          have hpl : ((es.drop j).take M).length = min M (k - j) := by rw [List.length_take, List.length_drop, hel]
          obtain ⟨lp, hlp⟩ : ∃ lp, min M (k - j) = lp := ⟨_, rfl⟩
          have hlp1 : 0 < lp := by omega
          have hlp2 : j + lp ≤ k := by omega
          rw [hpl, hlp] at hF
          have hcast : ((0 + 1 + j : Nat) : Int) = (j : Int) + 1 := by omega
          rw [hcast] at hF
          have q3 : ((lp : Int) == 0) = false := by rw [beq_eq_false_iff_ne]; omega
          clear hbz hcast
          go_wp2_with fail
          refine hF.mono ?_
          rintro e w10 ⟨Ap, cp, rfl, hcp, hEnp, hb10⟩
          have hb10' := HB.out.trans (hb10.mono (by have := HB.out.size; omega))
          have HB10 := Lib.hid hb10'
          have HEP := Lib.hid hEnp
          have HPL := Lib.hid hpl
          clear hF hEnp hb10 hb10' HB hpl
          obtain ⟨Y, hY⟩ : ∃ Y, w10.heap.size = Y := ⟨_, rfl⟩
          have hYZ : Z ≤ Y := by have := HB10.out.size; omega
          go_upto_region 23 with fail
          go_wp2
          obtain ⟨wo, rfl⟩ : ∃ wo : World, wo = wr := ⟨_, rfl⟩
          go_loopw [117] (fun ii wr => ∃ i : Nat, i ≤ lp ∧ ii = .int .i64 (i : Int) ∧ Hid (Below Y w10 wr))
            (fun ii _ => lp - (intOf ii).toNat)
          case atStart => exact ⟨0, by omega, rfl, Lib.hid (Below.refl _ _)⟩
          case round =>
            obtain ⟨i, hi, rfl, HBi⟩ := hrel
            by_cases hil : i < lp
            · have q4 : decide ((i : Int) < (lp : Int)) = true := by simpa using hil
              have hbi : Below w10.heap.size w10 wr := by rw [hY]; exact HBi.out
              have hbz : Below w9.heap.size w9 wr := by rw [hZ]; exact HB10.out.trans (HBi.out.mono hYZ)
              have hji : j + i < es.length := by omega
              have hip : i < ((es.drop j).take M).length := by rw [HPL.out]; omega
              obtain ⟨ap, rfl, p0, p1, p2⟩ := (HEP.out.below hbi).one hip
              have hpe : ((es.drop j).take M)[i] = es[j + i] := by rw [List.getElem_take, List.getElem_drop]
              rw [hpe] at p0 p1 p2
              have hTA := fun W (hb : Below wr.heap.size wr W) => termAt_in ((HS9.out.below hbz).below hb) (by omega) (j + i) hji (by omega)
              have hLe := fun W (hb : Below wr.heap.size wr W) => ((HE9.out.below hbz).below hb).one hji
              have hcast : ((0 + 1 + (j + i) : Nat) : Int) = (j : Int) + 1 + (i : Int) := by omega
              have hw1 : IntKind.i64.wrap ((j : Int) + 1 + (i : Int)) = (j : Int) + 1 + (i : Int) := by rw [IntKind.wrap_i64]; omega
              have hw2 : IntKind.i64.wrap ((j : Int) + 1 + (i : Int) - 1) = ((j + i : Nat) : Int) := by rw [IntKind.wrap_i64] <;> omega
              have hw3 : (j : Int) + 1 + (i : Int) - 1 = ((j + i : Nat) : Int) := by omega
              rw [hcast] at hTA
              have HTA := Lib.hid hTA
              have HLE := Lib.hid hLe
              clear hpe hTA hLe hbi hcast
              generalize es[j + i] = x at *
              obtain ⟨xi, xt, xc⟩ := x
              simp only at p0 p1 p2 HTA HLE
              have hX := At.new wr 30 #[.int .i64 (xi : Int), .int .i64 (xt : Int), .string xc]
              have hbX := (Below.refl wr.heap.size wr).alloc (Nat.le_refl _) (.cells #[.int .i64 (xi : Int), .int .i64 (xt : Int), .string xc] 30)
              have hC := HTA.out _ hbX
              have HX := Lib.hid hX
              have HBX := Lib.hid hbX
              clear hX hbX HTA hbz
              go_wp2_with fail
              generalize wr.alloc (.cells #[.int .i64 (xi : Int), .int .i64 (xt : Int), .string xc] 30) = w12 at *
              generalize hXz : wr.heap.size = X at *
              refine hC.mono ?_
              rintro e w13 ⟨rfl, hb13⟩
              have hX13 := HX.out.below hb13 HX.out.lt
              have hb13' := HBX.out.trans (hb13.mono (by have := HX.out.lt; omega))
              obtain ⟨adl, ea, l0, l1, l2⟩ := HLE.out w13 hb13'
              obtain rfl := Option.some.inj ea
              have e0 : w13.cell? ⟨X, 0, none⟩ = some (.int .i64 (xi : Int)) := hX13.cell 0
              have e1 : w13.cell? ⟨X, 1, none⟩ = some (.int .i64 (xt : Int)) := hX13.cell 1
              have e2 : w13.cell? ⟨X, 2, none⟩ = some (.string xc) := hX13.cell 2
              have HBn : Hid (∀ n, Below Y w10 (w13.drewN n)) := Lib.hid fun n => below_drewN (HBi.out.trans (hb13'.mono (by have := HBi.out.size; omega))) n
              clear hC hb13 hb13' hX13 HX HBX HLE HBi ea p0 p1 p2
              go_upto_region 27 with fail
              go_quiet (fail)
              clear e0 e1 e2 l0 l1 l2
              go_wp2
              go_roundw
              case rel => exact ⟨i + 1, by omega, by go_num, Lib.hid (HBn.out _)⟩
              case measure => simp [intOf]; omega
            · have q4 : decide ((i : Int) < (lp : Int)) = false := by simpa using hil
              have HBF := Lib.hid (HB10.out.trans (HBi.out.mono hYZ))
              clear HBi HB10 HEP HPL
              go_wp2
              go_roundw
              case rel => exact ⟨j + lp, t + 1, by omega, by omega, by first | go_num | exact int_i64 (by omega), by go_num, HBF⟩
              case measure => simp [intOf]; omega
        · obtain rfl : j = k := by omega
          have q2 : decide ((j : Int) + 1 ≤ (j : Int)) = false := by simp; omega
          have q5 : IntKind.i64.wrap ((j : Int) + 1) = (j : Int) + 1 := by rw [IntKind.wrap_i64]; omega
          have q6 : (((j : Int) + 1) == ((j : Int) + 1)) = true := by simp
          have hF := from_out (HS9.out.below (show Below w9.heap.size w9 wr by rw [hZ]; exact HB.out)) (by omega) j (by omega) (by omega) (by omega) M (by omega)
          have hcast : ((0 + 1 + j : Nat) : Int) = (j : Int) + 1 := by omega
          rw [hcast] at hF
          clear hcast
          go_wp2_with fail
          refine hF.mono ?_
          rintro e w11 ⟨rfl, hb11⟩
          have HBF := Lib.hid ((HL9.out.trans (HB.out.mono hB9z)).trans (hb11.mono (by have := HB.out.size; omega)))
          clear hF hb11 HB
          go_wp2
          go_ret
          exact ⟨rfl, HBF.out⟩
    · have hdone : True := trivial
      have hC3 := appendX hT3 (by have := hb3.size; omega) (HST.out w3 hb3) (some (ad.add (m' * 3))) (ce - m') (es.drop m') (by omega) (fun x hx => HOK.out x (List.mem_of_mem_drop hx)) (hEn3.drop m') (by have := HSL.out; simp only [List.length_nil]; omega) (by omega)
      rw [hdl, HSUM.out] at hC3
      have HEN3 := Lib.hid hEn3
      have HB3 := Lib.hid hb3
      clear hC1 hT3 hb3 hk3 hEn3 HEN HTX HLW
      go_wp2_with fail
      refine hC3.mono ?_
      rintro e w5 ⟨rfl, hT5, hb5, hk5⟩
      have hb5 := HB3.out.trans hb5
      have HEN5 := Lib.hid (HEN3.out.keep hk5)
      have hC5 := loadX hT5 (HST.out w5 hb5) (t := 0) (v := 0) (b := 0) (bt := 0) (sn := ⟨#[]⟩) (.inl ⟨rfl, rfl, rfl⟩) (.inl ⟨rfl, rfl, rfl, rfl⟩) es (by omega) HOK.out (by omega) rfl
      rw [HBE.out] at hC5
      have HB5 := Lib.hid hb5
      clear hC3 hT5 hb5 hk5 HEN3 HB3
      go_wp2_with fail
      refine hC5.mono ?_
      rintro e w8 ⟨A8, c8, rfl, hc8, hEn8, hb8⟩
      have hs8 : B ≤ w8.heap.size := by have := HB5.out.size; have := hb8.size; omega
      have hl8 := HEN5.out.below hb8
      have hb8 := HB5.out.trans (hb8.mono (by have := HB5.out.size; omega))
      rw [hel] at hc8 ⊢
      have hbx := (Below.refl w8.heap.size w8).alloc (Nat.le_refl _) (.cells #[.int .i64 0, .int .i64 0, .int .i64 0, .int .i64 0, .string ⟨#[]⟩, .slice A8 k c8] 36)
      have HL9 := Lib.hid (hb8.alloc hs8 (.cells #[.int .i64 0, .int .i64 0, .int .i64 0, .int .i64 0, .string ⟨#[]⟩, .slice A8 k c8] 36))
      have HS9 : Hid (SAt (w8.alloc (.cells #[.int .i64 0, .int .i64 0, .int .i64 0, .int .i64 0, .string ⟨#[]⟩, .slice A8 k c8] 36)) w8.heap.size 0 0 0 0 ⟨#[]⟩ A8 c8 es) := Lib.hid ⟨by rw [hel]; exact At.new w8 36 _, hEn8.below hbx, by omega⟩
      have HE9 := Lib.hid (hl8.below hbx)
      clear hC5 hEn8 hb8 hl8 hbx HEN5 HB5
      go_upto_region 14 with fail
      generalize w8.alloc (.cells #[.int .i64 0, .int .i64 0, .int .i64 0, .int .i64 0, .string ⟨#[]⟩, .slice A8 k c8] 36) = w9 at *
      generalize w8.heap.size = S at *
      have s5 : w9.cell? ⟨S, 5, none⟩ = some (.slice A8 es.length c8) := HS9.out.at_.cell 5
      rw [hel] at s5
      have hS9z : S < w9.heap.size := HS9.out.at_.lt
      have hB9z : B ≤ w9.heap.size := by have := HL9.out.size; omega
      obtain ⟨Z, hZ⟩ : ∃ Z, w9.heap.size = Z := ⟨_, rfl⟩
      rw [hZ] at hS9z hB9z
      go_wp2
      go_loopw [14, 15] (fun ai ti wr => ∃ j t : Nat, t ≤ j ∧ j ≤ k ∧ ai = .int .i64 ((j : Int) + 1) ∧ ti = .int .i64 (t : Int) ∧ Hid (Below Z w9 wr))
        (fun ai _ _ => k + 1 - (intOf ai).toNat)
      case atStart => exact ⟨0, 0, by omega, by omega, rfl, rfl, Lib.hid (Below.refl _ _)⟩
      case round =>
        clear s5
        obtain ⟨j, t, htj, hjk, rfl, rfl, HB⟩ := hrel
        have q1 : decide ((t : Int) < 20) = true := by simp; omega
        by_cases hlt : j < k
        · have q2 : decide ((j : Int) + 1 ≤ (k : Int)) = true := by simp; omega
          have hA8 : ∃ a8, A8 = some a8 := by
            obtain ⟨a8, e, _⟩ := HS9.out.en j (by omega)
            exact ⟨a8, e⟩
          obtain ⟨a8, rfl⟩ := hA8
          have hbz : Below w9.heap.size w9 wr := by rw [hZ]; exact HB.out
          have hF := from_in (HS9.out.below hbz) (by omega) j (by omega) (by omega) M (by omega) (by omega)
          have hpl : ((es.drop j).take M).length = min M (k - j) := by rw [List.length_take, List.length_drop, hel]
          obtain ⟨lp, hlp⟩ : ∃ lp, min M (k - j) = lp := ⟨_, rfl⟩
          have hlp1 : 0 < lp := by omega
          have hlp2 : j + lp ≤ k := by omega
          rw [hpl, hlp] at hF
          have hcast : ((0 + 1 + j : Nat) : Int) = (j : Int) + 1 := by omega
          rw [hcast] at hF
          have q3 : ((lp : Int) == 0) = false := by rw [beq_eq_false_iff_ne]; omega
          clear hbz hcast
          go_wp2_with fail
          refine hF.mono ?_
          rintro e w10 ⟨Ap, cp, rfl, hcp, hEnp, hb10⟩
          have hb10' := HB.out.trans (hb10.mono (by have := HB.out.size; omega))
          have HB10 := Lib.hid hb10'
          have HEP := Lib.hid hEnp
          have HPL := Lib.hid hpl
          clear hF hEnp hb10 hb10' HB hpl
          obtain ⟨Y, hY⟩ : ∃ Y, w10.heap.size = Y := ⟨_, rfl⟩
          have hYZ : Z ≤ Y := by have := HB10.out.size; omega
          go_upto_region 23 with fail
          go_wp2
          obtain ⟨wo, rfl⟩ : ∃ wo : World, wo = wr := ⟨_, rfl⟩
          go_loopw [117] (fun ii wr => ∃ i : Nat, i ≤ lp ∧ ii = .int .i64 (i : Int) ∧ Hid (Below Y w10 wr))
            (fun ii _ => lp - (intOf ii).toNat)
          case atStart => exact ⟨0, by omega, rfl, Lib.hid (Below.refl _ _)⟩
          case round =>
            obtain ⟨i, hi, rfl, HBi⟩ := hrel
            by_cases hil : i < lp
            · have q4 : decide ((i : Int) < (lp : Int)) = true := by simpa using hil
              have hbi : Below w10.heap.size w10 wr := by rw [hY]; exact HBi.out
              have hbz : Below w9.heap.size w9 wr := by rw [hZ]; exact HB10.out.trans (HBi.out.mono hYZ)
              have hji : j + i < es.length := by omega
              have hip : i < ((es.drop j).take M).length := by rw [HPL.out]; omega
              obtain ⟨ap, rfl, p0, p1, p2⟩ := (HEP.out.below hbi).one hip
              have hpe : ((es.drop j).take M)[i] = es[j + i] := by rw [List.getElem_take, List.getElem_drop]
              rw [hpe] at p0 p1 p2
              have hTA := fun W (hb : Below wr.heap.size wr W) => termAt_in ((HS9.out.below hbz).below hb) (by omega) (j + i) hji (by omega)
              have hLe := fun W (hb : Below wr.heap.size wr W) => ((HE9.out.below hbz).below hb).one hji
              have hcast : ((0 + 1 + (j + i) : Nat) : Int) = (j : Int) + 1 + (i : Int) := by omega
              have hw1 : IntKind.i64.wrap ((j : Int) + 1 + (i : Int)) = (j : Int) + 1 + (i : Int) := by rw [IntKind.wrap_i64]; omega
              have hw2 : IntKind.i64.wrap ((j : Int) + 1 + (i : Int) - 1) = ((j + i : Nat) : Int) := by rw [IntKind.wrap_i64] <;> omega
              have hw3 : (j : Int) + 1 + (i : Int) - 1 = ((j + i : Nat) : Int) := by omega
              rw [hcast] at hTA
              have HTA := Lib.hid hTA
              have HLE := Lib.hid hLe
              clear hpe hTA hLe hbi hcast
              generalize es[j + i] = x at *
              obtain ⟨xi, xt, xc⟩ := x
              simp only at p0 p1 p2 HTA HLE
              have hX := At.new wr 30 #[.int .i64 (xi : Int), .int .i64 (xt : Int), .string xc]
              have hbX := (Below.refl wr.heap.size wr).alloc (Nat.le_refl _) (.cells #[.int .i64 (xi : Int), .int .i64 (xt : Int), .string xc] 30)
              have hC := HTA.out _ hbX
              have HX := Lib.hid hX
              have HBX := Lib.hid hbX
              clear hX hbX HTA hbz
              go_wp2_with fail
              generalize wr.alloc (.cells #[.int .i64 (xi : Int), .int .i64 (xt : Int), .string xc] 30) = w12 at *
              generalize hXz : wr.heap.size = X at *
              refine hC.mono ?_
              rintro e w13 ⟨rfl, hb13⟩
              have hX13 := HX.out.below hb13 HX.out.lt
              have hb13' := HBX.out.trans (hb13.mono (by have := HX.out.lt; omega))
              obtain ⟨adl, ea, l0, l1, l2⟩ := HLE.out w13 hb13'
              obtain rfl := Option.some.inj ea
              have e0 : w13.cell? ⟨X, 0, none⟩ = some (.int .i64 (xi : Int)) := hX13.cell 0
              have e1 : w13.cell? ⟨X, 1, none⟩ = some (.int .i64 (xt : Int)) := hX13.cell 1
              have e2 : w13.cell? ⟨X, 2, none⟩ = some (.string xc) := hX13.cell 2
              have HBn : Hid (∀ n, Below Y w10 (w13.drewN n)) := Lib.hid fun n => below_drewN (HBi.out.trans (hb13'.mono (by have := HBi.out.size; omega))) n
              clear hC hb13 hb13' hX13 HX HBX HLE HBi ea p0 p1 p2
              go_upto_region 27 with fail
              go_quiet (fail)
              clear e0 e1 e2 l0 l1 l2
              go_wp2
              go_roundw
              case rel => exact ⟨i + 1, by omega, by go_num, Lib.hid (HBn.out _)⟩
              case measure => simp [intOf]; omega
            · have q4 : decide ((i : Int) < (lp : Int)) = false := by simpa using hil
              have HBF := Lib.hid (HB10.out.trans (HBi.out.mono hYZ))
              clear HBi HB10 HEP HPL
              go_wp2
              go_roundw
              case rel => exact ⟨j + lp, t + 1, by omega, by omega, by first | go_num | exact int_i64 (by omega), by go_num, HBF⟩
              case measure => simp [intOf]; omega
        · obtain rfl : j = k := by omega
          have q2 : decide ((j : Int) + 1 ≤ (j : Int)) = false := by simp; omega
          have q5 : IntKind.i64.wrap ((j : Int) + 1) = (j : Int) + 1 := by rw [IntKind.wrap_i64]; omega
          have q6 : (((j : Int) + 1) == ((j : Int) + 1)) = true := by simp
          have hF := from_out (HS9.out.below (show Below w9.heap.size w9 wr by rw [hZ]; exact HB.out)) (by omega) j (by omega) (by omega) (by omega) M (by omega)
          have hcast : ((0 + 1 + j : Nat) : Int) = (j : Int) + 1 := by omega
          rw [hcast] at hF
          clear hcast
          go_wp2_with fail
          refine hF.mono ?_
          rintro e w11 ⟨rfl, hb11⟩
          have HBF := Lib.hid ((HL9.out.trans (HB.out.mono hB9z)).trans (hb11.mono (by have := HB.out.size; omega)))
          clear hF hb11 HB
          go_wp2
          go_ret
          exact ⟨rfl, HBF.out⟩
end Go.Proofs.YtplmflagffloeaaDoor
