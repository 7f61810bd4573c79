/- Ykw: merged (a claim holds few files). -/
import Derived.Test.YtplmflagffloeaaDoorB14
import Derived.Deep.DeepCutAuto
import Derived.Deep.CutBlock
/- glacierlaw09.TermBack: its walk. -/
namespace Go.Proofs.YtplmflagffloeaaDoor
open Go.RowKit
open Sm
open Wm (num)
open Pm (Key St)
set_option linter.unusedVariables false
set_option linter.unusedSimpArgs false

set_option maxRecDepth 100000 in
set_option maxHeartbeats 8000000 in
theorem walk_back9 (t v : Int) (sn : ByteArray) (A : Option Addr) (cap : Nat) (cmds : List ByteArray) (n : Int) (Ac : Option Addr) (nc cc : Nat) (w : World) (hS : Steps w) (hL : Lies w w.heap.size A (strs cmds)) :
    Calls Tryd.prog 3 #[.int .i64 t, .int .i64 v, .string sn, .slice A cmds.length cap, .int .i64 n, .slice Ac nc cc] w fun e w' => e = .returned (.bool true) ∧ Below w.heap.size w w' := by
  obtain ⟨i0, hie, hz0, hz1, hz2⟩ := info_parts info_en
  have hN := newX 100000 100000 (by omega) rfl w
  obtain ⟨B, hB⟩ : ∃ B, w.heap.size = B := ⟨_, rfl⟩
  have hS0 := hS.1
  rw [hB] at hN hS0 hL ⊢
  have HST : Hid (∀ W, Below B w W → Steps W) := Lib.hid fun W h => hS.below h hS0
  have HL := Lib.hid hL
  have hCu : ∀ s W, Calls Tryd.prog 9 #[.string s, .int .i64 30] W fun e w' => e = .returned (.string (cutTo s 30)) ∧ W = w' := fun s W => cut_any s 30 W
  have HCU := Lib.hid hCu
  have hCs : ∀ W, Calls Tryd.prog 9 #[.string sn, .int .i64 50] W fun e w' => e = .returned (.string (cutTo sn 50)) ∧ W = w' := fun W => cut_any sn 50 W
  have hsl := cutTo_le sn 50
  have hc3 := en_cells
  clear hS hL hCu
  go_enter Tryd.func3, Tryd.ntmps3
  go_wp2_with fail
  refine hN.mono ?_
  rintro e w1 ⟨g, m, rfl, hT1, hb1⟩
  have hAw := awake_any w1 (HST.out _ hb1)
  have HT1 := Lib.hid hT1
  have HB1 := Lib.hid hb1
  clear hN hT1 hb1
  go_wp2_with fail
  refine hAw.mono ?_
  rintro e w2 ⟨rfl, hb2⟩
  have hT2 := HT1.out.below hb2
  have hs1 := HB1.out.size
  have hb2 := HB1.out.trans (hb2.mono (by omega))
  have hs2 := hb2.size
  clear hAw HT1 HB1
  by_cases hgood : (0 ≤ t ∧ t ≤ 1099511627776) ∧ (0 ≤ v ∧ v ≤ 5)
  · obtain ⟨⟨g1, g2⟩, g3, g4⟩ := hgood
    obtain ⟨tn, rfl⟩ := Int.eq_ofNat_of_zero_le g1
    obtain ⟨vn, rfl⟩ := Int.eq_ofNat_of_zero_le g3
    have ht : tn ≤ 1099511627776 := by omega
    have hv : vn ≤ 5 := by omega
    have r1 : decide ((tn : Int) < 0) = false := by simp
    have r2 : decide ((tn : Int) > 1099511627776) = false := by simp; omega
    have r3 : decide ((vn : Int) < 0) = false := by simp
    have r4 : decide ((vn : Int) > 5) = false := by simp; omega
    have G2 : Hid (LM w B g m 100000 (entsOf (fun _ => tn) 30 (cmds.take 0)) (.slice (some ⟨w2.heap.size, 0, none⟩) 0 0) (w2.alloc (.cells #[] 30))) := Lib.hid ⟨hT2.alloc _, by
      have := row_empty w2 30 3
      exact ⟨this.1, this.2.imp id fun ⟨k, cap, cur, h1, h2, h3⟩ => ⟨k, cap, cur, h1, by omega, h3⟩⟩, hb2.alloc (by omega) _⟩
    clear hT2 hb2 g1 g2 g3 g4
    go_upto_block 0 with fail
    go_cut [14] (fun lv wx => ∃ (k ge ce : Nat) (es : List En), k ≤ 10 ∧ lv = .slice (some ⟨ge, 0, none⟩) k ce ∧ k ≤ ce ∧ es.length = k ∧ Hid (∀ x ∈ es, x.ok) ∧ Hid (∀ j, behind (es.drop j) j = es.drop j) ∧ (logOf es).length ≤ 680 ∧ Hid (LM w B g m 100000 es lv wx))
    case first =>
      go_wp2_with fail
      go_loopw [14, 15] (fun lv i wr => ∃ k ge ce : Nat, k ≤ cmds.length ∧ k ≤ 10 ∧ i = .int .i64 (k : Int) ∧ lv = .slice (some ⟨ge, 0, none⟩) k ce ∧ k ≤ ce ∧ Hid (LM w B g m 100000 (entsOf (fun _ => tn) 30 (cmds.take k)) lv wr))
        (fun _ i _ => 10 - (intOf i).toNat)
      case atStart => exact ⟨0, _, 0, by omega, by omega, rfl, rfl, by omega, G2⟩
      case round =>
        clear G2
        obtain ⟨k, ge, ce, hk, hk10, rfl, rfl, hke, HG⟩ := hrel
        by_cases hlt : k < cmds.length ∧ k < 10
        · obtain ⟨hlt, hlt10⟩ := hlt
          have q1 : decide ((k : Int) < (cmds.length : Int)) = true := by simpa using hlt
          have q2 : decide ((k : Int) < 10) = true := by simp; omega
          obtain ⟨ad, rfl, hadB, hc⟩ := (HL.out.below HG.out.low).round (k := k) (by simpa [strs] using hlt)
          have hval : ((strs cmds)[k]'(by simpa [strs] using hlt)) = .string cmds[k] := by simp [strs]
          rw [hval] at hc
          clear hval
          have HT := Lib.hid (entsOf_more (fun _ => tn) 30 hlt)
          have hel : (entsOf (fun _ => tn) 30 (cmds.take k)).length = k := by rw [entsOf_len, List.length_take]; omega
          have hCw := HCU.out cmds[k] wr
          generalize cmds[k] = x at *
          generalize cutTo x 30 = y at *
          generalize entsOf (fun _ => tn) 30 (cmds.take k) = es at *
          have hrow := HG.out.row
          have hsw : B ≤ wr.heap.size := by have := HG.out.low.size; omega
          have HROW := Lib.hid hrow
          clear hrow
          go_wp2_with fail
          refine hCw.mono ?_
          rintro e wr' ⟨rfl, rfl⟩
          clear hCw hc
          rw [hel] at HROW
          go_wp2_with (at_builtin; refine wpList_append_own _ rfl _ _ 27 rfl B 30 i0 _ 3 32 Tryd.underlying27 hie hz0 hz1 hz2 rfl (by decide) _ _ _ rfl (HROW.out.alloc _) ⟨wr.heap.size, 0, none⟩ 1 1 [.int .i64 ((k : Int) + 1), .int .i64 (tn : Int), .string y] rfl rfl ?c1 ?c2 ?c3 ?c4 ?c5 ?_)
          case c1 => exact World.news_of_block (cs := #[.int .i64 ((k : Int) + 1), .int .i64 (tn : Int), .string y]) (t := 30) (fr := (0, 0)) (heap_alloc_new wr _)
          case c2 => intro u hu; simp at hu; rcases hu with rfl | rfl | rfl <;> simp [Value.oneCell']
          case c3 => unfold maxLen; omega
          case c4 => omega
          case c5 => simp; omega
          intro v' w8 hown hgrow hnn
          obtain ⟨gg, c9, rfl, hc9⟩ : ∃ gg c9, v' = .slice (some ⟨gg, 0, none⟩) (k + 1) c9 ∧ k + 1 ≤ c9 := by
            rcases hown.2 with ⟨h1, h2⟩ | ⟨gg, c9, _, h1, _, _, h2, _⟩
            · exact absurd h2 (Nat.succ_ne_zero k)
            · exact ⟨gg, c9, h1, h2⟩
          have hG8 : LM w B g m 100000 (es ++ [⟨k + 1, tn, y⟩]) (.slice (some ⟨gg, 0, none⟩) (k + 1) c9) w8 := by
            refine ⟨(HG.out.tx.alloc _).row_grown (HROW.out.alloc _) hgrow, ?_, (HG.out.low.alloc hsw _).trans (below_rowG (HROW.out.alloc _) hgrow (by simp; omega))⟩
            have e : enCells [(⟨k + 1, tn, y⟩ : En)] = [.int .i64 ((k : Int) + 1), .int .i64 (tn : Int), .string y] := by simp [enCells, En.cells]
            have e2 : (es ++ [(⟨k + 1, tn, y⟩ : En)]).length = k + 1 := by rw [List.length_append, hel]; rfl
            rw [enCells_append, e, e2]
            exact hown
          have HG8 := Lib.hid hG8
          clear hG8 hown hgrow HROW HG hnn
          go_wp2
          go_roundw
          case rel => exact ⟨k + 1, gg, c9, by omega, by omega, by go_num, rfl, hc9, by rw [HT.out]; exact HG8⟩
          case measure => simp [intOf]; omega
        · have hex : (¬ k < cmds.length) ∨ (k < cmds.length ∧ ¬ k < 10) := by omega
          obtain ⟨l, hl⟩ : ∃ l, cmds.take k = l := ⟨_, rfl⟩
          have hll : l.length = k := by rw [← hl, List.length_take]; omega
          rw [hl] at HG
          have HOK := Lib.hid (entsOf_ok (fun _ => tn) 30 (l := l) (by omega) (fun _ => ht) (by omega))
          have HLOG := Lib.hid (entsOf_log (fun _ => tn) 30 (l := l) (by omega) (fun _ => ht) (by omega))
          have HEL : Hid ((entsOf (fun _ => tn) 30 l).length = k) := Lib.hid (by rw [entsOf_len, hll])
          have HBE := Lib.hid (entsOf_drop (fun _ => tn) 30 l)
          generalize entsOf (fun _ => tn) 30 l = es at *
          have HKE := Lib.hid hke
          have HK10 := Lib.hid hk10
          clear hl hll hke hk10 hlt
          rcases hex with h1 | ⟨h1, h2⟩
          · have q1 : decide ((k : Int) < (cmds.length : Int)) = false := by simpa using h1
            go_wp2_with fail
            go_meet
            exact ⟨k, ge, ce, es, HK10.out, rfl, HKE.out, HEL.out, HOK, HBE, HLOG.out, HG⟩
          · have q1 : decide ((k : Int) < (cmds.length : Int)) = true := by simpa using h1
            have q2 : decide ((k : Int) < 10) = false := by simp; omega
            go_wp2_with fail
            go_meet
            exact ⟨k, ge, ce, es, HK10.out, rfl, HKE.out, HEL.out, HOK, HBE, HLOG.out, HG⟩
    case rest =>
      clear G2
      obtain ⟨k, ge, ce, es, hk10, rfl, hke, hel, HOK, HBE, hlog, HG⟩ := hcut
      generalize wc = wr at *
      obtain ⟨m', hm', hm2⟩ : ∃ m' : Nat, min (max n 0) (k : Int) = (m' : Int) ∧ m' ≤ k := ⟨(min (max n 0) (k : Int)).toNat, by omega, by omega⟩
      have hEn0 : EnT wr (some ⟨ge, 0, none⟩) es := by
        obtain ⟨A', c', e, _, h⟩ := EnT.of_row HG.out.row
        injection e with e1 e2 e3
        rw [e1]
        exact h
      have HEN := Lib.hid hEn0
      have HTX := Lib.hid HG.out.tx
      have HLW := Lib.hid HG.out.low
      have hsw : B ≤ wr.heap.size := by have := HG.out.low.size; omega
      clear hEn0 HG
      generalize hAd : (⟨ge, 0, none⟩ : Addr) = ad at *
      clear hAd
      generalize cutTo sn 50 = sy at *
      have hdl : (es.drop m').length = k - m' := by rw [List.length_drop]; omega
      have hdlog : (logOf (es.drop m')).length ≤ 680 := by
        have hs : logOf (es.take m') ++ logOf (es.drop m') = logOf es := by rw [← logOf_append, List.take_append_drop]
        have := congrArg List.length hs
        rw [List.length_append] at this
        omega
      have hCs := hCs wr
      go_wp2_with fail
      refine hCs.mono ?_
      rintro e wr' ⟨rfl, rfl⟩
      have hC1 := appendX HTX.out hsw (HST.out wr HLW.out) (some ad) ce es (by omega) HOK.out HEN.out (by simp only [List.length_nil]; omega) (by omega)
      rw [hel, List.nil_append] at hC1
      clear hCs
      go_wp2_with fail
      refine hC1.mono ?_
      rintro e w3 ⟨rfl, hT3, hb3, hk3⟩
      have hb3 := HLW.out.trans hb3
      have hEn3 := HEN.out.keep hk3
      have hC3 := saveTermX hT3 (by have := hb3.size; omega) (HST.out w3 hb3) tn vn ht (by omega) (by simp only [List.length_nil]; omega) (by omega)
      have HEN3 := Lib.hid hEn3
      have HB3 := Lib.hid hb3
      clear hC1 hT3 hb3 hk3 hEn3 HEN HTX HLW
      go_wp2_with fail
      refine hC3.mono ?_
      rintro e w5 ⟨rfl, hT5, hb5, hk5⟩
      have hb5 := HB3.out.trans hb5
      have hEn5 := HEN3.out.keep hk5
      have hcm : m' ≤ ce := by omega
      have htl := termL_len (t := tn) (v := vn) ht (by omega)
      by_cases hcz : ce - m' = 0
      · have hEd : EnT w5 (some ad) (es.drop m') := by
          have hnil : es.drop m' = [] := List.eq_nil_of_length_eq_zero (by omega)
          rw [hnil]
          exact EnT.nil
        have hC5 := saveSnapX hT5 (by have := hb5.size; omega) hS0 (HST.out w5 hb5) m' tn (by omega) ht sy (by omega) (some ad) 0 (es.drop m') (by omega) (fun x hx => HOK.out x (List.mem_of_mem_drop hx)) hEd (by simp only [List.length_nil]; omega) (by omega)
        clear hEd
        rw [hdl] at hC5
        have HEN5 := Lib.hid hEn5
        have HB5 := Lib.hid hb5
        clear hC3 hT5 hb5 hk5 hEn5 HEN3 HB3
        go_wp2_with fail
        refine hC5.mono ?_
        rintro e w7 ⟨rfl, hT7, hb7, hk7⟩
        have hb7 := HB5.out.trans hb7
        have hEn7 := HEN5.out.keep hk7
        have hsnl := snapL_len (b := m') (bt := tn) (s := sy) (by omega) ht (by omega)
        have HOKd : Hid (∀ x ∈ es.drop m', x.ok) := Lib.hid fun x hx => HOK.out x (List.mem_of_mem_drop hx)
        have HLoad : Hid (∀ W, TX W B g m 100000 (termL tn vn) (snapL m' tn sy) (logOf (es.drop m')) → Below B w W → Calls Tryd.prog 13 #[.pointer (some ⟨g, 0, none⟩)] W (LoadEnds W tn vn m' tn sy (es.drop m'))) := Lib.hid fun W hT hb => by
          have := loadX hT (HST.out W hb) (t := tn) (v := vn) (b := m') (bt := tn) (sn := sy) (.inr ⟨ht, hv, rfl⟩) (.inr ⟨by omega, ht, by omega, rfl⟩) (es.drop m') (by omega) HOKd.out (by omega) rfl
          rw [HBE.out] at this
          exact this
        have hC7 := HLoad.out w7 hT7 hb7
        have HT7 := Lib.hid hT7
        have HEN7 := Lib.hid hEn7
        have HB7 := Lib.hid hb7
        clear hC5 hT7 hb7 hk7 hEn7 HEN5 HB5
        obtain ⟨l, hl⟩ : ∃ l, es.drop m' = l := ⟨_, rfl⟩
        have HLD := Lib.hid hl
        rw [hl] at hdl hC7 HLoad HT7
        obtain ⟨ln, hln⟩ : ∃ ln, k - m' = ln := ⟨_, rfl⟩
        rw [hln] at hdl
        have hkln : k = m' + ln := by omega
        clear hl hln hdlog
        unfold LoadEnds at hC7
        rw [hdl] at hC7
        go_wp2_with fail
        refine hC7.mono ?_
        rintro e w8 ⟨A1, c1, rfl, hc1, hE1, hb8⟩
        have hs8 : B ≤ w8.heap.size := by have := HB7.out.size; have := hb8.size; omega
        have hT8 := HT7.out.below hb8
        have hEn8 := HEN7.out.below hb8
        have hb8 := HB7.out.trans (hb8.mono (by have := HB7.out.size; omega))
        have hbx := (Below.refl w8.heap.size w8).alloc (Nat.le_refl _) (.cells #[.int .i64 (tn : Int), .int .i64 (vn : Int), .int .i64 (m' : Int), .int .i64 (tn : Int), .string sy, .slice A1 ln c1] 36)
        have hT9 := hT8.alloc (.cells #[.int .i64 (tn : Int), .int .i64 (vn : Int), .int .i64 (m' : Int), .int .i64 (tn : Int), .string sy, .slice A1 ln c1] 36)
        have HT9 := Lib.hid hT9
        have HB9 := Lib.hid (hb8.alloc hs8 (.cells #[.int .i64 (tn : Int), .int .i64 (vn : Int), .int .i64 (m' : Int), .int .i64 (tn : Int), .string sy, .slice A1 ln c1] 36))
        have HS9 := Lib.hid (At.new w8 36 #[.int .i64 (tn : Int), .int .i64 (vn : Int), .int .i64 (m' : Int), .int .i64 (tn : Int), .string sy, .slice A1 ln c1])
        have HE9 := Lib.hid (hE1.below hbx)
        have HN9 := Lib.hid (hEn8.below hbx)
        have hCr := crashX hT9 Ac nc cc
        clear hC7 hE1 hT8 hEn8 hb8 hbx hT9 HT7 HEN7 HB7
        go_wp2_with fail
        generalize w8.alloc (.cells #[.int .i64 (tn : Int), .int .i64 (vn : Int), .int .i64 (m' : Int), .int .i64 (tn : Int), .string sy, .slice A1 ln c1] 36) = w9 at *
        generalize w8.heap.size = S1 at *
        refine hCr.mono ?_
        rintro e w10 ⟨rfl, hb10⟩
        have hs9 : B ≤ w9.heap.size := by have := HB9.out.size; omega
        have hb10' := HB9.out.trans (hb10.mono hs9)
        have hC10 := HLoad.out w10 (HT9.out.below hb10) hb10'
        have HS10 := Lib.hid (HS9.out.below hb10 HS9.out.lt)
        have HE10 := Lib.hid (HE9.out.below hb10)
        have HN10 := Lib.hid (HN9.out.below hb10)
        have HB10 := Lib.hid hb10'
        clear hCr hb10 hb10' HT9 HB9 HS9 HE9 HN9 HLoad
        unfold LoadEnds at hC10
        rw [hdl] at hC10
        go_wp2_with fail
        refine hC10.mono ?_
        rintro e w11 ⟨A2, c2, rfl, hc2, hE2, hb11⟩
        have hs11 : B ≤ w11.heap.size := by have := HB10.out.size; have := hb11.size; omega
        have hb11' := HB10.out.trans (hb11.mono (by have := HB10.out.size; omega))
        have hbx := (Below.refl w11.heap.size w11).alloc (Nat.le_refl _) (.cells #[.int .i64 (tn : Int), .int .i64 (vn : Int), .int .i64 (m' : Int), .int .i64 (tn : Int), .string sy, .slice A2 ln c2] 36)
        have hH : BkH B w S1 w11.heap.size tn vn m' ln sy A1 A2 (some ad) c1 c2 ce l es (w11.alloc (.cells #[.int .i64 (tn : Int), .int .i64 (vn : Int), .int .i64 (m' : Int), .int .i64 (tn : Int), .string sy, .slice A2 ln c2] 36)) :=
          ⟨(HS10.out.below hb11 HS10.out.lt).alloc _, At.new w11 36 _, (HE10.out.below hb11).below hbx, hE2.below hbx, (HN10.out.below hb11).below hbx, hb11'.alloc hs11 _, by simp; omega⟩
        have HH := Lib.hid hH
        clear hC10 hE2 hb11 hb11' hbx hH HS10 HE10 HN10 HB10
        go_upto_region 16 with fail
        generalize w11.alloc (.cells #[.int .i64 (tn : Int), .int .i64 (vn : Int), .int .i64 (m' : Int), .int .i64 (tn : Int), .string sy, .slice A2 ln c2] 36) = w12 at *
        generalize w11.heap.size = S2 at *
        refine bk9_region (lz := m' + ln) rfl ⟨rfl, rfl, rfl, rfl, rfl, rfl, rfl, rfl, rfl, hdl, rfl, by omega, hc1, hc2, fun W hW => ?_, fun W hW => ?_, fun W A c hc hr A' c' hc' hr' hW => ?_⟩ (HH.out.below (Below.drew (Below.refl _ w12))) ?_
        · have := told_any tn vn m' tn sy A1 c1 l hW.e1 (by omega) (by omega)
          rw [hdl] at this
          exact this
        · have := told_any tn vn m' tn sy A2 c2 l hW.e2 (by omega) (by omega)
          rw [hdl] at this
          exact this
        · have := same_any tn vn m' tn sy A A' c c' l hr hr' (by omega) (by omega) (by omega)
          rw [hdl] at this
          exact this
        intro vv w13 hw13
        simp only [List.setIfInBounds_toArray, List.set_cons_zero, List.set_cons_succ]
        have HW := Lib.hid hw13
        have x5 : w13.cell? ⟨S1, 5, none⟩ = some (.slice A1 ln c1) := hw13.s1.cell 5
        obtain ⟨Z, hZ⟩ : ∃ Z, w13.heap.size = Z := ⟨_, rfl⟩
        have hBZ : B ≤ Z := by have := hw13.big; omega
        clear hw13 HH
        go_wp2
        go_loopw [162] (fun ii wr => ∃ i : Nat, i ≤ ln ∧ ii = .int .i64 (i : Int) ∧ Hid (Below Z w13 wr))
          (fun ii _ => ln - (intOf ii).toNat)
        case atStart => exact ⟨0, by omega, rfl, Lib.hid (Below.refl _ _)⟩
        case round =>
          clear x5
          obtain ⟨i, hi, rfl, HBi⟩ := hrel
          by_cases hil : i < ln
          · exact absurd hil (by omega)
          · have q4 : decide ((i : Int) < (ln : Int)) = false := by simpa using hil
            have HBF := Lib.hid (HW.out.low.trans (HBi.out.mono hBZ))
            clear HBi HW
            go_wp2
            go_ret
            exact ⟨rfl, HBF.out⟩
      · have hC5 := saveSnapX hT5 (by have := hb5.size; omega) hS0 (HST.out w5 hb5) m' tn (by omega) ht sy (by omega) (some (ad.add (m' * 3))) (ce - m') (es.drop m') (by omega) (fun x hx => HOK.out x (List.mem_of_mem_drop hx)) (hEn5.drop m') (by simp only [List.length_nil]; omega) (by omega)
        rw [hdl] at hC5
        have HEN5 := Lib.hid hEn5
        have HB5 := Lib.hid hb5
        clear hC3 hT5 hb5 hk5 hEn5 HEN3 HB3
        go_wp2_with fail
        refine hC5.mono ?_
        rintro e w7 ⟨rfl, hT7, hb7, hk7⟩
        have hb7 := HB5.out.trans hb7
        have hEn7 := HEN5.out.keep hk7
        have hsnl := snapL_len (b := m') (bt := tn) (s := sy) (by omega) ht (by omega)
        have HOKd : Hid (∀ x ∈ es.drop m', x.ok) := Lib.hid fun x hx => HOK.out x (List.mem_of_mem_drop hx)
        have HLoad : Hid (∀ W, TX W B g m 100000 (termL tn vn) (snapL m' tn sy) (logOf (es.drop m')) → Below B w W → Calls Tryd.prog 13 #[.pointer (some ⟨g, 0, none⟩)] W (LoadEnds W tn vn m' tn sy (es.drop m'))) := Lib.hid fun W hT hb => by
          have := loadX hT (HST.out W hb) (t := tn) (v := vn) (b := m') (bt := tn) (sn := sy) (.inr ⟨ht, hv, rfl⟩) (.inr ⟨by omega, ht, by omega, rfl⟩) (es.drop m') (by omega) HOKd.out (by omega) rfl
          rw [HBE.out] at this
          exact this
        have hC7 := HLoad.out w7 hT7 hb7
        have HT7 := Lib.hid hT7
        have HEN7 := Lib.hid hEn7
        have HB7 := Lib.hid hb7
        clear hC5 hT7 hb7 hk7 hEn7 HEN5 HB5
        obtain ⟨l, hl⟩ : ∃ l, es.drop m' = l := ⟨_, rfl⟩
        have HLD := Lib.hid hl
        rw [hl] at hdl hC7 HLoad HT7
        obtain ⟨ln, hln⟩ : ∃ ln, k - m' = ln := ⟨_, rfl⟩
        rw [hln] at hdl
        have hkln : k = m' + ln := by omega
        clear hl hln hdlog
        unfold LoadEnds at hC7
        rw [hdl] at hC7
        go_wp2_with fail
        refine hC7.mono ?_
        rintro e w8 ⟨A1, c1, rfl, hc1, hE1, hb8⟩
        have hs8 : B ≤ w8.heap.size := by have := HB7.out.size; have := hb8.size; omega
        have hT8 := HT7.out.below hb8
        have hEn8 := HEN7.out.below hb8
        have hb8 := HB7.out.trans (hb8.mono (by have := HB7.out.size; omega))
        have hbx := (Below.refl w8.heap.size w8).alloc (Nat.le_refl _) (.cells #[.int .i64 (tn : Int), .int .i64 (vn : Int), .int .i64 (m' : Int), .int .i64 (tn : Int), .string sy, .slice A1 ln c1] 36)
        have hT9 := hT8.alloc (.cells #[.int .i64 (tn : Int), .int .i64 (vn : Int), .int .i64 (m' : Int), .int .i64 (tn : Int), .string sy, .slice A1 ln c1] 36)
        have HT9 := Lib.hid hT9
        have HB9 := Lib.hid (hb8.alloc hs8 (.cells #[.int .i64 (tn : Int), .int .i64 (vn : Int), .int .i64 (m' : Int), .int .i64 (tn : Int), .string sy, .slice A1 ln c1] 36))
        have HS9 := Lib.hid (At.new w8 36 #[.int .i64 (tn : Int), .int .i64 (vn : Int), .int .i64 (m' : Int), .int .i64 (tn : Int), .string sy, .slice A1 ln c1])
        have HE9 := Lib.hid (hE1.below hbx)
        have HN9 := Lib.hid (hEn8.below hbx)
        have hCr := crashX hT9 Ac nc cc
        clear hC7 hE1 hT8 hEn8 hb8 hbx hT9 HT7 HEN7 HB7
        go_wp2_with fail
        generalize w8.alloc (.cells #[.int .i64 (tn : Int), .int .i64 (vn : Int), .int .i64 (m' : Int), .int .i64 (tn : Int), .string sy, .slice A1 ln c1] 36) = w9 at *
        generalize w8.heap.size = S1 at *
        refine hCr.mono ?_
        rintro e w10 ⟨rfl, hb10⟩
        have hs9 : B ≤ w9.heap.size := by have := HB9.out.size; omega
        have hb10' := HB9.out.trans (hb10.mono hs9)
        have hC10 := HLoad.out w10 (HT9.out.below hb10) hb10'
        have HS10 := Lib.hid (HS9.out.below hb10 HS9.out.lt)
        have HE10 := Lib.hid (HE9.out.below hb10)
        have HN10 := Lib.hid (HN9.out.below hb10)
        have HB10 := Lib.hid hb10'
        clear hCr hb10 hb10' HT9 HB9 HS9 HE9 HN9 HLoad
        unfold LoadEnds at hC10
        rw [hdl] at hC10
        go_wp2_with fail
        refine hC10.mono ?_
        rintro e w11 ⟨A2, c2, rfl, hc2, hE2, hb11⟩
        have hs11 : B ≤ w11.heap.size := by have := HB10.out.size; have := hb11.size; omega
        have hb11' := HB10.out.trans (hb11.mono (by have := HB10.out.size; omega))
        have hbx := (Below.refl w11.heap.size w11).alloc (Nat.le_refl _) (.cells #[.int .i64 (tn : Int), .int .i64 (vn : Int), .int .i64 (m' : Int), .int .i64 (tn : Int), .string sy, .slice A2 ln c2] 36)
        have hH : BkH B w S1 w11.heap.size tn vn m' ln sy A1 A2 (some ad) c1 c2 ce l es (w11.alloc (.cells #[.int .i64 (tn : Int), .int .i64 (vn : Int), .int .i64 (m' : Int), .int .i64 (tn : Int), .string sy, .slice A2 ln c2] 36)) :=
          ⟨(HS10.out.below hb11 HS10.out.lt).alloc _, At.new w11 36 _, (HE10.out.below hb11).below hbx, hE2.below hbx, (HN10.out.below hb11).below hbx, hb11'.alloc hs11 _, by simp; omega⟩
        have HH := Lib.hid hH
        clear hC10 hE2 hb11 hb11' hbx hH HS10 HE10 HN10 HB10
        go_upto_region 16 with fail
        generalize w11.alloc (.cells #[.int .i64 (tn : Int), .int .i64 (vn : Int), .int .i64 (m' : Int), .int .i64 (tn : Int), .string sy, .slice A2 ln c2] 36) = w12 at *
        generalize w11.heap.size = S2 at *
        refine bk9_region (lz := m' + ln) rfl ⟨rfl, rfl, rfl, rfl, rfl, rfl, rfl, rfl, rfl, hdl, rfl, by omega, hc1, hc2, fun W hW => ?_, fun W hW => ?_, fun W A c hc hr A' c' hc' hr' hW => ?_⟩ (HH.out.below (Below.drew (Below.refl _ w12))) ?_
        · have := told_any tn vn m' tn sy A1 c1 l hW.e1 (by omega) (by omega)
          rw [hdl] at this
          exact this
        · have := told_any tn vn m' tn sy A2 c2 l hW.e2 (by omega) (by omega)
          rw [hdl] at this
          exact this
        · have := same_any tn vn m' tn sy A A' c c' l hr hr' (by omega) (by omega) (by omega)
          rw [hdl] at this
          exact this
        intro vv w13 hw13
        simp only [List.setIfInBounds_toArray, List.set_cons_zero, List.set_cons_succ]
        have HW := Lib.hid hw13
        have x5 : w13.cell? ⟨S1, 5, none⟩ = some (.slice A1 ln c1) := hw13.s1.cell 5
        obtain ⟨Z, hZ⟩ : ∃ Z, w13.heap.size = Z := ⟨_, rfl⟩
        have hBZ : B ≤ Z := by have := hw13.big; omega
        clear hw13 HH
        go_wp2
        go_loopw [162] (fun ii wr => ∃ i : Nat, i ≤ ln ∧ ii = .int .i64 (i : Int) ∧ Hid (Below Z w13 wr))
          (fun ii _ => ln - (intOf ii).toNat)
        case atStart => exact ⟨0, by omega, rfl, Lib.hid (Below.refl _ _)⟩
        case round =>
          clear x5
          obtain ⟨i, hi, rfl, HBi⟩ := hrel
          by_cases hil : i < ln
          · have q4 : decide ((i : Int) < (ln : Int)) = true := by simpa using hil
            have hbz : Below w13.heap.size w13 wr := by rw [hZ]; exact HBi.out
            have hmi : m' + i < es.length := by omega
            obtain ⟨ap, rfl, p0, p1, p2⟩ := (HW.out.e1.below hbz).one (k := i) (by omega)
            have hpe : l[i]'(by omega) = es[m' + i] := by
              have := HLD.out
              subst this
              rw [List.getElem_drop]
            rw [hpe] at p0 p1 p2
            have HLE : Hid (∀ W, Below wr.heap.size wr W → _) := Lib.hid fun W hb => ((HW.out.e5.below hbz).below hb).one hmi
            have hw1 : IntKind.i64.wrap ((m' : Int) + (i : Int)) = (m' : Int) + (i : Int) := by rw [IntKind.wrap_i64]; omega
            have hw2 : ((m' : Int) + (i : Int)).toNat = m' + i := by omega
            clear hpe hbz
            generalize es[m' + i] = x at *
            obtain ⟨xi, xt, xc⟩ := x
            simp only at p0 p1 p2 HLE
            have hbX := (Below.refl wr.heap.size wr).alloc (Nat.le_refl _) (.cells #[.int .i64 (xi : Int), .int .i64 (xt : Int), .string xc] 30)
            have hX := At.new wr 30 #[.int .i64 (xi : Int), .int .i64 (xt : Int), .string xc]
            obtain ⟨adl, ea, l0, l1, l2⟩ := HLE.out _ hbX
            obtain rfl := Option.some.inj ea
            have HBX := Lib.hid (HBi.out.trans (hbX.mono (by have := HBi.out.size; omega)))
            have HX := Lib.hid hX
            clear hbX hX HLE ea HBi
            go_upto_region 21 with fail
            generalize wr.alloc (.cells #[.int .i64 (xi : Int), .int .i64 (xt : Int), .string xc] 30) = w14 at *
            generalize wr.heap.size = X at *
            have e0 : w14.cell? ⟨X, 0, none⟩ = some (.int .i64 (xi : Int)) := HX.out.cell 0
            have e1 : w14.cell? ⟨X, 1, none⟩ = some (.int .i64 (xt : Int)) := HX.out.cell 1
            have e2 : w14.cell? ⟨X, 2, none⟩ = some (.string xc) := HX.out.cell 2
            have HBn : Hid (∀ n, Below Z w13 (w14.drewN n)) := Lib.hid fun n => below_drewN HBX.out n
            clear HBX HX p0 p1 p2
            go_quiet (fail)
            clear e0 e1 e2 l0 l1 l2
            go_wp2
            go_roundw
            case rel => exact ⟨i + 1, by omega, by go_num, Lib.hid (HBn.out _)⟩
            case measure => simp [intOf]; omega
          · have q4 : decide ((i : Int) < (ln : Int)) = false := by simpa using hil
            have HBF := Lib.hid (HW.out.low.trans (HBi.out.mono hBZ))
            clear HBi HW
            go_wp2
            go_ret
            exact ⟨rfl, HBF.out⟩
  · have hbad : t < 0 ∨ (0 ≤ t ∧ 1099511627776 < t) ∨ ((0 ≤ t ∧ t ≤ 1099511627776) ∧ v < 0) ∨ ((0 ≤ t ∧ t ≤ 1099511627776) ∧ 0 ≤ v ∧ 5 < v) := by omega
    have hAw := awake_any w2 (HST.out w2 hb2)
    have HB2 := Lib.hid hb2
    clear hgood hT2 hb2
    rcases hbad with h1 | ⟨h1, h2⟩ | ⟨⟨h1, h2⟩, h3⟩ | ⟨⟨h1, h2⟩, h3, h4⟩
    · have r1 : decide (t < 0) = true := by simpa using h1
      go_wp2_with fail
      refine hAw.mono ?_
      rintro e w3 ⟨rfl, hb3⟩
      have HBF := Lib.hid (HB2.out.trans (hb3.mono (by have := HB2.out.size; omega)))
      clear hAw hb3
      go_wp2
      go_ret
      exact ⟨rfl, HBF.out⟩
    · have r1 : decide (t < 0) = false := by simpa using h1
      have r2 : decide (t > 1099511627776) = true := by simpa using h2
      go_wp2_with fail
      refine hAw.mono ?_
      rintro e w3 ⟨rfl, hb3⟩
      have HBF := Lib.hid (HB2.out.trans (hb3.mono (by have := HB2.out.size; omega)))
      clear hAw hb3
      go_wp2
      go_ret
      exact ⟨rfl, HBF.out⟩
    · have r1 : decide (t < 0) = false := by simpa using h1
      have r2 : decide (t > 1099511627776) = false := by simpa using h2
      have r3 : decide (v < 0) = true := by simpa using h3
      go_wp2_with fail
      refine hAw.mono ?_
      rintro e w3 ⟨rfl, hb3⟩
      have HBF := Lib.hid (HB2.out.trans (hb3.mono (by have := HB2.out.size; omega)))
      clear hAw hb3
      go_wp2
      go_ret
      exact ⟨rfl, HBF.out⟩
    · have r1 : decide (t < 0) = false := by simpa using h1
      have r2 : decide (t > 1099511627776) = false := by simpa using h2
      have r3 : decide (v < 0) = false := by simpa using h3
      have r4 : decide (v > 5) = true := by simpa using h4
      go_wp2_with fail
      refine hAw.mono ?_
      rintro e w3 ⟨rfl, hb3⟩
      have HBF := Lib.hid (HB2.out.trans (hb3.mono (by have := HB2.out.size; omega)))
      clear hAw hb3
      go_wp2
      go_ret
      exact ⟨rfl, HBF.out⟩
end Go.Proofs.YtplmflagffloeaaDoor
