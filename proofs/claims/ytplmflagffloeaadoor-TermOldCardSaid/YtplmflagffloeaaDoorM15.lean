/- Yp: merged (a claim holds few files). -/
import Derived.Test.YtplmflagffloeaaDoorM14
/- glacierlaw09.TermOld: its walk. -/
namespace Go.Proofs.YtplmflagffloeaaDoor
open Go.RowKit
open Sm
open Wm (num)
open Pm (Key St)
set_option linter.unusedVariables false
set_option linter.unusedSimpArgs false

set_option maxRecDepth 100000 in
set_option maxHeartbeats 4000000 in
theorem walk_old (A : Option Addr) (cap : Nat) (cmds : List ByteArray) (n : Int) (w : World) (hS : Steps w) (hL : Lies w w.heap.size A (strs cmds)) : Calls Tryd.prog 4 #[.slice A cmds.length cap, .int .i64 n] w fun e w' => e = .returned (.bool true) ∧ Below w.heap.size w w' := by
  obtain ⟨i0, hie, hz0, hz1, hz2⟩ := info_parts info_en
  have hN := newX 100000 100000 (by omega) rfl w
  obtain ⟨B, hB⟩ : ∃ B, w.heap.size = B := ⟨_, rfl⟩
  have hS0 := hS.1
  rw [hB] at hN hS0 hL ⊢
  have HST : Hid (∀ W, Below B w W → Steps W) := Lib.hid fun W h => hS.below h hS0
  have HL := Lib.hid hL
  have hCu : ∀ s W, Calls Tryd.prog 9 #[.string s, .int .i64 30] W fun e w' => e = .returned (.string (cutTo s 30)) ∧ W = w' := fun s W => cut_any s 30 W
  have HCU := Lib.hid hCu
  have hc3 := en_cells
  clear hS hL hCu
  go_enter Tryd.func4, Tryd.ntmps4
  go_wp2_with fail
  refine hN.mono ?_
  rintro e w1 ⟨g, m, rfl, hT1, hb1⟩
  have hAw := awake_any w1 (HST.out _ hb1)
  have HT1 := Lib.hid hT1
  have HB1 := Lib.hid hb1
  clear hN hT1 hb1
  go_wp2_with fail
  refine hAw.mono ?_
  rintro e w2 ⟨rfl, hb2⟩
  have hT2 := HT1.out.below hb2
  have hs1 := HB1.out.size
  have hb2 := HB1.out.trans (hb2.mono (by omega))
  have hs2 := hb2.size
  have G2 : Hid (LM w B g m 100000 (entsOf (fun _ => 1) 30 (cmds.take 0)) (.slice (some ⟨w2.heap.size, 0, none⟩) 0 0) (w2.alloc (.cells #[] 30))) := Lib.hid ⟨hT2.alloc _, by
    have := row_empty w2 30 3
    exact ⟨this.1, this.2.imp id fun ⟨k, cap, cur, h1, h2, h3⟩ => ⟨k, cap, cur, h1, by omega, h3⟩⟩, hb2.alloc (by omega) _⟩
  clear hAw hT2 hb2 HT1 HB1
  go_upto_region 6 with fail
  go_wp2
  go_loopw [6, 7] (fun lv i wr => ∃ k : Nat, k ≤ cmds.length ∧ k ≤ 10 ∧ i = .int .i64 (k : Int) ∧ Hid (LM w B g m 100000 (entsOf (fun _ => 1) 30 (cmds.take k)) lv wr))
    (fun _ i _ => 10 - (intOf i).toNat)
  case atStart => exact ⟨0, by omega, by omega, rfl, G2⟩
  case round =>
    clear G2
    obtain ⟨k, hk, hk10, rfl, HG⟩ := hrel
    by_cases hlt : k < cmds.length ∧ k < 10
    · obtain ⟨hlt, hlt10⟩ := hlt
      have q1 : decide ((k : Int) < (cmds.length : Int)) = true := by simpa using hlt
      have q2 : decide ((k : Int) < 10) = true := by simp; omega
      obtain ⟨ad, rfl, hadB, hc⟩ := (HL.out.below HG.out.low).round (k := k) (by simpa [strs] using hlt)
      have hval : ((strs cmds)[k]'(by simpa [strs] using hlt)) = .string cmds[k] := by simp [strs]
      rw [hval] at hc
      clear hval
      have HT := Lib.hid (entsOf_more (fun _ => 1) 30 hlt)
      have hel : (entsOf (fun _ => 1) 30 (cmds.take k)).length = k := by rw [entsOf_len, List.length_take]; omega
      have hCw := HCU.out cmds[k] wr
      generalize cmds[k] = x at *
      generalize cutTo x 30 = y at *
      generalize entsOf (fun _ => 1) 30 (cmds.take k) = es at *
      have hrow := HG.out.row
      have hsw : B ≤ wr.heap.size := by have := HG.out.low.size; have := hs2; have := hs1; omega
      have HROW := Lib.hid hrow
      clear hrow
      go_wp2_with fail
      refine hCw.mono ?_
      rintro e wr' ⟨rfl, rfl⟩
      clear hCw hc
      go_wp2_with (at_builtin; refine wpList_append_own _ rfl _ _ 27 rfl B 30 i0 _ 3 32 Tryd.underlying27 hie hz0 hz1 hz2 rfl (by decide) _ _ _ rfl (HROW.out.alloc _) ⟨wr.heap.size, 0, none⟩ 1 1 [.int .i64 ((k : Int) + 1), .int .i64 1, .string y] rfl rfl ?c1 ?c2 ?c3 ?c4 ?c5 ?_)
      case c1 => exact World.news_of_block (cs := #[.int .i64 ((k : Int) + 1), .int .i64 1, .string y]) (t := 30) (fr := (0, 0)) (heap_alloc_new wr _)
      case c2 => intro u hu; simp at hu; rcases hu with rfl | rfl | rfl <;> simp [Value.oneCell']
      case c3 => unfold maxLen; omega
      case c4 => omega
      case c5 => simp; omega
      intro v' w8 hown hgrow _
      have hG8 : LM w B g m 100000 (es ++ [⟨k + 1, 1, y⟩]) v' w8 := by
        refine ⟨(HG.out.tx.alloc _).row_grown (HROW.out.alloc _) hgrow, ?_, (HG.out.low.alloc hsw _).trans (below_rowG (HROW.out.alloc _) hgrow (by simp; omega))⟩
        have e : enCells [(⟨k + 1, 1, y⟩ : En)] = [.int .i64 ((k : Int) + 1), .int .i64 1, .string y] := by simp [enCells, En.cells]
        have e2 : (es ++ [(⟨k + 1, 1, y⟩ : En)]).length = k + 1 := by rw [List.length_append, hel]; rfl
        rw [enCells_append, e, e2]
        exact hown
      have HG8 := Lib.hid hG8
      clear hG8 hown hgrow HROW HG
      go_wp2
      go_roundw
      case rel => exact ⟨k + 1, by omega, by omega, by go_num, by rw [HT.out]; exact HG8⟩
      case measure => simp [intOf]; omega
    · have hex : (¬ k < cmds.length) ∨ (k < cmds.length ∧ ¬ k < 10) := by omega
      obtain ⟨l, hl⟩ : ∃ l, cmds.take k = l := ⟨_, rfl⟩
      have hll : l.length = k := by rw [← hl, List.length_take]; omega
      rw [hl] at HG
      have hok := entsOf_ok (fun _ => 1) 30 (l := l) (by omega) (fun _ => by omega) (by omega)
      have hlog := entsOf_log (fun _ => 1) 30 (l := l) (by omega) (fun _ => by omega) (by omega)
      have hel := entsOf_len (fun _ => 1) 30 l
      have hbe := entsOf_row (fun _ => 1) 30 l
      have hge : ∀ i (h : i < (entsOf (fun _ => 1) 30 l).length), (entsOf (fun _ => 1) 30 l)[i].idx = i + 1 := fun i h => by
        rw [entsOf_len] at h
        rw [entsOf_get (fun _ => 1) 30 l h]
      have HGE := Lib.hid hge
      have HOK := Lib.hid hok
      have HBE := Lib.hid hbe
      generalize entsOf (fun _ => 1) 30 l = es at *
      rw [hll] at hel
      obtain ⟨A', c', rfl, hlc, hEn⟩ := EnT.of_row HG.out.row
      have HEN := Lib.hid hEn
      have HTX := Lib.hid HG.out.tx
      have HLW := Lib.hid HG.out.low
      rw [hel] at hlc ⊢
      obtain ⟨m', hm', hm2⟩ : ∃ m' : Nat, min (max n 0) (k : Int) = (m' : Int) ∧ m' ≤ k := ⟨(min (max n 0) (k : Int)).toNat, by omega, by omega⟩
      have hsw : B ≤ wr.heap.size := by have := HG.out.low.size; omega
      have hSn := saveSnapX HTX.out hsw hS0 (HST.out wr HLW.out) m' 1 (by omega) (by omega) ⟨#[115]⟩ (by decide) A' c' es (by omega) HOK.out HEN.out (by
        have e2 : (⟨#[115]⟩ : ByteArray).size = 1 := rfl
        rw [e2]
        simp only [List.length_nil]
        omega) (by omega)
      rw [hel] at hSn
      have HSN := Lib.hid hSn
      clear hSn hlt hl hok hbe hEn HG hlog hge
      rcases hex with h1 | ⟨h1, h2⟩
      · have q1 : decide ((k : Int) < (cmds.length : Int)) = false := by simpa using h1
        go_wp2_with fail
        refine HSN.out.mono ?_
        rintro e w5 ⟨rfl, hT5, hb5, hk5⟩
        have hb5 := HLW.out.trans hb5
        have hC5 := loadX hT5 (HST.out w5 hb5) (t := 0) (v := 0) (b := m') (bt := 1) (sn := ⟨#[115]⟩) (.inl ⟨rfl, rfl, rfl⟩) (.inr ⟨by omega, by omega, by decide, rfl⟩) es (by omega) HOK.out (by have := logOf_len 100000 HOK.out (fun x hx => (HOK.out x hx).cmd); omega) rfl
        rw [HBE.out] at hC5
        have HB5 := Lib.hid hb5
        clear hT5 hb5 hk5 HSN HTX HLW HEN
        go_wp2_with fail
        refine hC5.mono ?_
        rintro e w8 ⟨A8, c8, rfl, hc8, hEn8, hb8⟩
        have hs8 : B ≤ w8.heap.size := by have := HB5.out.size; have := hb8.size; omega
        have hb8 := HB5.out.trans (hb8.mono (by have := HB5.out.size; omega))
        have hdl : (es.drop m').length = k - m' := by rw [List.length_drop, hel]
        have hwr : IntKind.i64.wrap ((k : Int) - (m' : Int)) = ((k - m' : Nat) : Int) := by rw [IntKind.wrap_i64] <;> omega
        have hkm : (k : Int) - (m' : Int) = ((k - m' : Nat) : Int) := by omega
        rw [hdl] at hc8 ⊢
        obtain ⟨ln, hln⟩ : ∃ ln, k - m' = ln := ⟨_, rfl⟩
        rw [hln] at hc8 hdl hwr hkm ⊢
        have hb9 := hb8.alloc hs8 (.cells #[.int .i64 0, .int .i64 0, .int .i64 (m' : Int), .int .i64 1, .string ⟨#[115]⟩, .slice A8 ln c8] 36)
        have hN9 := At.new w8 36 #[.int .i64 0, .int .i64 0, .int .i64 (m' : Int), .int .i64 1, .string ⟨#[115]⟩, .slice A8 ln c8]
        have hEn9 := hEn8.below ((Below.refl _ w8).alloc (Nat.le_refl _) (.cells #[.int .i64 0, .int .i64 0, .int .i64 (m' : Int), .int .i64 1, .string ⟨#[115]⟩, .slice A8 ln c8] 36))
        have HL9 := Lib.hid hb9
        have HN9 := Lib.hid hN9
        have HE9 := Lib.hid hEn9
        clear hC5 hEn8 hb8 hb9 hN9 hEn9 HB5
        go_wp2_with fail
        generalize w8.alloc (.cells #[.int .i64 0, .int .i64 0, .int .i64 (m' : Int), .int .i64 1, .string ⟨#[115]⟩, .slice A8 ln c8] 36) = w9 at *
        generalize w8.heap.size = S at *
        have hLast : Calls Tryd.prog 17 #[.pointer (some ⟨S, 0, none⟩)] w9 fun e w' => ∃ tt : Nat, e = .returned (.tuple #[.int .i64 (k : Int), .int .i64 (tt : Int)]) ∧ Below w9.heap.size w9 w' := by
          have hSA : SAt w9 S 0 0 m' 1 ⟨#[115]⟩ A8 c8 (es.drop m') := ⟨by rw [hdl]; exact HN9.out, HE9.out, by rw [hdl]; exact hc8⟩
          rcases Nat.eq_zero_or_pos ln with h0 | h0
          · have hnil : es.drop m' = [] := List.eq_nil_of_length_eq_zero (by rw [hdl]; exact h0)
            rw [hnil] at hSA
            obtain rfl : m' = k := by omega
            exact (last_nil hSA).mono fun e w' ⟨h1, h2⟩ => ⟨1, h1, h2⟩
          · refine (last_some hSA (by omega) (by omega)).mono ?_
            rintro e w' ⟨h1, h2⟩
            have hi : ((es.drop m')[(es.drop m').length - 1]'(by omega)).idx = k := by
              rw [List.getElem_drop, HGE.out]
              omega
            refine ⟨((es.drop m')[(es.drop m').length - 1]'(by omega)).tm, ?_, h2⟩
            rw [h1, hi]
        refine hLast.mono ?_
        rintro e w10 ⟨tt, rfl, hb10⟩
        have hN10 := HN9.out.below hb10 HN9.out.lt
        have HL10 := Lib.hid (HL9.out.trans (hb10.mono (by have := HL9.out.size; omega)))
        have s2 : w10.cell? ⟨S, 2, none⟩ = some (.int .i64 (m' : Int)) := hN10.cell 2
        have s5 : w10.cell? ⟨S, 5, none⟩ = some (.slice A8 ln c8) := hN10.cell 5
        clear hLast hb10 hN10 HN9 HE9 HL9
        go_wp2
        go_ret
        exact ⟨rfl, HL10.out⟩
      · have q1 : decide ((k : Int) < (cmds.length : Int)) = true := by simpa using h1
        have q2 : decide ((k : Int) < 10) = false := by simp; omega
        go_wp2_with fail
        refine HSN.out.mono ?_
        rintro e w5 ⟨rfl, hT5, hb5, hk5⟩
        have hb5 := HLW.out.trans hb5
        have hC5 := loadX hT5 (HST.out w5 hb5) (t := 0) (v := 0) (b := m') (bt := 1) (sn := ⟨#[115]⟩) (.inl ⟨rfl, rfl, rfl⟩) (.inr ⟨by omega, by omega, by decide, rfl⟩) es (by omega) HOK.out (by have := logOf_len 100000 HOK.out (fun x hx => (HOK.out x hx).cmd); omega) rfl
        rw [HBE.out] at hC5
        have HB5 := Lib.hid hb5
        clear hT5 hb5 hk5 HSN HTX HLW HEN
        go_wp2_with fail
        refine hC5.mono ?_
        rintro e w8 ⟨A8, c8, rfl, hc8, hEn8, hb8⟩
        have hs8 : B ≤ w8.heap.size := by have := HB5.out.size; have := hb8.size; omega
        have hb8 := HB5.out.trans (hb8.mono (by have := HB5.out.size; omega))
        have hdl : (es.drop m').length = k - m' := by rw [List.length_drop, hel]
        have hwr : IntKind.i64.wrap ((k : Int) - (m' : Int)) = ((k - m' : Nat) : Int) := by rw [IntKind.wrap_i64] <;> omega
        have hkm : (k : Int) - (m' : Int) = ((k - m' : Nat) : Int) := by omega
        rw [hdl] at hc8 ⊢
        obtain ⟨ln, hln⟩ : ∃ ln, k - m' = ln := ⟨_, rfl⟩
        rw [hln] at hc8 hdl hwr hkm ⊢
        have hb9 := hb8.alloc hs8 (.cells #[.int .i64 0, .int .i64 0, .int .i64 (m' : Int), .int .i64 1, .string ⟨#[115]⟩, .slice A8 ln c8] 36)
        have hN9 := At.new w8 36 #[.int .i64 0, .int .i64 0, .int .i64 (m' : Int), .int .i64 1, .string ⟨#[115]⟩, .slice A8 ln c8]
        have hEn9 := hEn8.below ((Below.refl _ w8).alloc (Nat.le_refl _) (.cells #[.int .i64 0, .int .i64 0, .int .i64 (m' : Int), .int .i64 1, .string ⟨#[115]⟩, .slice A8 ln c8] 36))
        have HL9 := Lib.hid hb9
        have HN9 := Lib.hid hN9
        have HE9 := Lib.hid hEn9
        clear hC5 hEn8 hb8 hb9 hN9 hEn9 HB5
        go_wp2_with fail
        generalize w8.alloc (.cells #[.int .i64 0, .int .i64 0, .int .i64 (m' : Int), .int .i64 1, .string ⟨#[115]⟩, .slice A8 ln c8] 36) = w9 at *
        generalize w8.heap.size = S at *
        have hLast : Calls Tryd.prog 17 #[.pointer (some ⟨S, 0, none⟩)] w9 fun e w' => ∃ tt : Nat, e = .returned (.tuple #[.int .i64 (k : Int), .int .i64 (tt : Int)]) ∧ Below w9.heap.size w9 w' := by
          have hSA : SAt w9 S 0 0 m' 1 ⟨#[115]⟩ A8 c8 (es.drop m') := ⟨by rw [hdl]; exact HN9.out, HE9.out, by rw [hdl]; exact hc8⟩
          rcases Nat.eq_zero_or_pos ln with h0 | h0
          · have hnil : es.drop m' = [] := List.eq_nil_of_length_eq_zero (by rw [hdl]; exact h0)
            rw [hnil] at hSA
            obtain rfl : m' = k := by omega
            exact (last_nil hSA).mono fun e w' ⟨h1, h2⟩ => ⟨1, h1, h2⟩
          · refine (last_some hSA (by omega) (by omega)).mono ?_
            rintro e w' ⟨h1, h2⟩
            have hi : ((es.drop m')[(es.drop m').length - 1]'(by omega)).idx = k := by
              rw [List.getElem_drop, HGE.out]
              omega
            refine ⟨((es.drop m')[(es.drop m').length - 1]'(by omega)).tm, ?_, h2⟩
            rw [h1, hi]
        refine hLast.mono ?_
        rintro e w10 ⟨tt, rfl, hb10⟩
        have hN10 := HN9.out.below hb10 HN9.out.lt
        have HL10 := Lib.hid (HL9.out.trans (hb10.mono (by have := HL9.out.size; omega)))
        have s2 : w10.cell? ⟨S, 2, none⟩ = some (.int .i64 (m' : Int)) := hN10.cell 2
        have s5 : w10.cell? ⟨S, 5, none⟩ = some (.slice A8 ln c8) := hN10.cell 5
        clear hLast hb10 hN10 HN9 HE9 HL9
        go_wp2
        go_ret
        exact ⟨rfl, HL10.out⟩
end Go.Proofs.YtplmflagffloeaaDoor
