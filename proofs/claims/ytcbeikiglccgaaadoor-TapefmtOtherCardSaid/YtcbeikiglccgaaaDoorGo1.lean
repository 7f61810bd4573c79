/- Tr, Ta, Ti, Tj, Tl, Tk, Tkw, Tt, Rf, Toa, Tob, Tou: merged (a claim holds few files). -/
import Derived.Test.YtcbeikiglccgaaaDoorTx
import Derived.Deep.DeepAppendWide
import Derived.Test.YtcbeikiglccgaaaDoorCu
import Derived.Test.YtcbeikiglccgaaaDoorRg
/- tapefmt.Read: its walk. Written by gen_tr.py. -/
namespace Go.Proofs.YtcbeikiglccgaaaDoor
open Go.RowKit
open Sm
set_option linter.unusedVariables false
set_option linter.unusedSimpArgs false
theorem list_ex32 {l : List Value} (h : l.length = 32) : ∃ z0 z1 z2 z3 z4 z5 z6 z7 z8 z9 z10 z11 z12 z13 z14 z15 z16 z17 z18 z19 z20 z21 z22 z23 z24 z25 z26 z27 z28 z29 z30 z31, l = [z0, z1, z2, z3, z4, z5, z6, z7, z8, z9, z10, z11, z12, z13, z14, z15, z16, z17, z18, z19, z20, z21, z22, z23, z24, z25, z26, z27, z28, z29, z30, z31] := by
  obtain ⟨z0, l0, rfl, h0⟩ := list_ex h
  obtain ⟨z1, l1, rfl, h1⟩ := list_ex h0
  obtain ⟨z2, l2, rfl, h2⟩ := list_ex h1
  obtain ⟨z3, l3, rfl, h3⟩ := list_ex h2
  obtain ⟨z4, l4, rfl, h4⟩ := list_ex h3
  obtain ⟨z5, l5, rfl, h5⟩ := list_ex h4
  obtain ⟨z6, l6, rfl, h6⟩ := list_ex h5
  obtain ⟨z7, l7, rfl, h7⟩ := list_ex h6
  obtain ⟨z8, l8, rfl, h8⟩ := list_ex h7
  obtain ⟨z9, l9, rfl, h9⟩ := list_ex h8
  obtain ⟨z10, l10, rfl, h10⟩ := list_ex h9
  obtain ⟨z11, l11, rfl, h11⟩ := list_ex h10
  obtain ⟨z12, l12, rfl, h12⟩ := list_ex h11
  obtain ⟨z13, l13, rfl, h13⟩ := list_ex h12
  obtain ⟨z14, l14, rfl, h14⟩ := list_ex h13
  obtain ⟨z15, l15, rfl, h15⟩ := list_ex h14
  obtain ⟨z16, l16, rfl, h16⟩ := list_ex h15
  obtain ⟨z17, l17, rfl, h17⟩ := list_ex h16
  obtain ⟨z18, l18, rfl, h18⟩ := list_ex h17
  obtain ⟨z19, l19, rfl, h19⟩ := list_ex h18
  obtain ⟨z20, l20, rfl, h20⟩ := list_ex h19
  obtain ⟨z21, l21, rfl, h21⟩ := list_ex h20
  obtain ⟨z22, l22, rfl, h22⟩ := list_ex h21
  obtain ⟨z23, l23, rfl, h23⟩ := list_ex h22
  obtain ⟨z24, l24, rfl, h24⟩ := list_ex h23
  obtain ⟨z25, l25, rfl, h25⟩ := list_ex h24
  obtain ⟨z26, l26, rfl, h26⟩ := list_ex h25
  obtain ⟨z27, l27, rfl, h27⟩ := list_ex h26
  obtain ⟨z28, l28, rfl, h28⟩ := list_ex h27
  obtain ⟨z29, l29, rfl, h29⟩ := list_ex h28
  obtain ⟨z30, l30, rfl, h30⟩ := list_ex h29
  obtain ⟨z31, l31, rfl, h31⟩ := list_ex h30
  cases l31 with
  | nil => exact ⟨z0, z1, z2, z3, z4, z5, z6, z7, z8, z9, z10, z11, z12, z13, z14, z15, z16, z17, z18, z19, z20, z21, z22, z23, z24, z25, z26, z27, z28, z29, z30, z31, rfl⟩
  | cons _ _ => cases h31

set_option maxRecDepth 100000 in
set_option maxHeartbeats 8000000 in
theorem rblob_any {w : World} {B g : Nat} {s : VS} (h : Vol w B g s) (hc : s.Calm) (hS : Steps w) (hB : 0 < B) (from_ : Nat) (hf : from_ ≤ s.l.length) (id : Nat) (hid : id < 18446744073709551616) :
    Calls Tryd.prog 18 #[.pointer (some ⟨g, 0, none⟩), .int .i64 (from_ : Int), .int .u64 (id : Int)] w (ReadRet w B g s (rdGo s.lab from_ id (s.l.drop from_) 0 [])) := by
  have hbz := h.bz
  have hw0 := hS.1
  have hK := seek_vol h from_
  have hsk : s.seek from_ = ({ s with pos := from_ }, 0) := by
    rw [hc.seek, if_neg (by omega), Int.toNat_natCast]
  rw [hsk] at hK
  have hlen := h.1.len
  have HC := Lib.hid hc
  have HS := Lib.hid hS
  have hlbz := h.1.lab
  have HP : Hid (∀ (lab : ByteArray) (k pos : Nat) (acc : List UInt8), pos ≤ s.l.length → _) := Lib.hid fun lab k pos acc hp => rd_next (s := { s with pos := pos }) ⟨hc.lo, hc.lf, hc.pr⟩ hp lab from_ id k acc
  clear h hc hsk hS
  obtain ⟨R, hR⟩ : ∃ R, rdGo s.lab from_ id (s.l.drop from_) 0 [] = R := ⟨_, rfl⟩
  rw [hR]
  have HR := Lib.hid hR
  clear hR
  go_enter Tryd.func18, Tryd.ntmps18
  go_wp2_with fail
  refine hK.mono ?_
  rintro e w1 ⟨rfl, h1, st1⟩
  have h1 : Vol w1 B g { s with pos := from_ } := h1
  have hbd := BdIs.new w1
  have h2 := h1.alloc (.cells #[.pointer none, .slice none 0 0] 96)
  have st2 : Stay B g w (w1.alloc (.cells #[.pointer none, .slice none 0 0] 96)) := st1.trans (Stay.alloc _ _ h1.bz)
  have hlow := st1.size
  have H2 := Lib.hid h2
  have ST2 := Lib.hid st2
  have HBD := Lib.hid hbd
  clear h1 st1 hbd h2 st2 hK
  go_upto_region 5 with fail
  generalize w1.alloc (.cells #[.pointer none, .slice none 0 0] 96) = w2 at *
  generalize hb' : w1.heap.size = b at *
  clear hb'
  have G2 : Hid (∃ acc : List UInt8, acc.length ≤ 200 * 0 ∧ Vol w2 B g { s with pos := from_ + 0 } ∧ BdIs w2 b acc ∧ rdGo s.lab from_ id (s.l.drop (from_ + 0)) 0 acc = R) := Lib.hid ⟨[], by simp, H2.out, HBD.out, HR.out⟩
  clear H2 HBD HR
  go_wp2
  go_loopw [10] (fun i wr => ∃ k : Nat, from_ + k ≤ s.l.length ∧ i = .int .i64 (k : Int) ∧ Hid (∃ acc : List UInt8, acc.length ≤ 200 * k ∧ Vol wr B g { s with pos := from_ + k } ∧ BdIs wr b acc ∧ rdGo s.lab from_ id (s.l.drop (from_ + k)) k acc = R) ∧ Hid (Stay B g w wr))
    (fun i _ => s.l.length - from_ - (intOf i).toNat)
  case atStart => exact ⟨0, by omega, rfl, G2, ST2⟩
  case round =>
    clear G2 ST2
    obtain ⟨k, hk, rfl, HG, HST⟩ := hrel
    obtain ⟨acc, hacc, hv, hbd, hrd⟩ := HG.out
    have hSr := HS.out.below HST.out.below hB
    have hN := next_any hv hSr hB
    have hp := HP.out s.lab k (from_ + k) acc hk
    have HBD := Lib.hid hbd
    have HRD := Lib.hid hrd
    clear HG hv hbd hrd hSr HP
    rcases hp with ⟨ee, p, q, he0, hnx, hR⟩ | ⟨p, hplt, hgot, hnx, hR⟩
    · rw [hnx] at hN
      have hre : R = ([], ee) := HRD.out.symm.trans hR
      subst hre
      have heb : ((ee : Int) != 0) = true := by rw [bne_iff_ne]; omega
      have hC8 : p.cells.size = 8 := rfl
      have hC1 : p.cells.all (·.oneCell') = true := by simp [Value.oneCell']
      unfold NextEnds Pc.val at hN
      simp only at hN
      generalize p.cells = C at *
      have hI8 : (Tryd.prog.info? 90).map (·.size) = some C.size := by rw [hC8]; kernel_rfl
      have hI9 : pcZero.size = C.size := by rw [hC8]; rfl
      have HI8 := Lib.hid hI8
      have HI9 := Lib.hid hI9
      have HC1 := Lib.hid hC1
      clear hnx hR HRD he0 hC8 hC1 hI8 hI9
      go_wp2_with fail
      refine hN.mono ?_
      rintro e w3 ⟨rfl, h3, st3⟩
      have HST3 := Lib.hid (HST.out.trans st3)
      have H3 := Lib.hid h3
      have HX := Lib.hid (At.new w3 90 pcZero)
      have hWZ : (w3.alloc (.cells pcZero 90)).heap.size = w3.heap.size + 1 := by simp
      clear hN h3 st3 HST HBD
      go_wp2_with (refine wpList_store_whole rfl 90 _ _ rfl w3.heap.size C rfl rfl 90 _ HX.out HI8.out HI9.out HC1.out ?_; intro w9 hZ9 hG9; replace hZ9 := Lib.hid hZ9; replace hG9 := Lib.hid hG9)
      have hb9 : Below w3.heap.size w3 w9 := below_of_grownBy ((Below.refl _ w3).alloc (Nat.le_refl _) _) hG9.out (by rw [hWZ]; omega) (Nat.le_refl _)
      go_ret2
      exact ⟨rfl, ⟨q, H3.out.below hb9⟩, HST3.out.trans (Stay.of_below hb9 H3.out.bz)⟩
    · rw [hnx] at hN
      obtain ⟨pl, pb, pi, pp, pn, pz, ps, pd⟩ := p
      have hR2 := HRD.out.symm.trans hR
      obtain ⟨t, ht⟩ : ∃ t, ({ s with pos := from_ + k + 1 } : VS) = t := ⟨_, rfl⟩
      rw [ht] at hN
      have htl : t.lab = s.lab := by rw [← ht]
      have hLa : ∀ W, Vol W B g t → Calls Tryd.prog 36 #[.pointer (some ⟨g, 0, none⟩)] W fun e w' => e = .returned (.string s.lab) ∧ Below W.heap.size W w' := fun W hW => by
        have := label_any hW
        rw [htl] at this
        exact this
      obtain ⟨lab, hlab⟩ : ∃ lab, s.lab = lab := ⟨_, rfl⟩
      have HLAB := Lib.hid hlab
      rw [hlab] at hLa hR2
      obtain ⟨q1, q2, q3, q4, q5, q6, q7, q8⟩ := hgot
      simp only at hR2 q1 q2 q3 q4 q5 q6 q7 q8
      have hPt := fun W => parts_any pz (by omega) W
      obtain ⟨n2, hn2⟩ : ∃ n2, partsOf pz = n2 := ⟨_, rfl⟩
      have hn20 : n2 ≤ 20 := by rw [← hn2]; exact partsOf_le q2
      rw [hn2] at hPt hR2
      unfold NextEnds Pc.val Pc.cells at hN
      simp only at hN
      have hC1 : (#[.string pl, .int .i64 (pb : Nat), .int .u64 (pi : Nat), .int .i64 (pp : Nat), .int .i64 (pn : Nat), .int .i64 (pz : Nat), .int .u32 (ps : Nat), .string pd] : Array Value).all (·.oneCell') = true := by simp [Value.oneCell']
      have HC1 := Lib.hid hC1
      have HR2 := Lib.hid hR2
      have HT := Lib.hid ht
      have HLA := Lib.hid hLa
      have HPT := Lib.hid hPt
      clear hnx hR HRD ht htl hlab hn2 hC1 hR2 hLa hPt
      go_wp2_with fail
      refine hN.mono ?_
      rintro e w3 ⟨rfl, h3, st3⟩
      have HST3 := Lib.hid (HST.out.trans st3)
      have H3 := Lib.hid h3
      have HBD3 := Lib.hid (HBD.out.stay st3.toStay0)
      have HX := Lib.hid (At.new w3 90 pcZero)
      have hWZ : (w3.alloc (.cells pcZero 90)).heap.size = w3.heap.size + 1 := by simp
      clear hN h3 st3 HST HBD
      go_upto_region 8 with (refine wpList_store_whole rfl 90 _ _ rfl w3.heap.size #[.string pl, .int .i64 (pb : Nat), .int .u64 (pi : Nat), .int .i64 (pp : Nat), .int .i64 (pn : Nat), .int .i64 (pz : Nat), .int .u32 (ps : Nat), .string pd] rfl rfl 90 _ HX.out (by kernel_rfl) (by kernel_rfl) HC1.out ?_; intro w9 hZ9 hG9; replace hZ9 := Lib.hid hZ9; replace hG9 := Lib.hid hG9)
      have hb9 : Below w3.heap.size w3 w9 := below_of_grownBy ((Below.refl _ w3).alloc (Nat.le_refl _) _) hG9.out (by rw [hWZ]; omega) (Nat.le_refl _)
      have hst9 := HST3.out.trans (Stay.of_below hb9 H3.out.bz)
      have hT9 : RdT w B g t b acc w3.heap.size #[.string pl, .int .i64 (pb : Nat), .int .u64 (pi : Nat), .int .i64 (pp : Nat), .int .i64 (pn : Nat), .int .i64 (pz : Nat), .int .u32 (ps : Nat), .string pd] w9 := ⟨H3.out.below hb9, hst9, HS.out.below hst9.below hB, HBD3.out.below hb9, hZ9.out, hlow⟩
      clear hb9 hst9 HST3 H3 HBD3 HX hWZ hZ9 hG9 HC1
      generalize w3.heap.size = X at *
      have KC : Hid (∀ w', RdT w B g t b acc X #[.string pl, .int .i64 (pb : Nat), .int .u64 (pi : Nat), .int .i64 (pp : Nat), .int .i64 (pn : Nat), .int .i64 (pz : Nat), .int .u32 (ps : Nat), .string pd] w' → w'.cell? ⟨X, 0, none⟩ = some (.string pl) ∧ w'.cell? ⟨X, 1, none⟩ = some (.int .i64 (pb : Nat)) ∧ w'.cell? ⟨X, 2, none⟩ = some (.int .u64 (pi : Nat)) ∧ w'.cell? ⟨X, 3, none⟩ = some (.int .i64 (pp : Nat)) ∧ w'.cell? ⟨X, 4, none⟩ = some (.int .i64 (pn : Nat)) ∧ w'.cell? ⟨X, 5, none⟩ = some (.int .i64 (pz : Nat)) ∧ w'.cell? ⟨X, 6, none⟩ = some (.int .u32 (ps : Nat)) ∧ w'.cell? ⟨X, 7, none⟩ = some (.string pd)) := Lib.hid fun w' h => ⟨h.at_.cell 0, h.at_.cell 1, h.at_.cell 2, h.at_.cell 3, h.at_.cell 4, h.at_.cell 5, h.at_.cell 6, h.at_.cell 7⟩
      obtain ⟨x0, x1, x2, x3, x4, x5, x6, x7⟩ := KC.out w9 hT9
      clear x6 x7
      have hsum : IntKind.i64.wrap ((from_ : Int) + (k : Int)) = (from_ : Int) + (k : Int) := by rw [IntKind.wrap_i64]; omega
      have hfk : from_ + k ≤ 1000000 := by omega
      have hc5 : ((!pl.toList == lab.toList) || ((pb : Int) != (from_ : Int) + (k : Int)) || ((pi : Int) != (id : Int)) || ((pp : Int) != (k : Int)) || ((pn : Int) != (n2 : Int))) = true ↔ (pl ≠ lab ∨ pb ≠ from_ + k ∨ pi ≠ id ∨ pp ≠ k ∨ pn ≠ n2) := by
        have f1 : (!pl.toList == lab.toList) = true ↔ pl ≠ lab := by
          rw [Bool.not_eq_true', beq_eq_false_iff_ne]
          exact ⟨fun h e => h (by rw [e]), fun h e => h (ByteArray.ext (by rw [ByteArray.toList_eq, ByteArray.toList_eq] at e; exact Array.toList_inj.1 e))⟩
        simp only [Bool.or_eq_true, f1, bne_iff_ne, or_assoc]
        constructor <;> (rintro (h | h | h | h | h); exact .inl h; exact .inr (.inl (by omega)); exact .inr (.inr (.inl (by omega))); exact .inr (.inr (.inr (.inl (by omega)))); exact .inr (.inr (.inr (.inr (by omega)))))
      go_upto_region 10 with fail
      refine rg_region rfl ⟨rfl, rfl, rfl, rfl, rfl, rfl, rfl, rfl, rfl, rfl, hfk, HLA.out, HPT.out⟩ hT9 ?_
      intro xs w5 hxs hr5
      generalize ((!pl.toList == lab.toList) || ((pb : Int) != (from_ : Int) + (k : Int)) || ((pi : Int) != (id : Int)) || ((pp : Int) != (k : Int)) || ((pn : Int) != (n2 : Int))) = m at hc5 ⊢
      obtain ⟨z0, z1, z2, z3, z4, z5, z6, z7, z8, z9, z10, z11, z12, z13, z14, z15, z16, z17, z18, z19, z20, z21, z22, z23, z24, z25, z26, z27, z28, z29, z30, z31, rfl⟩ := list_ex32 hxs
      clear hxs
      simp only [List.take_succ_cons, List.take_zero, List.drop_succ_cons, List.drop_zero, List.cons_append, List.nil_append]
      cases m with
      | true =>
        have hre := HR2.out
        rw [if_pos (hc5.1 rfl)] at hre
        subst hre
        have HR5 := Lib.hid hr5
        clear HR2 hc5 hr5 hT9 KC HPT HLA x0 x1 x2 x3 x4 x5
        go_wp2
        go_ret2
        exact ⟨rfl, ⟨_, by have := HR5.out.vol; rw [← HT.out] at this; exact this⟩, HR5.out.stay⟩
      | false =>
        have hre := HR2.out
        have hnc : ¬ (pl ≠ lab ∨ pb ≠ from_ + k ∨ pi ≠ id ∨ pp ≠ k ∨ pn ≠ n2) := fun h => by have := hc5.2 h; cases this
        rw [if_neg hnc] at hre
        have hpn : pn = n2 := Classical.byContradiction fun h => hnc (.inr (.inr (.inr (.inr h))))
        have hpk : pp = k := Classical.byContradiction fun h => hnc (.inr (.inr (.inr (.inl h))))
        have HRE := Lib.hid hre
        clear hre HR2 hc5 hnc HPT HLA x0 x1 x2 x3 x4 x5
        have x7 := (KC.out w5 hr5).2.2.2.2.2.2.2
        have hwl : b < w5.heap.size := hr5.bd.lt
        have hWS := Tryd.Builder_WriteString_k b b (Lib.byteCells acc) pd w5 hr5.bd (by simp only [Lib.byteCells, List.length_map]; omega) (by omega)
        have HR5 := Lib.hid hr5
        have HBS : Hid (∀ w6, Lib.BuilderAtF 96 5 b b (.pointer (some ⟨b, 0, none⟩)) (Lib.byteCells acc ++ Lib.strCells pd) w6 → Below b w5 w6 → Lib.OthersKept 5 (some b) w5 w6 → RdT w B g t b (acc ++ pd.data.toList) X #[.string pl, .int .i64 (pb : Nat), .int .u64 (pi : Nat), .int .i64 (pp : Nat), .int .i64 (pn : Nat), .int .i64 (pz : Nat), .int .u32 (ps : Nat), .string pd] w6) := Lib.hid fun w6 h1 h2 h3 => RdT.others hr5 hbz hw0 (.inr (by
          have e : Lib.byteCells (acc ++ pd.data.toList) = Lib.byteCells acc ++ Lib.strCells pd := by simp [Lib.byteCells, Lib.strCells]
          rw [e]; exact h1)) h2 h3
        clear hr5 hT9 KC
        go_wp2_with fail
        refine hWS.mono ?_
        rintro e w6 ⟨rfl, hbd6, hb6, ho6⟩
        have hr6 := HBS.out w6 hbd6 hb6 ho6
        clear hWS hbd6 hb6 ho6 HBS HR5 x7
        have hac : (acc ++ pd.data.toList).length ≤ 200 * (k + 1) := by have hpz : pd.data.toList.length = pd.size := (by simp); rw [List.length_append]; omega
        obtain ⟨ac2, hac2⟩ : ∃ ac2, acc ++ pd.data.toList = ac2 := ⟨_, rfl⟩
        have hre := HRE.out
        rw [hac2] at hr6 hre hac
        clear HRE hac2
        have HRE := Lib.hid hre
        clear hre
        have y4 : w6.cell? ⟨X, 4, none⟩ = some (.int .i64 (pn : Nat)) := hr6.at_.cell 4
        have HR6 := Lib.hid hr6
        clear hr6
        by_cases hlast : k + 1 = pn
        · have hre := HRE.out
          rw [if_pos hlast] at hre
          have z1 : ((k : Int) == (pn : Int) - 1) = true := by rw [beq_iff_eq]; omega
          clear HRE
          go_upto_region 14 with fail
          obtain ⟨x0, x1, x2, x3, x4, x5, x6, x7⟩ : w6.cell? ⟨X, 0, none⟩ = some (.string pl) ∧ w6.cell? ⟨X, 1, none⟩ = some (.int .i64 (pb : Nat)) ∧ w6.cell? ⟨X, 2, none⟩ = some (.int .u64 (pi : Nat)) ∧ w6.cell? ⟨X, 3, none⟩ = some (.int .i64 (pp : Nat)) ∧ w6.cell? ⟨X, 4, none⟩ = some (.int .i64 (pn : Nat)) ∧ w6.cell? ⟨X, 5, none⟩ = some (.int .i64 (pz : Nat)) ∧ w6.cell? ⟨X, 6, none⟩ = some (.int .u32 (ps : Nat)) ∧ w6.cell? ⟨X, 7, none⟩ = some (.string pd) := ⟨HR6.out.at_.cell 0, HR6.out.at_.cell 1, HR6.out.at_.cell 2, HR6.out.at_.cell 3, HR6.out.at_.cell 4, HR6.out.at_.cell 5, HR6.out.at_.cell 6, HR6.out.at_.cell 7⟩
          have hT6 : RdT w B g t b ac2 X #[.string pl, .int .i64 (pb : Nat), .int .u64 (pi : Nat), .int .i64 (pp : Nat), .int .i64 (pn : Nat), .int .i64 (pz : Nat), .int .u32 (ps : Nat), .string pd] w6 := HR6.out
          obtain ⟨sx, hsx⟩ : ∃ sx : ByteArray, (⟨ac2.toArray⟩ : ByteArray) = sx := ⟨_, rfl⟩
          have hsd : sx.data.toList = ac2 := by rw [← hsx]
          have hsz : sx.size ≤ 1000000 := by rw [← hsx, str_len]; omega
          have HST14 : Hid (∀ W, RdT w B g t b ac2 X #[.string pl, .int .i64 (pb : Nat), .int .u64 (pi : Nat), .int .i64 (pp : Nat), .int .i64 (pn : Nat), .int .i64 (pz : Nat), .int .u32 (ps : Nat), .string pd] W → Calls Tryd.prog 54 #[.pointer (some ⟨b, 0, none⟩)] W fun e w' => e = .returned (.string sx) ∧ RdT w B g t b ac2 X #[.string pl, .int .i64 (pb : Nat), .int .u64 (pi : Nat), .int .i64 (pp : Nat), .int .i64 (pn : Nat), .int .i64 (pz : Nat), .int .u32 (ps : Nat), .string pd] w') := Lib.hid fun W h => by
            have hlt := h.bd.lt
            have := Tryd.Builder_String_any_k b b ac2 W h.bd (by omega)
            rw [hsx] at this
            exact this.mono fun e w' ⟨h1, h2, h3, h4⟩ => ⟨h1, RdT.others h hbz hw0 h2 h3 h4⟩
          have HWH : Hid (∀ W, RdT w B g t b ac2 X #[.string pl, .int .i64 (pb : Nat), .int .u64 (pi : Nat), .int .i64 (pp : Nat), .int .i64 (pn : Nat), .int .i64 (pz : Nat), .int .u32 (ps : Nat), .string pd] W → Calls Tryd.prog 53 #[.agg #[.string pl, .int .i64 (pb : Nat), .int .u64 (pi : Nat), .int .i64 (pp : Nat), .int .i64 (pn : Nat), .int .i64 (pz : Nat), .int .u32 (ps : Nat), .string pd], .string sx] W fun e w' => e = .returned (.tuple #[.string ⟨R.1.toArray⟩, .int .i64 (R.2 : Nat)]) ∧ RdT w B g t b ac2 X #[.string pl, .int .i64 (pb : Nat), .int .u64 (pi : Nat), .int .i64 (pp : Nat), .int .i64 (pn : Nat), .int .i64 (pz : Nat), .int .u32 (ps : Nat), .string pd] w') := Lib.hid fun W h => by
            have := whole_any ⟨pl, pb, pi, pp, pn, pz, ps, pd⟩ sx hsz W h.steps
            rw [hsd, ← hre] at this
            exact this.mono fun e w' ⟨h1, h2⟩ => ⟨h1, h.after h2⟩
          have HKC : Hid (∀ w', RdT w B g t b ac2 X #[.string pl, .int .i64 (pb : Nat), .int .u64 (pi : Nat), .int .i64 (pp : Nat), .int .i64 (pn : Nat), .int .i64 (pz : Nat), .int .u32 (ps : Nat), .string pd] w' → w'.cell? ⟨X, 0, none⟩ = some (.string pl) ∧ w'.cell? ⟨X, 1, none⟩ = some (.int .i64 (pb : Nat)) ∧ w'.cell? ⟨X, 2, none⟩ = some (.int .u64 (pi : Nat)) ∧ w'.cell? ⟨X, 3, none⟩ = some (.int .i64 (pp : Nat)) ∧ w'.cell? ⟨X, 4, none⟩ = some (.int .i64 (pn : Nat)) ∧ w'.cell? ⟨X, 5, none⟩ = some (.int .i64 (pz : Nat)) ∧ w'.cell? ⟨X, 6, none⟩ = some (.int .u32 (ps : Nat)) ∧ w'.cell? ⟨X, 7, none⟩ = some (.string pd)) := Lib.hid fun w' h => ⟨h.at_.cell 0, h.at_.cell 1, h.at_.cell 2, h.at_.cell 3, h.at_.cell 4, h.at_.cell 5, h.at_.cell 6, h.at_.cell 7⟩
          clear hsx hsd hsz hre y4 HR6 z1 hac hlast hpn hpk
          go_region_held3 (fun w' => w'.cell? ⟨X, 0, none⟩ = some (.string pl) ∧ w'.cell? ⟨X, 1, none⟩ = some (.int .i64 (pb : Nat)) ∧ w'.cell? ⟨X, 2, none⟩ = some (.int .u64 (pi : Nat)) ∧ w'.cell? ⟨X, 3, none⟩ = some (.int .i64 (pp : Nat)) ∧ w'.cell? ⟨X, 4, none⟩ = some (.int .i64 (pn : Nat)) ∧ w'.cell? ⟨X, 5, none⟩ = some (.int .i64 (pz : Nat)) ∧ w'.cell? ⟨X, 6, none⟩ = some (.int .u32 (ps : Nat)) ∧ w'.cell? ⟨X, 7, none⟩ = some (.string pd) ∧ RdT w B g t b ac2 X #[.string pl, .int .i64 (pb : Nat), .int .u64 (pi : Nat), .int .i64 (pp : Nat), .int .i64 (pn : Nat), .int .i64 (pz : Nat), .int .u32 (ps : Nat), .string pd] w') (go_keep)
            (first
             | (go_at_call 54; refine (HST14.out _ (by first | assumption | (apply RdT.drew; assumption))).mono ?_; rintro e w7 ⟨rfl, hr7⟩; obtain ⟨k0, k1, k2, k3, k4, k5, k6, k7⟩ := HKC.out w7 hr7)
             | (go_at_call 53; refine (HWH.out _ (by first | assumption | (apply RdT.drew; assumption))).mono ?_; rintro e w8 ⟨rfl, hr8⟩; obtain ⟨m0, m1, m2, m3, m4, m5, m6, m7⟩ := HKC.out w8 hr8))
          all_goals
            have HR8 := Lib.hid hr8
            clear hr8
            go_wp2
            go_ret2
            exact ⟨rfl, ⟨_, by have := HR8.out.vol; rw [← HT.out] at this; exact this⟩, HR8.out.stay⟩
        · have hre := HRE.out
          rw [if_neg hlast] at hre
          have z1 : ((k : Int) == (pn : Int) - 1) = false := by rw [beq_eq_false_iff_ne]; omega
          have HRE2 := Lib.hid hre
          clear hre HRE
          go_wp2
          go_roundw
          case rel => exact ⟨k + 1, by omega, by go_num, Lib.hid ⟨ac2, hac, by have := HR6.out.vol; rw [← HT.out] at this; exact this, HR6.out.bd, by rw [HLAB.out]; exact HRE2.out.symm⟩, Lib.hid HR6.out.stay⟩
          case measure => simp [intOf]; omega


end Go.Proofs.YtcbeikiglccgaaaDoor

/- What Write makes of a calm volume; the tape of blobs. -/
namespace Go.Proofs.YtcbeikiglccgaaaDoor
open Go.RowKit
open Sm
set_option linter.unusedVariables false
set_option linter.unusedSimpArgs false

theorem wgo_ok {rm : Int} : ∀ (bs : List Blk) (s : VS), s.Fresh rm → (∀ b ∈ bs, b.torn = false) → (wsum s.l : Int) + wsum bs ≤ rm → s.wgo bs = ({ s with l := s.l ++ bs, pos := s.pos + bs.length }, 0) := by
  intro bs
  induction bs with
  | nil => intro s _ _ _; unfold VS.wgo; simp
  | cons b r ih =>
    intro s h ht hw
    rw [wsum_cons] at hw
    have hb := ht b (by simp)
    have ha := h.add b
    rw [if_neg (by omega)] at ha
    unfold VS.wgo
    rw [ha, if_neg (by simp)]
    rw [ih _ (h.more b hb) (fun x hx => ht x (by simp [hx])) (by show (wsum (s.l ++ [b]) : Int) + _ ≤ _; rw [wsum_append, wsum_one]; omega)]
    simp [Nat.add_assoc, Nat.add_comm, Nat.add_left_comm]

theorem piece_wt {lab : ByteArray} {first id i : Nat} {d : List UInt8} (hl : lab.size ≤ 32) (hf : first + 20 ≤ 1000000) (hid : id < 18446744073709551616) (hd : d.length ≤ 4000) (hi : i < partsOf d.length) : (pieceBlk (pieceOf lab first id d i)).wt ≤ 71 + (chunkOf d i).length := by
  have h20 := partsOf_le hd
  have hok := pieceOf_ok hl (by omega : first + i ≤ 1000000) hid hd hi
  have he := enc_len hok (by show first + i ≤ _; omega) (by show partsOf d.length ≤ _; omega)
  have e1 : (pieceOf lab first id d i).data.size = (chunkOf d i).length := by show (⟨(chunkOf d i).toArray⟩ : ByteArray).size = _; rw [str_len]
  unfold pieceBlk Blk.wt Pc.spell
  show (⟨(frameL _).toArray⟩ : ByteArray).size + 4 ≤ _
  rw [str_len, frameL_len]
  omega
theorem blob_sum {lab : ByteArray} {first id : Nat} {d : List UInt8} (hl : lab.size ≤ 32) (hf : first + 20 ≤ 1000000) (hid : id < 18446744073709551616) (hd : d.length ≤ 4000) : wsum (blobBlks lab first id d) + 8 ≤ weightOf d.length := by
  have key : ∀ k, k ≤ partsOf d.length → wsum ((List.range k).map fun i => pieceBlk (pieceOf lab first id d i)) ≤ 71 * k + (d.take (200 * k)).length := by
    intro k
    induction k with
    | zero => intro _; simp [wsum]
    | succ k ih =>
      intro hk
      have h1 := ih (by omega)
      have h2 := piece_wt hl hf hid hd (show k < partsOf d.length by omega)
      rw [List.range_succ, List.map_append, wsum_append]
      show wsum _ + wsum [pieceBlk (pieceOf lab first id d k)] ≤ _
      rw [wsum_one, ← chunk_take, List.length_append]
      omega
  have h := key _ (Nat.le_refl _)
  have h3 : (d.take (200 * partsOf d.length)).length ≤ d.length := by rw [List.length_take]; omega
  have h4 := partsOf_pos d.length
  unfold blobBlks weightOf
  omega

/-- a volume on which a blob can be written -/
structure VS.Good (s : VS) (rm : Int) (lab : ByteArray) : Prop where
  calm : s.Calm
  rm : s.rm = rm
  torn : lastTorn s.l = false
  lab : s.lab = lab
theorem VS.Good.lb (rm : Int) (lab : ByteArray) : VS.Good { VS.new rm with lab := lab, er := 1 } rm lab := ⟨⟨rfl, rfl, rfl⟩, rfl, rfl, rfl⟩
theorem erase_new (rm : Int) (lab : ByteArray) : (VS.new rm).erase lab = ({ VS.new rm with lab := lab, er := 1 }, 0) := rfl

def VS.wrote (s : VS) (id : Nat) (d : List UInt8) : VS := { s with l := s.l ++ (blobBlks s.lab s.l.length id d ++ [markBlk]), pos := s.l.length + partsOf d.length + 1, sure := s.l.length + partsOf d.length + 1 }
theorem VS.wrote_len (s : VS) (id : Nat) (d : List UInt8) : (s.wrote id d).l.length = s.l.length + partsOf d.length + 1 := by
  show (s.l ++ (blobBlks s.lab s.l.length id d ++ [markBlk])).length = _
  rw [List.length_append, List.length_append, blobBlks_len]
  simp [Nat.add_assoc]
theorem VS.Good.wrote {s : VS} {rm : Int} {lab : ByteArray} (h : s.Good rm lab) (id : Nat) (d : List UInt8) : (s.wrote id d).Good rm lab :=
  ⟨⟨h.calm.lo, h.calm.lf, h.calm.pr⟩, h.rm, by show lastTorn (s.l ++ (blobBlks s.lab s.l.length id d ++ [markBlk])) = false; rw [← List.append_assoc, lastTorn_append]; rfl, h.lab⟩
theorem VS.Good.pos {s : VS} {rm : Int} {lab : ByteArray} (h : s.Good rm lab) (p : Nat) : VS.Good { s with pos := p } rm lab := ⟨⟨h.calm.lo, h.calm.lf, h.calm.pr⟩, h.rm, h.torn, h.lab⟩
theorem VS.wrote_sum {s : VS} {id : Nat} {d : List UInt8} (hl : s.lab.size ≤ 32) (hf : s.l.length + 20 ≤ 1000000) (hid : id < 18446744073709551616) (hd : d.length ≤ 4000) : wsum (s.wrote id d).l ≤ wsum s.l + weightOf d.length := by
  have h := blob_sum hl hf hid hd
  show wsum (s.l ++ (blobBlks s.lab s.l.length id d ++ [markBlk])) ≤ _
  rw [wsum_append, wsum_append, wsum_one]
  have : markBlk.wt = 4 := rfl
  omega

theorem wblob_ok {s : VS} {rm : Int} {lab : ByteArray} (h : s.Good rm lab) (hl : lab.size ≤ 32) (hf : s.l.length + 20 ≤ 1000000) {id : Nat} (hid : id < 18446744073709551616) {d : List UInt8} (hd : d.length ≤ 4000) (hw : (wsum s.l : Int) + weightOf d.length ≤ rm) : s.wblob id d = (s.wrote id d, (s.l.length : Int), 0) := by
  have hl' : s.lab.size ≤ 32 := by rw [h.lab]; exact hl
  have hbs := blob_sum hl' hf hid hd
  have hsk : s.seek s.l.length = ({ s with pos := s.l.length }, 0) := by
    rw [h.calm.seek, if_neg (by omega), Int.toNat_natCast]
  have hfr : VS.Fresh { s with pos := s.l.length } rm := ⟨⟨h.calm.lo, h.calm.lf, h.calm.pr⟩, h.rm, rfl, h.torn⟩
  have hnt : ∀ b ∈ blobBlks s.lab s.l.length id d, b.torn = false := by
    intro b hb
    unfold blobBlks at hb
    obtain ⟨i, _, rfl⟩ := List.mem_map.1 hb
    rfl
  have hgo := wgo_ok (blobBlks s.lab s.l.length id d) _ hfr hnt (by show (wsum s.l : Int) + _ ≤ _; omega)
  simp only at hgo
  have hfr2 : VS.Fresh { s with l := s.l ++ blobBlks s.lab s.l.length id d, pos := s.l.length + (blobBlks s.lab s.l.length id d).length } rm :=
    ⟨⟨h.calm.lo, h.calm.lf, h.calm.pr⟩, h.rm, by show _ = (s.l ++ _).length; rw [List.length_append], by
      show lastTorn (s.l ++ blobBlks s.lab s.l.length id d) = false
      have hne : blobBlks s.lab s.l.length id d ≠ [] := by
        intro e
        have := blobBlks_len s.lab s.l.length id d
        rw [e] at this
        have := partsOf_pos d.length
        simp at *
        omega
      obtain ⟨x, y, e⟩ : ∃ x y, blobBlks s.lab s.l.length id d = x ++ [y] := ⟨_, _, (List.dropLast_concat_getLast hne).symm⟩
      rw [e, ← List.append_assoc, lastTorn_append]
      exact hnt y (by rw [e]; simp)⟩
  have ha := hfr2.add markBlk
  rw [if_neg (by
    show ¬ rm < (wsum (s.l ++ blobBlks s.lab s.l.length id d) : Int) + markBlk.wt
    have e4 : markBlk.wt = 4 := rfl
    rw [wsum_append, e4]; omega)] at ha
  have hfr3 := hfr2.more markBlk rfl
  have hfl := hfr3.calm.flush
  simp only at ha hfl
  unfold VS.wblob
  rw [hsk]
  simp only
  rw [if_neg (by omega), if_neg (by simp), if_neg (by rw [h.rm]; omega), hgo]
  simp only
  rw [if_neg (by simp), ha]
  simp only
  rw [if_neg (by simp), hfl]
  simp only
  rw [if_neg (by simp)]
  congr 1
  unfold VS.wrote
  congr 1
  · simp
  · simp [blobBlks_len]; omega
  · simp [blobBlks_len]
end Go.Proofs.YtcbeikiglccgaaaDoor

/- tapefmt.item: its walk. -/
namespace Go.Proofs.YtcbeikiglccgaaaDoor
open Go.RowKit
open Sm
set_option linter.unusedVariables false
set_option linter.unusedSimpArgs false

theorem item_next {s : VS} (hc : s.Calm) {n : Nat} (hn : n ≤ s.l.length) :
    (∃ (e : Nat) (p : Pc) (q : Nat), e ≠ 0 ∧ ({ s with pos := n } : VS).nextP = ({ s with pos := q }, p, (e : Int)) ∧ itemAt s.lab s.l n = (⟨0, 0, 0⟩, e)) ∨
    (∃ p : Pc, n < s.l.length ∧ p.Got ∧ ({ s with pos := n } : VS).nextP = ({ s with pos := n + 1 }, p, 0) ∧ itemAt s.lab s.l n =
      (if (rdGo s.lab n p.id (s.l.drop n) 0 []).2 ≠ 0 then (⟨0, 0, 0⟩, (rdGo s.lab n p.id (s.l.drop n) 0 []).2) else (⟨p.id, n, (rdGo s.lab n p.id (s.l.drop n) 0 []).1.length⟩, 0))) := by
  have hr := (⟨hc.lo, hc.lf, hc.pr⟩ : VS.Calm { s with pos := n }).read
  unfold VS.nextP itemAt
  rw [hr]
  by_cases hlt : n < s.l.length
  · simp only [List.getElem?_eq_getElem hlt]
    generalize s.l[n] = b
    by_cases ht : b.torn = true
    · left
      rw [if_pos ht, if_pos ht]
      exact ⟨4, .no, n, by decide, rfl, rfl⟩
    · rw [if_neg ht, if_neg ht]
      by_cases hm : b.mark = true
      · left
        rw [if_pos hm]
        simp only
        rw [if_neg (by simp), if_pos hm]
        exact ⟨3, .no, n + 1, by decide, rfl, rfl⟩
      · rw [if_neg hm]
        simp only
        rw [if_neg (by simp), if_neg hm]
        by_cases he : (parseL b.t.data.toList).2 ≠ 0
        · left
          rw [if_pos he]
          exact ⟨(parseL b.t.data.toList).2, (parseL b.t.data.toList).1, n + 1, he, rfl, rfl⟩
        · right
          have he0 : (parseL b.t.data.toList).2 = 0 := by omega
          rw [if_neg he]
          exact ⟨(parseL b.t.data.toList).1, hlt, parseL_got he0, by rw [he0]; rfl, rfl⟩
  · left
    simp only [List.getElem?_eq_none (by omega : s.l.length ≤ n)]
    exact ⟨2, .no, n, by decide, rfl, rfl⟩

def itZero : Array Value := #[.int .u64 0, .int .i64 0, .int .i64 0]
def It.cells (i : It) : Array Value := #[.int .u64 (i.id : Nat), .int .i64 (i.from_ : Nat), .int .i64 (i.size : Nat)]
def ItemEnds (w : World) (B g : Nat) (s : VS) (r : It × Nat) (e : Ending) (w' : World) : Prop := e = .returned (.tuple #[.agg r.1.cells, .int .i64 (r.2 : Nat)]) ∧ (∃ pos, Vol w' B g { s with pos := pos }) ∧ Stay B g w w'

set_option maxRecDepth 100000 in
set_option maxHeartbeats 4000000 in
theorem item_any {w : World} {B g : Nat} {s : VS} (h : Vol w B g s) (hc : s.Calm) (hS : Steps w) (hB : 0 < B) (n : Nat) (hn : n ≤ s.l.length) :
    Calls Tryd.prog 50 #[.pointer (some ⟨g, 0, none⟩), .int .i64 (n : Int)] w (ItemEnds w B g s (itemAt s.lab s.l n)) := by
  have hbz := h.bz
  have hlen := h.1.len
  have hR0 := seek_vol (h.alloc (.cells itZero 42)) n
  have hsk : s.seek n = ({ s with pos := n }, 0) := by rw [hc.seek, if_neg (by omega), Int.toNat_natCast]
  rw [hsk] at hR0
  have hst0 : Stay B g w (w.alloc (.cells itZero 42)) := Stay.alloc _ _ hbz
  have hA0 := At.new w 42 itZero
  have hNx := item_next hc hn
  have HS := Lib.hid hS
  have HC := Lib.hid hc
  clear h hS hsk hc
  obtain ⟨RR, hRR⟩ : ∃ RR, itemAt s.lab s.l n = RR := ⟨_, rfl⟩
  rw [hRR] at hNx ⊢
  have HNX := Lib.hid hNx
  clear hNx hRR
  generalize hX : w.heap.size = X at *
  go_enter Tryd.func50, Tryd.ntmps50
  go_wp2_with fail
  refine hR0.mono ?_
  rintro e w1 ⟨rfl, h1, st1⟩
  have HX := Lib.hid hX
  clear hX
  have HA1 := Lib.hid (st1.toStay0.at_ hA0 (by decide) (by decide))
  have HST1 := Lib.hid (hst0.trans st1)
  have hN := next_any h1 (HS.out.below (hst0.trans st1).below hB) hB
  clear hR0 hA0 st1 hst0
  rcases HNX.out with ⟨e0, p, q, he0, hnx, rfl⟩ | ⟨p, hlt, hgot, hnx, hrr⟩
  · rw [hnx] at hN
    have heb : ((e0 : Int) != 0) = true := by rw [bne_iff_ne]; omega
    have hC8 : p.cells.size = 8 := rfl
    have hC1 : p.cells.all (·.oneCell') = true := by simp [Value.oneCell']
    unfold NextEnds Pc.val at hN
    simp only at hN
    generalize p.cells = C at *
    have hI8 : (Tryd.prog.info? 90).map (·.size) = some C.size := by rw [hC8]; kernel_rfl
    have hI9 : pcZero.size = C.size := by rw [hC8]; rfl
    have HI8 := Lib.hid hI8
    have HI9 := Lib.hid hI9
    have HC1 := Lib.hid hC1
    clear hnx he0 hC8 hC1 hI8 hI9 HNX h1
    go_wp2_with fail
    refine hN.mono ?_
    rintro e w3 ⟨rfl, h3, st3⟩
    have HST3 := Lib.hid (HST1.out.trans st3)
    have H3 := Lib.hid h3
    have HA3 := Lib.hid (st3.toStay0.at_ HA1.out (by decide) (by decide))
    have HP := Lib.hid (At.new w3 90 pcZero)
    have hWZ : (w3.alloc (.cells pcZero 90)).heap.size = w3.heap.size + 1 := by simp
    clear hN h3 st3 HST1 HA1
    go_upto_region 5 with (refine wpList_store_whole rfl 90 _ _ rfl w3.heap.size C rfl rfl 90 _ HP.out HI8.out HI9.out HC1.out ?_; intro w9 hZ9 hG9; replace hZ9 := Lib.hid hZ9; replace hG9 := Lib.hid hG9)
    have hb9 : Below w3.heap.size w3 w9 := below_of_grownBy ((Below.refl _ w3).alloc (Nat.le_refl _) _) hG9.out (by rw [hWZ]; omega) (Nat.le_refl _)
    have H9 := Lib.hid (H3.out.below hb9)
    have HST9 := Lib.hid (HST3.out.trans (Stay.of_below hb9 H3.out.bz))
    have HA9 := Lib.hid (HA3.out.below hb9 HA3.out.lt)
    clear hZ9 hG9 HP hWZ H3 HST3 HA3 hb9 HI8 HI9 HC1
    generalize w3.heap.size = X3 at *
    go_wp2_with (refine wpList_store_whole rfl 42 _ _ rfl X itZero rfl rfl 42 _ HA9.out (by kernel_rfl) (by kernel_rfl) (by kernel_rfl) ?_; intro w10 hZ10 hG10; replace hZ10 := Lib.hid hZ10; replace hG10 := Lib.hid hG10)
    refine bodyPost_ret (res_row_tmp rfl _ _ _ _ _ _ rfl hZ10.out Tryd.underlying42 (by kernel_rfl)) rfl ?_
    obtain ⟨v9, st9⟩ := vol_new H9.out HST9.out (by rw [HX.out]; exact hbz) HA9.out (by rw [HX.out]; exact Nat.le_refl _) hG10.out (by decide) (by decide)
    exact ⟨rfl, ⟨_, v9⟩, st9⟩
  · rw [hnx] at hN
    obtain ⟨pl, pb, pi, pp, pn, pz, ps, pd⟩ := p
    obtain ⟨q1, q2, q3, q4, q5, q6, q7, q8⟩ := hgot
    simp only at q1 q2 q3 q4 q5 q6 q7 q8
    unfold NextEnds Pc.val Pc.cells at hN
    simp only at hN
    have hC1 : (#[.string pl, .int .i64 (pb : Nat), .int .u64 (pi : Nat), .int .i64 (pp : Nat), .int .i64 (pn : Nat), .int .i64 (pz : Nat), .int .u32 (ps : Nat), .string pd] : Array Value).all (·.oneCell') = true := by simp [Value.oneCell']
    have HC1 := Lib.hid hC1
    have hRd := fun W pos (hv : Vol W B g { s with pos := pos }) (hSW : Steps W) => rblob_any hv ⟨HC.out.lo, HC.out.lf, HC.out.pr⟩ hSW hB n hn pi q8
    simp only at hRd hrr
    obtain ⟨R, hR⟩ : ∃ R, rdGo s.lab n pi (s.l.drop n) 0 [] = R := ⟨_, rfl⟩
    rw [hR] at hRd hrr
    have HRR := Lib.hid hrr
    obtain ⟨sx, hsx⟩ : ∃ sx : ByteArray, (⟨R.1.toArray⟩ : ByteArray) = sx := ⟨_, rfl⟩
    have hsl : sx.size = R.1.length := by rw [← hsx, str_len]
    unfold ReadRet at hRd
    rw [hsx] at hRd
    have HSL := Lib.hid hsl
    have HRD := Lib.hid hRd
    clear hsl hsx hRd hR hnx hC1 HNX h1 hrr
    go_wp2_with fail
    refine hN.mono ?_
    rintro e w3 ⟨rfl, h3, st3⟩
    have HST3 := Lib.hid (HST1.out.trans st3)
    have H3 := Lib.hid h3
    have HA3 := Lib.hid (st3.toStay0.at_ HA1.out (by decide) (by decide))
    have HP := Lib.hid (At.new w3 90 pcZero)
    have hWZ : (w3.alloc (.cells pcZero 90)).heap.size = w3.heap.size + 1 := by simp
    clear hN h3 st3 HST1 HA1
    go_upto_region 5 with (refine wpList_store_whole rfl 90 _ _ rfl w3.heap.size #[.string pl, .int .i64 (pb : Nat), .int .u64 (pi : Nat), .int .i64 (pp : Nat), .int .i64 (pn : Nat), .int .i64 (pz : Nat), .int .u32 (ps : Nat), .string pd] rfl rfl 90 _ HP.out (by kernel_rfl) (by kernel_rfl) HC1.out ?_; intro w9 hZ9 hG9; replace hZ9 := Lib.hid hZ9; replace hG9 := Lib.hid hG9)
    have hb9 : Below w3.heap.size w3 w9 := below_of_grownBy ((Below.refl _ w3).alloc (Nat.le_refl _) _) hG9.out (by rw [hWZ]; omega) (Nat.le_refl _)
    have H9 := H3.out.below hb9
    have HST9 := Lib.hid (HST3.out.trans (Stay.of_below hb9 H3.out.bz))
    have HA9 := Lib.hid (HA3.out.below hb9 HA3.out.lt)
    have hR9 := HRD.out w9 _ H9 (HS.out.below HST9.out.below hB)
    have x2 := hZ9.out.cell 2
    clear hG9 HP hWZ H3 HST3 HA3 hb9 HC1 HRD H9
    generalize w3.heap.size = X3 at *
    go_upto_region 7 with fail
    go_wp2_with fail
    refine hR9.mono ?_
    rintro e w10 ⟨rfl, h10, st10⟩
    have HST10 := Lib.hid (HST9.out.trans st10)
    have HA10 := Lib.hid (st10.toStay0.at_ HA9.out (by decide) (by decide))
    have HP10 := Lib.hid (st10.toStay0.at_ hZ9.out (by decide) (by decide))
    have H10 := Lib.hid h10
    clear hR9 h10 st10 HST9 HA9 hZ9 x2
    by_cases hr0 : R.2 = 0
    · have hrr := HRR.out
      rw [if_neg (by omega)] at hrr
      rw [hr0]
      subst hrr
      clear HRR
      have x2 := HP10.out.cell 2
      have hI1 : (#[.int .u64 (pi : Nat), .int .i64 (n : Int), .int .i64 (sx.size : Int)] : Array Value).all (·.oneCell') = true := by simp [Value.oneCell']
      have HI1 := Lib.hid hI1
      clear HP10 hI1
      go_wp2_with (refine wpList_store_whole rfl 42 _ _ rfl X #[.int .u64 (pi : Nat), .int .i64 (n : Int), .int .i64 (sx.size : Int)] rfl rfl 42 _ HA10.out (by kernel_rfl) (by kernel_rfl) HI1.out ?_; intro w11 hZ11 hG11; replace hZ11 := Lib.hid hZ11; replace hG11 := Lib.hid hG11)
      refine bodyPost_ret (res_row_tmp rfl _ _ _ _ _ _ rfl hZ11.out Tryd.underlying42 (by kernel_rfl)) rfl ?_
      obtain ⟨pos, h10⟩ := H10.out
      obtain ⟨v9, st9⟩ := vol_new h10 HST10.out (by rw [HX.out]; exact hbz) HA10.out (by rw [HX.out]; exact Nat.le_refl _) hG11.out (by decide) (by decide)
      refine ⟨?_, ⟨_, v9⟩, st9⟩
      rw [← HSL.out]
      rfl
    · have hrr := HRR.out
      rw [if_pos hr0] at hrr
      subst hrr
      clear HRR
      have heb : ((R.2 : Int) != 0) = true := by rw [bne_iff_ne]; omega
      clear HP10
      go_wp2_with (refine wpList_store_whole rfl 42 _ _ rfl X itZero rfl rfl 42 _ HA10.out (by kernel_rfl) (by kernel_rfl) (by kernel_rfl) ?_; intro w11 hZ11 hG11; replace hZ11 := Lib.hid hZ11; replace hG11 := Lib.hid hG11)
      refine bodyPost_ret (res_row_tmp rfl _ _ _ _ _ _ rfl hZ11.out Tryd.underlying42 (by kernel_rfl)) rfl ?_
      obtain ⟨pos, h10⟩ := H10.out
      obtain ⟨v9, st9⟩ := vol_new h10 HST10.out (by rw [HX.out]; exact hbz) HA10.out (by rw [HX.out]; exact Nat.le_refl _) hG11.out (by decide) (by decide)
      exact ⟨rfl, ⟨_, v9⟩, st9⟩
end Go.Proofs.YtcbeikiglccgaaaDoor

/- tapefmt.Scan: its walk. -/
namespace Go.Proofs.YtcbeikiglccgaaaDoor
open Go.RowKit
open Sm
open Wm (tk)
set_option linter.unusedVariables false
set_option linter.unusedSimpArgs false

/-! the errors of what is read -/
def Mild (e : Nat) : Prop := e = 0 ∨ e = 2 ∨ e = 3 ∨ e = 4 ∨ e = 11
theorem mild_tk : ∀ (l : List UInt8) (v : Nat) (f : Bool), Mild (tk l v f).2.1 := by
  intro l
  induction l with
  | nil => intro v f; exact .inr (.inl rfl)
  | cons b r ih =>
    intro v f
    unfold tk
    split
    · exact .inr (.inr (.inl rfl))
    · split
      · exact .inl rfl
      · exact ih _ _
theorem mild_tkI (l : List UInt8) (m : Nat) : Mild (tkI l m).2.1 := by
  unfold tkI
  split
  · exact .inr (.inr (.inr (.inr rfl)))
  · exact mild_tk _ _ _
theorem mild_tkS (l : List UInt8) (m : Nat) : Mild (tkS l m).2.1 := by
  unfold tkS
  split
  · exact mild_tkI _ _
  · split
    · exact .inr (.inl rfl)
    · exact .inl rfl
theorem mild_curU {c : List UInt8 × Nat} (h : Mild c.2) : Mild (curU c).1.2 := by
  unfold curU
  split
  · exact h
  · exact mild_tk _ _ _
theorem mild_curI {c : List UInt8 × Nat} (h : Mild c.2) (m : Nat) : Mild (curI c m).1.2 := by
  unfold curI
  split
  · exact h
  · exact mild_tkI _ _
theorem mild_curS {c : List UInt8 × Nat} (h : Mild c.2) (m : Nat) : Mild (curS c m).1.2 := by
  unfold curS
  split
  · exact h
  · exact mild_tkS _ _
theorem mild_only (l : List UInt8) : Mild (onlyL l).2 := by
  unfold onlyL openL
  repeat' split
  all_goals simp [Mild]
theorem Curs.mild {tx : List UInt8} {a : (List UInt8 × Nat) × List UInt8} {b c d f gg h : (List UInt8 × Nat) × Nat} {k : (List UInt8 × Nat) × List UInt8} (C : Curs tx a b c d f gg h k) : Mild k.1.2 := by
  rw [← C.ek]
  refine mild_curS ?_ _
  rw [← C.eh]
  refine mild_curU ?_
  rw [← C.eg]
  refine mild_curI ?_ _
  rw [← C.ef]
  refine mild_curI ?_ _
  rw [← C.ed]
  refine mild_curI ?_ _
  rw [← C.ec]
  refine mild_curU ?_
  rw [← C.eb]
  refine mild_curI ?_ _
  rw [← C.ea]
  exact mild_curS (.inl rfl) _
theorem mild_took (tx : List UInt8) : Mild (took tx).k.1.2 := by
  obtain ⟨a, ea⟩ : ∃ a, curS (tx, 0) 32 = a := ⟨_, rfl⟩
  obtain ⟨b, eb⟩ : ∃ b, curI a.1 1073741824 = b := ⟨_, rfl⟩
  obtain ⟨c, ec⟩ : ∃ c, curU b.1 = c := ⟨_, rfl⟩
  obtain ⟨d, ed⟩ : ∃ d, curI c.1 1048576 = d := ⟨_, rfl⟩
  obtain ⟨f, ef⟩ : ∃ f, curI d.1 1048576 = f := ⟨_, rfl⟩
  obtain ⟨gg, eg⟩ : ∃ gg, curI f.1 4000 = gg := ⟨_, rfl⟩
  obtain ⟨h, eh⟩ : ∃ h, curU gg.1 = h := ⟨_, rfl⟩
  obtain ⟨k, ek⟩ : ∃ k, curS h.1 200 = k := ⟨_, rfl⟩
  have C : Curs tx a b c d f gg h k := ⟨ea, eb, ec, ed, ef, eg, eh, ek⟩
  rw [C.took]
  exact C.mild
theorem mild_err (t : Took) (hk : Mild t.k.1.2) : Mild t.err := by
  unfold Took.err parseErr doneErr
  generalize t.k.1.2 = e at *
  generalize t.k.1.1 = r
  repeat' split
  all_goals first | exact hk | simp [Mild]
theorem mild_parse (l : List UInt8) : Mild (parseL l).2 := by
  have h1 := mild_only l
  have h2 := mild_err _ (mild_took (onlyL l).1)
  unfold parseL
  generalize took (onlyL l).1 = t at *
  split
  · exact h1
  · split
    · exact h2
    · exact .inl rfl
theorem mild_rd (lab : ByteArray) (f id : Nat) : ∀ (l : List Blk) (k : Nat) (acc : List UInt8), Mild (rdGo lab f id l k acc).2 := by
  intro l
  induction l with
  | nil => intro k acc; exact .inr (.inl rfl)
  | cons b r ih =>
    intro k acc
    have hp := mild_parse b.t.data.toList
    rw [rdGo_cons]
    unfold wholeP
    repeat' split
    all_goals first | exact ih _ _ | exact hp | simp [Mild]
theorem rd_size (lab : ByteArray) (f id : Nat) : ∀ (l : List Blk) (k : Nat) (acc : List UInt8), (rdGo lab f id l k acc).1.length ≤ 4000 := by
  intro l
  induction l with
  | nil => intro k acc; exact Nat.zero_le _
  | cons b r ih =>
    intro k acc
    rw [rdGo_cons]
    by_cases he : (parseL b.t.data.toList).2 ≠ 0
    · rw [if_pos he]
      repeat' split
      all_goals exact Nat.zero_le _
    · have hg := (parseL_got (by omega : (parseL b.t.data.toList).2 = 0)).size
      rw [if_neg he]
      unfold wholeP
      generalize (parseL b.t.data.toList).1 = p at *
      repeat' split
      all_goals first | exact Nat.zero_le _ | exact ih _ _ | (rename_i h _; skip; simp only [not_or, Decidable.not_not] at *; omega)
theorem item_size (lab : ByteArray) (l : List Blk) (n : Nat) : (itemAt lab l n).1.size ≤ 4000 := by
  unfold itemAt
  split
  · exact Nat.zero_le _
  · rename_i b _
    have hr := rd_size lab n (parseL b.t.data.toList).1.id (l.drop n) 0 []
    repeat' split
    all_goals first | exact hr | exact Nat.zero_le _
theorem mild_item (lab : ByteArray) (l : List Blk) (n : Nat) : Mild (itemAt lab l n).2 := by
  unfold itemAt
  split
  · exact .inr (.inl rfl)
  · rename_i b _
    have hp := mild_parse b.t.data.toList
    have hr := mild_rd lab n (parseL b.t.data.toList).1.id (l.drop n) 0 []
    repeat' split
    all_goals first | exact hp | exact hr | simp [Mild]

def itCells (l : List It) : List Value := l.flatMap fun i => i.cells.toList
theorem itCells_append (a b : List It) : itCells (a ++ b) = itCells a ++ itCells b := by unfold itCells; rw [List.flatMap_append]
theorem itCells_len (l : List It) : (itCells l).length = l.length * 3 := by
  induction l with
  | nil => rfl
  | cons a l ih => unfold itCells at ih ⊢; rw [List.flatMap_cons, List.length_append, ih, List.length_cons]; show 3 + _ = _; omega

theorem vol_row {w w1 w9 : World} {B g B' n : Nat} {t : VS} {v : Value} {xs : List Value} (hv : Vol w1 B g t) (hst : Stay B g w w1) (hB : B ≤ w.heap.size) (hr : w1.ownsRow B' 42 3 v n xs) (hB' : w.heap.size ≤ B') (hg : w1.grownBy w9 v.ownBlock) : Vol w9 B g t ∧ Stay B g w w9 := by
  rcases hr.2 with ⟨rfl, _⟩ | ⟨k, cap, cur, rfl, hk, hat, _⟩
  · have hb : Below w1.heap.size w1 w9 := ⟨hg.os, hg.tape, hg.output, hg.size, fun k hk => hg.block k hk (by simp [Value.ownBlock])⟩
    exact ⟨hv.below hb, hst.trans (Stay.of_below hb hv.bz)⟩
  · exact vol_new hv hst hB (T := 42) (cs := cur) hat (Nat.le_trans hB' hk) hg (by decide) (by decide)
theorem rowI_below {w w' : World} {B n z : Nat} {e : TypeId} {v : Value} {xs : List Value} (h : w.ownsRow B e z v n xs) (hb : Below w.heap.size w w') : w'.ownsRow B e z v n xs := by
  obtain ⟨h1, h2 | ⟨g, cap, cur, rfl, hk, hat, h3⟩⟩ := h
  · exact ⟨h1, .inl h2⟩
  · exact ⟨h1, .inr ⟨g, cap, cur, rfl, hk, (hb.block g (Array.getElem?_eq_some_iff.1 hat).1).trans hat, h3⟩⟩

def ScanEnds (w : World) (B g : Nat) (s : VS) (r : List It × Nat) (e : Ending) (w' : World) : Prop :=
  ∃ v, e = .returned (.tuple #[v, .int .i64 (r.2 : Nat), .int .i64 0]) ∧ w'.ownsRow w.heap.size 42 3 v r.1.length (itCells r.1) ∧ (∃ pos, Vol w' B g { s with pos := pos }) ∧ Stay B g w w'

theorem info_item : (Tryd.prog.info? 42).map (fun i => (i.zero, i.size, i.bytes)) = some (some (.agg #[.int .u64 0, .int .i64 0, .int .i64 0]), 3, 24) := by kernel_rfl

structure SC (w : World) (B g : Nat) (s : VS) (v : Value) (acc : List It) (e n : Nat) (wr : World) : Prop where
  row : wr.ownsRow w.heap.size 42 3 v acc.length (itCells acc)
  vol : ∃ pos, Vol wr B g { s with pos := pos }
  stay : Stay B g w wr
  scan : scanF s.lab s.l 0 0 = (acc ++ (scanF s.lab s.l n e).1, (scanF s.lab s.l n e).2)
  few : acc.length ≤ n

set_option maxRecDepth 100000 in
set_option maxHeartbeats 8000000 in
theorem tscan_any {w : World} {B g : Nat} {s : VS} (h : Vol w B g s) (hc : s.Calm) (hS : Steps w) (hB : 0 < B) :
    Calls Tryd.prog 16 #[.pointer (some ⟨g, 0, none⟩)] w (ScanEnds w B g s (scanF s.lab s.l 0 0)) := by
  have hbz := h.bz
  have hlen := h.1.len
  have hR0 := seek_vol h 0
  have hsk : s.seek 0 = ({ s with pos := 0 }, 0) := by rw [hc.seek, if_neg (by omega)]; rfl
  rw [hsk] at hR0
  have hIt := fun W pos (hv : Vol W B g { s with pos := pos }) (hSW : Steps W) n (hn : n ≤ s.l.length) => item_any hv ⟨hc.lo, hc.lf, hc.pr⟩ hSW hB n hn
  have hLn := fun W pos (hv : Vol W B g { s with pos := pos }) => len_vol hv
  have hMi := mild_item s.lab s.l
  have hSz := item_size s.lab s.l
  simp only at hLn hIt
  have HS := Lib.hid hS
  have HIT := Lib.hid hIt
  have HLN := Lib.hid hLn
  obtain ⟨RR, hRR⟩ : ∃ RR, scanF s.lab s.l 0 0 = RR := ⟨_, rfl⟩
  rw [hRR]
  have HRR := Lib.hid hRR
  clear h hS hsk hc hIt hLn hRR
  go_enter Tryd.func16, Tryd.ntmps16
  go_wp2_with fail
  refine hR0.mono ?_
  rintro e w1 ⟨rfl, h1, st1⟩
  have G1 : Hid (SC w B g s (.slice none 0 0) [] 0 0 w1) := Lib.hid ⟨World.ownsRow_nil _ _ _ _, ⟨_, h1⟩, st1, rfl, Nat.le_refl _⟩
  clear hR0 h1 st1
  go_wp2
  go_loopw [6, 7, 8] (fun l en i wr => ∃ (acc : List It) (e n : Nat), n ≤ s.l.length + 20 ∧ e ≤ 2000000 ∧ en = .int .i64 (e : Int) ∧ i = .int .i64 (n : Int) ∧ Hid (SC w B g s l acc e n wr))
    (fun _ _ i _ => s.l.length - (intOf i).toNat)
  case atStart => exact ⟨[], 0, 0, by omega, by omega, rfl, rfl, G1⟩
  case round =>
    clear G1
    obtain ⟨acc, e, n, hn, hen, rfl, rfl, HG⟩ := hrel
    obtain ⟨hrow, ⟨pos, hv⟩, hst, hsc, hfew⟩ := HG.out
    have hL := HLN.out wr pos hv
    by_cases hlt : n < s.l.length
    · have e1 : decide ((n : Int) < (s.l.length : Int)) = true := by simpa using hlt
      have hI := HIT.out wr pos hv (HS.out.below hst.below hB) n (by omega)
      have hmi := hMi n
      have hsz := hSz n
      have hmiss := scanF_miss (lab := s.lab) (e := e) hlt
      have hhit := scanF_hit (lab := s.lab) (e := e) hlt
      unfold ItemEnds It.cells at hI
      obtain ⟨P, hP⟩ : ∃ P, itemAt s.lab s.l n = P := ⟨_, rfl⟩
      rw [hP] at hI hmi hsz hmiss hhit
      obtain ⟨⟨ia, ib, ic⟩, er⟩ := P
      simp only at hI hmi hsz hmiss hhit
      have HROW := Lib.hid hrow
      have HST := Lib.hid hst
      have HSC := Lib.hid hsc
      have HMISS := Lib.hid hmiss
      have HHIT := Lib.hid hhit
      clear HG hP hMi hSz hrow hsc hmiss hhit hst
      generalize s.l.length = N at *
      go_wp2_with fail
      refine hL.mono ?_
      rintro e' w2 ⟨rfl, rfl⟩
      clear hv hL
      go_wp2_with fail
      refine hI.mono ?_
      rintro e' w3 ⟨rfl, h3, st3⟩
      have HST3 := Lib.hid (HST.out.trans st3)
      have H3 := Lib.hid h3
      have HROW3 := Lib.hid (st3.toStay0.row HROW.out (by decide) (by decide))
      have HX := Lib.hid (At.new w3 42 itZero)
      have hWZ : (w3.alloc (.cells itZero 42)).heap.size = w3.heap.size + 1 := by simp
      have hC1 : (#[.int .u64 (ia : Nat), .int .i64 (ib : Nat), .int .i64 (ic : Nat)] : Array Value).all (·.oneCell') = true := by simp [Value.oneCell']
      have HC1 := Lib.hid hC1
      clear hI h3 st3 HST HROW hC1
      go_upto_region 9 with (refine wpList_store_whole rfl 42 _ _ rfl w3.heap.size #[.int .u64 (ia : Nat), .int .i64 (ib : Nat), .int .i64 (ic : Nat)] rfl rfl 42 _ HX.out (by kernel_rfl) (by kernel_rfl) HC1.out ?_; intro w9 hZ9 hG9; replace hZ9 := Lib.hid hZ9; replace hG9 := Lib.hid hG9)
      have hb9 : Below w3.heap.size w3 w9 := below_of_grownBy ((Below.refl _ w3).alloc (Nat.le_refl _) _) hG9.out (by simp) (Nat.le_refl _)
      have HV9 : Hid (∃ pos, Vol w9 B g { s with pos := pos }) := Lib.hid (H3.out.elim fun p h => ⟨p, h.below hb9⟩)
      have hbz3 := H3.out.elim fun p h => h.bz
      have HST9 := Lib.hid (HST3.out.trans (Stay.of_below hb9 hbz3))
      have HROW9 := Lib.hid (rowI_below HROW3.out hb9)
      have hkX := HROW3.out.lt
      have HKX : Hid (∀ k, u6.ownBlock = some k → k < w3.heap.size) := Lib.hid fun k hk => (hkX k hk).2
      have hX9 : Hid (w3.heap.size < w9.heap.size) := Lib.hid hZ9.out.lt
      clear H3 HST3 HROW3 HX hWZ hG9 hb9 hbz3 hkX
      generalize w3.heap.size = X at *
      by_cases he0 : er = 0
      · subst he0
        have hsc := HSC.out
        rw [HHIT.out rfl] at hsc
        have hP := fun W => parts_any ic (by omega) W
        have h20 := partsOf_le hsz
        have hp1 := partsOf_pos ic
        obtain ⟨pz, hpz⟩ : ∃ pz, partsOf ic = pz := ⟨_, rfl⟩
        rw [hpz] at hsc hP h20 hp1
        have HSC2 := Lib.hid hsc
        have HPT := Lib.hid hP
        obtain ⟨i0, hie, hz0, hz1, hz2⟩ := info_parts info_item
        have HIE := Lib.hid hie
        have HZ0 := Lib.hid hz0
        have HZ1 := Lib.hid hz1
        have HZ2 := Lib.hid hz2
        clear hsc hP hpz HMISS HHIT HSC hie hz0 hz1 hz2
        go_upto_region 12 with fail
        go_wp2_with (first | (at_builtin; refine wpList_append_own_wide _ rfl _ _ 35 rfl w.heap.size 42 i0 _ 3 24 Tryd.underlying35 HIE.out HZ0.out HZ1.out HZ2.out rfl (by omega) _ _ _ rfl (HROW9.out.alloc _) ⟨w9.heap.size, 0, none⟩ 1 1 [.int .u64 (ia : Nat), .int .i64 (ib : Nat), .int .i64 (ic : Nat)] rfl rfl ?c1 ?c2 ?c3 ?c4 ?c5 ?_) | refine wpList_load_whole rfl 42 _ rfl X rfl 42 _ _ hZ9.out Tryd.underlying42 rfl (by kernel_rfl) ?_)
        case c2 => exact ⟨rfl, rfl, rfl⟩
        case c3 => unfold maxLen; omega
        case c4 => omega
        case c5 => have := HST9.out.toStay0.size; omega
        intro v' w10 hown hgrow _
        obtain ⟨pos, hv9⟩ := HV9.out
        have hva := hv9.alloc (.cells #[.int .u64 (ia : Nat), .int .i64 (ib : Nat), .int .i64 (ic : Nat)] 42)
        have hsa : Stay B g w (w9.alloc (.cells #[.int .u64 (ia : Nat), .int .i64 (ib : Nat), .int .i64 (ic : Nat)] 42)) := HST9.out.trans (Stay.alloc _ _ hv9.bz)
        obtain ⟨hv10, hst10⟩ := vol_row hva hsa hbz (HROW9.out.alloc _) (Nat.le_refl _) hgrow
        have hA10 : At w10 X 42 #[.int .u64 (ia : Nat), .int .i64 (ib : Nat), .int .i64 (ic : Nat)] := by
          have h1 := hZ9.out.alloc (.cells #[.int .u64 (ia : Nat), .int .i64 (ib : Nat), .int .i64 (ic : Nat)] 42)
          exact (hgrow.block X h1.lt (fun e => by have := HKX.out X e.symm; omega)).trans h1
        have x2 := hA10.cell 2
        have HROW10 : Hid (w10.ownsRow w.heap.size 42 3 v' (acc ++ [(⟨ia, ib, ic⟩ : It)]).length (itCells (acc ++ [(⟨ia, ib, ic⟩ : It)]))) := Lib.hid (by
          rw [List.length_append, itCells_append]
          exact hown)
        have HV10 := Lib.hid hv10
        have HST10 := Lib.hid hst10
        clear hva hsa hv10 hst10 hv9 HV9 HST9 HROW9 hZ9 HC1 hown hgrow HKX hX9 hA10 HIE HZ0 HZ1 HZ2
        go_upto_region 13 with fail
        go_wp2_with fail
        refine (HPT.out _).mono ?_
        rintro e' w11 ⟨rfl, rfl⟩
        clear x2 HPT
        go_wp2
        go_roundw
        case rel => exact ⟨acc ++ [(⟨ia, ib, ic⟩ : It)], n + pz, n + pz, by omega, by omega, by go_num, by go_num, Lib.hid ⟨HROW10.out, ⟨_, HV10.out⟩, HST10.out, by rw [HSC2.out]; simp, by rw [List.length_append]; show acc.length + 1 ≤ _; omega⟩⟩
        case measure => simp [intOf]; omega
      · have q1 : ((er : Int) == 0) = false := by rw [beq_eq_false_iff_ne]; omega
        have q2 : ((er : Int) == 14) = false := by rw [beq_eq_false_iff_ne]; unfold Mild at hmi; omega
        have q3 : ((er : Int) == 8) = false := by rw [beq_eq_false_iff_ne]; unfold Mild at hmi; omega
        have hsc := HSC.out
        rw [HMISS.out he0] at hsc
        have HSC2 := Lib.hid hsc
        clear hsc hZ9 HC1
        go_wp2
        go_roundw
        case rel => exact ⟨acc, e, n + 1, by omega, hen, rfl, by go_num, Lib.hid ⟨HROW9.out, HV9.out, HST9.out, HSC2.out, by omega⟩⟩
        case measure => simp [intOf]; omega
    · have e1 : decide ((n : Int) < (s.l.length : Int)) = false := by simpa using hlt
      rw [scanF_end hlt] at hsc
      have hRR := HRR.out.symm.trans hsc
      simp only [List.append_nil] at hRR
      subst hRR
      clear HG hsc hMi hSz hfew HRR
      have HROW := Lib.hid hrow
      have HV := Lib.hid hv
      have HST := Lib.hid hst
      clear hrow hv hst
      generalize s.l.length = N at *
      go_wp2_with fail
      refine hL.mono ?_
      rintro e' w2 ⟨rfl, rfl⟩
      go_wp2
      go_ret3
      exact ⟨_, rfl, HROW.out, ⟨_, HV.out⟩, HST.out⟩
end Go.Proofs.YtcbeikiglccgaaaDoor

/- glacierlaw07.Long: its walk. -/
namespace Go.Proofs.YtcbeikiglccgaaaDoor
open Go.RowKit
open Sm
set_option linter.unusedVariables false
set_option linter.unusedSimpArgs false

/-- a text, several times -/
def times (s : ByteArray) : Nat → ByteArray
  | 0 => ⟨#[]⟩
  | k + 1 => times s k ++ s
def longOf (s : ByteArray) (n : Int) : ByteArray := times (cutTo s 60) (min n 10).toNat
theorem times_size (s : ByteArray) (k : Nat) : (times s k).size = k * s.size := by
  induction k with
  | zero => simp [times]; rfl
  | succ k ih => rw [times, ByteArray.size_append, ih, Nat.succ_mul]
theorem longOf_size (s : ByteArray) (n : Int) : (longOf s n).size ≤ 600 := by
  unfold longOf
  rw [times_size]
  have h1 := cutTo_le s 60
  have h2 : (min n 10).toNat ≤ 10 := by omega
  calc _ ≤ 10 * 60 := Nat.mul_le_mul h2 h1
    _ = 600 := rfl

set_option maxRecDepth 100000 in
set_option maxHeartbeats 1000000 in
theorem long_any (s : ByteArray) (n : Int) (w : World) :
    Calls Tryd.prog 15 #[.string s, .int .i64 n] w fun e w' => e = .returned (.string (longOf s n)) ∧ w = w' := by
  have hC := cut_any s 60 w
  have hle := cutTo_le s 60
  obtain ⟨R, hR⟩ : ∃ R, longOf s n = R := ⟨_, rfl⟩
  rw [hR]
  unfold longOf at hR
  have HR := Lib.hid hR
  clear hR
  generalize cutTo s 60 = c at *
  go_enter Tryd.func15, Tryd.ntmps15
  go_wp2_with fail
  refine hC.mono ?_
  rintro e w1 ⟨rfl, rfl⟩
  clear hC
  go_wp2
  go_loopw [5, 6] (fun o i wr => ∃ k : Nat, k ≤ (min n 10).toNat ∧ k ≤ 10 ∧ i = .int .i64 (k : Int) ∧ o = .string (times c k) ∧ wr = w)
    (fun _ i _ => 10 - (intOf i).toNat)
  case atStart => exact ⟨0, by omega, by omega, rfl, rfl, rfl⟩
  case round =>
    obtain ⟨k, hk, hk10, rfl, rfl, rfl⟩ := hrel
    have hts := times_size c k
    have hle2 : k * c.size ≤ 10 * 60 := Nat.mul_le_mul hk10 hle
    by_cases h1 : (k : Int) < n
    · by_cases h2 : k < 10
      · have e1 : decide ((k : Int) < n) = true := by simpa using h1
        have e2 : decide ((k : Int) < 10) = true := by simp; omega
        go_wp2
        go_roundw
        case rel => exact ⟨k + 1, by omega, by omega, by go_num, rfl, trivial⟩
        case measure => simp [intOf]; omega
      · have e1 : decide ((k : Int) < n) = true := by simpa using h1
        have e2 : decide ((k : Int) < 10) = false := by simp; omega
        have hkk : (min n 10).toNat = k := by omega
        go_wp2
        go_ret
        obtain rfl : times c k = R := by have := HR.out; rwa [hkk] at this
        exact ⟨rfl, rfl⟩
    · have e1 : decide ((k : Int) < n) = false := by simpa using h1
      have hkk : (min n 10).toNat = k := by omega
      go_wp2
      go_ret
      obtain rfl : times c k = R := by have := HR.out; rwa [hkk] at this
      exact ⟨rfl, rfl⟩
end Go.Proofs.YtcbeikiglccgaaaDoor

/- glacierlaw07.awake: its walk. -/
namespace Go.Proofs.YtcbeikiglccgaaaDoor
open Go.RowKit
open Sm
set_option linter.unusedVariables false
set_option linter.unusedSimpArgs false

section
variable {w : World} {B g : Nat} {s : VS} {rm : Int} {lab : ByteArray}
theorem write_good (h : Vol w B g s) (hg : s.Good rm lab) (hS : Steps w) (hB : 0 < B) (hl : lab.size ≤ 32) (hf : s.l.length ≤ 900000) (id : Nat) (hid : id < 18446744073709551616) (d : ByteArray) (hd : d.size ≤ 4000) (hw : (wsum s.l : Int) + weightOf d.size ≤ rm) :
    Calls Tryd.prog 14 #[.pointer (some ⟨g, 0, none⟩), .int .u64 (id : Int), .string d] w fun e w' => e = .returned (.tuple #[.int .i64 (s.l.length : Nat), .int .i64 0]) ∧ Vol w' B g (s.wrote id d.data.toList) ∧ Stay B g w w' := by
  have hdl : d.data.toList.length = d.size := by simp
  have := wblob_any h hS hB hf (by rw [hg.lab]; exact hl) id hid d (by omega)
  rw [wblob_ok hg hl (by omega) hid (by omega) (by rw [hdl]; exact hw)] at this
  exact this
theorem read_good (h : Vol w B g s) (hg : s.Good rm lab) (hS : Steps w) (hB : 0 < B) (hl : lab.size ≤ 32) (hf : s.l.length ≤ 900000) (id : Nat) (hid : id < 18446744073709551616) (d : ByteArray) (hd : d.size ≤ 4000) (pre rest : List Blk) (hs : s.l = pre ++ (blobBlks lab pre.length id d.data.toList ++ rest)) :
    Calls Tryd.prog 18 #[.pointer (some ⟨g, 0, none⟩), .int .i64 (pre.length : Nat), .int .u64 (id : Int)] w fun e w' => e = .returned (.tuple #[.string d, .int .i64 0]) ∧ (∃ pos, Vol w' B g { s with pos := pos }) ∧ Stay B g w w' := by
  have hdl : d.data.toList.length = d.size := by simp
  have hpl : pre.length ≤ s.l.length := by rw [hs]; simp
  have := rblob_any h hg.calm hS hB pre.length hpl id hid
  rw [hg.lab, hs, List.drop_left, rd_whole hl (by omega) hid (by omega) rest] at this
  refine this.mono fun e w' ⟨he, hv, hst⟩ => ⟨?_, ?_, hst⟩
  · rw [he]
    rfl
  · obtain ⟨pos, hv⟩ := hv
    exact ⟨pos, hv⟩
end


def zeros : ByteArray := ⟨(List.replicate 401 (0 : UInt8)).toArray⟩
theorem zeros_size : zeros.size = 401 := by unfold zeros; rw [str_len, List.length_replicate]
theorem zeros_run (W : World) : ∃ W1 : World, (Instr.makeSlice 82 (.int .i64 401) (.int .i64 401)).run Tryd.prog W = .ok (.slice (some ⟨W.heap.size, 0, none⟩) 401 401) W1 ∧
    (convert 82 9 (.slice (some ⟨W.heap.size, 0, none⟩) 401 401)).run Tryd.prog W1 = .ok (.string zeros) W1 ∧ Below W.heap.size W W1 := by
  obtain ⟨i0, hie, hz0, hz1, hz2⟩ := info_parts info_byte
  obtain ⟨M, hM⟩ : ∃ M, M = madeCells (Value.int .u8 0).cells 401 := ⟨_, rfl⟩
  have hML : M.toList = List.replicate 401 (Value.int .u8 0) := by rw [hM]; exact toList_madeCells_one _ _
  refine ⟨W.alloc (.cells M 5), ?_, ?_, (Below.refl _ W).alloc (Nat.le_refl _) _⟩
  · have h := run_make (P := Tryd.prog) W 82 5 i0 (.int .u8 0) Tryd.underlying82 hie hz0 .i64 .i64 401 401 (by omega) (by omega) (by rw [hz2]; omega) (by omega)
    rw [hz1] at h
    rw [show ((401 : Int).toNat * 1) = 401 from rfl, ← hM] at h
    exact h
  · have hA : At (W.alloc (.cells M 5)) W.heap.size 5 M := heap_alloc_new W _
    have h := run_convert_bytes_back (P := Tryd.prog) (W.alloc (.cells M 5)) 82 9 5 ⟨W.heap.size, 0, none⟩ 401 (List.replicate 401 (0 : UInt8)) Tryd.underlying82 Tryd.underlying5 Tryd.underlying9 (fun j hj => by
      have e : (⟨W.heap.size, 0, none⟩ : Addr).add j = ⟨W.heap.size, j, none⟩ := by simp [Addr.add]; omega
      have hj' : j < 401 := by rw [List.length_replicate] at hj; exact hj
      rw [e, hA.cell j, ← Array.getElem?_toList, hML, List.getElem?_replicate, if_pos hj', List.getElem_replicate]
      rfl)
    rw [List.length_replicate] at h
    exact h

set_option maxRecDepth 100000 in
set_option maxHeartbeats 4000000 in
theorem awake_any (w : World) (hS : Steps w) :
    Calls Tryd.prog 12 #[] w fun e w' => e = .returned (.bool true) ∧ Below w.heap.size w w' := by
  have hS0 := hS.1
  have hN := new_vol 10000 10000 (by omega) rfl w
  have HZ := Lib.hid zeros_run
  have HZs := Lib.hid zeros_size
  have hl1 : (⟨#[120]⟩ : ByteArray).size = 1 := rfl
  generalize zeros = z at *
  go_enter Tryd.func12, Tryd.ntmps12
  go_wp2_with fail
  refine hN.mono ?_
  rintro e w1 ⟨g, rfl, hv, hb1⟩
  have hE := erase_vol hv ⟨#[65, 49]⟩ (by decide) (by decide)
  rw [erase_new] at hE
  clear hN
  go_wp2_with fail
  refine hE.mono ?_
  rintro e w2 ⟨rfl, h2, st2⟩
  have hg2 := VS.Good.lb 10000 ⟨#[65, 49]⟩
  have hl : (⟨#[65, 49]⟩ : ByteArray).size ≤ 32 := by decide
  have h2 : Vol w2 w.heap.size g { VS.new 10000 with lab := ⟨#[65, 49]⟩, er := 1 } := h2
  have hs0 : ({ VS.new 10000 with lab := ⟨#[65, 49]⟩, er := 1 } : VS).l = [] := rfl
  generalize ({ VS.new 10000 with lab := ⟨#[65, 49]⟩, er := 1 } : VS) = s at *
  have hb2 : Below w.heap.size w w2 := hb1.trans st2.below
  clear hE st2 hb1 hv
  obtain ⟨w3, hmk, hcv, hb3⟩ := HZ.out w2
  have h3 := h2.below hb3
  have hbz := h2.bz
  have hs2 := hb2.size
  have hS3 := (hS.below hb2 hS0).below hb3 (by omega)
  have hW := write_good h3 hg2 hS3 hS0 hl (by rw [hs0]; simp) 7 (by omega) z (by rw [HZs.out]; omega) (by rw [HZs.out, hs0]; decide)
  have hb3' : Below w.heap.size w w3 := hb2.trans (hb3.mono (by omega))
  have HB3 := Lib.hid hb3'
  have HS := Lib.hid hS
  have HG2 := Lib.hid hg2
  rw [hs0] at hW
  clear hb2 h3 hS3 hb3 hb3' h2 hbz hs2 hS hg2
  go_wp2_with fail
  refine hW.mono ?_
  rintro e w4 ⟨rfl, h4, st4⟩
  have hb4 : Below w.heap.size w w4 := HB3.out.trans st4.below
  have hS4 := HS.out.below hb4 hS0
  have hp1 : partsOf z.data.toList.length = 3 := by rw [show z.data.toList.length = 401 by rw [← HZs.out]; simp]; decide
  have hsum := VS.wrote_sum (s := s) (id := 7) (d := z.data.toList) (by rw [HG2.out.lab]; exact hl) (by rw [hs0]; simp) (by omega) (by rw [show z.data.toList.length = 401 by rw [← HZs.out]; simp]; omega)
  have hlen := VS.wrote_len s 7 z.data.toList
  rw [show z.data.toList.length = 401 by rw [← HZs.out]; simp, hs0] at hsum
  rw [hp1, hs0] at hlen
  simp only [List.length_nil, Nat.zero_add] at hlen
  have hg4 := HG2.out.wrote 7 z.data.toList
  have hl4 : (s.wrote 7 z.data.toList).l = blobBlks ⟨#[65, 49]⟩ 0 7 z.data.toList ++ [markBlk] := by unfold VS.wrote; rw [hs0, HG2.out.lab]; rfl
  clear hW HB3 hs0 st4 HG2
  generalize s.wrote 7 z.data.toList = s4 at *
  have hwx : (wsum s4.l : Int) + weightOf (⟨#[120]⟩ : ByteArray).size ≤ 10000 := by
    rw [hl1]
    have e1 : weightOf 401 = 633 := by decide
    have e2 : weightOf 1 = 81 := by decide
    have e3 : wsum [] = 0 := rfl
    omega
  have hW := write_good h4 hg4 hS4 hS0 hl (by rw [hlen]; simp) 8 (by omega) ⟨#[120]⟩ (by rw [hl1]; omega) hwx
  rw [hlen] at hW
  have HB4 := Lib.hid hb4
  have HG4 := Lib.hid hg4
  have HL4 := Lib.hid hl4
  have HN4 := Lib.hid hlen
  clear hsum hlen hg4 hl4 hb4 h4 hS4 hwx hp1
  go_wp2_with fail
  refine hW.mono ?_
  rintro e w5 ⟨rfl, h5, st5⟩
  have hb5 : Below w.heap.size w w5 := HB4.out.trans st5.below
  have hS5 := HS.out.below hb5 hS0
  have hg5 := HG4.out.wrote 8 (⟨#[120]⟩ : ByteArray).data.toList
  have hl5 : (s4.wrote 8 (⟨#[120]⟩ : ByteArray).data.toList).l = s4.l ++ (blobBlks ⟨#[65, 49]⟩ s4.l.length 8 (⟨#[120]⟩ : ByteArray).data.toList ++ [markBlk]) := by unfold VS.wrote; rw [HG4.out.lab]
  have hn5 := VS.wrote_len s4 8 (⟨#[120]⟩ : ByteArray).data.toList
  have hn5' : (s4.wrote 8 (⟨#[120]⟩ : ByteArray).data.toList).l.length = 6 := by rw [hn5, HN4.out]; rfl
  clear hW HB4 st5 HG4 hn5
  generalize s4.wrote 8 (⟨#[120]⟩ : ByteArray).data.toList = s5 at *
  have hR1 := read_good h5 hg5 hS5 hS0 hl (by rw [hn5']; omega) 7 (by omega) z (by rw [HZs.out]; omega) [] ([markBlk] ++ (blobBlks ⟨#[65, 49]⟩ s4.l.length 8 (⟨#[120]⟩ : ByteArray).data.toList ++ [markBlk])) (by rw [hl5, HL4.out]; simp)
  have hr2 : ∀ W pos, Vol W w.heap.size g { s5 with pos := pos } → Steps W → Calls Tryd.prog 18 #[.pointer (some ⟨g, 0, none⟩), .int .i64 4, .int .u64 8] W fun e w' => e = .returned (.tuple #[.string ⟨#[120]⟩, .int .i64 0]) ∧ (∃ pos', Vol w' w.heap.size g { s5 with pos := pos' }) ∧ Stay w.heap.size g W w' := fun W pos hW hSW => by
    have := read_good hW (hg5.pos pos) hSW hS0 hl (by show s5.l.length ≤ _; rw [hn5']; omega) 8 (by omega) ⟨#[120]⟩ (by rw [hl1]; omega) s4.l [markBlk] hl5
    rw [HN4.out] at this
    exact this.mono fun e w' ⟨h1, ⟨p, h2⟩, h3⟩ => ⟨h1, ⟨p, h2⟩, h3⟩
  have HR2 := Lib.hid hr2
  have HB5 := Lib.hid hb5
  clear hr2 hb5 hg5 hl5 hn5' h5 hS5 HL4 HN4
  simp only [List.length_nil] at hR1
  go_wp2_with fail
  refine hR1.mono ?_
  rintro e w6 ⟨rfl, ⟨p6, h6⟩, st6⟩
  have hb6 : Below w.heap.size w w6 := HB5.out.trans st6.below
  have hS6 := HS.out.below hb6 hS0
  have hR2 := HR2.out w6 p6 h6 hS6
  have HB6 := Lib.hid hb6
  clear hR1 HB5 st6 h6 hS6 hb6 HR2
  go_wp2_with fail
  refine hR2.mono ?_
  rintro e w7 ⟨rfl, ⟨p7, h7⟩, st7⟩
  have HB7 := Lib.hid (HB6.out.trans st7.below)
  clear hR2 HB6 h7 st7
  have hzz : (z.toList == z.toList) = true := by simp
  go_wp2
  go_ret
  exact ⟨rfl, HB7.out⟩
end Go.Proofs.YtcbeikiglccgaaaDoor

/- glacierlaw07.TapefmtWeight: its walk. -/
namespace Go.Proofs.YtcbeikiglccgaaaDoor
open Go.RowKit
open Sm
set_option linter.unusedVariables false
set_option linter.unusedSimpArgs false

/-- a blob, as an argument -/
abbrev blobCells (id : Nat) (s : ByteArray) (n : Int) : Array Value := #[.int .u64 (id : Int), .string s, .int .i64 n]

set_option maxRecDepth 100000 in
set_option maxHeartbeats 4000000 in
theorem walk_weight (lab : ByteArray) (id : Nat) (hid : id < 18446744073709551616) (s : ByteArray) (n : Int) (w : World) (hS : Steps w) :
    Calls Tryd.prog 6 #[.string lab, .agg (blobCells id s n)] w fun e w' => e = .returned (.bool true) ∧ Below w.heap.size w w' := by
  have hS0 := hS.1
  have hA0 : At (w.alloc (.cells (blobCells id s n) 33)) w.heap.size 33 (blobCells id s n) := heap_alloc_new w _
  have hb0 : Below w.heap.size w (w.alloc (.cells (blobCells id s n) 33)) := (Below.refl _ w).alloc (Nat.le_refl _) _
  have hlt0 : w.heap.size < (w.alloc (.cells (blobCells id s n) 33)).heap.size := hA0.lt
  have HS := Lib.hid hS
  clear hS
  go_enter Tryd.func6, Tryd.ntmps6
  go_upto_region 1 with fail
  generalize w.alloc (.cells (blobCells id s n) 33) = w1 at *
  obtain ⟨B, hB⟩ : ∃ B, w.heap.size = B := ⟨_, rfl⟩
  rw [hB] at hA0 hb0 hlt0 hS0 ⊢
  have hS1 := HS.out.below hb0 hS0
  have hAw := awake_any w1 hS1
  go_wp2_with fail
  refine hAw.mono ?_
  rintro e w2 ⟨rfl, hb2⟩
  have HB2 := Lib.hid (hb0.trans (hb2.mono (by omega)))
  have hA2 := hA0.below hb2 (by omega)
  have hS2 := hS1.below hb2 (by omega)
  clear hAw hA0 hb0 hS1 hb2
  by_cases hlab : 32 < lab.size
  · have e1 : decide ((32 : Int) < (lab.size : Int)) = true := by simp; omega
    have hAw := awake_any w2 hS2
    go_upto_region 2 with fail
    go_wp2_with fail
    refine hAw.mono ?_
    rintro e w3 ⟨rfl, hb3⟩
    have HB3 := Lib.hid (HB2.out.trans (hb3.mono (by have := hA2.lt; omega)))
    go_wp2
    go_ret
    exact ⟨rfl, by rw [hB]; exact HB3.out⟩
  · have e1 : decide ((32 : Int) < (lab.size : Int)) = false := by simp; omega
    have hN := new_vol 100000 100000 (by omega) rfl w2
    have hz2 := hA2.lt
    obtain ⟨C, hC⟩ : ∃ C, w2.heap.size = C := ⟨_, rfl⟩
    rw [hC] at hN hz2
    go_upto_region 3 with fail
    go_wp2_with fail
    refine hN.mono ?_
    rintro e w3 ⟨g, rfl, hv, hb3⟩
    have hE := erase_vol hv lab (by omega) (by decide)
    rw [erase_new] at hE
    have hA3 := hA2.below hb3 (by omega)
    clear hN hA2
    go_upto_region 4 with fail
    go_wp2_with fail
    refine hE.mono ?_
    rintro e w4 ⟨rfl, h4, st4⟩
    have hb4 : Below C w2 w4 := hb3.trans st4.below
    have hA4 := hA3.below st4.below (by omega)
    have hS4 := hS2.below hb4 (by omega)
    have HB4 := Lib.hid (HB2.out.trans (hb4.mono (by omega)))
    have hg4 := VS.Good.lb 100000 lab
    have hs4 : ({ VS.new 100000 with lab := lab, er := 1 } : VS).l = [] := rfl
    have h4 : Vol w4 C g { VS.new 100000 with lab := lab, er := 1 } := h4
    generalize ({ VS.new 100000 with lab := lab, er := 1 } : VS) = v at *
    have c1 := hA4.cell 1
    have c2 := hA4.cell 2
    have hL := long_any s n w4
    have hls := longOf_size s n
    have hld : (longOf s n).data.toList.length = (longOf s n).size := by simp
    have h20 := partsOf_le (show (longOf s n).size ≤ 4000 by omega)
    have hwt : weightOf (longOf s n).size ≤ 90000 := by unfold weightOf; omega
    have hW := write_good h4 hg4 hS4 (by omega) (by omega) (by rw [hs4]; simp) id hid (longOf s n) (by omega) (by rw [hs4]; show ((0 : Nat) : Int) + _ ≤ _; omega)
    have hsum := VS.wrote_sum (s := v) (id := id) (d := (longOf s n).data.toList) (by rw [hg4.lab]; omega) (by rw [hs4]; simp) hid (by omega)
    have hlen := VS.wrote_len v id (longOf s n).data.toList
    rw [hs4] at hlen hsum hW
    rw [hld] at hlen hsum
    simp only [List.length_nil, Nat.zero_add, wsum_nil] at hlen hsum hW
    have hgw := hg4.wrote id (longOf s n).data.toList
    have HW := Lib.hid hW
    have HL := Lib.hid hL
    have HA4 := Lib.hid hA4
    clear hE hb3 st4 hv hA3 hb4 hS4 h4 hg4 hs4 hW hL hA4
    generalize v.wrote id (longOf s n).data.toList = v5 at *
    generalize longOf s n = d at *
    go_upto_region 6 with fail
    go_wp2_with fail
    refine HL.out.mono ?_
    rintro e w5 ⟨rfl, rfl⟩
    have c0 := HA4.out.cell 0
    clear c1 c2 HL
    go_upto_region 7 with fail
    go_wp2_with fail
    refine HW.out.mono ?_
    rintro e w5 ⟨rfl, h5, st5⟩
    have HB5 := Lib.hid (HB4.out.trans (st5.below.mono (by omega)))
    have HU := Lib.hid (used_vol h5)
    have HLn := Lib.hid (len_vol h5)
    have HWt := Lib.hid (fun W => weight_any d.size (by omega) W)
    have HPt := Lib.hid (fun W => parts_any d.size (by omega) W)
    have q1 : decide ((wsum v5.l : Int) ≤ (weightOf d.size : Int)) = true := by simp; omega
    have q2 : ((v5.l.length : Int) == (partsOf d.size : Int) + 1) = true := by rw [beq_iff_eq, hlen]; omega
    clear HW c0 h5 st5 HB4 hgw HA4
    go_upto_region 8 with fail
    go_wp2_with fail
    refine HU.out.mono ?_
    rintro e w6 ⟨rfl, rfl⟩
    go_wp2_with fail
    refine (HWt.out _).mono ?_
    rintro e w6 ⟨rfl, rfl⟩
    go_wp2_with fail
    refine HLn.out.mono ?_
    rintro e w6 ⟨rfl, rfl⟩
    go_wp2_with fail
    refine (HPt.out _).mono ?_
    rintro e w6 ⟨rfl, rfl⟩
    go_wp2
    go_ret
    exact ⟨rfl, by rw [hB]; exact HB5.out⟩
end Go.Proofs.YtcbeikiglccgaaaDoor

/- Two volumes at once; blocks of another volume. -/
namespace Go.Proofs.YtcbeikiglccgaaaDoor
open Go.RowKit
open Sm
set_option linter.unusedVariables false
set_option linter.unusedSimpArgs false

/-- two volumes, of which none holds what the other one does -/
structure Two (W : World) (B g h : Nat) (s t : VS) : Prop where
  a : Vol W B g s
  b : Vol W B h t
  ne : g ≠ h
  rows : ∀ k, rowOf W g = some k → rowOf W h ≠ some k
section
variable {W W' : World} {B g h : Nat} {s s' t t' : VS}
theorem Two.swap (x : Two W B g h s t) : Two W B h g t s := ⟨x.b, x.a, Ne.symm x.ne, fun k h1 h2 => x.rows k h2 h1⟩
theorem Vol.rowAt (x : Vol W B g s) {k : Nat} (hk : rowOf W g = some k) : ∃ cur, At W k 107 cur := by
  obtain ⟨ok, v, hv⟩ := x
  rw [hv.rowEq] at hk
  rcases hv.row.2 with ⟨rfl, _⟩ | ⟨k', cap, cur, rfl, _, h3, _⟩
  · cases hk
  · have e2 : k' = k := by simpa [Value.ownBlock] using hk
    subst e2
    exact ⟨cur, h3⟩
theorem Vol.volAt (x : Vol W B g s) : ∃ cs, At W g 51 cs := by
  obtain ⟨ok, v, hv⟩ := x
  exact ⟨_, hv.at_⟩
theorem Two.left (x : Two W B g h s t) (hv : Vol W' B g s') (hst : Stay B g W W') : Two W' B g h s' t := by
  obtain ⟨cg, hg⟩ := x.a.volAt
  obtain ⟨ch, hh⟩ := x.b.volAt
  obtain ⟨f1, f2⟩ := hst.foot hg.lt
  have n1 : rowOf W g ≠ some h := fun e => by
    obtain ⟨cur, hc⟩ := x.a.rowAt e
    exact At.differ hc hh (by decide) rfl
  have e1 : W'.heap[h]? = W.heap[h]? := f1 h hh.lt (Ne.symm x.ne) n1
  have hr : rowOf W' h = rowOf W h := by unfold rowOf; rw [World.cell?_of_block e1]
  have hb : Vol W' B h t := by
    obtain ⟨ok, v, hvb⟩ := x.b
    refine ⟨ok, v, hvb.of_block e1 fun k hk => ?_⟩
    have hk' : rowOf W h = some k := by rw [hvb.rowEq]; exact hk
    obtain ⟨cur, hc⟩ := x.b.rowAt hk'
    exact f1 k hc.lt (fun e => by subst e; exact At.differ hc hg (by decide) rfl) (fun e => x.rows k e hk')
  refine ⟨hv, hb, x.ne, fun k hk hk2 => ?_⟩
  rw [hr] at hk2
  rcases f2 k hk with h1 | h1
  · exact x.rows k h1 hk2
  · obtain ⟨cur, hc⟩ := x.b.rowAt hk2
    have := hc.lt
    omega
theorem Two.right (x : Two W B g h s t) (hv : Vol W' B h t') (hst : Stay B h W W') : Two W' B g h s t' := (x.swap.left hv hst).swap
theorem Vol.lower {B' : Nat} (x : Vol W B g s) (hB : B' ≤ B) : Vol W B' g s := by
  obtain ⟨ok, v, hv⟩ := x
  exact ⟨ok, v, hv.at_, ⟨hv.row.1, hv.row.2.imp id fun ⟨k, cap, cur, h1, h2, h3⟩ => ⟨k, cap, cur, h1, Nat.le_trans hB h2, h3⟩⟩, Nat.le_trans hB hv.gB⟩
/-- a second volume is made -/
theorem Two.made (x : Vol W B g s) (hg : g < W.heap.size) (y : Vol W' W.heap.size h t) (hb : Below W.heap.size W W') : Two W' B g h s t := by
  have hB : B ≤ W.heap.size := x.bz
  have hr : rowOf W' g = rowOf W g := by unfold rowOf; rw [World.cell?_of_block (hb.block g hg)]
  have hh : W.heap.size ≤ h := by obtain ⟨ok, v, hv⟩ := y; exact hv.gB
  refine ⟨x.below hb, y.lower hB, by omega, fun k h1 h2 => ?_⟩
  rw [hr] at h1
  obtain ⟨cur, hc⟩ := x.rowAt h1
  obtain ⟨ok, v, hv⟩ := y
  rw [hv.rowEq] at h2
  have := (hv.row_lt k h2).1
  have := hc.lt
  omega
theorem Two.below (x : Two W B g h s t) (hb : Below W.heap.size W W') : Two W' B g h s t := by
  obtain ⟨cg, hg⟩ := x.a.volAt
  obtain ⟨ch, hh⟩ := x.b.volAt
  have r1 : rowOf W' g = rowOf W g := by unfold rowOf; rw [World.cell?_of_block (hb.block g hg.lt)]
  have r2 : rowOf W' h = rowOf W h := by unfold rowOf; rw [World.cell?_of_block (hb.block h hh.lt)]
  exact ⟨x.a.below hb, x.b.below hb, x.ne, fun k h1 h2 => x.rows k (by rw [← r1]; exact h1) (by rw [← r2]; exact h2)⟩
end

/-! blocks of another volume -/
theorem blob_get {lab : ByteArray} {first id : Nat} {d : List UInt8} {j : Nat} (hj : j < partsOf d.length) : ∃ h : j < (blobBlks lab first id d).length, (blobBlks lab first id d)[j] = pieceBlk (pieceOf lab first id d j) := by
  have h := blobBlks_get (lab := lab) (first := first) (id := id) hj
  obtain ⟨h1, h2⟩ := List.getElem?_eq_some_iff.1 h
  exact ⟨h1, h2⟩
theorem rd_alien {lab lab' : ByteArray} {first id n id' k : Nat} {d : List UInt8} {l : List Blk} {acc : List UInt8} (hl : lab.size ≤ 32) (hf : first + 20 ≤ 1000000) (hid : id < 18446744073709551616) (hd : d.length ≤ 4000) (hne : lab ≠ lab') {j : Nat} (hj : j < partsOf d.length) :
    rdGo lab' n id' (pieceBlk (pieceOf lab first id d j) :: l) k acc = ([], 3) := by
  have h20 := partsOf_le hd
  have hps := parse_spell (pieceOf_ok hl (by omega : first + j ≤ 1000000) hid hd hj)
  have hbt : (pieceBlk (pieceOf lab first id d j)).t.data.toList = (pieceOf lab first id d j).spell := rfl
  rw [rdGo_cons, hbt, hps, if_neg (by simp [pieceBlk]), if_neg (by simp [pieceBlk]), if_neg (by simp), if_pos (.inl (by simpa [pieceOf] using hne))]
theorem item_alien {lab lab' : ByteArray} {first id n : Nat} {d : List UInt8} {l : List Blk} (hl : lab.size ≤ 32) (hf : first + 20 ≤ 1000000) (hid : id < 18446744073709551616) (hd : d.length ≤ 4000) (hne : lab ≠ lab') {j : Nat} (hj : j < partsOf d.length) (hn : l[n]? = some (pieceBlk (pieceOf lab first id d j))) :
    (itemAt lab' l n).2 = 3 := by
  have h20 := partsOf_le hd
  have hps := parse_spell (pieceOf_ok hl (by omega : first + j ≤ 1000000) hid hd hj)
  have hbt : (pieceBlk (pieceOf lab first id d j)).t.data.toList = (pieceOf lab first id d j).spell := rfl
  obtain ⟨h1, h2⟩ := List.getElem?_eq_some_iff.1 hn
  unfold itemAt
  rw [hn]
  simp only
  rw [List.drop_eq_getElem_cons h1, h2, hbt, hps, rd_alien hl hf hid hd hne hj]
  rw [if_neg (by simp [pieceBlk]), if_neg (by simp [pieceBlk]), if_neg (by simp), if_pos (by simp)]
theorem scan_skip {lab : ByteArray} {l : List Blk} {m e : Nat} (hm : m ≤ l.length) : ∀ (k n : Nat), n + k = m → (∀ j, n ≤ j → j < m → (itemAt lab l j).2 ≠ 0) → scanF lab l n e = scanF lab l m e := by
  intro k
  induction k with
  | zero => intro n h _; rw [show n = m by omega]
  | succ k ih =>
    intro n h hj
    rw [scanF_miss (by omega) (hj n (by omega) (by omega))]
    exact ih (n + 1) (by omega) fun j h1 h2 => hj j (by omega) h2
/-- behind another volume's blocks, one blob -/
theorem scan_other {a b : ByteArray} {id idy : Nat} {dx dy : List UInt8} (ha : a.size ≤ 32) (hb : b.size ≤ 32) (hne : a ≠ b) (hid : id < 18446744073709551616) (hidy : idy < 18446744073709551616) (hdx : dx.length ≤ 4000) (hdy : dy.length ≤ 4000) :
    scanF b (blobBlks a 0 id dx ++ (blobBlks b (partsOf dx.length) idy dy ++ [markBlk])) 0 0 = ([⟨idy, partsOf dx.length, dy.length⟩], partsOf dx.length + partsOf dy.length) := by
  have h20 := partsOf_le hdx
  have h21 := partsOf_le hdy
  have hlx := blobBlks_len a 0 id dx
  have hly := blobBlks_len b (partsOf dx.length) idy dy
  have hit : itemAt b (blobBlks a 0 id dx ++ (blobBlks b (partsOf dx.length) idy dy ++ [markBlk])) (partsOf dx.length) = (⟨idy, partsOf dx.length, dy.length⟩, 0) := item_blob hb (by omega) hidy hdy hlx
  have hlen : (blobBlks a 0 id dx ++ (blobBlks b (partsOf dx.length) idy dy ++ [markBlk])).length = partsOf dx.length + partsOf dy.length + 1 := by
    rw [List.length_append, List.length_append, hlx, hly]; simp; omega
  have hmk : (blobBlks a 0 id dx ++ (blobBlks b (partsOf dx.length) idy dy ++ [markBlk]))[partsOf dx.length + partsOf dy.length]? = some markBlk := by
    rw [List.getElem?_append_right (by omega), hlx, List.getElem?_append_right (by omega), hly]
    rw [show partsOf dx.length + partsOf dy.length - partsOf dx.length - partsOf dy.length = 0 by omega]
    rfl
  rw [scan_skip (m := partsOf dx.length) (by omega) (partsOf dx.length) 0 (by omega) fun j _ hj => by
    obtain ⟨h1, h2⟩ := blob_get (lab := a) (first := 0) (id := id) hj
    have : (itemAt b (blobBlks a 0 id dx ++ (blobBlks b (partsOf dx.length) idy dy ++ [markBlk])) j).2 = 3 := item_alien (first := 0) ha (by omega) hid hdx hne hj (by rw [List.getElem?_append_left h1, List.getElem?_eq_getElem h1, h2])
    omega]
  rw [scanF_hit (by omega) (by rw [hit]), hit]
  simp only
  rw [scanF_miss (by omega) (by rw [item_mark hmk]; decide), scanF_end (by omega)]
end Go.Proofs.YtcbeikiglccgaaaDoor

/- A region that draws its order, whatever slots it writes: the invariant of values; what holds of the world may hang on which operations have come up. No program is named here. -/
namespace Go.Proofs.YtcbeikiglccgaaaDoor
open Go.RowKit
set_option linter.unusedVariables false
set_option linter.unusedSimpArgs false

/-- a region's table: operation i leaves val i in slot slots[i] -/
structure Tf where
  slots : List Nat
  size : Nat
  base : Array Value
  val : Nat → Value
structure Tf.Inv (T : Tf) (H : (Nat → Bool) → World → Prop) (f : Nat → Bool) (a : Act) (W : World) : Prop where
  size : a.tmps.size = T.size
  defers : a.defers = []
  base : ∀ s, T.slots.contains s = false → a.tmps[s]?.getD undef = T.base[s]?.getD undef
  val : ∀ i d, T.slots[i]? = some d → f i = true → a.tmps[d]?.getD undef = T.val i
  held : H f W
theorem Tf.Inv.step {T : Tf} {H : (Nat → Bool) → World → Prop} {f : Nat → Bool} {a : Act} {W W' : World} {i d : Nat} (h : T.Inv H f a W) {v : Value} (hd : T.slots[i]? = some d) (hn : T.slots.Nodup) (hs : d < T.size) (hv : T.val i = v) (hH : H (hit f i) W') :
    T.Inv H (hit f i) (a.put (some d) v) W' := by
  have hlt : d < a.tmps.size := by rw [h.size]; exact hs
  refine ⟨?_, h.defers, fun s hs' => ?_, fun j d' hj hf => ?_, hH⟩
  · show (a.tmps.setIfInBounds _ _).size = _
    rw [Array.size_setIfInBounds, h.size]
  · have hne : s ≠ d := by
      rintro rfl
      have : T.slots.contains s = true := by
        rw [List.contains_iff_mem]
        exact List.mem_of_getElem? hd
      rw [this] at hs'
      cases hs'
    rw [put_get' _ _ _ _ hlt, if_neg hne, h.base s hs']
  · rw [put_get' _ _ _ _ hlt]
    by_cases e : j = i
    · subst e
      obtain rfl : d = d' := Option.some.inj (hd.symm.trans hj)
      rw [if_pos rfl, hv]
    · have hne : d' ≠ d := by
        rintro rfl
        obtain ⟨h1, h2⟩ := List.getElem?_eq_some_iff.1 hd
        obtain ⟨h3, h4⟩ := List.getElem?_eq_some_iff.1 hj
        have hp := List.pairwise_iff_getElem.1 hn
        rcases Nat.lt_or_gt_of_ne e with h | h
        · exact hp j i h3 h1 h (h4.trans h2.symm)
        · exact hp i j h1 h3 h (h2.trans h4.symm)
      rw [if_neg hne]
      exact h.val j d' hj (by rw [hit_of f i j e] at hf; exact hf)
/-- the frame behind the region -/
def finGo : List Nat → Nat → (Nat → Value) → Array Value → Array Value
  | [], _, _, t => t
  | d :: r, k, val, t => finGo r (k + 1) val (t.setIfInBounds d (val k))
theorem fin_size : ∀ (l : List Nat) (k : Nat) (val : Nat → Value) (t : Array Value), (finGo l k val t).size = t.size := by
  intro l
  induction l with
  | nil => intro k val t; rfl
  | cons d r ih => intro k val t; rw [finGo, ih, Array.size_setIfInBounds]
theorem fin_other : ∀ (l : List Nat) (k : Nat) (val : Nat → Value) (t : Array Value) (s : Nat), s ∉ l → (finGo l k val t)[s]? = t[s]? := by
  intro l
  induction l with
  | nil => intro k val t s _; rfl
  | cons d r ih =>
    intro k val t s hs
    rw [finGo, ih _ _ _ _ (fun h => hs (by simp [h])), Array.getElem?_setIfInBounds, if_neg (fun e => hs (by simp [e]))]
theorem fin_at : ∀ (l : List Nat) (k : Nat) (val : Nat → Value) (t : Array Value) (i d : Nat), l.Nodup → l[i]? = some d → d < t.size → (finGo l k val t)[d]? = some (val (k + i)) := by
  intro l
  induction l with
  | nil => intro k val t i d _ h; simp at h
  | cons x r ih =>
    intro k val t i d hn hi hd
    rw [List.nodup_cons] at hn
    cases i with
    | zero =>
      have e : x = d := by simpa using hi
      subst e
      rw [finGo, fin_other r _ _ _ _ hn.1, Array.getElem?_setIfInBounds, if_pos rfl, if_pos hd]
      rfl
    | succ i =>
      have hi' : r[i]? = some d := by simpa using hi
      rw [finGo, ih (k + 1) val _ i d hn.2 hi' (by rw [Array.size_setIfInBounds]; exact hd)]
      congr 2
      omega
theorem Tf.Inv.fin {T : Tf} {H : (Nat → Bool) → World → Prop} {f : Nat → Bool} {a : Act} {W : World} (h : T.Inv H f a W) (hall : ∀ i, i < T.slots.length → f i = true) (hb : T.base.size = T.size) (hn : T.slots.Nodup) (hs : T.slots.all (fun d => decide (d < T.size)) = true) :
    a = ⟨finGo T.slots 0 T.val T.base, []⟩ := by
  obtain ⟨tms, df⟩ := a
  have hd : df = [] := h.defers
  subst hd
  have hsz : tms.size = T.size := h.size
  congr 1
  apply Array.ext_getElem?
  intro s
  by_cases hm : s ∈ T.slots
  · obtain ⟨i, hi⟩ := List.getElem?_of_mem hm
    have hlt : s < T.size := by simpa using List.all_eq_true.1 hs s hm
    rw [fin_at _ _ _ _ i s hn hi (by rw [hb]; exact hlt)]
    have hv := h.val i s hi (hall i (List.getElem?_eq_some_iff.1 hi).1)
    simp only at hv
    rw [Array.getElem?_eq_getElem (by rw [hsz]; exact hlt)] at hv ⊢
    rw [Nat.zero_add]
    exact congrArg some hv
  · rw [fin_other _ _ _ _ _ hm]
    have hv := h.base s (by simpa using hm)
    simp only at hv
    by_cases hlt : s < T.size
    · rw [Array.getElem?_eq_getElem (by rw [hsz]; exact hlt), Array.getElem?_eq_getElem (by rw [hb]; exact hlt)] at hv ⊢
      exact congrArg some hv
    · rw [Array.getElem?_eq_none (by rw [hsz]; omega), Array.getElem?_eq_none (by rw [hb]; omega)]
end Go.Proofs.YtcbeikiglccgaaaDoor

/- TapefmtOther: region 6: a blob is written. Written by gen_rf.py. -/
namespace Go.Proofs.YtcbeikiglccgaaaDoor
open Go.RowKit
open Sm
set_option linter.unusedVariables false
set_option linter.unusedSimpArgs false

def toaTb (g X id : Nat) (s d : ByteArray) (n : Int) (r1 r2 : Int) (Pre Post : World → Prop) (base : Array Value) : Tf where
  slots := [55, 56, 57, 58, 59, 60, 61, 62, 63, 54, 64, 65, 11, 12]
  size := 140
  base := base
  val := fun
    | 0 => .pointer (some ⟨g, 0, none⟩)
    | 1 => .pointer (some ⟨X, 0, none⟩)
    | 2 => .int .u64 (id : Int)
    | 3 => .pointer (some ⟨X, 1, none⟩)
    | 4 => .string s
    | 5 => .pointer (some ⟨X, 2, none⟩)
    | 6 => .int .i64 n
    | 7 => .string d
    | 8 => .tuple #[.int .i64 r1, .int .i64 r2]
    | 9 => .tuple #[.int .i64 r1, .int .i64 r2]
    | 10 => .int .i64 r1
    | 11 => .int .i64 r2
    | 12 => .int .i64 r1
    | 13 => .int .i64 r2
    | _ => undef

structure toaEnv (g X id : Nat) (s d : ByteArray) (n : Int) (r1 r2 : Int) (Pre Post : World → Prop) (base : Array Value) : Prop where
  b9 : base[9]?.getD undef = .pointer (some ⟨g, 0, none⟩)
  b6 : base[6]?.getD undef = .pointer (some ⟨X, 0, none⟩)
  c : ∀ W, Pre W ∨ Post W → W.cell? ⟨X, 0, none⟩ = some (.int .u64 (id : Int)) ∧ W.cell? ⟨X, 1, none⟩ = some (.string s) ∧ W.cell? ⟨X, 2, none⟩ = some (.int .i64 n)
  lo : ∀ W, Calls Tryd.prog 15 #[.string s, .int .i64 n] W fun e w' => e = .returned (.string d) ∧ W = w'
  wr : ∀ W, Pre W → Calls Tryd.prog 14 #[.pointer (some ⟨g, 0, none⟩), .int .u64 (id : Int), .string d] W fun e w' => e = .returned (.tuple #[.int .i64 r1, .int .i64 r2]) ∧ Post w'

theorem toa_nodup : [55, 56, 57, 58, 59, 60, 61, 62, 63, 54, 64, 65, 11, 12].Nodup := by decide
set_option maxRecDepth 100000 in
theorem toa_0 {g X id : Nat} {s d : ByteArray} {n : Int} {r1 r2 : Int} {Pre Post : World → Prop} {base : Array Value} {f : Nat → Bool} {a : Act} {W : World} {K : Act → World → Prop} {Q : Exit → Act → World → Prop} {ops : Array Oper} (E : toaEnv g X id s d n r1 r2 Pre Post base) (hI : (toaTb g X id s d n r1 r2 Pre Post base).Inv (fun f W => if f 8 = true then Post W else Pre W) f a W) (hf : f 0 = false) (pos : String) (hK : ∀ a' W', (toaTb g X id s d n r1 r2 Pre Post base).Inv (fun f W => if f 8 = true then Post W else Pre W) (hit f 0) a' W' → K a' W') : if Region.wanted { dst := some 55, op := Go.Op.move (Go.Operand.tmp 9), type := 23, pos := pos, after := #[], guard := none } (yielded ops a.tmps) = true then Oper.wp Tryd.prog { dst := some 55, op := Go.Op.move (Go.Operand.tmp 9), type := 23, pos := pos, after := #[], guard := none } a W K Q else K (a.put (some 55) undef) W := by
  have q : a.tmps[9]?.getD undef = .pointer (some ⟨g, 0, none⟩) := (hI.base 9 rfl).trans E.b9
  have R := Lib.hid (hI.step (i := 0) (d := 55) (v := .pointer (some ⟨g, 0, none⟩)) rfl toa_nodup (show 55 < 140 by decide) rfl (show (if hit f 0 8 = true then Post W else Pre W) by rw [hit_of f 0 8 (by decide)]; exact hI.held))
  clear hI E hf
  go_simp
  exact hK _ _ R.out

set_option maxRecDepth 100000 in
theorem toa_1 {g X id : Nat} {s d : ByteArray} {n : Int} {r1 r2 : Int} {Pre Post : World → Prop} {base : Array Value} {f : Nat → Bool} {a : Act} {W : World} {K : Act → World → Prop} {Q : Exit → Act → World → Prop} {ops : Array Oper} (E : toaEnv g X id s d n r1 r2 Pre Post base) (hI : (toaTb g X id s d n r1 r2 Pre Post base).Inv (fun f W => if f 8 = true then Post W else Pre W) f a W) (hf : f 1 = false) (pos : String) (hK : ∀ a' W', (toaTb g X id s d n r1 r2 Pre Post base).Inv (fun f W => if f 8 = true then Post W else Pre W) (hit f 1) a' W' → K a' W') : if Region.wanted { dst := some 56, op := Go.Op.fieldAddr 33 (Go.Operand.tmp 6) 0, type := 0, pos := pos, after := #[], guard := none } (yielded ops a.tmps) = true then Oper.wp Tryd.prog { dst := some 56, op := Go.Op.fieldAddr 33 (Go.Operand.tmp 6) 0, type := 0, pos := pos, after := #[], guard := none } a W K Q else K (a.put (some 56) undef) W := by
  have q : a.tmps[6]?.getD undef = .pointer (some ⟨X, 0, none⟩) := (hI.base 6 rfl).trans E.b6
  have R := Lib.hid (hI.step (i := 1) (d := 56) (v := .pointer (some ⟨X, 0, none⟩)) rfl toa_nodup (show 56 < 140 by decide) rfl (show (if hit f 1 8 = true then Post W else Pre W) by rw [hit_of f 1 8 (by decide)]; exact hI.held))
  clear hI E hf
  go_simp
  exact hK _ _ R.out

set_option maxRecDepth 100000 in
theorem toa_2 {g X id : Nat} {s d : ByteArray} {n : Int} {r1 r2 : Int} {Pre Post : World → Prop} {base : Array Value} {f : Nat → Bool} {a : Act} {W : World} {K : Act → World → Prop} {Q : Exit → Act → World → Prop} {ops : Array Oper} (E : toaEnv g X id s d n r1 r2 Pre Post base) (hI : (toaTb g X id s d n r1 r2 Pre Post base).Inv (fun f W => if f 8 = true then Post W else Pre W) f a W) (hf : f 2 = false) (h1 : f 1 = true) (pos : String) (hK : ∀ a' W', (toaTb g X id s d n r1 r2 Pre Post base).Inv (fun f W => if f 8 = true then Post W else Pre W) (hit f 2) a' W' → K a' W') : if Region.wanted { dst := some 57, op := Go.Op.load 31 (Go.Operand.tmp 56), type := 31, pos := pos, after := #[{ on := 1, ground := Go.Ground.data }], guard := none } (yielded ops a.tmps) = true then Oper.wp Tryd.prog { dst := some 57, op := Go.Op.load 31 (Go.Operand.tmp 56), type := 31, pos := pos, after := #[{ on := 1, ground := Go.Ground.data }], guard := none } a W K Q else K (a.put (some 57) undef) W := by
  have q : a.tmps[56]?.getD undef = .pointer (some ⟨X, 0, none⟩) := hI.val 1 56 rfl h1
  have c : W.cell? ⟨X, 0, none⟩ = some (.int .u64 (id : Int)) := (E.c W (by have h : (if f 8 = true then Post W else Pre W) := hI.held; by_cases h8 : f 8 = true; (rw [if_pos h8] at h; exact .inr h); (rw [if_neg h8] at h; exact .inl h))).1
  have R := Lib.hid (hI.step (i := 2) (d := 57) (v := .int .u64 (id : Int)) rfl toa_nodup (show 57 < 140 by decide) rfl (show (if hit f 2 8 = true then Post W else Pre W) by rw [hit_of f 2 8 (by decide)]; exact hI.held))
  clear hI E hf
  go_simp
  exact hK _ _ R.out

set_option maxRecDepth 100000 in
theorem toa_3 {g X id : Nat} {s d : ByteArray} {n : Int} {r1 r2 : Int} {Pre Post : World → Prop} {base : Array Value} {f : Nat → Bool} {a : Act} {W : World} {K : Act → World → Prop} {Q : Exit → Act → World → Prop} {ops : Array Oper} (E : toaEnv g X id s d n r1 r2 Pre Post base) (hI : (toaTb g X id s d n r1 r2 Pre Post base).Inv (fun f W => if f 8 = true then Post W else Pre W) f a W) (hf : f 3 = false) (pos : String) (hK : ∀ a' W', (toaTb g X id s d n r1 r2 Pre Post base).Inv (fun f W => if f 8 = true then Post W else Pre W) (hit f 3) a' W' → K a' W') : if Region.wanted { dst := some 58, op := Go.Op.fieldAddr 33 (Go.Operand.tmp 6) 1, type := 0, pos := pos, after := #[], guard := none } (yielded ops a.tmps) = true then Oper.wp Tryd.prog { dst := some 58, op := Go.Op.fieldAddr 33 (Go.Operand.tmp 6) 1, type := 0, pos := pos, after := #[], guard := none } a W K Q else K (a.put (some 58) undef) W := by
  have q : a.tmps[6]?.getD undef = .pointer (some ⟨X, 0, none⟩) := (hI.base 6 rfl).trans E.b6
  have R := Lib.hid (hI.step (i := 3) (d := 58) (v := .pointer (some ⟨X, 1, none⟩)) rfl toa_nodup (show 58 < 140 by decide) rfl (show (if hit f 3 8 = true then Post W else Pre W) by rw [hit_of f 3 8 (by decide)]; exact hI.held))
  clear hI E hf
  go_simp
  exact hK _ _ R.out

set_option maxRecDepth 100000 in
theorem toa_4 {g X id : Nat} {s d : ByteArray} {n : Int} {r1 r2 : Int} {Pre Post : World → Prop} {base : Array Value} {f : Nat → Bool} {a : Act} {W : World} {K : Act → World → Prop} {Q : Exit → Act → World → Prop} {ops : Array Oper} (E : toaEnv g X id s d n r1 r2 Pre Post base) (hI : (toaTb g X id s d n r1 r2 Pre Post base).Inv (fun f W => if f 8 = true then Post W else Pre W) f a W) (hf : f 4 = false) (h3 : f 3 = true) (pos : String) (hK : ∀ a' W', (toaTb g X id s d n r1 r2 Pre Post base).Inv (fun f W => if f 8 = true then Post W else Pre W) (hit f 4) a' W' → K a' W') : if Region.wanted { dst := some 59, op := Go.Op.load 9 (Go.Operand.tmp 58), type := 9, pos := pos, after := #[{ on := 3, ground := Go.Ground.data }], guard := none } (yielded ops a.tmps) = true then Oper.wp Tryd.prog { dst := some 59, op := Go.Op.load 9 (Go.Operand.tmp 58), type := 9, pos := pos, after := #[{ on := 3, ground := Go.Ground.data }], guard := none } a W K Q else K (a.put (some 59) undef) W := by
  have q : a.tmps[58]?.getD undef = .pointer (some ⟨X, 1, none⟩) := hI.val 3 58 rfl h3
  have c : W.cell? ⟨X, 1, none⟩ = some (.string s) := (E.c W (by have h : (if f 8 = true then Post W else Pre W) := hI.held; by_cases h8 : f 8 = true; (rw [if_pos h8] at h; exact .inr h); (rw [if_neg h8] at h; exact .inl h))).2.1
  have R := Lib.hid (hI.step (i := 4) (d := 59) (v := .string s) rfl toa_nodup (show 59 < 140 by decide) rfl (show (if hit f 4 8 = true then Post W else Pre W) by rw [hit_of f 4 8 (by decide)]; exact hI.held))
  clear hI E hf
  go_simp
  exact hK _ _ R.out

set_option maxRecDepth 100000 in
theorem toa_5 {g X id : Nat} {s d : ByteArray} {n : Int} {r1 r2 : Int} {Pre Post : World → Prop} {base : Array Value} {f : Nat → Bool} {a : Act} {W : World} {K : Act → World → Prop} {Q : Exit → Act → World → Prop} {ops : Array Oper} (E : toaEnv g X id s d n r1 r2 Pre Post base) (hI : (toaTb g X id s d n r1 r2 Pre Post base).Inv (fun f W => if f 8 = true then Post W else Pre W) f a W) (hf : f 5 = false) (pos : String) (hK : ∀ a' W', (toaTb g X id s d n r1 r2 Pre Post base).Inv (fun f W => if f 8 = true then Post W else Pre W) (hit f 5) a' W' → K a' W') : if Region.wanted { dst := some 60, op := Go.Op.fieldAddr 33 (Go.Operand.tmp 6) 2, type := 0, pos := pos, after := #[], guard := none } (yielded ops a.tmps) = true then Oper.wp Tryd.prog { dst := some 60, op := Go.Op.fieldAddr 33 (Go.Operand.tmp 6) 2, type := 0, pos := pos, after := #[], guard := none } a W K Q else K (a.put (some 60) undef) W := by
  have q : a.tmps[6]?.getD undef = .pointer (some ⟨X, 0, none⟩) := (hI.base 6 rfl).trans E.b6
  have R := Lib.hid (hI.step (i := 5) (d := 60) (v := .pointer (some ⟨X, 2, none⟩)) rfl toa_nodup (show 60 < 140 by decide) rfl (show (if hit f 5 8 = true then Post W else Pre W) by rw [hit_of f 5 8 (by decide)]; exact hI.held))
  clear hI E hf
  go_simp
  exact hK _ _ R.out

set_option maxRecDepth 100000 in
theorem toa_6 {g X id : Nat} {s d : ByteArray} {n : Int} {r1 r2 : Int} {Pre Post : World → Prop} {base : Array Value} {f : Nat → Bool} {a : Act} {W : World} {K : Act → World → Prop} {Q : Exit → Act → World → Prop} {ops : Array Oper} (E : toaEnv g X id s d n r1 r2 Pre Post base) (hI : (toaTb g X id s d n r1 r2 Pre Post base).Inv (fun f W => if f 8 = true then Post W else Pre W) f a W) (hf : f 6 = false) (h5 : f 5 = true) (pos : String) (hK : ∀ a' W', (toaTb g X id s d n r1 r2 Pre Post base).Inv (fun f W => if f 8 = true then Post W else Pre W) (hit f 6) a' W' → K a' W') : if Region.wanted { dst := some 61, op := Go.Op.load 3 (Go.Operand.tmp 60), type := 3, pos := pos, after := #[{ on := 5, ground := Go.Ground.data }], guard := none } (yielded ops a.tmps) = true then Oper.wp Tryd.prog { dst := some 61, op := Go.Op.load 3 (Go.Operand.tmp 60), type := 3, pos := pos, after := #[{ on := 5, ground := Go.Ground.data }], guard := none } a W K Q else K (a.put (some 61) undef) W := by
  have q : a.tmps[60]?.getD undef = .pointer (some ⟨X, 2, none⟩) := hI.val 5 60 rfl h5
  have c : W.cell? ⟨X, 2, none⟩ = some (.int .i64 n) := (E.c W (by have h : (if f 8 = true then Post W else Pre W) := hI.held; by_cases h8 : f 8 = true; (rw [if_pos h8] at h; exact .inr h); (rw [if_neg h8] at h; exact .inl h))).2.2
  have R := Lib.hid (hI.step (i := 6) (d := 61) (v := .int .i64 n) rfl toa_nodup (show 61 < 140 by decide) rfl (show (if hit f 6 8 = true then Post W else Pre W) by rw [hit_of f 6 8 (by decide)]; exact hI.held))
  clear hI E hf
  go_simp
  exact hK _ _ R.out

set_option maxRecDepth 100000 in
theorem toa_7 {g X id : Nat} {s d : ByteArray} {n : Int} {r1 r2 : Int} {Pre Post : World → Prop} {base : Array Value} {f : Nat → Bool} {a : Act} {W : World} {K : Act → World → Prop} {Q : Exit → Act → World → Prop} {ops : Array Oper} (E : toaEnv g X id s d n r1 r2 Pre Post base) (hI : (toaTb g X id s d n r1 r2 Pre Post base).Inv (fun f W => if f 8 = true then Post W else Pre W) f a W) (hf : f 7 = false) (h4 : f 4 = true) (h6 : f 6 = true) (pos : String) (hK : ∀ a' W', (toaTb g X id s d n r1 r2 Pre Post base).Inv (fun f W => if f 8 = true then Post W else Pre W) (hit f 7) a' W' → K a' W') : if Region.wanted { dst := some 62, op := Go.Op.call { callee := Go.Callee.value (Go.Operand.func 15), args := #[Go.Operand.tmp 59, Go.Operand.tmp 61], argTypes := #[9, 3] }, type := 9, pos := pos, after := #[{ on := 4, ground := Go.Ground.data }, { on := 6, ground := Go.Ground.data }], guard := none } (yielded ops a.tmps) = true then Oper.wp Tryd.prog { dst := some 62, op := Go.Op.call { callee := Go.Callee.value (Go.Operand.func 15), args := #[Go.Operand.tmp 59, Go.Operand.tmp 61], argTypes := #[9, 3] }, type := 9, pos := pos, after := #[{ on := 4, ground := Go.Ground.data }, { on := 6, ground := Go.Ground.data }], guard := none } a W K Q else K (a.put (some 62) undef) W := by
  have y0 : a.tmps[59]?.getD undef = .string s := hI.val 4 59 rfl h4
  have y1 : a.tmps[61]?.getD undef = .int .i64 n := hI.val 6 61 rfl h6
  have hC := E.lo W
  have HR := Lib.hid (hI.step (i := 7) (d := 62) (v := .string d) rfl toa_nodup (show 62 < 140 by decide) rfl (show (if hit f 7 8 = true then Post W else Pre W) by rw [hit_of f 7 8 (by decide)]; exact hI.held))
  clear hI E hf
  go_simp
  refine hC.mono ?_
  rintro e W1 ⟨rfl, rfl⟩
  exact hK _ _ HR.out

set_option maxRecDepth 100000 in
theorem toa_8 {g X id : Nat} {s d : ByteArray} {n : Int} {r1 r2 : Int} {Pre Post : World → Prop} {base : Array Value} {f : Nat → Bool} {a : Act} {W : World} {K : Act → World → Prop} {Q : Exit → Act → World → Prop} {ops : Array Oper} (E : toaEnv g X id s d n r1 r2 Pre Post base) (hI : (toaTb g X id s d n r1 r2 Pre Post base).Inv (fun f W => if f 8 = true then Post W else Pre W) f a W) (hf : f 8 = false) (h0 : f 0 = true) (h2 : f 2 = true) (h7 : f 7 = true) (pos : String) (hK : ∀ a' W', (toaTb g X id s d n r1 r2 Pre Post base).Inv (fun f W => if f 8 = true then Post W else Pre W) (hit f 8) a' W' → K a' W') : if Region.wanted { dst := some 63, op := Go.Op.call { callee := Go.Callee.value (Go.Operand.func 14), args := #[Go.Operand.tmp 55, Go.Operand.tmp 57, Go.Operand.tmp 62], argTypes := #[23, 31, 9] }, type := 29, pos := pos, after := #[{ on := 0, ground := Go.Ground.data }, { on := 2, ground := Go.Ground.data }, { on := 7, ground := Go.Ground.data }, { on := 7, ground := Go.Ground.chain }], guard := none } (yielded ops a.tmps) = true then Oper.wp Tryd.prog { dst := some 63, op := Go.Op.call { callee := Go.Callee.value (Go.Operand.func 14), args := #[Go.Operand.tmp 55, Go.Operand.tmp 57, Go.Operand.tmp 62], argTypes := #[23, 31, 9] }, type := 29, pos := pos, after := #[{ on := 0, ground := Go.Ground.data }, { on := 2, ground := Go.Ground.data }, { on := 7, ground := Go.Ground.data }, { on := 7, ground := Go.Ground.chain }], guard := none } a W K Q else K (a.put (some 63) undef) W := by
  have y0 : a.tmps[55]?.getD undef = .pointer (some ⟨g, 0, none⟩) := hI.val 0 55 rfl h0
  have y1 : a.tmps[57]?.getD undef = .int .u64 (id : Int) := hI.val 2 57 rfl h2
  have y2 : a.tmps[62]?.getD undef = .string d := hI.val 7 62 rfl h7
  have hp : Pre W := by have := hI.held; simp only [hf] at this; simpa using this
  have hC := E.wr W hp
  have HR := Lib.hid (fun W1 (hb : Post W1) => hI.step (i := 8) (d := 63) (v := .tuple #[.int .i64 r1, .int .i64 r2]) rfl toa_nodup (show 63 < 140 by decide) rfl (show (if hit f 8 8 = true then Post W1 else Pre W1) by rw [hit_at, if_pos rfl]; exact hb))
  clear hI E hf hp
  go_simp
  refine hC.mono ?_
  rintro e W1 ⟨rfl, hb⟩
  exact hK _ _ (HR.out W1 hb)

set_option maxRecDepth 100000 in
theorem toa_9 {g X id : Nat} {s d : ByteArray} {n : Int} {r1 r2 : Int} {Pre Post : World → Prop} {base : Array Value} {f : Nat → Bool} {a : Act} {W : World} {K : Act → World → Prop} {Q : Exit → Act → World → Prop} {ops : Array Oper} (E : toaEnv g X id s d n r1 r2 Pre Post base) (hI : (toaTb g X id s d n r1 r2 Pre Post base).Inv (fun f W => if f 8 = true then Post W else Pre W) f a W) (hf : f 9 = false) (h8 : f 8 = true) (pos : String) (hK : ∀ a' W', (toaTb g X id s d n r1 r2 Pre Post base).Inv (fun f W => if f 8 = true then Post W else Pre W) (hit f 9) a' W' → K a' W') : if Region.wanted { dst := some 54, op := Go.Op.move (Go.Operand.tmp 63), type := 29, pos := pos, after := #[{ on := 8, ground := Go.Ground.data }], guard := none } (yielded ops a.tmps) = true then Oper.wp Tryd.prog { dst := some 54, op := Go.Op.move (Go.Operand.tmp 63), type := 29, pos := pos, after := #[{ on := 8, ground := Go.Ground.data }], guard := none } a W K Q else K (a.put (some 54) undef) W := by
  have q : a.tmps[63]?.getD undef = .tuple #[.int .i64 r1, .int .i64 r2] := hI.val 8 63 rfl h8
  have R := Lib.hid (hI.step (i := 9) (d := 54) (v := .tuple #[.int .i64 r1, .int .i64 r2]) rfl toa_nodup (show 54 < 140 by decide) rfl (show (if hit f 9 8 = true then Post W else Pre W) by rw [hit_of f 9 8 (by decide)]; exact hI.held))
  clear hI E hf
  go_simp
  exact hK _ _ R.out

set_option maxRecDepth 100000 in
theorem toa_10 {g X id : Nat} {s d : ByteArray} {n : Int} {r1 r2 : Int} {Pre Post : World → Prop} {base : Array Value} {f : Nat → Bool} {a : Act} {W : World} {K : Act → World → Prop} {Q : Exit → Act → World → Prop} {ops : Array Oper} (E : toaEnv g X id s d n r1 r2 Pre Post base) (hI : (toaTb g X id s d n r1 r2 Pre Post base).Inv (fun f W => if f 8 = true then Post W else Pre W) f a W) (hf : f 10 = false) (h9 : f 9 = true) (pos : String) (hK : ∀ a' W', (toaTb g X id s d n r1 r2 Pre Post base).Inv (fun f W => if f 8 = true then Post W else Pre W) (hit f 10) a' W' → K a' W') : if Region.wanted { dst := some 64, op := Go.Op.extract (Go.Operand.tmp 54) 0, type := 3, pos := pos, after := #[{ on := 9, ground := Go.Ground.data }], guard := none } (yielded ops a.tmps) = true then Oper.wp Tryd.prog { dst := some 64, op := Go.Op.extract (Go.Operand.tmp 54) 0, type := 3, pos := pos, after := #[{ on := 9, ground := Go.Ground.data }], guard := none } a W K Q else K (a.put (some 64) undef) W := by
  have q : a.tmps[54]?.getD undef = .tuple #[.int .i64 r1, .int .i64 r2] := hI.val 9 54 rfl h9
  have R := Lib.hid (hI.step (i := 10) (d := 64) (v := .int .i64 r1) rfl toa_nodup (show 64 < 140 by decide) rfl (show (if hit f 10 8 = true then Post W else Pre W) by rw [hit_of f 10 8 (by decide)]; exact hI.held))
  clear hI E hf
  go_simp
  exact hK _ _ R.out

set_option maxRecDepth 100000 in
theorem toa_11 {g X id : Nat} {s d : ByteArray} {n : Int} {r1 r2 : Int} {Pre Post : World → Prop} {base : Array Value} {f : Nat → Bool} {a : Act} {W : World} {K : Act → World → Prop} {Q : Exit → Act → World → Prop} {ops : Array Oper} (E : toaEnv g X id s d n r1 r2 Pre Post base) (hI : (toaTb g X id s d n r1 r2 Pre Post base).Inv (fun f W => if f 8 = true then Post W else Pre W) f a W) (hf : f 11 = false) (h9 : f 9 = true) (pos : String) (hK : ∀ a' W', (toaTb g X id s d n r1 r2 Pre Post base).Inv (fun f W => if f 8 = true then Post W else Pre W) (hit f 11) a' W' → K a' W') : if Region.wanted { dst := some 65, op := Go.Op.extract (Go.Operand.tmp 54) 1, type := 26, pos := pos, after := #[{ on := 9, ground := Go.Ground.data }, { on := 12, ground := Go.Ground.gcOnly Go.Departure.lateStores }], guard := none } (yielded ops a.tmps) = true then Oper.wp Tryd.prog { dst := some 65, op := Go.Op.extract (Go.Operand.tmp 54) 1, type := 26, pos := pos, after := #[{ on := 9, ground := Go.Ground.data }, { on := 12, ground := Go.Ground.gcOnly Go.Departure.lateStores }], guard := none } a W K Q else K (a.put (some 65) undef) W := by
  have q : a.tmps[54]?.getD undef = .tuple #[.int .i64 r1, .int .i64 r2] := hI.val 9 54 rfl h9
  have R := Lib.hid (hI.step (i := 11) (d := 65) (v := .int .i64 r2) rfl toa_nodup (show 65 < 140 by decide) rfl (show (if hit f 11 8 = true then Post W else Pre W) by rw [hit_of f 11 8 (by decide)]; exact hI.held))
  clear hI E hf
  go_simp
  exact hK _ _ R.out

set_option maxRecDepth 100000 in
theorem toa_12 {g X id : Nat} {s d : ByteArray} {n : Int} {r1 r2 : Int} {Pre Post : World → Prop} {base : Array Value} {f : Nat → Bool} {a : Act} {W : World} {K : Act → World → Prop} {Q : Exit → Act → World → Prop} {ops : Array Oper} (E : toaEnv g X id s d n r1 r2 Pre Post base) (hI : (toaTb g X id s d n r1 r2 Pre Post base).Inv (fun f W => if f 8 = true then Post W else Pre W) f a W) (hf : f 12 = false) (h0 : f 0 = true) (h1 : f 1 = true) (h2 : f 2 = true) (h3 : f 3 = true) (h4 : f 4 = true) (h5 : f 5 = true) (h6 : f 6 = true) (h7 : f 7 = true) (h8 : f 8 = true) (h9 : f 9 = true) (h10 : f 10 = true) (pos : String) (hK : ∀ a' W', (toaTb g X id s d n r1 r2 Pre Post base).Inv (fun f W => if f 8 = true then Post W else Pre W) (hit f 12) a' W' → K a' W') : if Region.wanted { dst := some 11, op := Go.Op.assign (Go.Operand.tmp 64), type := 3, pos := pos, after := #[{ on := 10, ground := Go.Ground.data }, { on := 8, ground := Go.Ground.chain }, { on := 0, ground := Go.Ground.phase }, { on := 1, ground := Go.Ground.phase }, { on := 2, ground := Go.Ground.phase }, { on := 3, ground := Go.Ground.phase }, { on := 4, ground := Go.Ground.phase }, { on := 5, ground := Go.Ground.phase }, { on := 6, ground := Go.Ground.phase }, { on := 7, ground := Go.Ground.phase }, { on := 8, ground := Go.Ground.phase }, { on := 9, ground := Go.Ground.phase }, { on := 10, ground := Go.Ground.phase }, { on := 11, ground := Go.Ground.textOnly Go.Departure.lateStores }], guard := none } (yielded ops a.tmps) = true then Oper.wp Tryd.prog { dst := some 11, op := Go.Op.assign (Go.Operand.tmp 64), type := 3, pos := pos, after := #[{ on := 10, ground := Go.Ground.data }, { on := 8, ground := Go.Ground.chain }, { on := 0, ground := Go.Ground.phase }, { on := 1, ground := Go.Ground.phase }, { on := 2, ground := Go.Ground.phase }, { on := 3, ground := Go.Ground.phase }, { on := 4, ground := Go.Ground.phase }, { on := 5, ground := Go.Ground.phase }, { on := 6, ground := Go.Ground.phase }, { on := 7, ground := Go.Ground.phase }, { on := 8, ground := Go.Ground.phase }, { on := 9, ground := Go.Ground.phase }, { on := 10, ground := Go.Ground.phase }, { on := 11, ground := Go.Ground.textOnly Go.Departure.lateStores }], guard := none } a W K Q else K (a.put (some 11) undef) W := by
  have q : a.tmps[64]?.getD undef = .int .i64 r1 := hI.val 10 64 rfl h10
  have R := Lib.hid (hI.step (i := 12) (d := 11) (v := .int .i64 r1) rfl toa_nodup (show 11 < 140 by decide) rfl (show (if hit f 12 8 = true then Post W else Pre W) by rw [hit_of f 12 8 (by decide)]; exact hI.held))
  clear hI E hf
  go_simp
  exact hK _ _ R.out

set_option maxRecDepth 100000 in
theorem toa_13 {g X id : Nat} {s d : ByteArray} {n : Int} {r1 r2 : Int} {Pre Post : World → Prop} {base : Array Value} {f : Nat → Bool} {a : Act} {W : World} {K : Act → World → Prop} {Q : Exit → Act → World → Prop} {ops : Array Oper} (E : toaEnv g X id s d n r1 r2 Pre Post base) (hI : (toaTb g X id s d n r1 r2 Pre Post base).Inv (fun f W => if f 8 = true then Post W else Pre W) f a W) (hf : f 13 = false) (h0 : f 0 = true) (h1 : f 1 = true) (h2 : f 2 = true) (h3 : f 3 = true) (h4 : f 4 = true) (h5 : f 5 = true) (h6 : f 6 = true) (h7 : f 7 = true) (h8 : f 8 = true) (h9 : f 9 = true) (h10 : f 10 = true) (h11 : f 11 = true) (h12 : f 12 = true) (pos : String) (hK : ∀ a' W', (toaTb g X id s d n r1 r2 Pre Post base).Inv (fun f W => if f 8 = true then Post W else Pre W) (hit f 13) a' W' → K a' W') : if Region.wanted { dst := some 12, op := Go.Op.assign (Go.Operand.tmp 65), type := 26, pos := pos, after := #[{ on := 11, ground := Go.Ground.data }, { on := 12, ground := Go.Ground.chain }, { on := 0, ground := Go.Ground.phase }, { on := 1, ground := Go.Ground.phase }, { on := 2, ground := Go.Ground.phase }, { on := 3, ground := Go.Ground.phase }, { on := 4, ground := Go.Ground.phase }, { on := 5, ground := Go.Ground.phase }, { on := 6, ground := Go.Ground.phase }, { on := 7, ground := Go.Ground.phase }, { on := 8, ground := Go.Ground.phase }, { on := 9, ground := Go.Ground.phase }, { on := 10, ground := Go.Ground.phase }, { on := 11, ground := Go.Ground.phase }, { on := 12, ground := Go.Ground.phase }], guard := none } (yielded ops a.tmps) = true then Oper.wp Tryd.prog { dst := some 12, op := Go.Op.assign (Go.Operand.tmp 65), type := 26, pos := pos, after := #[{ on := 11, ground := Go.Ground.data }, { on := 12, ground := Go.Ground.chain }, { on := 0, ground := Go.Ground.phase }, { on := 1, ground := Go.Ground.phase }, { on := 2, ground := Go.Ground.phase }, { on := 3, ground := Go.Ground.phase }, { on := 4, ground := Go.Ground.phase }, { on := 5, ground := Go.Ground.phase }, { on := 6, ground := Go.Ground.phase }, { on := 7, ground := Go.Ground.phase }, { on := 8, ground := Go.Ground.phase }, { on := 9, ground := Go.Ground.phase }, { on := 10, ground := Go.Ground.phase }, { on := 11, ground := Go.Ground.phase }, { on := 12, ground := Go.Ground.phase }], guard := none } a W K Q else K (a.put (some 12) undef) W := by
  have q : a.tmps[65]?.getD undef = .int .i64 r2 := hI.val 11 65 rfl h11
  have R := Lib.hid (hI.step (i := 13) (d := 12) (v := .int .i64 r2) rfl toa_nodup (show 12 < 140 by decide) rfl (show (if hit f 13 8 = true then Post W else Pre W) by rw [hit_of f 13 8 (by decide)]; exact hI.held))
  clear hI E hf
  go_simp
  exact hK _ _ R.out

abbrev toaOps : Array Oper := #[{ dst := some 55, op := Go.Op.move (Go.Operand.tmp 9), type := 23, pos := "outright.go:138", after := #[], guard := none }, { dst := some 56, op := Go.Op.fieldAddr 33 (Go.Operand.tmp 6) 0, type := 0, pos := "outright.go:138", after := #[], guard := none }, { dst := some 57, op := Go.Op.load 31 (Go.Operand.tmp 56), type := 31, pos := "outright.go:138", after := #[{ on := 1, ground := Go.Ground.data }], guard := none }, { dst := some 58, op := Go.Op.fieldAddr 33 (Go.Operand.tmp 6) 1, type := 0, pos := "outright.go:138", after := #[], guard := none }, { dst := some 59, op := Go.Op.load 9 (Go.Operand.tmp 58), type := 9, pos := "outright.go:138", after := #[{ on := 3, ground := Go.Ground.data }], guard := none }, { dst := some 60, op := Go.Op.fieldAddr 33 (Go.Operand.tmp 6) 2, type := 0, pos := "outright.go:138", after := #[], guard := none }, { dst := some 61, op := Go.Op.load 3 (Go.Operand.tmp 60), type := 3, pos := "outright.go:138", after := #[{ on := 5, ground := Go.Ground.data }], guard := none }, { dst := some 62, op := Go.Op.call { callee := Go.Callee.value (Go.Operand.func 15), args := #[Go.Operand.tmp 59, Go.Operand.tmp 61], argTypes := #[9, 3] }, type := 9, pos := "outright.go:138", after := #[{ on := 4, ground := Go.Ground.data }, { on := 6, ground := Go.Ground.data }], guard := none }, { dst := some 63, op := Go.Op.call { callee := Go.Callee.value (Go.Operand.func 14), args := #[Go.Operand.tmp 55, Go.Operand.tmp 57, Go.Operand.tmp 62], argTypes := #[23, 31, 9] }, type := 29, pos := "outright.go:138", after := #[{ on := 0, ground := Go.Ground.data }, { on := 2, ground := Go.Ground.data }, { on := 7, ground := Go.Ground.data }, { on := 7, ground := Go.Ground.chain }], guard := none }, { dst := some 54, op := Go.Op.move (Go.Operand.tmp 63), type := 29, pos := "outright.go:138", after := #[{ on := 8, ground := Go.Ground.data }], guard := none }, { dst := some 64, op := Go.Op.extract (Go.Operand.tmp 54) 0, type := 3, pos := "outright.go:138", after := #[{ on := 9, ground := Go.Ground.data }], guard := none }, { dst := some 65, op := Go.Op.extract (Go.Operand.tmp 54) 1, type := 26, pos := "outright.go:138", after := #[{ on := 9, ground := Go.Ground.data }, { on := 12, ground := Go.Ground.gcOnly Go.Departure.lateStores }], guard := none }, { dst := some 11, op := Go.Op.assign (Go.Operand.tmp 64), type := 3, pos := "outright.go:138", after := #[{ on := 10, ground := Go.Ground.data }, { on := 8, ground := Go.Ground.chain }, { on := 0, ground := Go.Ground.phase }, { on := 1, ground := Go.Ground.phase }, { on := 2, ground := Go.Ground.phase }, { on := 3, ground := Go.Ground.phase }, { on := 4, ground := Go.Ground.phase }, { on := 5, ground := Go.Ground.phase }, { on := 6, ground := Go.Ground.phase }, { on := 7, ground := Go.Ground.phase }, { on := 8, ground := Go.Ground.phase }, { on := 9, ground := Go.Ground.phase }, { on := 10, ground := Go.Ground.phase }, { on := 11, ground := Go.Ground.textOnly Go.Departure.lateStores }], guard := none }, { dst := some 12, op := Go.Op.assign (Go.Operand.tmp 65), type := 26, pos := "outright.go:138", after := #[{ on := 11, ground := Go.Ground.data }, { on := 12, ground := Go.Ground.chain }, { on := 0, ground := Go.Ground.phase }, { on := 1, ground := Go.Ground.phase }, { on := 2, ground := Go.Ground.phase }, { on := 3, ground := Go.Ground.phase }, { on := 4, ground := Go.Ground.phase }, { on := 5, ground := Go.Ground.phase }, { on := 6, ground := Go.Ground.phase }, { on := 7, ground := Go.Ground.phase }, { on := 8, ground := Go.Ground.phase }, { on := 9, ground := Go.Ground.phase }, { on := 10, ground := Go.Ground.phase }, { on := 11, ground := Go.Ground.phase }, { on := 12, ground := Go.Ground.phase }], guard := none }]
set_option maxRecDepth 100000 in
set_option maxHeartbeats 4000000 in
theorem toa_step {g X id : Nat} {s d : ByteArray} {n : Int} {r1 r2 : Int} {Pre Post : World → Prop} {base : Array Value} {Q : Exit → Act → World → Prop} (E : toaEnv g X id s d n r1 r2 Pre Post base) :
    ∀ f a W i o, toaOps[i]? = some o → f i = false → (∀ e ∈ o.after, Region.binds .any e = true → f e.on = true) → (toaTb g X id s d n r1 r2 Pre Post base).Inv (fun f W => if f 8 = true then Post W else Pre W) f a W → wpOp Tryd.prog toaOps Q i (fun a' W' => (toaTb g X id s d n r1 r2 Pre Post base).Inv (fun f W => if f 8 = true then Post W else Pre W) (hit f i) a' W') a W := by
  intro f a W i o ho hf hed hI
  have hi : i < 14 := (Array.getElem?_eq_some_iff.1 ho).1
  have hc : i = 0 ∨ i = 1 ∨ i = 2 ∨ i = 3 ∨ i = 4 ∨ i = 5 ∨ i = 6 ∨ i = 7 ∨ i = 8 ∨ i = 9 ∨ i = 10 ∨ i = 11 ∨ i = 12 ∨ i = 13 := by omega
  rcases hc with rfl | rfl | rfl | rfl | rfl | rfl | rfl | rfl | rfl | rfl | rfl | rfl | rfl | rfl
  · cases ho
    exact wpOp_step (o := { dst := some 55, op := Go.Op.move (Go.Operand.tmp 9), type := 23, pos := "outright.go:138", after := #[], guard := none }) rfl fun K hK => toa_0 E hI hf "outright.go:138" (fun a' W' h => hK a' W' h)
  · cases ho
    exact wpOp_step (o := { dst := some 56, op := Go.Op.fieldAddr 33 (Go.Operand.tmp 6) 0, type := 0, pos := "outright.go:138", after := #[], guard := none }) rfl fun K hK => toa_1 E hI hf "outright.go:138" (fun a' W' h => hK a' W' h)
  · cases ho
    exact wpOp_step (o := { dst := some 57, op := Go.Op.load 31 (Go.Operand.tmp 56), type := 31, pos := "outright.go:138", after := #[{ on := 1, ground := Go.Ground.data }], guard := none }) rfl fun K hK => toa_2 E hI hf (hed ⟨1, Go.Ground.data⟩ (Array.mem_of_getElem? (i := 0) rfl) rfl) "outright.go:138" (fun a' W' h => hK a' W' h)
  · cases ho
    exact wpOp_step (o := { dst := some 58, op := Go.Op.fieldAddr 33 (Go.Operand.tmp 6) 1, type := 0, pos := "outright.go:138", after := #[], guard := none }) rfl fun K hK => toa_3 E hI hf "outright.go:138" (fun a' W' h => hK a' W' h)
  · cases ho
    exact wpOp_step (o := { dst := some 59, op := Go.Op.load 9 (Go.Operand.tmp 58), type := 9, pos := "outright.go:138", after := #[{ on := 3, ground := Go.Ground.data }], guard := none }) rfl fun K hK => toa_4 E hI hf (hed ⟨3, Go.Ground.data⟩ (Array.mem_of_getElem? (i := 0) rfl) rfl) "outright.go:138" (fun a' W' h => hK a' W' h)
  · cases ho
    exact wpOp_step (o := { dst := some 60, op := Go.Op.fieldAddr 33 (Go.Operand.tmp 6) 2, type := 0, pos := "outright.go:138", after := #[], guard := none }) rfl fun K hK => toa_5 E hI hf "outright.go:138" (fun a' W' h => hK a' W' h)
  · cases ho
    exact wpOp_step (o := { dst := some 61, op := Go.Op.load 3 (Go.Operand.tmp 60), type := 3, pos := "outright.go:138", after := #[{ on := 5, ground := Go.Ground.data }], guard := none }) rfl fun K hK => toa_6 E hI hf (hed ⟨5, Go.Ground.data⟩ (Array.mem_of_getElem? (i := 0) rfl) rfl) "outright.go:138" (fun a' W' h => hK a' W' h)
  · cases ho
    exact wpOp_step (o := { dst := some 62, op := Go.Op.call { callee := Go.Callee.value (Go.Operand.func 15), args := #[Go.Operand.tmp 59, Go.Operand.tmp 61], argTypes := #[9, 3] }, type := 9, pos := "outright.go:138", after := #[{ on := 4, ground := Go.Ground.data }, { on := 6, ground := Go.Ground.data }], guard := none }) rfl fun K hK => toa_7 E hI hf (hed ⟨4, Go.Ground.data⟩ (Array.mem_of_getElem? (i := 0) rfl) rfl) (hed ⟨6, Go.Ground.data⟩ (Array.mem_of_getElem? (i := 1) rfl) rfl) "outright.go:138" (fun a' W' h => hK a' W' h)
  · cases ho
    exact wpOp_step (o := { dst := some 63, op := Go.Op.call { callee := Go.Callee.value (Go.Operand.func 14), args := #[Go.Operand.tmp 55, Go.Operand.tmp 57, Go.Operand.tmp 62], argTypes := #[23, 31, 9] }, type := 29, pos := "outright.go:138", after := #[{ on := 0, ground := Go.Ground.data }, { on := 2, ground := Go.Ground.data }, { on := 7, ground := Go.Ground.data }, { on := 7, ground := Go.Ground.chain }], guard := none }) rfl fun K hK => toa_8 E hI hf (hed ⟨0, Go.Ground.data⟩ (Array.mem_of_getElem? (i := 0) rfl) rfl) (hed ⟨2, Go.Ground.data⟩ (Array.mem_of_getElem? (i := 1) rfl) rfl) (hed ⟨7, Go.Ground.data⟩ (Array.mem_of_getElem? (i := 2) rfl) rfl) "outright.go:138" (fun a' W' h => hK a' W' h)
  · cases ho
    exact wpOp_step (o := { dst := some 54, op := Go.Op.move (Go.Operand.tmp 63), type := 29, pos := "outright.go:138", after := #[{ on := 8, ground := Go.Ground.data }], guard := none }) rfl fun K hK => toa_9 E hI hf (hed ⟨8, Go.Ground.data⟩ (Array.mem_of_getElem? (i := 0) rfl) rfl) "outright.go:138" (fun a' W' h => hK a' W' h)
  · cases ho
    exact wpOp_step (o := { dst := some 64, op := Go.Op.extract (Go.Operand.tmp 54) 0, type := 3, pos := "outright.go:138", after := #[{ on := 9, ground := Go.Ground.data }], guard := none }) rfl fun K hK => toa_10 E hI hf (hed ⟨9, Go.Ground.data⟩ (Array.mem_of_getElem? (i := 0) rfl) rfl) "outright.go:138" (fun a' W' h => hK a' W' h)
  · cases ho
    exact wpOp_step (o := { dst := some 65, op := Go.Op.extract (Go.Operand.tmp 54) 1, type := 26, pos := "outright.go:138", after := #[{ on := 9, ground := Go.Ground.data }, { on := 12, ground := Go.Ground.gcOnly Go.Departure.lateStores }], guard := none }) rfl fun K hK => toa_11 E hI hf (hed ⟨9, Go.Ground.data⟩ (Array.mem_of_getElem? (i := 0) rfl) rfl) "outright.go:138" (fun a' W' h => hK a' W' h)
  · cases ho
    exact wpOp_step (o := { dst := some 11, op := Go.Op.assign (Go.Operand.tmp 64), type := 3, pos := "outright.go:138", after := #[{ on := 10, ground := Go.Ground.data }, { on := 8, ground := Go.Ground.chain }, { on := 0, ground := Go.Ground.phase }, { on := 1, ground := Go.Ground.phase }, { on := 2, ground := Go.Ground.phase }, { on := 3, ground := Go.Ground.phase }, { on := 4, ground := Go.Ground.phase }, { on := 5, ground := Go.Ground.phase }, { on := 6, ground := Go.Ground.phase }, { on := 7, ground := Go.Ground.phase }, { on := 8, ground := Go.Ground.phase }, { on := 9, ground := Go.Ground.phase }, { on := 10, ground := Go.Ground.phase }, { on := 11, ground := Go.Ground.textOnly Go.Departure.lateStores }], guard := none }) rfl fun K hK => toa_12 E hI hf (hed ⟨0, Go.Ground.phase⟩ (Array.mem_of_getElem? (i := 2) rfl) rfl) (hed ⟨1, Go.Ground.phase⟩ (Array.mem_of_getElem? (i := 3) rfl) rfl) (hed ⟨2, Go.Ground.phase⟩ (Array.mem_of_getElem? (i := 4) rfl) rfl) (hed ⟨3, Go.Ground.phase⟩ (Array.mem_of_getElem? (i := 5) rfl) rfl) (hed ⟨4, Go.Ground.phase⟩ (Array.mem_of_getElem? (i := 6) rfl) rfl) (hed ⟨5, Go.Ground.phase⟩ (Array.mem_of_getElem? (i := 7) rfl) rfl) (hed ⟨6, Go.Ground.phase⟩ (Array.mem_of_getElem? (i := 8) rfl) rfl) (hed ⟨7, Go.Ground.phase⟩ (Array.mem_of_getElem? (i := 9) rfl) rfl) (hed ⟨8, Go.Ground.chain⟩ (Array.mem_of_getElem? (i := 1) rfl) rfl) (hed ⟨9, Go.Ground.phase⟩ (Array.mem_of_getElem? (i := 11) rfl) rfl) (hed ⟨10, Go.Ground.data⟩ (Array.mem_of_getElem? (i := 0) rfl) rfl) "outright.go:138" (fun a' W' h => hK a' W' h)
  · cases ho
    exact wpOp_step (o := { dst := some 12, op := Go.Op.assign (Go.Operand.tmp 65), type := 26, pos := "outright.go:138", after := #[{ on := 11, ground := Go.Ground.data }, { on := 12, ground := Go.Ground.chain }, { on := 0, ground := Go.Ground.phase }, { on := 1, ground := Go.Ground.phase }, { on := 2, ground := Go.Ground.phase }, { on := 3, ground := Go.Ground.phase }, { on := 4, ground := Go.Ground.phase }, { on := 5, ground := Go.Ground.phase }, { on := 6, ground := Go.Ground.phase }, { on := 7, ground := Go.Ground.phase }, { on := 8, ground := Go.Ground.phase }, { on := 9, ground := Go.Ground.phase }, { on := 10, ground := Go.Ground.phase }, { on := 11, ground := Go.Ground.phase }, { on := 12, ground := Go.Ground.phase }], guard := none }) rfl fun K hK => toa_13 E hI hf (hed ⟨0, Go.Ground.phase⟩ (Array.mem_of_getElem? (i := 2) rfl) rfl) (hed ⟨1, Go.Ground.phase⟩ (Array.mem_of_getElem? (i := 3) rfl) rfl) (hed ⟨2, Go.Ground.phase⟩ (Array.mem_of_getElem? (i := 4) rfl) rfl) (hed ⟨3, Go.Ground.phase⟩ (Array.mem_of_getElem? (i := 5) rfl) rfl) (hed ⟨4, Go.Ground.phase⟩ (Array.mem_of_getElem? (i := 6) rfl) rfl) (hed ⟨5, Go.Ground.phase⟩ (Array.mem_of_getElem? (i := 7) rfl) rfl) (hed ⟨6, Go.Ground.phase⟩ (Array.mem_of_getElem? (i := 8) rfl) rfl) (hed ⟨7, Go.Ground.phase⟩ (Array.mem_of_getElem? (i := 9) rfl) rfl) (hed ⟨8, Go.Ground.phase⟩ (Array.mem_of_getElem? (i := 10) rfl) rfl) (hed ⟨9, Go.Ground.phase⟩ (Array.mem_of_getElem? (i := 11) rfl) rfl) (hed ⟨10, Go.Ground.phase⟩ (Array.mem_of_getElem? (i := 12) rfl) rfl) (hed ⟨11, Go.Ground.data⟩ (Array.mem_of_getElem? (i := 0) rfl) rfl) (hed ⟨12, Go.Ground.chain⟩ (Array.mem_of_getElem? (i := 1) rfl) rfl) "outright.go:138" (fun a' W' h => hK a' W' h)

/-- THE REGION -/
theorem toa_region {g X id : Nat} {s d : ByteArray} {n : Int} {r1 r2 : Int} {Pre Post : World → Prop} {tm : Array Value} {Q : Exit → Act → World → Prop} {w : World} (hsz : tm.size = 140) (E : toaEnv g X id s d n r1 r2 Pre Post tm) (hT : Pre w.drew)
    (hend : ∀ W, Post W → Q .normal ⟨((((((((((((((tm.setIfInBounds 55 (.pointer (some ⟨g, 0, none⟩))).setIfInBounds 56 (.pointer (some ⟨X, 0, none⟩))).setIfInBounds 57 (.int .u64 (id : Int))).setIfInBounds 58 (.pointer (some ⟨X, 1, none⟩))).setIfInBounds 59 (.string s)).setIfInBounds 60 (.pointer (some ⟨X, 2, none⟩))).setIfInBounds 61 (.int .i64 n)).setIfInBounds 62 (.string d)).setIfInBounds 63 (.tuple #[.int .i64 r1, .int .i64 r2])).setIfInBounds 54 (.tuple #[.int .i64 r1, .int .i64 r2])).setIfInBounds 64 (.int .i64 r1)).setIfInBounds 65 (.int .i64 r2)).setIfInBounds 11 (.int .i64 r1)).setIfInBounds 12 (.int .i64 r2)), []⟩ W) : (Code.region 6 toaOps true).wp Tryd.prog Q ⟨tm, []⟩ w := by
  refine wp_region_inv (by kernel_rfl) (by kernel_rfl) ((toaTb g X id s d n r1 r2 Pre Post tm).Inv (fun f W => if f 8 = true then Post W else Pre W)) ⟨hsz, rfl, fun s _ => rfl, fun i d _ hf => (by cases hf), hT⟩ (toa_step E) ?_
  intro f a W hall hI
  have ha := hI.fin hall hsz toa_nodup rfl
  rw [ha]
  exact hend W (by have := hI.held; rwa [if_pos (hall 8 (by decide))] at this)
end Go.Proofs.YtcbeikiglccgaaaDoor

/- TapefmtOther: region 18: a blob is written. Written by gen_rf.py. -/
namespace Go.Proofs.YtcbeikiglccgaaaDoor
open Go.RowKit
open Sm
set_option linter.unusedVariables false
set_option linter.unusedSimpArgs false

def tobTb (g X id : Nat) (s d : ByteArray) (n : Int) (r1 r2 : Int) (Pre Post : World → Prop) (base : Array Value) : Tf where
  slots := [100, 101, 102, 103, 104, 105, 106, 107, 108, 99, 109, 110, 19, 20]
  size := 140
  base := base
  val := fun
    | 0 => .pointer (some ⟨g, 0, none⟩)
    | 1 => .pointer (some ⟨X, 0, none⟩)
    | 2 => .int .u64 (id : Int)
    | 3 => .pointer (some ⟨X, 1, none⟩)
    | 4 => .string s
    | 5 => .pointer (some ⟨X, 2, none⟩)
    | 6 => .int .i64 n
    | 7 => .string d
    | 8 => .tuple #[.int .i64 r1, .int .i64 r2]
    | 9 => .tuple #[.int .i64 r1, .int .i64 r2]
    | 10 => .int .i64 r1
    | 11 => .int .i64 r2
    | 12 => .int .i64 r1
    | 13 => .int .i64 r2
    | _ => undef

structure tobEnv (g X id : Nat) (s d : ByteArray) (n : Int) (r1 r2 : Int) (Pre Post : World → Prop) (base : Array Value) : Prop where
  b10 : base[10]?.getD undef = .pointer (some ⟨g, 0, none⟩)
  b7 : base[7]?.getD undef = .pointer (some ⟨X, 0, none⟩)
  c : ∀ W, Pre W ∨ Post W → W.cell? ⟨X, 0, none⟩ = some (.int .u64 (id : Int)) ∧ W.cell? ⟨X, 1, none⟩ = some (.string s) ∧ W.cell? ⟨X, 2, none⟩ = some (.int .i64 n)
  lo : ∀ W, Calls Tryd.prog 15 #[.string s, .int .i64 n] W fun e w' => e = .returned (.string d) ∧ W = w'
  wr : ∀ W, Pre W → Calls Tryd.prog 14 #[.pointer (some ⟨g, 0, none⟩), .int .u64 (id : Int), .string d] W fun e w' => e = .returned (.tuple #[.int .i64 r1, .int .i64 r2]) ∧ Post w'

theorem tob_nodup : [100, 101, 102, 103, 104, 105, 106, 107, 108, 99, 109, 110, 19, 20].Nodup := by decide
set_option maxRecDepth 100000 in
theorem tob_0 {g X id : Nat} {s d : ByteArray} {n : Int} {r1 r2 : Int} {Pre Post : World → Prop} {base : Array Value} {f : Nat → Bool} {a : Act} {W : World} {K : Act → World → Prop} {Q : Exit → Act → World → Prop} {ops : Array Oper} (E : tobEnv g X id s d n r1 r2 Pre Post base) (hI : (tobTb g X id s d n r1 r2 Pre Post base).Inv (fun f W => if f 8 = true then Post W else Pre W) f a W) (hf : f 0 = false) (pos : String) (hK : ∀ a' W', (tobTb g X id s d n r1 r2 Pre Post base).Inv (fun f W => if f 8 = true then Post W else Pre W) (hit f 0) a' W' → K a' W') : if Region.wanted { dst := some 100, op := Go.Op.move (Go.Operand.tmp 10), type := 23, pos := pos, after := #[], guard := none } (yielded ops a.tmps) = true then Oper.wp Tryd.prog { dst := some 100, op := Go.Op.move (Go.Operand.tmp 10), type := 23, pos := pos, after := #[], guard := none } a W K Q else K (a.put (some 100) undef) W := by
  have q : a.tmps[10]?.getD undef = .pointer (some ⟨g, 0, none⟩) := (hI.base 10 rfl).trans E.b10
  have R := Lib.hid (hI.step (i := 0) (d := 100) (v := .pointer (some ⟨g, 0, none⟩)) rfl tob_nodup (show 100 < 140 by decide) rfl (show (if hit f 0 8 = true then Post W else Pre W) by rw [hit_of f 0 8 (by decide)]; exact hI.held))
  clear hI E hf
  go_simp
  exact hK _ _ R.out

set_option maxRecDepth 100000 in
theorem tob_1 {g X id : Nat} {s d : ByteArray} {n : Int} {r1 r2 : Int} {Pre Post : World → Prop} {base : Array Value} {f : Nat → Bool} {a : Act} {W : World} {K : Act → World → Prop} {Q : Exit → Act → World → Prop} {ops : Array Oper} (E : tobEnv g X id s d n r1 r2 Pre Post base) (hI : (tobTb g X id s d n r1 r2 Pre Post base).Inv (fun f W => if f 8 = true then Post W else Pre W) f a W) (hf : f 1 = false) (pos : String) (hK : ∀ a' W', (tobTb g X id s d n r1 r2 Pre Post base).Inv (fun f W => if f 8 = true then Post W else Pre W) (hit f 1) a' W' → K a' W') : if Region.wanted { dst := some 101, op := Go.Op.fieldAddr 33 (Go.Operand.tmp 7) 0, type := 0, pos := pos, after := #[], guard := none } (yielded ops a.tmps) = true then Oper.wp Tryd.prog { dst := some 101, op := Go.Op.fieldAddr 33 (Go.Operand.tmp 7) 0, type := 0, pos := pos, after := #[], guard := none } a W K Q else K (a.put (some 101) undef) W := by
  have q : a.tmps[7]?.getD undef = .pointer (some ⟨X, 0, none⟩) := (hI.base 7 rfl).trans E.b7
  have R := Lib.hid (hI.step (i := 1) (d := 101) (v := .pointer (some ⟨X, 0, none⟩)) rfl tob_nodup (show 101 < 140 by decide) rfl (show (if hit f 1 8 = true then Post W else Pre W) by rw [hit_of f 1 8 (by decide)]; exact hI.held))
  clear hI E hf
  go_simp
  exact hK _ _ R.out

set_option maxRecDepth 100000 in
theorem tob_2 {g X id : Nat} {s d : ByteArray} {n : Int} {r1 r2 : Int} {Pre Post : World → Prop} {base : Array Value} {f : Nat → Bool} {a : Act} {W : World} {K : Act → World → Prop} {Q : Exit → Act → World → Prop} {ops : Array Oper} (E : tobEnv g X id s d n r1 r2 Pre Post base) (hI : (tobTb g X id s d n r1 r2 Pre Post base).Inv (fun f W => if f 8 = true then Post W else Pre W) f a W) (hf : f 2 = false) (h1 : f 1 = true) (pos : String) (hK : ∀ a' W', (tobTb g X id s d n r1 r2 Pre Post base).Inv (fun f W => if f 8 = true then Post W else Pre W) (hit f 2) a' W' → K a' W') : if Region.wanted { dst := some 102, op := Go.Op.load 31 (Go.Operand.tmp 101), type := 31, pos := pos, after := #[{ on := 1, ground := Go.Ground.data }], guard := none } (yielded ops a.tmps) = true then Oper.wp Tryd.prog { dst := some 102, op := Go.Op.load 31 (Go.Operand.tmp 101), type := 31, pos := pos, after := #[{ on := 1, ground := Go.Ground.data }], guard := none } a W K Q else K (a.put (some 102) undef) W := by
  have q : a.tmps[101]?.getD undef = .pointer (some ⟨X, 0, none⟩) := hI.val 1 101 rfl h1
  have c : W.cell? ⟨X, 0, none⟩ = some (.int .u64 (id : Int)) := (E.c W (by have h : (if f 8 = true then Post W else Pre W) := hI.held; by_cases h8 : f 8 = true; (rw [if_pos h8] at h; exact .inr h); (rw [if_neg h8] at h; exact .inl h))).1
  have R := Lib.hid (hI.step (i := 2) (d := 102) (v := .int .u64 (id : Int)) rfl tob_nodup (show 102 < 140 by decide) rfl (show (if hit f 2 8 = true then Post W else Pre W) by rw [hit_of f 2 8 (by decide)]; exact hI.held))
  clear hI E hf
  go_simp
  exact hK _ _ R.out

set_option maxRecDepth 100000 in
theorem tob_3 {g X id : Nat} {s d : ByteArray} {n : Int} {r1 r2 : Int} {Pre Post : World → Prop} {base : Array Value} {f : Nat → Bool} {a : Act} {W : World} {K : Act → World → Prop} {Q : Exit → Act → World → Prop} {ops : Array Oper} (E : tobEnv g X id s d n r1 r2 Pre Post base) (hI : (tobTb g X id s d n r1 r2 Pre Post base).Inv (fun f W => if f 8 = true then Post W else Pre W) f a W) (hf : f 3 = false) (pos : String) (hK : ∀ a' W', (tobTb g X id s d n r1 r2 Pre Post base).Inv (fun f W => if f 8 = true then Post W else Pre W) (hit f 3) a' W' → K a' W') : if Region.wanted { dst := some 103, op := Go.Op.fieldAddr 33 (Go.Operand.tmp 7) 1, type := 0, pos := pos, after := #[], guard := none } (yielded ops a.tmps) = true then Oper.wp Tryd.prog { dst := some 103, op := Go.Op.fieldAddr 33 (Go.Operand.tmp 7) 1, type := 0, pos := pos, after := #[], guard := none } a W K Q else K (a.put (some 103) undef) W := by
  have q : a.tmps[7]?.getD undef = .pointer (some ⟨X, 0, none⟩) := (hI.base 7 rfl).trans E.b7
  have R := Lib.hid (hI.step (i := 3) (d := 103) (v := .pointer (some ⟨X, 1, none⟩)) rfl tob_nodup (show 103 < 140 by decide) rfl (show (if hit f 3 8 = true then Post W else Pre W) by rw [hit_of f 3 8 (by decide)]; exact hI.held))
  clear hI E hf
  go_simp
  exact hK _ _ R.out

set_option maxRecDepth 100000 in
theorem tob_4 {g X id : Nat} {s d : ByteArray} {n : Int} {r1 r2 : Int} {Pre Post : World → Prop} {base : Array Value} {f : Nat → Bool} {a : Act} {W : World} {K : Act → World → Prop} {Q : Exit → Act → World → Prop} {ops : Array Oper} (E : tobEnv g X id s d n r1 r2 Pre Post base) (hI : (tobTb g X id s d n r1 r2 Pre Post base).Inv (fun f W => if f 8 = true then Post W else Pre W) f a W) (hf : f 4 = false) (h3 : f 3 = true) (pos : String) (hK : ∀ a' W', (tobTb g X id s d n r1 r2 Pre Post base).Inv (fun f W => if f 8 = true then Post W else Pre W) (hit f 4) a' W' → K a' W') : if Region.wanted { dst := some 104, op := Go.Op.load 9 (Go.Operand.tmp 103), type := 9, pos := pos, after := #[{ on := 3, ground := Go.Ground.data }], guard := none } (yielded ops a.tmps) = true then Oper.wp Tryd.prog { dst := some 104, op := Go.Op.load 9 (Go.Operand.tmp 103), type := 9, pos := pos, after := #[{ on := 3, ground := Go.Ground.data }], guard := none } a W K Q else K (a.put (some 104) undef) W := by
  have q : a.tmps[103]?.getD undef = .pointer (some ⟨X, 1, none⟩) := hI.val 3 103 rfl h3
  have c : W.cell? ⟨X, 1, none⟩ = some (.string s) := (E.c W (by have h : (if f 8 = true then Post W else Pre W) := hI.held; by_cases h8 : f 8 = true; (rw [if_pos h8] at h; exact .inr h); (rw [if_neg h8] at h; exact .inl h))).2.1
  have R := Lib.hid (hI.step (i := 4) (d := 104) (v := .string s) rfl tob_nodup (show 104 < 140 by decide) rfl (show (if hit f 4 8 = true then Post W else Pre W) by rw [hit_of f 4 8 (by decide)]; exact hI.held))
  clear hI E hf
  go_simp
  exact hK _ _ R.out

set_option maxRecDepth 100000 in
theorem tob_5 {g X id : Nat} {s d : ByteArray} {n : Int} {r1 r2 : Int} {Pre Post : World → Prop} {base : Array Value} {f : Nat → Bool} {a : Act} {W : World} {K : Act → World → Prop} {Q : Exit → Act → World → Prop} {ops : Array Oper} (E : tobEnv g X id s d n r1 r2 Pre Post base) (hI : (tobTb g X id s d n r1 r2 Pre Post base).Inv (fun f W => if f 8 = true then Post W else Pre W) f a W) (hf : f 5 = false) (pos : String) (hK : ∀ a' W', (tobTb g X id s d n r1 r2 Pre Post base).Inv (fun f W => if f 8 = true then Post W else Pre W) (hit f 5) a' W' → K a' W') : if Region.wanted { dst := some 105, op := Go.Op.fieldAddr 33 (Go.Operand.tmp 7) 2, type := 0, pos := pos, after := #[], guard := none } (yielded ops a.tmps) = true then Oper.wp Tryd.prog { dst := some 105, op := Go.Op.fieldAddr 33 (Go.Operand.tmp 7) 2, type := 0, pos := pos, after := #[], guard := none } a W K Q else K (a.put (some 105) undef) W := by
  have q : a.tmps[7]?.getD undef = .pointer (some ⟨X, 0, none⟩) := (hI.base 7 rfl).trans E.b7
  have R := Lib.hid (hI.step (i := 5) (d := 105) (v := .pointer (some ⟨X, 2, none⟩)) rfl tob_nodup (show 105 < 140 by decide) rfl (show (if hit f 5 8 = true then Post W else Pre W) by rw [hit_of f 5 8 (by decide)]; exact hI.held))
  clear hI E hf
  go_simp
  exact hK _ _ R.out

set_option maxRecDepth 100000 in
theorem tob_6 {g X id : Nat} {s d : ByteArray} {n : Int} {r1 r2 : Int} {Pre Post : World → Prop} {base : Array Value} {f : Nat → Bool} {a : Act} {W : World} {K : Act → World → Prop} {Q : Exit → Act → World → Prop} {ops : Array Oper} (E : tobEnv g X id s d n r1 r2 Pre Post base) (hI : (tobTb g X id s d n r1 r2 Pre Post base).Inv (fun f W => if f 8 = true then Post W else Pre W) f a W) (hf : f 6 = false) (h5 : f 5 = true) (pos : String) (hK : ∀ a' W', (tobTb g X id s d n r1 r2 Pre Post base).Inv (fun f W => if f 8 = true then Post W else Pre W) (hit f 6) a' W' → K a' W') : if Region.wanted { dst := some 106, op := Go.Op.load 3 (Go.Operand.tmp 105), type := 3, pos := pos, after := #[{ on := 5, ground := Go.Ground.data }], guard := none } (yielded ops a.tmps) = true then Oper.wp Tryd.prog { dst := some 106, op := Go.Op.load 3 (Go.Operand.tmp 105), type := 3, pos := pos, after := #[{ on := 5, ground := Go.Ground.data }], guard := none } a W K Q else K (a.put (some 106) undef) W := by
  have q : a.tmps[105]?.getD undef = .pointer (some ⟨X, 2, none⟩) := hI.val 5 105 rfl h5
  have c : W.cell? ⟨X, 2, none⟩ = some (.int .i64 n) := (E.c W (by have h : (if f 8 = true then Post W else Pre W) := hI.held; by_cases h8 : f 8 = true; (rw [if_pos h8] at h; exact .inr h); (rw [if_neg h8] at h; exact .inl h))).2.2
  have R := Lib.hid (hI.step (i := 6) (d := 106) (v := .int .i64 n) rfl tob_nodup (show 106 < 140 by decide) rfl (show (if hit f 6 8 = true then Post W else Pre W) by rw [hit_of f 6 8 (by decide)]; exact hI.held))
  clear hI E hf
  go_simp
  exact hK _ _ R.out

set_option maxRecDepth 100000 in
theorem tob_7 {g X id : Nat} {s d : ByteArray} {n : Int} {r1 r2 : Int} {Pre Post : World → Prop} {base : Array Value} {f : Nat → Bool} {a : Act} {W : World} {K : Act → World → Prop} {Q : Exit → Act → World → Prop} {ops : Array Oper} (E : tobEnv g X id s d n r1 r2 Pre Post base) (hI : (tobTb g X id s d n r1 r2 Pre Post base).Inv (fun f W => if f 8 = true then Post W else Pre W) f a W) (hf : f 7 = false) (h4 : f 4 = true) (h6 : f 6 = true) (pos : String) (hK : ∀ a' W', (tobTb g X id s d n r1 r2 Pre Post base).Inv (fun f W => if f 8 = true then Post W else Pre W) (hit f 7) a' W' → K a' W') : if Region.wanted { dst := some 107, op := Go.Op.call { callee := Go.Callee.value (Go.Operand.func 15), args := #[Go.Operand.tmp 104, Go.Operand.tmp 106], argTypes := #[9, 3] }, type := 9, pos := pos, after := #[{ on := 4, ground := Go.Ground.data }, { on := 6, ground := Go.Ground.data }], guard := none } (yielded ops a.tmps) = true then Oper.wp Tryd.prog { dst := some 107, op := Go.Op.call { callee := Go.Callee.value (Go.Operand.func 15), args := #[Go.Operand.tmp 104, Go.Operand.tmp 106], argTypes := #[9, 3] }, type := 9, pos := pos, after := #[{ on := 4, ground := Go.Ground.data }, { on := 6, ground := Go.Ground.data }], guard := none } a W K Q else K (a.put (some 107) undef) W := by
  have y0 : a.tmps[104]?.getD undef = .string s := hI.val 4 104 rfl h4
  have y1 : a.tmps[106]?.getD undef = .int .i64 n := hI.val 6 106 rfl h6
  have hC := E.lo W
  have HR := Lib.hid (hI.step (i := 7) (d := 107) (v := .string d) rfl tob_nodup (show 107 < 140 by decide) rfl (show (if hit f 7 8 = true then Post W else Pre W) by rw [hit_of f 7 8 (by decide)]; exact hI.held))
  clear hI E hf
  go_simp
  refine hC.mono ?_
  rintro e W1 ⟨rfl, rfl⟩
  exact hK _ _ HR.out

set_option maxRecDepth 100000 in
theorem tob_8 {g X id : Nat} {s d : ByteArray} {n : Int} {r1 r2 : Int} {Pre Post : World → Prop} {base : Array Value} {f : Nat → Bool} {a : Act} {W : World} {K : Act → World → Prop} {Q : Exit → Act → World → Prop} {ops : Array Oper} (E : tobEnv g X id s d n r1 r2 Pre Post base) (hI : (tobTb g X id s d n r1 r2 Pre Post base).Inv (fun f W => if f 8 = true then Post W else Pre W) f a W) (hf : f 8 = false) (h0 : f 0 = true) (h2 : f 2 = true) (h7 : f 7 = true) (pos : String) (hK : ∀ a' W', (tobTb g X id s d n r1 r2 Pre Post base).Inv (fun f W => if f 8 = true then Post W else Pre W) (hit f 8) a' W' → K a' W') : if Region.wanted { dst := some 108, op := Go.Op.call { callee := Go.Callee.value (Go.Operand.func 14), args := #[Go.Operand.tmp 100, Go.Operand.tmp 102, Go.Operand.tmp 107], argTypes := #[23, 31, 9] }, type := 29, pos := pos, after := #[{ on := 0, ground := Go.Ground.data }, { on := 2, ground := Go.Ground.data }, { on := 7, ground := Go.Ground.data }, { on := 7, ground := Go.Ground.chain }], guard := none } (yielded ops a.tmps) = true then Oper.wp Tryd.prog { dst := some 108, op := Go.Op.call { callee := Go.Callee.value (Go.Operand.func 14), args := #[Go.Operand.tmp 100, Go.Operand.tmp 102, Go.Operand.tmp 107], argTypes := #[23, 31, 9] }, type := 29, pos := pos, after := #[{ on := 0, ground := Go.Ground.data }, { on := 2, ground := Go.Ground.data }, { on := 7, ground := Go.Ground.data }, { on := 7, ground := Go.Ground.chain }], guard := none } a W K Q else K (a.put (some 108) undef) W := by
  have y0 : a.tmps[100]?.getD undef = .pointer (some ⟨g, 0, none⟩) := hI.val 0 100 rfl h0
  have y1 : a.tmps[102]?.getD undef = .int .u64 (id : Int) := hI.val 2 102 rfl h2
  have y2 : a.tmps[107]?.getD undef = .string d := hI.val 7 107 rfl h7
  have hp : Pre W := by have := hI.held; simp only [hf] at this; simpa using this
  have hC := E.wr W hp
  have HR := Lib.hid (fun W1 (hb : Post W1) => hI.step (i := 8) (d := 108) (v := .tuple #[.int .i64 r1, .int .i64 r2]) rfl tob_nodup (show 108 < 140 by decide) rfl (show (if hit f 8 8 = true then Post W1 else Pre W1) by rw [hit_at, if_pos rfl]; exact hb))
  clear hI E hf hp
  go_simp
  refine hC.mono ?_
  rintro e W1 ⟨rfl, hb⟩
  exact hK _ _ (HR.out W1 hb)

set_option maxRecDepth 100000 in
theorem tob_9 {g X id : Nat} {s d : ByteArray} {n : Int} {r1 r2 : Int} {Pre Post : World → Prop} {base : Array Value} {f : Nat → Bool} {a : Act} {W : World} {K : Act → World → Prop} {Q : Exit → Act → World → Prop} {ops : Array Oper} (E : tobEnv g X id s d n r1 r2 Pre Post base) (hI : (tobTb g X id s d n r1 r2 Pre Post base).Inv (fun f W => if f 8 = true then Post W else Pre W) f a W) (hf : f 9 = false) (h8 : f 8 = true) (pos : String) (hK : ∀ a' W', (tobTb g X id s d n r1 r2 Pre Post base).Inv (fun f W => if f 8 = true then Post W else Pre W) (hit f 9) a' W' → K a' W') : if Region.wanted { dst := some 99, op := Go.Op.move (Go.Operand.tmp 108), type := 29, pos := pos, after := #[{ on := 8, ground := Go.Ground.data }], guard := none } (yielded ops a.tmps) = true then Oper.wp Tryd.prog { dst := some 99, op := Go.Op.move (Go.Operand.tmp 108), type := 29, pos := pos, after := #[{ on := 8, ground := Go.Ground.data }], guard := none } a W K Q else K (a.put (some 99) undef) W := by
  have q : a.tmps[108]?.getD undef = .tuple #[.int .i64 r1, .int .i64 r2] := hI.val 8 108 rfl h8
  have R := Lib.hid (hI.step (i := 9) (d := 99) (v := .tuple #[.int .i64 r1, .int .i64 r2]) rfl tob_nodup (show 99 < 140 by decide) rfl (show (if hit f 9 8 = true then Post W else Pre W) by rw [hit_of f 9 8 (by decide)]; exact hI.held))
  clear hI E hf
  go_simp
  exact hK _ _ R.out

set_option maxRecDepth 100000 in
theorem tob_10 {g X id : Nat} {s d : ByteArray} {n : Int} {r1 r2 : Int} {Pre Post : World → Prop} {base : Array Value} {f : Nat → Bool} {a : Act} {W : World} {K : Act → World → Prop} {Q : Exit → Act → World → Prop} {ops : Array Oper} (E : tobEnv g X id s d n r1 r2 Pre Post base) (hI : (tobTb g X id s d n r1 r2 Pre Post base).Inv (fun f W => if f 8 = true then Post W else Pre W) f a W) (hf : f 10 = false) (h9 : f 9 = true) (pos : String) (hK : ∀ a' W', (tobTb g X id s d n r1 r2 Pre Post base).Inv (fun f W => if f 8 = true then Post W else Pre W) (hit f 10) a' W' → K a' W') : if Region.wanted { dst := some 109, op := Go.Op.extract (Go.Operand.tmp 99) 0, type := 3, pos := pos, after := #[{ on := 9, ground := Go.Ground.data }], guard := none } (yielded ops a.tmps) = true then Oper.wp Tryd.prog { dst := some 109, op := Go.Op.extract (Go.Operand.tmp 99) 0, type := 3, pos := pos, after := #[{ on := 9, ground := Go.Ground.data }], guard := none } a W K Q else K (a.put (some 109) undef) W := by
  have q : a.tmps[99]?.getD undef = .tuple #[.int .i64 r1, .int .i64 r2] := hI.val 9 99 rfl h9
  have R := Lib.hid (hI.step (i := 10) (d := 109) (v := .int .i64 r1) rfl tob_nodup (show 109 < 140 by decide) rfl (show (if hit f 10 8 = true then Post W else Pre W) by rw [hit_of f 10 8 (by decide)]; exact hI.held))
  clear hI E hf
  go_simp
  exact hK _ _ R.out

set_option maxRecDepth 100000 in
theorem tob_11 {g X id : Nat} {s d : ByteArray} {n : Int} {r1 r2 : Int} {Pre Post : World → Prop} {base : Array Value} {f : Nat → Bool} {a : Act} {W : World} {K : Act → World → Prop} {Q : Exit → Act → World → Prop} {ops : Array Oper} (E : tobEnv g X id s d n r1 r2 Pre Post base) (hI : (tobTb g X id s d n r1 r2 Pre Post base).Inv (fun f W => if f 8 = true then Post W else Pre W) f a W) (hf : f 11 = false) (h9 : f 9 = true) (pos : String) (hK : ∀ a' W', (tobTb g X id s d n r1 r2 Pre Post base).Inv (fun f W => if f 8 = true then Post W else Pre W) (hit f 11) a' W' → K a' W') : if Region.wanted { dst := some 110, op := Go.Op.extract (Go.Operand.tmp 99) 1, type := 26, pos := pos, after := #[{ on := 9, ground := Go.Ground.data }, { on := 12, ground := Go.Ground.gcOnly Go.Departure.lateStores }], guard := none } (yielded ops a.tmps) = true then Oper.wp Tryd.prog { dst := some 110, op := Go.Op.extract (Go.Operand.tmp 99) 1, type := 26, pos := pos, after := #[{ on := 9, ground := Go.Ground.data }, { on := 12, ground := Go.Ground.gcOnly Go.Departure.lateStores }], guard := none } a W K Q else K (a.put (some 110) undef) W := by
  have q : a.tmps[99]?.getD undef = .tuple #[.int .i64 r1, .int .i64 r2] := hI.val 9 99 rfl h9
  have R := Lib.hid (hI.step (i := 11) (d := 110) (v := .int .i64 r2) rfl tob_nodup (show 110 < 140 by decide) rfl (show (if hit f 11 8 = true then Post W else Pre W) by rw [hit_of f 11 8 (by decide)]; exact hI.held))
  clear hI E hf
  go_simp
  exact hK _ _ R.out

set_option maxRecDepth 100000 in
theorem tob_12 {g X id : Nat} {s d : ByteArray} {n : Int} {r1 r2 : Int} {Pre Post : World → Prop} {base : Array Value} {f : Nat → Bool} {a : Act} {W : World} {K : Act → World → Prop} {Q : Exit → Act → World → Prop} {ops : Array Oper} (E : tobEnv g X id s d n r1 r2 Pre Post base) (hI : (tobTb g X id s d n r1 r2 Pre Post base).Inv (fun f W => if f 8 = true then Post W else Pre W) f a W) (hf : f 12 = false) (h0 : f 0 = true) (h1 : f 1 = true) (h2 : f 2 = true) (h3 : f 3 = true) (h4 : f 4 = true) (h5 : f 5 = true) (h6 : f 6 = true) (h7 : f 7 = true) (h8 : f 8 = true) (h9 : f 9 = true) (h10 : f 10 = true) (pos : String) (hK : ∀ a' W', (tobTb g X id s d n r1 r2 Pre Post base).Inv (fun f W => if f 8 = true then Post W else Pre W) (hit f 12) a' W' → K a' W') : if Region.wanted { dst := some 19, op := Go.Op.assign (Go.Operand.tmp 109), type := 3, pos := pos, after := #[{ on := 10, ground := Go.Ground.data }, { on := 8, ground := Go.Ground.chain }, { on := 0, ground := Go.Ground.phase }, { on := 1, ground := Go.Ground.phase }, { on := 2, ground := Go.Ground.phase }, { on := 3, ground := Go.Ground.phase }, { on := 4, ground := Go.Ground.phase }, { on := 5, ground := Go.Ground.phase }, { on := 6, ground := Go.Ground.phase }, { on := 7, ground := Go.Ground.phase }, { on := 8, ground := Go.Ground.phase }, { on := 9, ground := Go.Ground.phase }, { on := 10, ground := Go.Ground.phase }, { on := 11, ground := Go.Ground.textOnly Go.Departure.lateStores }], guard := none } (yielded ops a.tmps) = true then Oper.wp Tryd.prog { dst := some 19, op := Go.Op.assign (Go.Operand.tmp 109), type := 3, pos := pos, after := #[{ on := 10, ground := Go.Ground.data }, { on := 8, ground := Go.Ground.chain }, { on := 0, ground := Go.Ground.phase }, { on := 1, ground := Go.Ground.phase }, { on := 2, ground := Go.Ground.phase }, { on := 3, ground := Go.Ground.phase }, { on := 4, ground := Go.Ground.phase }, { on := 5, ground := Go.Ground.phase }, { on := 6, ground := Go.Ground.phase }, { on := 7, ground := Go.Ground.phase }, { on := 8, ground := Go.Ground.phase }, { on := 9, ground := Go.Ground.phase }, { on := 10, ground := Go.Ground.phase }, { on := 11, ground := Go.Ground.textOnly Go.Departure.lateStores }], guard := none } a W K Q else K (a.put (some 19) undef) W := by
  have q : a.tmps[109]?.getD undef = .int .i64 r1 := hI.val 10 109 rfl h10
  have R := Lib.hid (hI.step (i := 12) (d := 19) (v := .int .i64 r1) rfl tob_nodup (show 19 < 140 by decide) rfl (show (if hit f 12 8 = true then Post W else Pre W) by rw [hit_of f 12 8 (by decide)]; exact hI.held))
  clear hI E hf
  go_simp
  exact hK _ _ R.out

set_option maxRecDepth 100000 in
theorem tob_13 {g X id : Nat} {s d : ByteArray} {n : Int} {r1 r2 : Int} {Pre Post : World → Prop} {base : Array Value} {f : Nat → Bool} {a : Act} {W : World} {K : Act → World → Prop} {Q : Exit → Act → World → Prop} {ops : Array Oper} (E : tobEnv g X id s d n r1 r2 Pre Post base) (hI : (tobTb g X id s d n r1 r2 Pre Post base).Inv (fun f W => if f 8 = true then Post W else Pre W) f a W) (hf : f 13 = false) (h0 : f 0 = true) (h1 : f 1 = true) (h2 : f 2 = true) (h3 : f 3 = true) (h4 : f 4 = true) (h5 : f 5 = true) (h6 : f 6 = true) (h7 : f 7 = true) (h8 : f 8 = true) (h9 : f 9 = true) (h10 : f 10 = true) (h11 : f 11 = true) (h12 : f 12 = true) (pos : String) (hK : ∀ a' W', (tobTb g X id s d n r1 r2 Pre Post base).Inv (fun f W => if f 8 = true then Post W else Pre W) (hit f 13) a' W' → K a' W') : if Region.wanted { dst := some 20, op := Go.Op.assign (Go.Operand.tmp 110), type := 26, pos := pos, after := #[{ on := 11, ground := Go.Ground.data }, { on := 12, ground := Go.Ground.chain }, { on := 0, ground := Go.Ground.phase }, { on := 1, ground := Go.Ground.phase }, { on := 2, ground := Go.Ground.phase }, { on := 3, ground := Go.Ground.phase }, { on := 4, ground := Go.Ground.phase }, { on := 5, ground := Go.Ground.phase }, { on := 6, ground := Go.Ground.phase }, { on := 7, ground := Go.Ground.phase }, { on := 8, ground := Go.Ground.phase }, { on := 9, ground := Go.Ground.phase }, { on := 10, ground := Go.Ground.phase }, { on := 11, ground := Go.Ground.phase }, { on := 12, ground := Go.Ground.phase }], guard := none } (yielded ops a.tmps) = true then Oper.wp Tryd.prog { dst := some 20, op := Go.Op.assign (Go.Operand.tmp 110), type := 26, pos := pos, after := #[{ on := 11, ground := Go.Ground.data }, { on := 12, ground := Go.Ground.chain }, { on := 0, ground := Go.Ground.phase }, { on := 1, ground := Go.Ground.phase }, { on := 2, ground := Go.Ground.phase }, { on := 3, ground := Go.Ground.phase }, { on := 4, ground := Go.Ground.phase }, { on := 5, ground := Go.Ground.phase }, { on := 6, ground := Go.Ground.phase }, { on := 7, ground := Go.Ground.phase }, { on := 8, ground := Go.Ground.phase }, { on := 9, ground := Go.Ground.phase }, { on := 10, ground := Go.Ground.phase }, { on := 11, ground := Go.Ground.phase }, { on := 12, ground := Go.Ground.phase }], guard := none } a W K Q else K (a.put (some 20) undef) W := by
  have q : a.tmps[110]?.getD undef = .int .i64 r2 := hI.val 11 110 rfl h11
  have R := Lib.hid (hI.step (i := 13) (d := 20) (v := .int .i64 r2) rfl tob_nodup (show 20 < 140 by decide) rfl (show (if hit f 13 8 = true then Post W else Pre W) by rw [hit_of f 13 8 (by decide)]; exact hI.held))
  clear hI E hf
  go_simp
  exact hK _ _ R.out

abbrev tobOps : Array Oper := #[{ dst := some 100, op := Go.Op.move (Go.Operand.tmp 10), type := 23, pos := "outright.go:151", after := #[], guard := none }, { dst := some 101, op := Go.Op.fieldAddr 33 (Go.Operand.tmp 7) 0, type := 0, pos := "outright.go:151", after := #[], guard := none }, { dst := some 102, op := Go.Op.load 31 (Go.Operand.tmp 101), type := 31, pos := "outright.go:151", after := #[{ on := 1, ground := Go.Ground.data }], guard := none }, { dst := some 103, op := Go.Op.fieldAddr 33 (Go.Operand.tmp 7) 1, type := 0, pos := "outright.go:151", after := #[], guard := none }, { dst := some 104, op := Go.Op.load 9 (Go.Operand.tmp 103), type := 9, pos := "outright.go:151", after := #[{ on := 3, ground := Go.Ground.data }], guard := none }, { dst := some 105, op := Go.Op.fieldAddr 33 (Go.Operand.tmp 7) 2, type := 0, pos := "outright.go:151", after := #[], guard := none }, { dst := some 106, op := Go.Op.load 3 (Go.Operand.tmp 105), type := 3, pos := "outright.go:151", after := #[{ on := 5, ground := Go.Ground.data }], guard := none }, { dst := some 107, op := Go.Op.call { callee := Go.Callee.value (Go.Operand.func 15), args := #[Go.Operand.tmp 104, Go.Operand.tmp 106], argTypes := #[9, 3] }, type := 9, pos := "outright.go:151", after := #[{ on := 4, ground := Go.Ground.data }, { on := 6, ground := Go.Ground.data }], guard := none }, { dst := some 108, op := Go.Op.call { callee := Go.Callee.value (Go.Operand.func 14), args := #[Go.Operand.tmp 100, Go.Operand.tmp 102, Go.Operand.tmp 107], argTypes := #[23, 31, 9] }, type := 29, pos := "outright.go:151", after := #[{ on := 0, ground := Go.Ground.data }, { on := 2, ground := Go.Ground.data }, { on := 7, ground := Go.Ground.data }, { on := 7, ground := Go.Ground.chain }], guard := none }, { dst := some 99, op := Go.Op.move (Go.Operand.tmp 108), type := 29, pos := "outright.go:151", after := #[{ on := 8, ground := Go.Ground.data }], guard := none }, { dst := some 109, op := Go.Op.extract (Go.Operand.tmp 99) 0, type := 3, pos := "outright.go:151", after := #[{ on := 9, ground := Go.Ground.data }], guard := none }, { dst := some 110, op := Go.Op.extract (Go.Operand.tmp 99) 1, type := 26, pos := "outright.go:151", after := #[{ on := 9, ground := Go.Ground.data }, { on := 12, ground := Go.Ground.gcOnly Go.Departure.lateStores }], guard := none }, { dst := some 19, op := Go.Op.assign (Go.Operand.tmp 109), type := 3, pos := "outright.go:151", after := #[{ on := 10, ground := Go.Ground.data }, { on := 8, ground := Go.Ground.chain }, { on := 0, ground := Go.Ground.phase }, { on := 1, ground := Go.Ground.phase }, { on := 2, ground := Go.Ground.phase }, { on := 3, ground := Go.Ground.phase }, { on := 4, ground := Go.Ground.phase }, { on := 5, ground := Go.Ground.phase }, { on := 6, ground := Go.Ground.phase }, { on := 7, ground := Go.Ground.phase }, { on := 8, ground := Go.Ground.phase }, { on := 9, ground := Go.Ground.phase }, { on := 10, ground := Go.Ground.phase }, { on := 11, ground := Go.Ground.textOnly Go.Departure.lateStores }], guard := none }, { dst := some 20, op := Go.Op.assign (Go.Operand.tmp 110), type := 26, pos := "outright.go:151", after := #[{ on := 11, ground := Go.Ground.data }, { on := 12, ground := Go.Ground.chain }, { on := 0, ground := Go.Ground.phase }, { on := 1, ground := Go.Ground.phase }, { on := 2, ground := Go.Ground.phase }, { on := 3, ground := Go.Ground.phase }, { on := 4, ground := Go.Ground.phase }, { on := 5, ground := Go.Ground.phase }, { on := 6, ground := Go.Ground.phase }, { on := 7, ground := Go.Ground.phase }, { on := 8, ground := Go.Ground.phase }, { on := 9, ground := Go.Ground.phase }, { on := 10, ground := Go.Ground.phase }, { on := 11, ground := Go.Ground.phase }, { on := 12, ground := Go.Ground.phase }], guard := none }]
set_option maxRecDepth 100000 in
set_option maxHeartbeats 4000000 in
theorem tob_step {g X id : Nat} {s d : ByteArray} {n : Int} {r1 r2 : Int} {Pre Post : World → Prop} {base : Array Value} {Q : Exit → Act → World → Prop} (E : tobEnv g X id s d n r1 r2 Pre Post base) :
    ∀ f a W i o, tobOps[i]? = some o → f i = false → (∀ e ∈ o.after, Region.binds .any e = true → f e.on = true) → (tobTb g X id s d n r1 r2 Pre Post base).Inv (fun f W => if f 8 = true then Post W else Pre W) f a W → wpOp Tryd.prog tobOps Q i (fun a' W' => (tobTb g X id s d n r1 r2 Pre Post base).Inv (fun f W => if f 8 = true then Post W else Pre W) (hit f i) a' W') a W := by
  intro f a W i o ho hf hed hI
  have hi : i < 14 := (Array.getElem?_eq_some_iff.1 ho).1
  have hc : i = 0 ∨ i = 1 ∨ i = 2 ∨ i = 3 ∨ i = 4 ∨ i = 5 ∨ i = 6 ∨ i = 7 ∨ i = 8 ∨ i = 9 ∨ i = 10 ∨ i = 11 ∨ i = 12 ∨ i = 13 := by omega
  rcases hc with rfl | rfl | rfl | rfl | rfl | rfl | rfl | rfl | rfl | rfl | rfl | rfl | rfl | rfl
  · cases ho
    exact wpOp_step (o := { dst := some 100, op := Go.Op.move (Go.Operand.tmp 10), type := 23, pos := "outright.go:151", after := #[], guard := none }) rfl fun K hK => tob_0 E hI hf "outright.go:151" (fun a' W' h => hK a' W' h)
  · cases ho
    exact wpOp_step (o := { dst := some 101, op := Go.Op.fieldAddr 33 (Go.Operand.tmp 7) 0, type := 0, pos := "outright.go:151", after := #[], guard := none }) rfl fun K hK => tob_1 E hI hf "outright.go:151" (fun a' W' h => hK a' W' h)
  · cases ho
    exact wpOp_step (o := { dst := some 102, op := Go.Op.load 31 (Go.Operand.tmp 101), type := 31, pos := "outright.go:151", after := #[{ on := 1, ground := Go.Ground.data }], guard := none }) rfl fun K hK => tob_2 E hI hf (hed ⟨1, Go.Ground.data⟩ (Array.mem_of_getElem? (i := 0) rfl) rfl) "outright.go:151" (fun a' W' h => hK a' W' h)
  · cases ho
    exact wpOp_step (o := { dst := some 103, op := Go.Op.fieldAddr 33 (Go.Operand.tmp 7) 1, type := 0, pos := "outright.go:151", after := #[], guard := none }) rfl fun K hK => tob_3 E hI hf "outright.go:151" (fun a' W' h => hK a' W' h)
  · cases ho
    exact wpOp_step (o := { dst := some 104, op := Go.Op.load 9 (Go.Operand.tmp 103), type := 9, pos := "outright.go:151", after := #[{ on := 3, ground := Go.Ground.data }], guard := none }) rfl fun K hK => tob_4 E hI hf (hed ⟨3, Go.Ground.data⟩ (Array.mem_of_getElem? (i := 0) rfl) rfl) "outright.go:151" (fun a' W' h => hK a' W' h)
  · cases ho
    exact wpOp_step (o := { dst := some 105, op := Go.Op.fieldAddr 33 (Go.Operand.tmp 7) 2, type := 0, pos := "outright.go:151", after := #[], guard := none }) rfl fun K hK => tob_5 E hI hf "outright.go:151" (fun a' W' h => hK a' W' h)
  · cases ho
    exact wpOp_step (o := { dst := some 106, op := Go.Op.load 3 (Go.Operand.tmp 105), type := 3, pos := "outright.go:151", after := #[{ on := 5, ground := Go.Ground.data }], guard := none }) rfl fun K hK => tob_6 E hI hf (hed ⟨5, Go.Ground.data⟩ (Array.mem_of_getElem? (i := 0) rfl) rfl) "outright.go:151" (fun a' W' h => hK a' W' h)
  · cases ho
    exact wpOp_step (o := { dst := some 107, op := Go.Op.call { callee := Go.Callee.value (Go.Operand.func 15), args := #[Go.Operand.tmp 104, Go.Operand.tmp 106], argTypes := #[9, 3] }, type := 9, pos := "outright.go:151", after := #[{ on := 4, ground := Go.Ground.data }, { on := 6, ground := Go.Ground.data }], guard := none }) rfl fun K hK => tob_7 E hI hf (hed ⟨4, Go.Ground.data⟩ (Array.mem_of_getElem? (i := 0) rfl) rfl) (hed ⟨6, Go.Ground.data⟩ (Array.mem_of_getElem? (i := 1) rfl) rfl) "outright.go:151" (fun a' W' h => hK a' W' h)
  · cases ho
    exact wpOp_step (o := { dst := some 108, op := Go.Op.call { callee := Go.Callee.value (Go.Operand.func 14), args := #[Go.Operand.tmp 100, Go.Operand.tmp 102, Go.Operand.tmp 107], argTypes := #[23, 31, 9] }, type := 29, pos := "outright.go:151", after := #[{ on := 0, ground := Go.Ground.data }, { on := 2, ground := Go.Ground.data }, { on := 7, ground := Go.Ground.data }, { on := 7, ground := Go.Ground.chain }], guard := none }) rfl fun K hK => tob_8 E hI hf (hed ⟨0, Go.Ground.data⟩ (Array.mem_of_getElem? (i := 0) rfl) rfl) (hed ⟨2, Go.Ground.data⟩ (Array.mem_of_getElem? (i := 1) rfl) rfl) (hed ⟨7, Go.Ground.data⟩ (Array.mem_of_getElem? (i := 2) rfl) rfl) "outright.go:151" (fun a' W' h => hK a' W' h)
  · cases ho
    exact wpOp_step (o := { dst := some 99, op := Go.Op.move (Go.Operand.tmp 108), type := 29, pos := "outright.go:151", after := #[{ on := 8, ground := Go.Ground.data }], guard := none }) rfl fun K hK => tob_9 E hI hf (hed ⟨8, Go.Ground.data⟩ (Array.mem_of_getElem? (i := 0) rfl) rfl) "outright.go:151" (fun a' W' h => hK a' W' h)
  · cases ho
    exact wpOp_step (o := { dst := some 109, op := Go.Op.extract (Go.Operand.tmp 99) 0, type := 3, pos := "outright.go:151", after := #[{ on := 9, ground := Go.Ground.data }], guard := none }) rfl fun K hK => tob_10 E hI hf (hed ⟨9, Go.Ground.data⟩ (Array.mem_of_getElem? (i := 0) rfl) rfl) "outright.go:151" (fun a' W' h => hK a' W' h)
  · cases ho
    exact wpOp_step (o := { dst := some 110, op := Go.Op.extract (Go.Operand.tmp 99) 1, type := 26, pos := "outright.go:151", after := #[{ on := 9, ground := Go.Ground.data }, { on := 12, ground := Go.Ground.gcOnly Go.Departure.lateStores }], guard := none }) rfl fun K hK => tob_11 E hI hf (hed ⟨9, Go.Ground.data⟩ (Array.mem_of_getElem? (i := 0) rfl) rfl) "outright.go:151" (fun a' W' h => hK a' W' h)
  · cases ho
    exact wpOp_step (o := { dst := some 19, op := Go.Op.assign (Go.Operand.tmp 109), type := 3, pos := "outright.go:151", after := #[{ on := 10, ground := Go.Ground.data }, { on := 8, ground := Go.Ground.chain }, { on := 0, ground := Go.Ground.phase }, { on := 1, ground := Go.Ground.phase }, { on := 2, ground := Go.Ground.phase }, { on := 3, ground := Go.Ground.phase }, { on := 4, ground := Go.Ground.phase }, { on := 5, ground := Go.Ground.phase }, { on := 6, ground := Go.Ground.phase }, { on := 7, ground := Go.Ground.phase }, { on := 8, ground := Go.Ground.phase }, { on := 9, ground := Go.Ground.phase }, { on := 10, ground := Go.Ground.phase }, { on := 11, ground := Go.Ground.textOnly Go.Departure.lateStores }], guard := none }) rfl fun K hK => tob_12 E hI hf (hed ⟨0, Go.Ground.phase⟩ (Array.mem_of_getElem? (i := 2) rfl) rfl) (hed ⟨1, Go.Ground.phase⟩ (Array.mem_of_getElem? (i := 3) rfl) rfl) (hed ⟨2, Go.Ground.phase⟩ (Array.mem_of_getElem? (i := 4) rfl) rfl) (hed ⟨3, Go.Ground.phase⟩ (Array.mem_of_getElem? (i := 5) rfl) rfl) (hed ⟨4, Go.Ground.phase⟩ (Array.mem_of_getElem? (i := 6) rfl) rfl) (hed ⟨5, Go.Ground.phase⟩ (Array.mem_of_getElem? (i := 7) rfl) rfl) (hed ⟨6, Go.Ground.phase⟩ (Array.mem_of_getElem? (i := 8) rfl) rfl) (hed ⟨7, Go.Ground.phase⟩ (Array.mem_of_getElem? (i := 9) rfl) rfl) (hed ⟨8, Go.Ground.chain⟩ (Array.mem_of_getElem? (i := 1) rfl) rfl) (hed ⟨9, Go.Ground.phase⟩ (Array.mem_of_getElem? (i := 11) rfl) rfl) (hed ⟨10, Go.Ground.data⟩ (Array.mem_of_getElem? (i := 0) rfl) rfl) "outright.go:151" (fun a' W' h => hK a' W' h)
  · cases ho
    exact wpOp_step (o := { dst := some 20, op := Go.Op.assign (Go.Operand.tmp 110), type := 26, pos := "outright.go:151", after := #[{ on := 11, ground := Go.Ground.data }, { on := 12, ground := Go.Ground.chain }, { on := 0, ground := Go.Ground.phase }, { on := 1, ground := Go.Ground.phase }, { on := 2, ground := Go.Ground.phase }, { on := 3, ground := Go.Ground.phase }, { on := 4, ground := Go.Ground.phase }, { on := 5, ground := Go.Ground.phase }, { on := 6, ground := Go.Ground.phase }, { on := 7, ground := Go.Ground.phase }, { on := 8, ground := Go.Ground.phase }, { on := 9, ground := Go.Ground.phase }, { on := 10, ground := Go.Ground.phase }, { on := 11, ground := Go.Ground.phase }, { on := 12, ground := Go.Ground.phase }], guard := none }) rfl fun K hK => tob_13 E hI hf (hed ⟨0, Go.Ground.phase⟩ (Array.mem_of_getElem? (i := 2) rfl) rfl) (hed ⟨1, Go.Ground.phase⟩ (Array.mem_of_getElem? (i := 3) rfl) rfl) (hed ⟨2, Go.Ground.phase⟩ (Array.mem_of_getElem? (i := 4) rfl) rfl) (hed ⟨3, Go.Ground.phase⟩ (Array.mem_of_getElem? (i := 5) rfl) rfl) (hed ⟨4, Go.Ground.phase⟩ (Array.mem_of_getElem? (i := 6) rfl) rfl) (hed ⟨5, Go.Ground.phase⟩ (Array.mem_of_getElem? (i := 7) rfl) rfl) (hed ⟨6, Go.Ground.phase⟩ (Array.mem_of_getElem? (i := 8) rfl) rfl) (hed ⟨7, Go.Ground.phase⟩ (Array.mem_of_getElem? (i := 9) rfl) rfl) (hed ⟨8, Go.Ground.phase⟩ (Array.mem_of_getElem? (i := 10) rfl) rfl) (hed ⟨9, Go.Ground.phase⟩ (Array.mem_of_getElem? (i := 11) rfl) rfl) (hed ⟨10, Go.Ground.phase⟩ (Array.mem_of_getElem? (i := 12) rfl) rfl) (hed ⟨11, Go.Ground.data⟩ (Array.mem_of_getElem? (i := 0) rfl) rfl) (hed ⟨12, Go.Ground.chain⟩ (Array.mem_of_getElem? (i := 1) rfl) rfl) "outright.go:151" (fun a' W' h => hK a' W' h)

/-- THE REGION -/
theorem tob_region {g X id : Nat} {s d : ByteArray} {n : Int} {r1 r2 : Int} {Pre Post : World → Prop} {tm : Array Value} {Q : Exit → Act → World → Prop} {w : World} (hsz : tm.size = 140) (E : tobEnv g X id s d n r1 r2 Pre Post tm) (hT : Pre w.drew)
    (hend : ∀ W, Post W → Q .normal ⟨((((((((((((((tm.setIfInBounds 100 (.pointer (some ⟨g, 0, none⟩))).setIfInBounds 101 (.pointer (some ⟨X, 0, none⟩))).setIfInBounds 102 (.int .u64 (id : Int))).setIfInBounds 103 (.pointer (some ⟨X, 1, none⟩))).setIfInBounds 104 (.string s)).setIfInBounds 105 (.pointer (some ⟨X, 2, none⟩))).setIfInBounds 106 (.int .i64 n)).setIfInBounds 107 (.string d)).setIfInBounds 108 (.tuple #[.int .i64 r1, .int .i64 r2])).setIfInBounds 99 (.tuple #[.int .i64 r1, .int .i64 r2])).setIfInBounds 109 (.int .i64 r1)).setIfInBounds 110 (.int .i64 r2)).setIfInBounds 19 (.int .i64 r1)).setIfInBounds 20 (.int .i64 r2)), []⟩ W) : (Code.region 18 tobOps true).wp Tryd.prog Q ⟨tm, []⟩ w := by
  refine wp_region_inv (by kernel_rfl) (by kernel_rfl) ((tobTb g X id s d n r1 r2 Pre Post tm).Inv (fun f W => if f 8 = true then Post W else Pre W)) ⟨hsz, rfl, fun s _ => rfl, fun i d _ hf => (by cases hf), hT⟩ (tob_step E) ?_
  intro f a W hall hI
  have ha := hI.fin hall hsz tob_nodup rfl
  rw [ha]
  exact hend W (by have := hI.held; rwa [if_pos (hall 8 (by decide))] at this)
end Go.Proofs.YtcbeikiglccgaaaDoor

/- glacierlaw07.TapefmtOther: its walk. Written by gen_tou.py. -/
namespace Go.Proofs.YtcbeikiglccgaaaDoor
open Go.RowKit
open Sm
set_option linter.unusedVariables false
set_option linter.unusedSimpArgs false

structure OT (w2 : World) (C g h : Nat) (s t : VS) (W : World) : Prop where
  below : Below C w2 W
  two : Two W C g h s t
section
variable {w2 W W' : World} {C g h : Nat} {s s' t t' : VS}
theorem OT.left (o : OT w2 C g h s t W) (hv : Vol W' C g s') (hst : Stay C g W W') : OT w2 C g h s' t W' := ⟨o.below.trans hst.below, o.two.left hv hst⟩
theorem OT.right (o : OT w2 C g h s t W) (hv : Vol W' C h t') (hst : Stay C h W W') : OT w2 C g h s t' W' := ⟨o.below.trans hst.below, o.two.right hv hst⟩
theorem OT.drew (o : OT w2 C g h s t W) : OT w2 C g h s t W.drew := by
  have hb : Below W.heap.size W W.drew := Below.drew (Below.refl _ W)
  exact ⟨o.below.trans (hb.mono o.two.a.bz), o.two.below hb⟩
end
theorem u64_mod (n : Nat) (h : n < 18446744073709551616) : IntKind.u64.wrap (n : Int) = (n : Int) := by
  rw [IntKind.wrap_u64] <;> omega
/-- what the second volume holds behind k blocks of the first one -/
structure Got2 (b : ByteArray) (bl : List Blk) (k : Nat) (t : VS) : Prop where
  fresh : t.Fresh 100000
  lab : t.lab = b
  l : t.l = bl.take k

set_option maxRecDepth 100000 in
set_option maxHeartbeats 8000000 in
theorem walk_other (a b : ByteArray) (id : Nat) (hid : id < 18446744073709551616) (s : ByteArray) (n : Int) (id2 : Nat) (hid2 : id2 < 18446744073709551616) (s2 : ByteArray) (n2 : Int) (w : World) (hS : Steps w) :
    Calls Tryd.prog 7 #[.string a, .string b, .agg (blobCells id s n), .agg (blobCells id2 s2 n2)] w fun e w' => e = .returned (.bool true) ∧ Below w.heap.size w w' := by
  have hS0 := hS.1
  obtain ⟨wx, hwx⟩ : ∃ wx, w.alloc (.cells (blobCells id s n) 33) = wx := ⟨_, rfl⟩
  have hA0 : At wx w.heap.size 33 (blobCells id s n) := by rw [← hwx]; exact heap_alloc_new w _
  have hb0 : Below w.heap.size w wx := by rw [← hwx]; exact (Below.refl _ w).alloc (Nat.le_refl _) _
  obtain ⟨wy, hwy⟩ : ∃ wy, wx.alloc (.cells (blobCells id2 s2 n2) 33) = wy := ⟨_, rfl⟩
  have hA1 : At wy wx.heap.size 33 (blobCells id2 s2 n2) := by rw [← hwy]; exact heap_alloc_new wx _
  have hb1 : Below wx.heap.size wx wy := by rw [← hwy]; exact (Below.refl _ wx).alloc (Nat.le_refl _) _
  have hlt0 := hA0.lt
  have hA0 := hA0.below hb1 hlt0
  have hlt1 := hA1.lt
  have hbw : Below w.heap.size w wy := hb0.trans (hb1.mono (by omega))
  clear hb1
  obtain ⟨B, hB⟩ : ∃ B, w.heap.size = B := ⟨_, rfl⟩
  rw [hB] at hA0 hb0 hbw hlt0 hS0
  have hS1 := hS.below hbw hS0
  have hAw := awake_any wy hS1
  have HX : Hid (wx.heap.size = B + 1) := Lib.hid (by rw [← hwx]; simp [hB])
  go_enter Tryd.func7, Tryd.ntmps7
  go_upto_region 1 with fail
  generalize wx.heap.size = Y at *
  clear hwx hwy
  go_wp2_with fail
  refine hAw.mono ?_
  rintro e w2 ⟨rfl, hb2⟩
  have HB2 := Lib.hid (hbw.trans (hb2.mono (by omega)))
  have hA2 := hA0.below hb2 (by omega)
  have hY2 := hA1.below hb2 (by omega)
  have hS2 := hS1.below hb2 (by omega)
  clear hAw hA0 hA1 hb0 hbw hS1 hb2
  have hAw := awake_any w2 hS2
  have HC : Hid (B ≤ w2.heap.size) := Lib.hid (by have := hA2.lt; omega)
  by_cases ha : 32 < a.size
  · have e1 : decide ((32 : Int) < (a.size : Int)) = true := by simp; omega
    go_upto_region 2 with fail
    go_wp2_with fail
    refine hAw.mono ?_
    rintro e w3 ⟨rfl, hb3⟩
    have HB3 := Lib.hid (HB2.out.trans (hb3.mono (by have := HC.out; omega)))
    go_wp2
    go_ret
    exact ⟨rfl, by rw [hB]; exact HB3.out⟩
  · have e1 : decide ((32 : Int) < (a.size : Int)) = false := by simp; omega
    by_cases hb : 32 < b.size
    · have e2 : decide ((32 : Int) < (b.size : Int)) = true := by simp; omega
      go_upto_region 2 with fail
      go_wp2_with fail
      refine hAw.mono ?_
      rintro e w3 ⟨rfl, hb3⟩
      have HB3 := Lib.hid (HB2.out.trans (hb3.mono (by have := HC.out; omega)))
      go_wp2
      go_ret
      exact ⟨rfl, by rw [hB]; exact HB3.out⟩
    · have e2 : decide ((32 : Int) < (b.size : Int)) = false := by simp; omega
      by_cases hab : a = b
      · have e3 : (a.toList == b.toList) = true := by rw [hab]; simp
        go_upto_region 2 with fail
        go_wp2_with fail
        refine hAw.mono ?_
        rintro e w3 ⟨rfl, hb3⟩
        have HB3 := Lib.hid (HB2.out.trans (hb3.mono (by have := HC.out; omega)))
        go_wp2
        go_ret
        exact ⟨rfl, by rw [hB]; exact HB3.out⟩
      · have e3 : (a.toList == b.toList) = false := by
          rw [beq_eq_false_iff_ne]
          intro e
          exact hab (ByteArray.ext (by rw [ByteArray.toList_eq, ByteArray.toList_eq] at e; exact Array.toList_inj.1 e))
        have hN := new_vol 100000 100000 (by omega) rfl w2
        have hXl := hA2.lt
        have hYl := hY2.lt
        obtain ⟨C, hC⟩ : ∃ C, w2.heap.size = C := ⟨_, rfl⟩
        have HCC := Lib.hid hC
        have HCELL : Hid (∀ W, Below C w2 W → At W B 33 (blobCells id s n) ∧ At W Y 33 (blobCells id2 s2 n2)) := Lib.hid fun W h => ⟨hA2.below h (by omega), hY2.below h (by omega)⟩
        have HST : Hid (∀ W, Below C w2 W → Steps W) := Lib.hid fun W h => hS2.below h (by omega)
        have hC0 : 0 < C := by omega
        rw [hC] at hN hXl hYl
        clear hAw hA2 hY2 hS2 hC
        go_upto_region 3 with fail
        go_wp2_with fail
        refine hN.mono ?_
        rintro e w3 ⟨g, rfl, hv3, hb3⟩
        have hN2 := new_vol 100000 100000 (by omega) rfl w3
        clear hN
        go_wp2_with fail
        refine hN2.mono ?_
        rintro e w4 ⟨h, rfl, hv4, hb4⟩
        have ho : OT w2 C g h (VS.new 100000) (VS.new 100000) w4 := ⟨hb3.trans (hb4.mono (by have := hb3.size; have := HCC.out; omega)), Two.made hv3 (hv3.volAt.elim fun _ h => h.lt) hv4 hb4⟩
        have hE := erase_vol ho.two.a a (by omega) (by decide)
        rw [erase_new] at hE
        have HO := Lib.hid ho
        clear hN2 hv3 hv4 hb3 hb4 ho
        go_upto_region 4 with fail
        go_wp2_with fail
        refine hE.mono ?_
        rintro e w5 ⟨rfl, h5, st5⟩
        have ho := HO.out.left h5 st5
        have hE2 := erase_vol ho.two.b b (by omega) (by decide)
        rw [erase_new] at hE2
        have HO5 := Lib.hid ho
        clear hE h5 st5 ho HO
        go_wp2_with fail
        refine hE2.mono ?_
        rintro e w6 ⟨rfl, h6, st6⟩
        have ho := HO5.out.right h6 st6
        have hga := VS.Good.lb 100000 a
        have hgb := VS.Good.lb 100000 b
        have hfb : Got2 b [] 0 { VS.new 100000 with lab := b, er := 1 } := ⟨⟨hgb.calm, rfl, rfl, rfl⟩, rfl, rfl⟩
        have hsa : ({ VS.new 100000 with lab := a, er := 1 } : VS).l = [] := rfl
        have hsb : ({ VS.new 100000 with lab := b, er := 1 } : VS).l = [] := rfl
        simp only at ho
        generalize ({ VS.new 100000 with lab := a, er := 1 } : VS) = sa at *
        generalize ({ VS.new 100000 with lab := b, er := 1 } : VS) = sb at *
        clear hE2 h6 st6 HO5
        -- the first blob
        have hLo := fun W => long_any s n W
        have hls := longOf_size s n
        obtain ⟨d, hd⟩ : ∃ d, longOf s n = d := ⟨_, rfl⟩
        rw [hd] at hLo hls
        have hdl : d.data.toList.length = d.size := by simp
        have hwt : weightOf d.size ≤ 90000 := by unfold weightOf; have := partsOf_le (show d.size ≤ 4000 by omega); omega
        have hWr : ∀ W, OT w2 C g h sa sb W → Calls Tryd.prog 14 #[.pointer (some ⟨g, 0, none⟩), .int .u64 (id : Int), .string d] W fun e w' => e = .returned (.tuple #[.int .i64 ((0 : Nat) : Int), .int .i64 0]) ∧ OT w2 C g h (sa.wrote id d.data.toList) sb w' := fun W o => by
          have := write_good o.two.a hga (HST.out W o.below) hC0 (by omega) (by rw [hsa]; simp) id hid d (by omega) (by rw [hsa]; show ((0 : Nat) : Int) + _ ≤ _; omega)
          rw [hsa] at this
          exact this.mono fun e w' ⟨x, y, z⟩ => ⟨x, o.left y z⟩
        have hl1 : (sa.wrote id d.data.toList).l = blobBlks a 0 id d.data.toList ++ [markBlk] := by unfold VS.wrote; rw [hsa, hga.lab]; rfl
        have hn1 := VS.wrote_len sa id d.data.toList
        rw [hsa, hdl] at hn1
        simp only [List.length_nil, Nat.zero_add] at hn1
        have hg1 := hga.wrote id d.data.toList
        have hbs := blob_sum (lab := a) (first := 0) (by omega) (by omega) hid (show d.data.toList.length ≤ 4000 by omega)
        rw [hdl] at hbs
        have hbl := blobBlks_len a 0 id d.data.toList
        rw [hdl] at hbl
        have h20 := partsOf_le (show d.size ≤ 4000 by omega)
        have hp1 := partsOf_pos d.size
        obtain ⟨bl, hblq⟩ : ∃ bl, blobBlks a 0 id d.data.toList = bl := ⟨_, rfl⟩
        have HBLQ := Lib.hid hblq
        rw [hblq] at hbs hbl hl1
        generalize hs1 : sa.wrote id d.data.toList = s1 at *
        obtain ⟨P, hP⟩ : ∃ P, partsOf d.size = P := ⟨_, rfl⟩
        have HP := Lib.hid hP
        rw [hP] at hn1 hbl h20 hp1
        have HWR := Lib.hid hWr
        have HLO := Lib.hid hLo
        have HO6 := Lib.hid ho
        have HL1 := Lib.hid hl1
        have HD := Lib.hid hd
        have HHD := Lib.hid hdl
        have HBS := Lib.hid hbs
        have HGB := Lib.hid hfb
        have HSB := Lib.hid hsb
        have HGG := Lib.hid hgb
        clear hWr hLo ho hl1 hd hdl hP hblq hs1 hga hsa hbs hgb hfb hsb
        go_upto_region 6 with fail
        refine toa_region rfl ⟨rfl, rfl, fun W hW => ?_, HLO.out, HWR.out⟩ HO6.out.drew ?_
        · have hc := (HCELL.out W (by rcases hW with hW | hW <;> exact hW.below)).1
          exact ⟨hc.cell 0, hc.cell 1, hc.cell 2⟩
        intro w7 ho7
        simp only [List.setIfInBounds_toArray, List.set_cons_zero, List.set_cons_succ]
        have hK := seek_vol ho7.two.a 0
        have hsk : s1.seek 0 = ({ s1 with pos := 0 }, 0) := by rw [hg1.calm.seek, if_neg (by omega)]; rfl
        rw [hsk] at hK
        have HO7 := Lib.hid ho7
        clear HLO HWR HO6 ho7 hsk
        go_upto_region 9 with fail
        go_wp2_with fail
        refine hK.mono ?_
        rintro e w8 ⟨rfl, h8, st8⟩
        have HO8 := Lib.hid (HO7.out.left h8 st8)
        clear hK HO7 h8 st8
        have G8 : Hid (∃ t, OT w2 C g h { s1 with pos := 0 } t w8 ∧ Got2 b bl 0 t) := Lib.hid ⟨sb, HO8.out, ⟨HGB.out.fresh, HGB.out.lab, by rw [HSB.out]; rfl⟩⟩
        clear HO8 HGB HSB HGG
        have HNX : Hid (∀ k, k < P → ({ s1 with pos := k } : VS).read = ({ s1 with pos := k + 1 }, (bl[k]?).getD .no, 0) ∧ ∃ tx : ByteArray, (bl[k]?) = some ⟨tx, false, false⟩ ∧ tx.size ≤ 1000 ∧ bl.take (k + 1) = bl.take k ++ [⟨tx, false, false⟩]) := Lib.hid fun k hk => by
          have hkl : k < bl.length := by omega
          have hpd : k < partsOf d.data.toList.length := by rw [HHD.out, HP.out]; exact hk
          obtain ⟨h1, h2⟩ := blob_get (lab := a) (first := 0) (id := id) hpd
          have e1 : bl[k]? = some (pieceBlk (pieceOf a 0 id d.data.toList k)) := by rw [← HBLQ.out, List.getElem?_eq_getElem h1, h2]
          have hw := piece_wt (lab := a) (first := 0) (id := id) (by omega) (by omega) hid (by rw [HHD.out]; omega) hpd
          have hcl := chunk_len d.data.toList k
          refine ⟨?_, (pieceBlk (pieceOf a 0 id d.data.toList k)).t, e1, ?_, ?_⟩
          · rw [(hg1.pos k).calm.read]
            show (match s1.l[k]? with | none => _ | some b => _) = _
            rw [HL1.out, List.getElem?_append_left hkl, e1]
            rfl
          · have : (pieceBlk (pieceOf a 0 id d.data.toList k)).wt = (pieceBlk (pieceOf a 0 id d.data.toList k)).t.size + 4 := rfl
            omega
          · rw [List.take_add_one, e1]
            rfl
        have HLEN : Hid (∀ W k t, OT w2 C g h { s1 with pos := k } t W → Calls Tryd.prog 17 #[.pointer (some ⟨g, 0, none⟩)] W fun e w' => e = .returned (.int .i64 (((P + 1 : Nat)) : Int)) ∧ W = w') := Lib.hid fun W k t o => by
          have := len_vol o.two.a
          rw [show (({ s1 with pos := k } : VS).l.length) = P + 1 from hn1] at this
          exact this
        have HSUM : Hid (∀ k, k ≤ P → wsum (bl.take k) + 1000 ≤ 90000 ∧ (bl.take k).length = k) := Lib.hid fun k hk => by
          have h1 := wsum_take_le bl k
          have h2 : weightOf d.size ≤ 4000 := by unfold weightOf; rw [HP.out]; omega
          have := HBS.out
          exact ⟨by omega, by rw [List.length_take]; omega⟩
        go_wp2
        go_loopw [13] (fun i wr => ∃ k : Nat, k ≤ P ∧ i = .int .i64 (k : Int) ∧ Hid (∃ t, OT w2 C g h { s1 with pos := k } t wr ∧ Got2 b bl k t))
          (fun i _ => P - (intOf i).toNat)
        case atStart => exact ⟨0, by omega, rfl, G8⟩
        case round =>
          clear G8
          obtain ⟨k, hk, rfl, HG⟩ := hrel
          obtain ⟨t, ho, hgt⟩ := HG.out
          have hLn := HLEN.out wr k t ho
          by_cases hlt : k < P
          · have q1 : decide ((k : Int) < (P : Int)) = true := by simpa using hlt
            obtain ⟨hrd, tx, he, htz, htk⟩ := HNX.out k hlt
            have hR := read_vol ho.two.a
            rw [hrd, he] at hR
            have hW := fun W (o : OT w2 C g h { s1 with pos := k + 1 } t W) => write_vol o.two.b tx (by omega) (by rw [hgt.l]; have := (HSUM.out k hk).2; omega)
            have hadd := hgt.fresh.add ⟨tx, false, false⟩
            have hwb : (⟨tx, false, false⟩ : Blk).wt = tx.size + 4 := rfl
            rw [if_neg (by rw [hgt.l, hwb]; have := (HSUM.out k hk).1; omega)] at hadd
            rw [hadd] at hW
            have hf2 := hgt.fresh.more ⟨tx, false, false⟩ rfl
            have hg2 : Got2 b bl (k + 1) { t with l := t.l ++ [⟨tx, false, false⟩], pos := t.pos + 1 } := ⟨hf2, hgt.lab, by show t.l ++ _ = _; rw [hgt.l, htk]⟩
            have HW := Lib.hid hW
            have HO := Lib.hid ho
            have HGT := Lib.hid hg2
            unfold ReadEnds at hR
            simp only [Option.getD_some] at hR
            clear HG ho hgt hrd he htk hW hadd hwb hf2 hg2
            go_wp2_with fail
            refine hLn.mono ?_
            rintro e w10 ⟨rfl, rfl⟩
            clear hLn
            go_wp2_with fail
            refine hR.mono ?_
            rintro e w11 ⟨rfl, h11, st11⟩
            have ho11 := HO.out.left h11 st11
            have hW11 := HW.out w11 ho11
            have HO11 := Lib.hid ho11
            clear hR h11 st11 ho11 HW HO
            go_wp2_with fail
            refine hW11.mono ?_
            rintro e w12 ⟨rfl, h12, st12⟩
            have HO12 := Lib.hid (HO11.out.right h12 st12)
            clear hW11 h12 st12 HO11
            go_wp2
            go_roundw
            case rel => exact ⟨k + 1, by omega, by go_num, Lib.hid ⟨_, HO12.out, HGT.out⟩⟩
            case measure => simp [intOf]; omega
          · have q1 : decide ((k : Int) < (P : Int)) = false := by simpa using hlt
            obtain rfl : k = P := by omega
            clear HG HNX HLEN
            have htl : t.l = bl := by rw [hgt.l]; exact List.take_of_length_le (by omega)
            have hgood : t.Good 100000 b := ⟨hgt.fresh.calm, hgt.fresh.rm, hgt.fresh.torn, hgt.lab⟩
            have hpd : 0 < partsOf d.data.toList.length := by rw [HHD.out, HP.out]; exact hp1
            have hrd0 : rdGo b 0 id (bl.drop 0) 0 [] = ([], 3) := by
              obtain ⟨h1, h2⟩ := blob_get (lab := a) (first := 0) (id := id) hpd
              rw [← HBLQ.out, List.drop_eq_getElem_cons h1, h2]
              exact rd_alien (first := 0) (by omega) (by omega) hid (by rw [HHD.out]; omega) hab hpd
            have hRd := rblob_any ho.two.b hgood.calm (HST.out wr ho.below) hC0 0 (by omega) id hid
            rw [hgood.lab, htl, hrd0] at hRd
            unfold ReadRet at hRd
            simp only at hRd
            have hLo := fun W => long_any s2 n2 W
            have hls2 := longOf_size s2 n2
            obtain ⟨d2, hd2⟩ : ∃ d2, longOf s2 n2 = d2 := ⟨_, rfl⟩
            rw [hd2] at hLo hls2
            have hdl2 : d2.data.toList.length = d2.size := by simp
            have hwt2 : weightOf d2.size ≤ 4000 := by unfold weightOf; have := partsOf_le (show d2.size ≤ 4000 by omega); omega
            have hsum2 := (HSUM.out k (Nat.le_refl _)).1
            rw [← hgt.l, htl] at hsum2
            have hWr : ∀ W, (∃ p, OT w2 C g h { s1 with pos := k } { t with pos := p } W) → Calls Tryd.prog 14 #[.pointer (some ⟨h, 0, none⟩), .int .u64 (id2 : Int), .string d2] W fun e w' => e = .returned (.tuple #[.int .i64 ((k : Nat) : Int), .int .i64 0]) ∧ OT w2 C g h { s1 with pos := k } (t.wrote id2 d2.data.toList) w' := fun W ⟨p, o⟩ => by
              have := write_good o.two.b (hgood.pos p) (HST.out W o.below) hC0 (by omega) (by show t.l.length ≤ _; rw [htl]; omega) id2 hid2 d2 (by omega) (by show (wsum t.l : Int) + _ ≤ _; rw [htl]; omega)
              rw [show ({ t with pos := p } : VS).l.length = k by show t.l.length = k; rw [htl]; exact hbl] at this
              exact this.mono fun e w' ⟨x, y, z⟩ => ⟨x, o.right y z⟩
            have hso := scan_other (a := a) (b := b) (id := id) (idy := id2) (dx := d.data.toList) (dy := d2.data.toList) (by omega) (by omega) hab hid hid2 (by rw [HHD.out]; omega) (by rw [hdl2]; omega)
            rw [HBLQ.out, HHD.out, HP.out] at hso
            have hSc : ∀ W, OT w2 C g h { s1 with pos := k } (t.wrote id2 d2.data.toList) W → Calls Tryd.prog 16 #[.pointer (some ⟨h, 0, none⟩)] W fun e w' => (∃ (kk cap m : Nat), e = .returned (.tuple #[.slice (some ⟨kk, 0, none⟩) 1 cap, .int .i64 (m : Int), .int .i64 0]) ∧ w'.cell? ⟨kk, 1, none⟩ = some (.int .i64 (k : Int)) ∧ 1 ≤ cap) ∧ Below C w2 w' := fun W o => by
              have hgw := hgood.wrote id2 d2.data.toList
              have := tscan_any o.two.b hgw.calm (HST.out W o.below) hC0
              rw [hgw.lab, show (t.wrote id2 d2.data.toList).l = bl ++ (blobBlks b k id2 d2.data.toList ++ [markBlk]) by unfold VS.wrote; rw [hgood.lab, htl, hbl], hso] at this
              refine this.mono ?_
              rintro e w' ⟨v, rfl, hrow, _, hst⟩
              refine ⟨?_, o.below.trans hst.below⟩
              rcases hrow.2 with ⟨_, h0⟩ | ⟨kk, cap, cur, rfl, _, _, hcap, _⟩
              · exact absurd (show (1 : Nat) = 0 from h0) (by decide)
              · refine ⟨kk, cap, _, rfl, ?_, hcap⟩
                have := hrow.cells (g := kk) rfl 1 (.int .i64 (k : Int)) rfl
                simpa [Addr.add] using this
            have HWR := Lib.hid hWr
            have HLO := Lib.hid hLo
            have HSC := Lib.hid hSc
            have HO := Lib.hid ho
            have HHB : Hid (∀ W, Below C w2 W → Below w.heap.size w W) := Lib.hid fun W hb => by rw [hB]; exact HB2.out.trans (hb.mono (by have := HC.out; have := HCC.out; omega))
            clear hWr hLo hSc hso hd2 hdl2 hwt2 hsum2 hrd0 hpd hgood htl hgt ho HBLQ HHD HP HL1 HD HBS HSUM
            go_wp2_with fail
            refine hLn.mono ?_
            rintro e w10 ⟨rfl, rfl⟩
            clear hLn
            go_upto_region 17 with fail
            have c0 := (HCELL.out wr HO.out.below).1.cell 0
            go_wp2_with fail
            refine hRd.mono ?_
            rintro e w11 ⟨rfl, ⟨p, h11⟩, st11⟩
            have ho11 := HO.out.right h11 st11
            clear hRd h11 st11 HO c0
            go_upto_region 18 with fail
            refine tob_region (Pre := fun W => ∃ p, OT w2 C g h { s1 with pos := k } { t with pos := p } W) (Post := fun W => OT w2 C g h { s1 with pos := k } (t.wrote id2 d2.data.toList) W) rfl ⟨rfl, rfl, fun W hW => ?_, HLO.out, HWR.out⟩ ⟨p, ho11.drew⟩ ?_
            · have hc := (HCELL.out W (by rcases hW with ⟨p, hW⟩ | hW <;> exact hW.below)).2
              exact ⟨hc.cell 0, hc.cell 1, hc.cell 2⟩
            intro w12 ho12
            simp only [List.setIfInBounds_toArray, List.set_cons_zero, List.set_cons_succ]
            have hS12 := HSC.out w12 ho12
            clear HWR HLO ho11 ho12 HSC
            go_upto_region 19 with fail
            go_wp2_with fail
            refine hS12.mono ?_
            rintro e w13 ⟨⟨kk, cap, m, rfl, hc13, hcap⟩, hb13⟩
            have HB13 := Lib.hid hb13
            clear hS12 hb13
            have q0 : ((k : Int) == (k : Int)) = true := by simp
            go_wp2
            go_ret
            exact ⟨rfl, HHB.out _ HB13.out⟩
end Go.Proofs.YtcbeikiglccgaaaDoor
