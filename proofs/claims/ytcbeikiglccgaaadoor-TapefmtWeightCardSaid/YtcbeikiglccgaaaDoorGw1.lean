/- Tr, Ta, Tl, Tk, Tkw: merged (a claim holds few files). -/
import Derived.Test.YtcbeikiglccgaaaDoorTx
import Derived.Test.YtcbeikiglccgaaaDoorCu
/- tapefmt.Read: its walk. Written by gen_tr.py. -/
namespace Go.Proofs.YtcbeikiglccgaaaDoor
open Go.RowKit
open Sm
set_option linter.unusedVariables false
set_option linter.unusedSimpArgs false
theorem list_ex32 {l : List Value} (h : l.length = 32) : ∃ z0 z1 z2 z3 z4 z5 z6 z7 z8 z9 z10 z11 z12 z13 z14 z15 z16 z17 z18 z19 z20 z21 z22 z23 z24 z25 z26 z27 z28 z29 z30 z31, l = [z0, z1, z2, z3, z4, z5, z6, z7, z8, z9, z10, z11, z12, z13, z14, z15, z16, z17, z18, z19, z20, z21, z22, z23, z24, z25, z26, z27, z28, z29, z30, z31] := by
  obtain ⟨z0, l0, rfl, h0⟩ := list_ex h
  obtain ⟨z1, l1, rfl, h1⟩ := list_ex h0
  obtain ⟨z2, l2, rfl, h2⟩ := list_ex h1
  obtain ⟨z3, l3, rfl, h3⟩ := list_ex h2
  obtain ⟨z4, l4, rfl, h4⟩ := list_ex h3
  obtain ⟨z5, l5, rfl, h5⟩ := list_ex h4
  obtain ⟨z6, l6, rfl, h6⟩ := list_ex h5
  obtain ⟨z7, l7, rfl, h7⟩ := list_ex h6
  obtain ⟨z8, l8, rfl, h8⟩ := list_ex h7
  obtain ⟨z9, l9, rfl, h9⟩ := list_ex h8
  obtain ⟨z10, l10, rfl, h10⟩ := list_ex h9
  obtain ⟨z11, l11, rfl, h11⟩ := list_ex h10
  obtain ⟨z12, l12, rfl, h12⟩ := list_ex h11
  obtain ⟨z13, l13, rfl, h13⟩ := list_ex h12
  obtain ⟨z14, l14, rfl, h14⟩ := list_ex h13
  obtain ⟨z15, l15, rfl, h15⟩ := list_ex h14
  obtain ⟨z16, l16, rfl, h16⟩ := list_ex h15
  obtain ⟨z17, l17, rfl, h17⟩ := list_ex h16
  obtain ⟨z18, l18, rfl, h18⟩ := list_ex h17
  obtain ⟨z19, l19, rfl, h19⟩ := list_ex h18
  obtain ⟨z20, l20, rfl, h20⟩ := list_ex h19
  obtain ⟨z21, l21, rfl, h21⟩ := list_ex h20
  obtain ⟨z22, l22, rfl, h22⟩ := list_ex h21
  obtain ⟨z23, l23, rfl, h23⟩ := list_ex h22
  obtain ⟨z24, l24, rfl, h24⟩ := list_ex h23
  obtain ⟨z25, l25, rfl, h25⟩ := list_ex h24
  obtain ⟨z26, l26, rfl, h26⟩ := list_ex h25
  obtain ⟨z27, l27, rfl, h27⟩ := list_ex h26
  obtain ⟨z28, l28, rfl, h28⟩ := list_ex h27
  obtain ⟨z29, l29, rfl, h29⟩ := list_ex h28
  obtain ⟨z30, l30, rfl, h30⟩ := list_ex h29
  obtain ⟨z31, l31, rfl, h31⟩ := list_ex h30
  cases l31 with
  | nil => exact ⟨z0, z1, z2, z3, z4, z5, z6, z7, z8, z9, z10, z11, z12, z13, z14, z15, z16, z17, z18, z19, z20, z21, z22, z23, z24, z25, z26, z27, z28, z29, z30, z31, rfl⟩
  | cons _ _ => cases h31

set_option maxRecDepth 100000 in
set_option maxHeartbeats 8000000 in
theorem rblob_any {w : World} {B g : Nat} {s : VS} (h : Vol w B g s) (hc : s.Calm) (hS : Steps w) (hB : 0 < B) (from_ : Nat) (hf : from_ ≤ s.l.length) (id : Nat) (hid : id < 18446744073709551616) :
    Calls Tryd.prog 18 #[.pointer (some ⟨g, 0, none⟩), .int .i64 (from_ : Int), .int .u64 (id : Int)] w (ReadRet w B g s (rdGo s.lab from_ id (s.l.drop from_) 0 [])) := by
  have hbz := h.bz
  have hw0 := hS.1
  have hK := seek_vol h from_
  have hsk : s.seek from_ = ({ s with pos := from_ }, 0) := by
    rw [hc.seek, if_neg (by omega), Int.toNat_natCast]
  rw [hsk] at hK
  have hlen := h.1.len
  have HC := Lib.hid hc
  have HS := Lib.hid hS
  have hlbz := h.1.lab
  have HP : Hid (∀ (lab : ByteArray) (k pos : Nat) (acc : List UInt8), pos ≤ s.l.length → _) := Lib.hid fun lab k pos acc hp => rd_next (s := { s with pos := pos }) ⟨hc.lo, hc.lf, hc.pr⟩ hp lab from_ id k acc
  clear h hc hsk hS
  obtain ⟨R, hR⟩ : ∃ R, rdGo s.lab from_ id (s.l.drop from_) 0 [] = R := ⟨_, rfl⟩
  rw [hR]
  have HR := Lib.hid hR
  clear hR
  go_enter Tryd.func18, Tryd.ntmps18
  go_wp2_with fail
  refine hK.mono ?_
  rintro e w1 ⟨rfl, h1, st1⟩
  have h1 : Vol w1 B g { s with pos := from_ } := h1
  have hbd := BdIs.new w1
  have h2 := h1.alloc (.cells #[.pointer none, .slice none 0 0] 96)
  have st2 : Stay B g w (w1.alloc (.cells #[.pointer none, .slice none 0 0] 96)) := st1.trans (Stay.alloc _ _ h1.bz)
  have hlow := st1.size
  have H2 := Lib.hid h2
  have ST2 := Lib.hid st2
  have HBD := Lib.hid hbd
  clear h1 st1 hbd h2 st2 hK
  go_upto_region 5 with fail
  generalize w1.alloc (.cells #[.pointer none, .slice none 0 0] 96) = w2 at *
  generalize hb' : w1.heap.size = b at *
  clear hb'
  have G2 : Hid (∃ acc : List UInt8, acc.length ≤ 200 * 0 ∧ Vol w2 B g { s with pos := from_ + 0 } ∧ BdIs w2 b acc ∧ rdGo s.lab from_ id (s.l.drop (from_ + 0)) 0 acc = R) := Lib.hid ⟨[], by simp, H2.out, HBD.out, HR.out⟩
  clear H2 HBD HR
  go_wp2
  go_loopw [10] (fun i wr => ∃ k : Nat, from_ + k ≤ s.l.length ∧ i = .int .i64 (k : Int) ∧ Hid (∃ acc : List UInt8, acc.length ≤ 200 * k ∧ Vol wr B g { s with pos := from_ + k } ∧ BdIs wr b acc ∧ rdGo s.lab from_ id (s.l.drop (from_ + k)) k acc = R) ∧ Hid (Stay B g w wr))
    (fun i _ => s.l.length - from_ - (intOf i).toNat)
  case atStart => exact ⟨0, by omega, rfl, G2, ST2⟩
  case round =>
    clear G2 ST2
    obtain ⟨k, hk, rfl, HG, HST⟩ := hrel
    obtain ⟨acc, hacc, hv, hbd, hrd⟩ := HG.out
    have hSr := HS.out.below HST.out.below hB
    have hN := next_any hv hSr hB
    have hp := HP.out s.lab k (from_ + k) acc hk
    have HBD := Lib.hid hbd
    have HRD := Lib.hid hrd
    clear HG hv hbd hrd hSr HP
    rcases hp with ⟨ee, p, q, he0, hnx, hR⟩ | ⟨p, hplt, hgot, hnx, hR⟩
    · rw [hnx] at hN
      have hre : R = ([], ee) := HRD.out.symm.trans hR
      subst hre
      have heb : ((ee : Int) != 0) = true := by rw [bne_iff_ne]; omega
      have hC8 : p.cells.size = 8 := rfl
      have hC1 : p.cells.all (·.oneCell') = true := by simp [Value.oneCell']
      unfold NextEnds Pc.val at hN
      simp only at hN
      generalize p.cells = C at *
      have hI8 : (Tryd.prog.info? 90).map (·.size) = some C.size := by rw [hC8]; kernel_rfl
      have hI9 : pcZero.size = C.size := by rw [hC8]; rfl
      have HI8 := Lib.hid hI8
      have HI9 := Lib.hid hI9
      have HC1 := Lib.hid hC1
      clear hnx hR HRD he0 hC8 hC1 hI8 hI9
      go_wp2_with fail
      refine hN.mono ?_
      rintro e w3 ⟨rfl, h3, st3⟩
      have HST3 := Lib.hid (HST.out.trans st3)
      have H3 := Lib.hid h3
      have HX := Lib.hid (At.new w3 90 pcZero)
      have hWZ : (w3.alloc (.cells pcZero 90)).heap.size = w3.heap.size + 1 := by simp
      clear hN h3 st3 HST HBD
      go_wp2_with (refine wpList_store_whole rfl 90 _ _ rfl w3.heap.size C rfl rfl 90 _ HX.out HI8.out HI9.out HC1.out ?_; intro w9 hZ9 hG9; replace hZ9 := Lib.hid hZ9; replace hG9 := Lib.hid hG9)
      have hb9 : Below w3.heap.size w3 w9 := below_of_grownBy ((Below.refl _ w3).alloc (Nat.le_refl _) _) hG9.out (by rw [hWZ]; omega) (Nat.le_refl _)
      go_ret2
      exact ⟨rfl, ⟨q, H3.out.below hb9⟩, HST3.out.trans (Stay.of_below hb9 H3.out.bz)⟩
    · rw [hnx] at hN
      obtain ⟨pl, pb, pi, pp, pn, pz, ps, pd⟩ := p
      have hR2 := HRD.out.symm.trans hR
      obtain ⟨t, ht⟩ : ∃ t, ({ s with pos := from_ + k + 1 } : VS) = t := ⟨_, rfl⟩
      rw [ht] at hN
      have htl : t.lab = s.lab := by rw [← ht]
      have hLa : ∀ W, Vol W B g t → Calls Tryd.prog 36 #[.pointer (some ⟨g, 0, none⟩)] W fun e w' => e = .returned (.string s.lab) ∧ Below W.heap.size W w' := fun W hW => by
        have := label_any hW
        rw [htl] at this
        exact this
      obtain ⟨lab, hlab⟩ : ∃ lab, s.lab = lab := ⟨_, rfl⟩
      have HLAB := Lib.hid hlab
      rw [hlab] at hLa hR2
      obtain ⟨q1, q2, q3, q4, q5, q6, q7, q8⟩ := hgot
      simp only at hR2 q1 q2 q3 q4 q5 q6 q7 q8
      have hPt := fun W => parts_any pz (by omega) W
      obtain ⟨n2, hn2⟩ : ∃ n2, partsOf pz = n2 := ⟨_, rfl⟩
      have hn20 : n2 ≤ 20 := by rw [← hn2]; exact partsOf_le q2
      rw [hn2] at hPt hR2
      unfold NextEnds Pc.val Pc.cells at hN
      simp only at hN
      have hC1 : (#[.string pl, .int .i64 (pb : Nat), .int .u64 (pi : Nat), .int .i64 (pp : Nat), .int .i64 (pn : Nat), .int .i64 (pz : Nat), .int .u32 (ps : Nat), .string pd] : Array Value).all (·.oneCell') = true := by simp [Value.oneCell']
      have HC1 := Lib.hid hC1
      have HR2 := Lib.hid hR2
      have HT := Lib.hid ht
      have HLA := Lib.hid hLa
      have HPT := Lib.hid hPt
      clear hnx hR HRD ht htl hlab hn2 hC1 hR2 hLa hPt
      go_wp2_with fail
      refine hN.mono ?_
      rintro e w3 ⟨rfl, h3, st3⟩
      have HST3 := Lib.hid (HST.out.trans st3)
      have H3 := Lib.hid h3
      have HBD3 := Lib.hid (HBD.out.stay st3.toStay0)
      have HX := Lib.hid (At.new w3 90 pcZero)
      have hWZ : (w3.alloc (.cells pcZero 90)).heap.size = w3.heap.size + 1 := by simp
      clear hN h3 st3 HST HBD
      go_upto_region 8 with (refine wpList_store_whole rfl 90 _ _ rfl w3.heap.size #[.string pl, .int .i64 (pb : Nat), .int .u64 (pi : Nat), .int .i64 (pp : Nat), .int .i64 (pn : Nat), .int .i64 (pz : Nat), .int .u32 (ps : Nat), .string pd] rfl rfl 90 _ HX.out (by kernel_rfl) (by kernel_rfl) HC1.out ?_; intro w9 hZ9 hG9; replace hZ9 := Lib.hid hZ9; replace hG9 := Lib.hid hG9)
      have hb9 : Below w3.heap.size w3 w9 := below_of_grownBy ((Below.refl _ w3).alloc (Nat.le_refl _) _) hG9.out (by rw [hWZ]; omega) (Nat.le_refl _)
      have hst9 := HST3.out.trans (Stay.of_below hb9 H3.out.bz)
      have hT9 : RdT w B g t b acc w3.heap.size #[.string pl, .int .i64 (pb : Nat), .int .u64 (pi : Nat), .int .i64 (pp : Nat), .int .i64 (pn : Nat), .int .i64 (pz : Nat), .int .u32 (ps : Nat), .string pd] w9 := ⟨H3.out.below hb9, hst9, HS.out.below hst9.below hB, HBD3.out.below hb9, hZ9.out, hlow⟩
      clear hb9 hst9 HST3 H3 HBD3 HX hWZ hZ9 hG9 HC1
      generalize w3.heap.size = X at *
      have KC : Hid (∀ w', RdT w B g t b acc X #[.string pl, .int .i64 (pb : Nat), .int .u64 (pi : Nat), .int .i64 (pp : Nat), .int .i64 (pn : Nat), .int .i64 (pz : Nat), .int .u32 (ps : Nat), .string pd] w' → w'.cell? ⟨X, 0, none⟩ = some (.string pl) ∧ w'.cell? ⟨X, 1, none⟩ = some (.int .i64 (pb : Nat)) ∧ w'.cell? ⟨X, 2, none⟩ = some (.int .u64 (pi : Nat)) ∧ w'.cell? ⟨X, 3, none⟩ = some (.int .i64 (pp : Nat)) ∧ w'.cell? ⟨X, 4, none⟩ = some (.int .i64 (pn : Nat)) ∧ w'.cell? ⟨X, 5, none⟩ = some (.int .i64 (pz : Nat)) ∧ w'.cell? ⟨X, 6, none⟩ = some (.int .u32 (ps : Nat)) ∧ w'.cell? ⟨X, 7, none⟩ = some (.string pd)) := Lib.hid fun w' h => ⟨h.at_.cell 0, h.at_.cell 1, h.at_.cell 2, h.at_.cell 3, h.at_.cell 4, h.at_.cell 5, h.at_.cell 6, h.at_.cell 7⟩
      obtain ⟨x0, x1, x2, x3, x4, x5, x6, x7⟩ := KC.out w9 hT9
      clear x6 x7
      have hsum : IntKind.i64.wrap ((from_ : Int) + (k : Int)) = (from_ : Int) + (k : Int) := by rw [IntKind.wrap_i64]; omega
      have hfk : from_ + k ≤ 1000000 := by omega
      have hc5 : ((!pl.toList == lab.toList) || ((pb : Int) != (from_ : Int) + (k : Int)) || ((pi : Int) != (id : Int)) || ((pp : Int) != (k : Int)) || ((pn : Int) != (n2 : Int))) = true ↔ (pl ≠ lab ∨ pb ≠ from_ + k ∨ pi ≠ id ∨ pp ≠ k ∨ pn ≠ n2) := by
        have f1 : (!pl.toList == lab.toList) = true ↔ pl ≠ lab := by
          rw [Bool.not_eq_true', beq_eq_false_iff_ne]
          exact ⟨fun h e => h (by rw [e]), fun h e => h (ByteArray.ext (by rw [ByteArray.toList_eq, ByteArray.toList_eq] at e; exact Array.toList_inj.1 e))⟩
        simp only [Bool.or_eq_true, f1, bne_iff_ne, or_assoc]
        constructor <;> (rintro (h | h | h | h | h); exact .inl h; exact .inr (.inl (by omega)); exact .inr (.inr (.inl (by omega))); exact .inr (.inr (.inr (.inl (by omega)))); exact .inr (.inr (.inr (.inr (by omega)))))
      go_upto_region 10 with fail
      refine rg_region rfl ⟨rfl, rfl, rfl, rfl, rfl, rfl, rfl, rfl, rfl, rfl, hfk, HLA.out, HPT.out⟩ hT9 ?_
      intro xs w5 hxs hr5
      generalize ((!pl.toList == lab.toList) || ((pb : Int) != (from_ : Int) + (k : Int)) || ((pi : Int) != (id : Int)) || ((pp : Int) != (k : Int)) || ((pn : Int) != (n2 : Int))) = m at hc5 ⊢
      obtain ⟨z0, z1, z2, z3, z4, z5, z6, z7, z8, z9, z10, z11, z12, z13, z14, z15, z16, z17, z18, z19, z20, z21, z22, z23, z24, z25, z26, z27, z28, z29, z30, z31, rfl⟩ := list_ex32 hxs
      clear hxs
      simp only [List.take_succ_cons, List.take_zero, List.drop_succ_cons, List.drop_zero, List.cons_append, List.nil_append]
      cases m with
      | true =>
        have hre := HR2.out
        rw [if_pos (hc5.1 rfl)] at hre
        subst hre
        have HR5 := Lib.hid hr5
        clear HR2 hc5 hr5 hT9 KC HPT HLA x0 x1 x2 x3 x4 x5
        go_wp2
        go_ret2
        exact ⟨rfl, ⟨_, by have := HR5.out.vol; rw [← HT.out] at this; exact this⟩, HR5.out.stay⟩
      | false =>
        have hre := HR2.out
        have hnc : ¬ (pl ≠ lab ∨ pb ≠ from_ + k ∨ pi ≠ id ∨ pp ≠ k ∨ pn ≠ n2) := fun h => by have := hc5.2 h; cases this
        rw [if_neg hnc] at hre
        have hpn : pn = n2 := Classical.byContradiction fun h => hnc (.inr (.inr (.inr (.inr h))))
        have hpk : pp = k := Classical.byContradiction fun h => hnc (.inr (.inr (.inr (.inl h))))
        have HRE := Lib.hid hre
        clear hre HR2 hc5 hnc HPT HLA x0 x1 x2 x3 x4 x5
        have x7 := (KC.out w5 hr5).2.2.2.2.2.2.2
        have hwl : b < w5.heap.size := hr5.bd.lt
        have hWS := Tryd.Builder_WriteString_k b b (Lib.byteCells acc) pd w5 hr5.bd (by simp only [Lib.byteCells, List.length_map]; omega) (by omega)
        have HR5 := Lib.hid hr5
        have HBS : Hid (∀ w6, Lib.BuilderAtF 96 5 b b (.pointer (some ⟨b, 0, none⟩)) (Lib.byteCells acc ++ Lib.strCells pd) w6 → Below b w5 w6 → Lib.OthersKept 5 (some b) w5 w6 → RdT w B g t b (acc ++ pd.data.toList) X #[.string pl, .int .i64 (pb : Nat), .int .u64 (pi : Nat), .int .i64 (pp : Nat), .int .i64 (pn : Nat), .int .i64 (pz : Nat), .int .u32 (ps : Nat), .string pd] w6) := Lib.hid fun w6 h1 h2 h3 => RdT.others hr5 hbz hw0 (.inr (by
          have e : Lib.byteCells (acc ++ pd.data.toList) = Lib.byteCells acc ++ Lib.strCells pd := by simp [Lib.byteCells, Lib.strCells]
          rw [e]; exact h1)) h2 h3
        clear hr5 hT9 KC
        go_wp2_with fail
        refine hWS.mono ?_
        rintro e w6 ⟨rfl, hbd6, hb6, ho6⟩
        have hr6 := HBS.out w6 hbd6 hb6 ho6
        clear hWS hbd6 hb6 ho6 HBS HR5 x7
        have hac : (acc ++ pd.data.toList).length ≤ 200 * (k + 1) := by have hpz : pd.data.toList.length = pd.size := (by simp); rw [List.length_append]; omega
        obtain ⟨ac2, hac2⟩ : ∃ ac2, acc ++ pd.data.toList = ac2 := ⟨_, rfl⟩
        have hre := HRE.out
        rw [hac2] at hr6 hre hac
        clear HRE hac2
        have HRE := Lib.hid hre
        clear hre
        have y4 : w6.cell? ⟨X, 4, none⟩ = some (.int .i64 (pn : Nat)) := hr6.at_.cell 4
        have HR6 := Lib.hid hr6
        clear hr6
        by_cases hlast : k + 1 = pn
        · have hre := HRE.out
          rw [if_pos hlast] at hre
          have z1 : ((k : Int) == (pn : Int) - 1) = true := by rw [beq_iff_eq]; omega
          clear HRE
          go_upto_region 14 with fail
          obtain ⟨x0, x1, x2, x3, x4, x5, x6, x7⟩ : w6.cell? ⟨X, 0, none⟩ = some (.string pl) ∧ w6.cell? ⟨X, 1, none⟩ = some (.int .i64 (pb : Nat)) ∧ w6.cell? ⟨X, 2, none⟩ = some (.int .u64 (pi : Nat)) ∧ w6.cell? ⟨X, 3, none⟩ = some (.int .i64 (pp : Nat)) ∧ w6.cell? ⟨X, 4, none⟩ = some (.int .i64 (pn : Nat)) ∧ w6.cell? ⟨X, 5, none⟩ = some (.int .i64 (pz : Nat)) ∧ w6.cell? ⟨X, 6, none⟩ = some (.int .u32 (ps : Nat)) ∧ w6.cell? ⟨X, 7, none⟩ = some (.string pd) := ⟨HR6.out.at_.cell 0, HR6.out.at_.cell 1, HR6.out.at_.cell 2, HR6.out.at_.cell 3, HR6.out.at_.cell 4, HR6.out.at_.cell 5, HR6.out.at_.cell 6, HR6.out.at_.cell 7⟩
          have hT6 : RdT w B g t b ac2 X #[.string pl, .int .i64 (pb : Nat), .int .u64 (pi : Nat), .int .i64 (pp : Nat), .int .i64 (pn : Nat), .int .i64 (pz : Nat), .int .u32 (ps : Nat), .string pd] w6 := HR6.out
          obtain ⟨sx, hsx⟩ : ∃ sx : ByteArray, (⟨ac2.toArray⟩ : ByteArray) = sx := ⟨_, rfl⟩
          have hsd : sx.data.toList = ac2 := by rw [← hsx]
          have hsz : sx.size ≤ 1000000 := by rw [← hsx, str_len]; omega
          have HST14 : Hid (∀ W, RdT w B g t b ac2 X #[.string pl, .int .i64 (pb : Nat), .int .u64 (pi : Nat), .int .i64 (pp : Nat), .int .i64 (pn : Nat), .int .i64 (pz : Nat), .int .u32 (ps : Nat), .string pd] W → Calls Tryd.prog 54 #[.pointer (some ⟨b, 0, none⟩)] W fun e w' => e = .returned (.string sx) ∧ RdT w B g t b ac2 X #[.string pl, .int .i64 (pb : Nat), .int .u64 (pi : Nat), .int .i64 (pp : Nat), .int .i64 (pn : Nat), .int .i64 (pz : Nat), .int .u32 (ps : Nat), .string pd] w') := Lib.hid fun W h => by
            have hlt := h.bd.lt
            have := Tryd.Builder_String_any_k b b ac2 W h.bd (by omega)
            rw [hsx] at this
            exact this.mono fun e w' ⟨h1, h2, h3, h4⟩ => ⟨h1, RdT.others h hbz hw0 h2 h3 h4⟩
          have HWH : Hid (∀ W, RdT w B g t b ac2 X #[.string pl, .int .i64 (pb : Nat), .int .u64 (pi : Nat), .int .i64 (pp : Nat), .int .i64 (pn : Nat), .int .i64 (pz : Nat), .int .u32 (ps : Nat), .string pd] W → Calls Tryd.prog 53 #[.agg #[.string pl, .int .i64 (pb : Nat), .int .u64 (pi : Nat), .int .i64 (pp : Nat), .int .i64 (pn : Nat), .int .i64 (pz : Nat), .int .u32 (ps : Nat), .string pd], .string sx] W fun e w' => e = .returned (.tuple #[.string ⟨R.1.toArray⟩, .int .i64 (R.2 : Nat)]) ∧ RdT w B g t b ac2 X #[.string pl, .int .i64 (pb : Nat), .int .u64 (pi : Nat), .int .i64 (pp : Nat), .int .i64 (pn : Nat), .int .i64 (pz : Nat), .int .u32 (ps : Nat), .string pd] w') := Lib.hid fun W h => by
            have := whole_any ⟨pl, pb, pi, pp, pn, pz, ps, pd⟩ sx hsz W h.steps
            rw [hsd, ← hre] at this
            exact this.mono fun e w' ⟨h1, h2⟩ => ⟨h1, h.after h2⟩
          have HKC : Hid (∀ w', RdT w B g t b ac2 X #[.string pl, .int .i64 (pb : Nat), .int .u64 (pi : Nat), .int .i64 (pp : Nat), .int .i64 (pn : Nat), .int .i64 (pz : Nat), .int .u32 (ps : Nat), .string pd] w' → w'.cell? ⟨X, 0, none⟩ = some (.string pl) ∧ w'.cell? ⟨X, 1, none⟩ = some (.int .i64 (pb : Nat)) ∧ w'.cell? ⟨X, 2, none⟩ = some (.int .u64 (pi : Nat)) ∧ w'.cell? ⟨X, 3, none⟩ = some (.int .i64 (pp : Nat)) ∧ w'.cell? ⟨X, 4, none⟩ = some (.int .i64 (pn : Nat)) ∧ w'.cell? ⟨X, 5, none⟩ = some (.int .i64 (pz : Nat)) ∧ w'.cell? ⟨X, 6, none⟩ = some (.int .u32 (ps : Nat)) ∧ w'.cell? ⟨X, 7, none⟩ = some (.string pd)) := Lib.hid fun w' h => ⟨h.at_.cell 0, h.at_.cell 1, h.at_.cell 2, h.at_.cell 3, h.at_.cell 4, h.at_.cell 5, h.at_.cell 6, h.at_.cell 7⟩
          clear hsx hsd hsz hre y4 HR6 z1 hac hlast hpn hpk
          go_region_held3 (fun w' => w'.cell? ⟨X, 0, none⟩ = some (.string pl) ∧ w'.cell? ⟨X, 1, none⟩ = some (.int .i64 (pb : Nat)) ∧ w'.cell? ⟨X, 2, none⟩ = some (.int .u64 (pi : Nat)) ∧ w'.cell? ⟨X, 3, none⟩ = some (.int .i64 (pp : Nat)) ∧ w'.cell? ⟨X, 4, none⟩ = some (.int .i64 (pn : Nat)) ∧ w'.cell? ⟨X, 5, none⟩ = some (.int .i64 (pz : Nat)) ∧ w'.cell? ⟨X, 6, none⟩ = some (.int .u32 (ps : Nat)) ∧ w'.cell? ⟨X, 7, none⟩ = some (.string pd) ∧ RdT w B g t b ac2 X #[.string pl, .int .i64 (pb : Nat), .int .u64 (pi : Nat), .int .i64 (pp : Nat), .int .i64 (pn : Nat), .int .i64 (pz : Nat), .int .u32 (ps : Nat), .string pd] w') (go_keep)
            (first
             | (go_at_call 54; refine (HST14.out _ (by first | assumption | (apply RdT.drew; assumption))).mono ?_; rintro e w7 ⟨rfl, hr7⟩; obtain ⟨k0, k1, k2, k3, k4, k5, k6, k7⟩ := HKC.out w7 hr7)
             | (go_at_call 53; refine (HWH.out _ (by first | assumption | (apply RdT.drew; assumption))).mono ?_; rintro e w8 ⟨rfl, hr8⟩; obtain ⟨m0, m1, m2, m3, m4, m5, m6, m7⟩ := HKC.out w8 hr8))
          all_goals
            have HR8 := Lib.hid hr8
            clear hr8
            go_wp2
            go_ret2
            exact ⟨rfl, ⟨_, by have := HR8.out.vol; rw [← HT.out] at this; exact this⟩, HR8.out.stay⟩
        · have hre := HRE.out
          rw [if_neg hlast] at hre
          have z1 : ((k : Int) == (pn : Int) - 1) = false := by rw [beq_eq_false_iff_ne]; omega
          have HRE2 := Lib.hid hre
          clear hre HRE
          go_wp2
          go_roundw
          case rel => exact ⟨k + 1, by omega, by go_num, Lib.hid ⟨ac2, hac, by have := HR6.out.vol; rw [← HT.out] at this; exact this, HR6.out.bd, by rw [HLAB.out]; exact HRE2.out.symm⟩, Lib.hid HR6.out.stay⟩
          case measure => simp [intOf]; omega


end Go.Proofs.YtcbeikiglccgaaaDoor

/- What Write makes of a calm volume; the tape of blobs. -/
namespace Go.Proofs.YtcbeikiglccgaaaDoor
open Go.RowKit
open Sm
set_option linter.unusedVariables false
set_option linter.unusedSimpArgs false

theorem wgo_ok {rm : Int} : ∀ (bs : List Blk) (s : VS), s.Fresh rm → (∀ b ∈ bs, b.torn = false) → (wsum s.l : Int) + wsum bs ≤ rm → s.wgo bs = ({ s with l := s.l ++ bs, pos := s.pos + bs.length }, 0) := by
  intro bs
  induction bs with
  | nil => intro s _ _ _; unfold VS.wgo; simp
  | cons b r ih =>
    intro s h ht hw
    rw [wsum_cons] at hw
    have hb := ht b (by simp)
    have ha := h.add b
    rw [if_neg (by omega)] at ha
    unfold VS.wgo
    rw [ha, if_neg (by simp)]
    rw [ih _ (h.more b hb) (fun x hx => ht x (by simp [hx])) (by show (wsum (s.l ++ [b]) : Int) + _ ≤ _; rw [wsum_append, wsum_one]; omega)]
    simp [Nat.add_assoc, Nat.add_comm, Nat.add_left_comm]

theorem piece_wt {lab : ByteArray} {first id i : Nat} {d : List UInt8} (hl : lab.size ≤ 32) (hf : first + 20 ≤ 1000000) (hid : id < 18446744073709551616) (hd : d.length ≤ 4000) (hi : i < partsOf d.length) : (pieceBlk (pieceOf lab first id d i)).wt ≤ 71 + (chunkOf d i).length := by
  have h20 := partsOf_le hd
  have hok := pieceOf_ok hl (by omega : first + i ≤ 1000000) hid hd hi
  have he := enc_len hok (by show first + i ≤ _; omega) (by show partsOf d.length ≤ _; omega)
  have e1 : (pieceOf lab first id d i).data.size = (chunkOf d i).length := by show (⟨(chunkOf d i).toArray⟩ : ByteArray).size = _; rw [str_len]
  unfold pieceBlk Blk.wt Pc.spell
  show (⟨(frameL _).toArray⟩ : ByteArray).size + 4 ≤ _
  rw [str_len, frameL_len]
  omega
theorem blob_sum {lab : ByteArray} {first id : Nat} {d : List UInt8} (hl : lab.size ≤ 32) (hf : first + 20 ≤ 1000000) (hid : id < 18446744073709551616) (hd : d.length ≤ 4000) : wsum (blobBlks lab first id d) + 8 ≤ weightOf d.length := by
  have key : ∀ k, k ≤ partsOf d.length → wsum ((List.range k).map fun i => pieceBlk (pieceOf lab first id d i)) ≤ 71 * k + (d.take (200 * k)).length := by
    intro k
    induction k with
    | zero => intro _; simp [wsum]
    | succ k ih =>
      intro hk
      have h1 := ih (by omega)
      have h2 := piece_wt hl hf hid hd (show k < partsOf d.length by omega)
      rw [List.range_succ, List.map_append, wsum_append]
      show wsum _ + wsum [pieceBlk (pieceOf lab first id d k)] ≤ _
      rw [wsum_one, ← chunk_take, List.length_append]
      omega
  have h := key _ (Nat.le_refl _)
  have h3 : (d.take (200 * partsOf d.length)).length ≤ d.length := by rw [List.length_take]; omega
  have h4 := partsOf_pos d.length
  unfold blobBlks weightOf
  omega

/-- a volume on which a blob can be written -/
structure VS.Good (s : VS) (rm : Int) (lab : ByteArray) : Prop where
  calm : s.Calm
  rm : s.rm = rm
  torn : lastTorn s.l = false
  lab : s.lab = lab
theorem VS.Good.lb (rm : Int) (lab : ByteArray) : VS.Good { VS.new rm with lab := lab, er := 1 } rm lab := ⟨⟨rfl, rfl, rfl⟩, rfl, rfl, rfl⟩
theorem erase_new (rm : Int) (lab : ByteArray) : (VS.new rm).erase lab = ({ VS.new rm with lab := lab, er := 1 }, 0) := rfl

def VS.wrote (s : VS) (id : Nat) (d : List UInt8) : VS := { s with l := s.l ++ (blobBlks s.lab s.l.length id d ++ [markBlk]), pos := s.l.length + partsOf d.length + 1, sure := s.l.length + partsOf d.length + 1 }
theorem VS.wrote_len (s : VS) (id : Nat) (d : List UInt8) : (s.wrote id d).l.length = s.l.length + partsOf d.length + 1 := by
  show (s.l ++ (blobBlks s.lab s.l.length id d ++ [markBlk])).length = _
  rw [List.length_append, List.length_append, blobBlks_len]
  simp [Nat.add_assoc]
theorem VS.Good.wrote {s : VS} {rm : Int} {lab : ByteArray} (h : s.Good rm lab) (id : Nat) (d : List UInt8) : (s.wrote id d).Good rm lab :=
  ⟨⟨h.calm.lo, h.calm.lf, h.calm.pr⟩, h.rm, by show lastTorn (s.l ++ (blobBlks s.lab s.l.length id d ++ [markBlk])) = false; rw [← List.append_assoc, lastTorn_append]; rfl, h.lab⟩
theorem VS.Good.pos {s : VS} {rm : Int} {lab : ByteArray} (h : s.Good rm lab) (p : Nat) : VS.Good { s with pos := p } rm lab := ⟨⟨h.calm.lo, h.calm.lf, h.calm.pr⟩, h.rm, h.torn, h.lab⟩
theorem VS.wrote_sum {s : VS} {id : Nat} {d : List UInt8} (hl : s.lab.size ≤ 32) (hf : s.l.length + 20 ≤ 1000000) (hid : id < 18446744073709551616) (hd : d.length ≤ 4000) : wsum (s.wrote id d).l ≤ wsum s.l + weightOf d.length := by
  have h := blob_sum hl hf hid hd
  show wsum (s.l ++ (blobBlks s.lab s.l.length id d ++ [markBlk])) ≤ _
  rw [wsum_append, wsum_append, wsum_one]
  have : markBlk.wt = 4 := rfl
  omega

theorem wblob_ok {s : VS} {rm : Int} {lab : ByteArray} (h : s.Good rm lab) (hl : lab.size ≤ 32) (hf : s.l.length + 20 ≤ 1000000) {id : Nat} (hid : id < 18446744073709551616) {d : List UInt8} (hd : d.length ≤ 4000) (hw : (wsum s.l : Int) + weightOf d.length ≤ rm) : s.wblob id d = (s.wrote id d, (s.l.length : Int), 0) := by
  have hl' : s.lab.size ≤ 32 := by rw [h.lab]; exact hl
  have hbs := blob_sum hl' hf hid hd
  have hsk : s.seek s.l.length = ({ s with pos := s.l.length }, 0) := by
    rw [h.calm.seek, if_neg (by omega), Int.toNat_natCast]
  have hfr : VS.Fresh { s with pos := s.l.length } rm := ⟨⟨h.calm.lo, h.calm.lf, h.calm.pr⟩, h.rm, rfl, h.torn⟩
  have hnt : ∀ b ∈ blobBlks s.lab s.l.length id d, b.torn = false := by
    intro b hb
    unfold blobBlks at hb
    obtain ⟨i, _, rfl⟩ := List.mem_map.1 hb
    rfl
  have hgo := wgo_ok (blobBlks s.lab s.l.length id d) _ hfr hnt (by show (wsum s.l : Int) + _ ≤ _; omega)
  simp only at hgo
  have hfr2 : VS.Fresh { s with l := s.l ++ blobBlks s.lab s.l.length id d, pos := s.l.length + (blobBlks s.lab s.l.length id d).length } rm :=
    ⟨⟨h.calm.lo, h.calm.lf, h.calm.pr⟩, h.rm, by show _ = (s.l ++ _).length; rw [List.length_append], by
      show lastTorn (s.l ++ blobBlks s.lab s.l.length id d) = false
      have hne : blobBlks s.lab s.l.length id d ≠ [] := by
        intro e
        have := blobBlks_len s.lab s.l.length id d
        rw [e] at this
        have := partsOf_pos d.length
        simp at *
        omega
      obtain ⟨x, y, e⟩ : ∃ x y, blobBlks s.lab s.l.length id d = x ++ [y] := ⟨_, _, (List.dropLast_concat_getLast hne).symm⟩
      rw [e, ← List.append_assoc, lastTorn_append]
      exact hnt y (by rw [e]; simp)⟩
  have ha := hfr2.add markBlk
  rw [if_neg (by
    show ¬ rm < (wsum (s.l ++ blobBlks s.lab s.l.length id d) : Int) + markBlk.wt
    have e4 : markBlk.wt = 4 := rfl
    rw [wsum_append, e4]; omega)] at ha
  have hfr3 := hfr2.more markBlk rfl
  have hfl := hfr3.calm.flush
  simp only at ha hfl
  unfold VS.wblob
  rw [hsk]
  simp only
  rw [if_neg (by omega), if_neg (by simp), if_neg (by rw [h.rm]; omega), hgo]
  simp only
  rw [if_neg (by simp), ha]
  simp only
  rw [if_neg (by simp), hfl]
  simp only
  rw [if_neg (by simp)]
  congr 1
  unfold VS.wrote
  congr 1
  · simp
  · simp [blobBlks_len]; omega
  · simp [blobBlks_len]
end Go.Proofs.YtcbeikiglccgaaaDoor

/- glacierlaw07.Long: its walk. -/
namespace Go.Proofs.YtcbeikiglccgaaaDoor
open Go.RowKit
open Sm
set_option linter.unusedVariables false
set_option linter.unusedSimpArgs false

/-- a text, several times -/
def times (s : ByteArray) : Nat → ByteArray
  | 0 => ⟨#[]⟩
  | k + 1 => times s k ++ s
def longOf (s : ByteArray) (n : Int) : ByteArray := times (cutTo s 60) (min n 10).toNat
theorem times_size (s : ByteArray) (k : Nat) : (times s k).size = k * s.size := by
  induction k with
  | zero => simp [times]; rfl
  | succ k ih => rw [times, ByteArray.size_append, ih, Nat.succ_mul]
theorem longOf_size (s : ByteArray) (n : Int) : (longOf s n).size ≤ 600 := by
  unfold longOf
  rw [times_size]
  have h1 := cutTo_le s 60
  have h2 : (min n 10).toNat ≤ 10 := by omega
  calc _ ≤ 10 * 60 := Nat.mul_le_mul h2 h1
    _ = 600 := rfl

set_option maxRecDepth 100000 in
set_option maxHeartbeats 1000000 in
theorem long_any (s : ByteArray) (n : Int) (w : World) :
    Calls Tryd.prog 15 #[.string s, .int .i64 n] w fun e w' => e = .returned (.string (longOf s n)) ∧ w = w' := by
  have hC := cut_any s 60 w
  have hle := cutTo_le s 60
  obtain ⟨R, hR⟩ : ∃ R, longOf s n = R := ⟨_, rfl⟩
  rw [hR]
  unfold longOf at hR
  have HR := Lib.hid hR
  clear hR
  generalize cutTo s 60 = c at *
  go_enter Tryd.func15, Tryd.ntmps15
  go_wp2_with fail
  refine hC.mono ?_
  rintro e w1 ⟨rfl, rfl⟩
  clear hC
  go_wp2
  go_loopw [5, 6] (fun o i wr => ∃ k : Nat, k ≤ (min n 10).toNat ∧ k ≤ 10 ∧ i = .int .i64 (k : Int) ∧ o = .string (times c k) ∧ wr = w)
    (fun _ i _ => 10 - (intOf i).toNat)
  case atStart => exact ⟨0, by omega, by omega, rfl, rfl, rfl⟩
  case round =>
    obtain ⟨k, hk, hk10, rfl, rfl, rfl⟩ := hrel
    have hts := times_size c k
    have hle2 : k * c.size ≤ 10 * 60 := Nat.mul_le_mul hk10 hle
    by_cases h1 : (k : Int) < n
    · by_cases h2 : k < 10
      · have e1 : decide ((k : Int) < n) = true := by simpa using h1
        have e2 : decide ((k : Int) < 10) = true := by simp; omega
        go_wp2
        go_roundw
        case rel => exact ⟨k + 1, by omega, by omega, by go_num, rfl, trivial⟩
        case measure => simp [intOf]; omega
      · have e1 : decide ((k : Int) < n) = true := by simpa using h1
        have e2 : decide ((k : Int) < 10) = false := by simp; omega
        have hkk : (min n 10).toNat = k := by omega
        go_wp2
        go_ret
        obtain rfl : times c k = R := by have := HR.out; rwa [hkk] at this
        exact ⟨rfl, rfl⟩
    · have e1 : decide ((k : Int) < n) = false := by simpa using h1
      have hkk : (min n 10).toNat = k := by omega
      go_wp2
      go_ret
      obtain rfl : times c k = R := by have := HR.out; rwa [hkk] at this
      exact ⟨rfl, rfl⟩
end Go.Proofs.YtcbeikiglccgaaaDoor

/- glacierlaw07.awake: its walk. -/
namespace Go.Proofs.YtcbeikiglccgaaaDoor
open Go.RowKit
open Sm
set_option linter.unusedVariables false
set_option linter.unusedSimpArgs false

section
variable {w : World} {B g : Nat} {s : VS} {rm : Int} {lab : ByteArray}
theorem write_good (h : Vol w B g s) (hg : s.Good rm lab) (hS : Steps w) (hB : 0 < B) (hl : lab.size ≤ 32) (hf : s.l.length ≤ 900000) (id : Nat) (hid : id < 18446744073709551616) (d : ByteArray) (hd : d.size ≤ 4000) (hw : (wsum s.l : Int) + weightOf d.size ≤ rm) :
    Calls Tryd.prog 14 #[.pointer (some ⟨g, 0, none⟩), .int .u64 (id : Int), .string d] w fun e w' => e = .returned (.tuple #[.int .i64 (s.l.length : Nat), .int .i64 0]) ∧ Vol w' B g (s.wrote id d.data.toList) ∧ Stay B g w w' := by
  have hdl : d.data.toList.length = d.size := by simp
  have := wblob_any h hS hB hf (by rw [hg.lab]; exact hl) id hid d (by omega)
  rw [wblob_ok hg hl (by omega) hid (by omega) (by rw [hdl]; exact hw)] at this
  exact this
theorem read_good (h : Vol w B g s) (hg : s.Good rm lab) (hS : Steps w) (hB : 0 < B) (hl : lab.size ≤ 32) (hf : s.l.length ≤ 900000) (id : Nat) (hid : id < 18446744073709551616) (d : ByteArray) (hd : d.size ≤ 4000) (pre rest : List Blk) (hs : s.l = pre ++ (blobBlks lab pre.length id d.data.toList ++ rest)) :
    Calls Tryd.prog 18 #[.pointer (some ⟨g, 0, none⟩), .int .i64 (pre.length : Nat), .int .u64 (id : Int)] w fun e w' => e = .returned (.tuple #[.string d, .int .i64 0]) ∧ (∃ pos, Vol w' B g { s with pos := pos }) ∧ Stay B g w w' := by
  have hdl : d.data.toList.length = d.size := by simp
  have hpl : pre.length ≤ s.l.length := by rw [hs]; simp
  have := rblob_any h hg.calm hS hB pre.length hpl id hid
  rw [hg.lab, hs, List.drop_left, rd_whole hl (by omega) hid (by omega) rest] at this
  refine this.mono fun e w' ⟨he, hv, hst⟩ => ⟨?_, ?_, hst⟩
  · rw [he]
    rfl
  · obtain ⟨pos, hv⟩ := hv
    exact ⟨pos, hv⟩
end


def zeros : ByteArray := ⟨(List.replicate 401 (0 : UInt8)).toArray⟩
theorem zeros_size : zeros.size = 401 := by unfold zeros; rw [str_len, List.length_replicate]
theorem zeros_run (W : World) : ∃ W1 : World, (Instr.makeSlice 82 (.int .i64 401) (.int .i64 401)).run Tryd.prog W = .ok (.slice (some ⟨W.heap.size, 0, none⟩) 401 401) W1 ∧
    (convert 82 9 (.slice (some ⟨W.heap.size, 0, none⟩) 401 401)).run Tryd.prog W1 = .ok (.string zeros) W1 ∧ Below W.heap.size W W1 := by
  obtain ⟨i0, hie, hz0, hz1, hz2⟩ := info_parts info_byte
  obtain ⟨M, hM⟩ : ∃ M, M = madeCells (Value.int .u8 0).cells 401 := ⟨_, rfl⟩
  have hML : M.toList = List.replicate 401 (Value.int .u8 0) := by rw [hM]; exact toList_madeCells_one _ _
  refine ⟨W.alloc (.cells M 5), ?_, ?_, (Below.refl _ W).alloc (Nat.le_refl _) _⟩
  · have h := run_make (P := Tryd.prog) W 82 5 i0 (.int .u8 0) Tryd.underlying82 hie hz0 .i64 .i64 401 401 (by omega) (by omega) (by rw [hz2]; omega) (by omega)
    rw [hz1] at h
    rw [show ((401 : Int).toNat * 1) = 401 from rfl, ← hM] at h
    exact h
  · have hA : At (W.alloc (.cells M 5)) W.heap.size 5 M := heap_alloc_new W _
    have h := run_convert_bytes_back (P := Tryd.prog) (W.alloc (.cells M 5)) 82 9 5 ⟨W.heap.size, 0, none⟩ 401 (List.replicate 401 (0 : UInt8)) Tryd.underlying82 Tryd.underlying5 Tryd.underlying9 (fun j hj => by
      have e : (⟨W.heap.size, 0, none⟩ : Addr).add j = ⟨W.heap.size, j, none⟩ := by simp [Addr.add]; omega
      have hj' : j < 401 := by rw [List.length_replicate] at hj; exact hj
      rw [e, hA.cell j, ← Array.getElem?_toList, hML, List.getElem?_replicate, if_pos hj', List.getElem_replicate]
      rfl)
    rw [List.length_replicate] at h
    exact h

set_option maxRecDepth 100000 in
set_option maxHeartbeats 4000000 in
theorem awake_any (w : World) (hS : Steps w) :
    Calls Tryd.prog 12 #[] w fun e w' => e = .returned (.bool true) ∧ Below w.heap.size w w' := by
  have hS0 := hS.1
  have hN := new_vol 10000 10000 (by omega) rfl w
  have HZ := Lib.hid zeros_run
  have HZs := Lib.hid zeros_size
  have hl1 : (⟨#[120]⟩ : ByteArray).size = 1 := rfl
  generalize zeros = z at *
  go_enter Tryd.func12, Tryd.ntmps12
  go_wp2_with fail
  refine hN.mono ?_
  rintro e w1 ⟨g, rfl, hv, hb1⟩
  have hE := erase_vol hv ⟨#[65, 49]⟩ (by decide) (by decide)
  rw [erase_new] at hE
  clear hN
  go_wp2_with fail
  refine hE.mono ?_
  rintro e w2 ⟨rfl, h2, st2⟩
  have hg2 := VS.Good.lb 10000 ⟨#[65, 49]⟩
  have hl : (⟨#[65, 49]⟩ : ByteArray).size ≤ 32 := by decide
  have h2 : Vol w2 w.heap.size g { VS.new 10000 with lab := ⟨#[65, 49]⟩, er := 1 } := h2
  have hs0 : ({ VS.new 10000 with lab := ⟨#[65, 49]⟩, er := 1 } : VS).l = [] := rfl
  generalize ({ VS.new 10000 with lab := ⟨#[65, 49]⟩, er := 1 } : VS) = s at *
  have hb2 : Below w.heap.size w w2 := hb1.trans st2.below
  clear hE st2 hb1 hv
  obtain ⟨w3, hmk, hcv, hb3⟩ := HZ.out w2
  have h3 := h2.below hb3
  have hbz := h2.bz
  have hs2 := hb2.size
  have hS3 := (hS.below hb2 hS0).below hb3 (by omega)
  have hW := write_good h3 hg2 hS3 hS0 hl (by rw [hs0]; simp) 7 (by omega) z (by rw [HZs.out]; omega) (by rw [HZs.out, hs0]; decide)
  have hb3' : Below w.heap.size w w3 := hb2.trans (hb3.mono (by omega))
  have HB3 := Lib.hid hb3'
  have HS := Lib.hid hS
  have HG2 := Lib.hid hg2
  rw [hs0] at hW
  clear hb2 h3 hS3 hb3 hb3' h2 hbz hs2 hS hg2
  go_wp2_with fail
  refine hW.mono ?_
  rintro e w4 ⟨rfl, h4, st4⟩
  have hb4 : Below w.heap.size w w4 := HB3.out.trans st4.below
  have hS4 := HS.out.below hb4 hS0
  have hp1 : partsOf z.data.toList.length = 3 := by rw [show z.data.toList.length = 401 by rw [← HZs.out]; simp]; decide
  have hsum := VS.wrote_sum (s := s) (id := 7) (d := z.data.toList) (by rw [HG2.out.lab]; exact hl) (by rw [hs0]; simp) (by omega) (by rw [show z.data.toList.length = 401 by rw [← HZs.out]; simp]; omega)
  have hlen := VS.wrote_len s 7 z.data.toList
  rw [show z.data.toList.length = 401 by rw [← HZs.out]; simp, hs0] at hsum
  rw [hp1, hs0] at hlen
  simp only [List.length_nil, Nat.zero_add] at hlen
  have hg4 := HG2.out.wrote 7 z.data.toList
  have hl4 : (s.wrote 7 z.data.toList).l = blobBlks ⟨#[65, 49]⟩ 0 7 z.data.toList ++ [markBlk] := by unfold VS.wrote; rw [hs0, HG2.out.lab]; rfl
  clear hW HB3 hs0 st4 HG2
  generalize s.wrote 7 z.data.toList = s4 at *
  have hwx : (wsum s4.l : Int) + weightOf (⟨#[120]⟩ : ByteArray).size ≤ 10000 := by
    rw [hl1]
    have e1 : weightOf 401 = 633 := by decide
    have e2 : weightOf 1 = 81 := by decide
    have e3 : wsum [] = 0 := rfl
    omega
  have hW := write_good h4 hg4 hS4 hS0 hl (by rw [hlen]; simp) 8 (by omega) ⟨#[120]⟩ (by rw [hl1]; omega) hwx
  rw [hlen] at hW
  have HB4 := Lib.hid hb4
  have HG4 := Lib.hid hg4
  have HL4 := Lib.hid hl4
  have HN4 := Lib.hid hlen
  clear hsum hlen hg4 hl4 hb4 h4 hS4 hwx hp1
  go_wp2_with fail
  refine hW.mono ?_
  rintro e w5 ⟨rfl, h5, st5⟩
  have hb5 : Below w.heap.size w w5 := HB4.out.trans st5.below
  have hS5 := HS.out.below hb5 hS0
  have hg5 := HG4.out.wrote 8 (⟨#[120]⟩ : ByteArray).data.toList
  have hl5 : (s4.wrote 8 (⟨#[120]⟩ : ByteArray).data.toList).l = s4.l ++ (blobBlks ⟨#[65, 49]⟩ s4.l.length 8 (⟨#[120]⟩ : ByteArray).data.toList ++ [markBlk]) := by unfold VS.wrote; rw [HG4.out.lab]
  have hn5 := VS.wrote_len s4 8 (⟨#[120]⟩ : ByteArray).data.toList
  have hn5' : (s4.wrote 8 (⟨#[120]⟩ : ByteArray).data.toList).l.length = 6 := by rw [hn5, HN4.out]; rfl
  clear hW HB4 st5 HG4 hn5
  generalize s4.wrote 8 (⟨#[120]⟩ : ByteArray).data.toList = s5 at *
  have hR1 := read_good h5 hg5 hS5 hS0 hl (by rw [hn5']; omega) 7 (by omega) z (by rw [HZs.out]; omega) [] ([markBlk] ++ (blobBlks ⟨#[65, 49]⟩ s4.l.length 8 (⟨#[120]⟩ : ByteArray).data.toList ++ [markBlk])) (by rw [hl5, HL4.out]; simp)
  have hr2 : ∀ W pos, Vol W w.heap.size g { s5 with pos := pos } → Steps W → Calls Tryd.prog 18 #[.pointer (some ⟨g, 0, none⟩), .int .i64 4, .int .u64 8] W fun e w' => e = .returned (.tuple #[.string ⟨#[120]⟩, .int .i64 0]) ∧ (∃ pos', Vol w' w.heap.size g { s5 with pos := pos' }) ∧ Stay w.heap.size g W w' := fun W pos hW hSW => by
    have := read_good hW (hg5.pos pos) hSW hS0 hl (by show s5.l.length ≤ _; rw [hn5']; omega) 8 (by omega) ⟨#[120]⟩ (by rw [hl1]; omega) s4.l [markBlk] hl5
    rw [HN4.out] at this
    exact this.mono fun e w' ⟨h1, ⟨p, h2⟩, h3⟩ => ⟨h1, ⟨p, h2⟩, h3⟩
  have HR2 := Lib.hid hr2
  have HB5 := Lib.hid hb5
  clear hr2 hb5 hg5 hl5 hn5' h5 hS5 HL4 HN4
  simp only [List.length_nil] at hR1
  go_wp2_with fail
  refine hR1.mono ?_
  rintro e w6 ⟨rfl, ⟨p6, h6⟩, st6⟩
  have hb6 : Below w.heap.size w w6 := HB5.out.trans st6.below
  have hS6 := HS.out.below hb6 hS0
  have hR2 := HR2.out w6 p6 h6 hS6
  have HB6 := Lib.hid hb6
  clear hR1 HB5 st6 h6 hS6 hb6 HR2
  go_wp2_with fail
  refine hR2.mono ?_
  rintro e w7 ⟨rfl, ⟨p7, h7⟩, st7⟩
  have HB7 := Lib.hid (HB6.out.trans st7.below)
  clear hR2 HB6 h7 st7
  have hzz : (z.toList == z.toList) = true := by simp
  go_wp2
  go_ret
  exact ⟨rfl, HB7.out⟩
end Go.Proofs.YtcbeikiglccgaaaDoor

/- glacierlaw07.TapefmtWeight: its walk. -/
namespace Go.Proofs.YtcbeikiglccgaaaDoor
open Go.RowKit
open Sm
set_option linter.unusedVariables false
set_option linter.unusedSimpArgs false

/-- a blob, as an argument -/
abbrev blobCells (id : Nat) (s : ByteArray) (n : Int) : Array Value := #[.int .u64 (id : Int), .string s, .int .i64 n]

set_option maxRecDepth 100000 in
set_option maxHeartbeats 4000000 in
theorem walk_weight (lab : ByteArray) (id : Nat) (hid : id < 18446744073709551616) (s : ByteArray) (n : Int) (w : World) (hS : Steps w) :
    Calls Tryd.prog 6 #[.string lab, .agg (blobCells id s n)] w fun e w' => e = .returned (.bool true) ∧ Below w.heap.size w w' := by
  have hS0 := hS.1
  have hA0 : At (w.alloc (.cells (blobCells id s n) 33)) w.heap.size 33 (blobCells id s n) := heap_alloc_new w _
  have hb0 : Below w.heap.size w (w.alloc (.cells (blobCells id s n) 33)) := (Below.refl _ w).alloc (Nat.le_refl _) _
  have hlt0 : w.heap.size < (w.alloc (.cells (blobCells id s n) 33)).heap.size := hA0.lt
  have HS := Lib.hid hS
  clear hS
  go_enter Tryd.func6, Tryd.ntmps6
  go_upto_region 1 with fail
  generalize w.alloc (.cells (blobCells id s n) 33) = w1 at *
  obtain ⟨B, hB⟩ : ∃ B, w.heap.size = B := ⟨_, rfl⟩
  rw [hB] at hA0 hb0 hlt0 hS0 ⊢
  have hS1 := HS.out.below hb0 hS0
  have hAw := awake_any w1 hS1
  go_wp2_with fail
  refine hAw.mono ?_
  rintro e w2 ⟨rfl, hb2⟩
  have HB2 := Lib.hid (hb0.trans (hb2.mono (by omega)))
  have hA2 := hA0.below hb2 (by omega)
  have hS2 := hS1.below hb2 (by omega)
  clear hAw hA0 hb0 hS1 hb2
  by_cases hlab : 32 < lab.size
  · have e1 : decide ((32 : Int) < (lab.size : Int)) = true := by simp; omega
    have hAw := awake_any w2 hS2
    go_upto_region 2 with fail
    go_wp2_with fail
    refine hAw.mono ?_
    rintro e w3 ⟨rfl, hb3⟩
    have HB3 := Lib.hid (HB2.out.trans (hb3.mono (by have := hA2.lt; omega)))
    go_wp2
    go_ret
    exact ⟨rfl, by rw [hB]; exact HB3.out⟩
  · have e1 : decide ((32 : Int) < (lab.size : Int)) = false := by simp; omega
    have hN := new_vol 100000 100000 (by omega) rfl w2
    have hz2 := hA2.lt
    obtain ⟨C, hC⟩ : ∃ C, w2.heap.size = C := ⟨_, rfl⟩
    rw [hC] at hN hz2
    go_upto_region 3 with fail
    go_wp2_with fail
    refine hN.mono ?_
    rintro e w3 ⟨g, rfl, hv, hb3⟩
    have hE := erase_vol hv lab (by omega) (by decide)
    rw [erase_new] at hE
    have hA3 := hA2.below hb3 (by omega)
    clear hN hA2
    go_upto_region 4 with fail
    go_wp2_with fail
    refine hE.mono ?_
    rintro e w4 ⟨rfl, h4, st4⟩
    have hb4 : Below C w2 w4 := hb3.trans st4.below
    have hA4 := hA3.below st4.below (by omega)
    have hS4 := hS2.below hb4 (by omega)
    have HB4 := Lib.hid (HB2.out.trans (hb4.mono (by omega)))
    have hg4 := VS.Good.lb 100000 lab
    have hs4 : ({ VS.new 100000 with lab := lab, er := 1 } : VS).l = [] := rfl
    have h4 : Vol w4 C g { VS.new 100000 with lab := lab, er := 1 } := h4
    generalize ({ VS.new 100000 with lab := lab, er := 1 } : VS) = v at *
    have c1 := hA4.cell 1
    have c2 := hA4.cell 2
    have hL := long_any s n w4
    have hls := longOf_size s n
    have hld : (longOf s n).data.toList.length = (longOf s n).size := by simp
    have h20 := partsOf_le (show (longOf s n).size ≤ 4000 by omega)
    have hwt : weightOf (longOf s n).size ≤ 90000 := by unfold weightOf; omega
    have hW := write_good h4 hg4 hS4 (by omega) (by omega) (by rw [hs4]; simp) id hid (longOf s n) (by omega) (by rw [hs4]; show ((0 : Nat) : Int) + _ ≤ _; omega)
    have hsum := VS.wrote_sum (s := v) (id := id) (d := (longOf s n).data.toList) (by rw [hg4.lab]; omega) (by rw [hs4]; simp) hid (by omega)
    have hlen := VS.wrote_len v id (longOf s n).data.toList
    rw [hs4] at hlen hsum hW
    rw [hld] at hlen hsum
    simp only [List.length_nil, Nat.zero_add, wsum_nil] at hlen hsum hW
    have hgw := hg4.wrote id (longOf s n).data.toList
    have HW := Lib.hid hW
    have HL := Lib.hid hL
    have HA4 := Lib.hid hA4
    clear hE hb3 st4 hv hA3 hb4 hS4 h4 hg4 hs4 hW hL hA4
    generalize v.wrote id (longOf s n).data.toList = v5 at *
    generalize longOf s n = d at *
    go_upto_region 6 with fail
    go_wp2_with fail
    refine HL.out.mono ?_
    rintro e w5 ⟨rfl, rfl⟩
    have c0 := HA4.out.cell 0
    clear c1 c2 HL
    go_upto_region 7 with fail
    go_wp2_with fail
    refine HW.out.mono ?_
    rintro e w5 ⟨rfl, h5, st5⟩
    have HB5 := Lib.hid (HB4.out.trans (st5.below.mono (by omega)))
    have HU := Lib.hid (used_vol h5)
    have HLn := Lib.hid (len_vol h5)
    have HWt := Lib.hid (fun W => weight_any d.size (by omega) W)
    have HPt := Lib.hid (fun W => parts_any d.size (by omega) W)
    have q1 : decide ((wsum v5.l : Int) ≤ (weightOf d.size : Int)) = true := by simp; omega
    have q2 : ((v5.l.length : Int) == (partsOf d.size : Int) + 1) = true := by rw [beq_iff_eq, hlen]; omega
    clear HW c0 h5 st5 HB4 hgw HA4
    go_upto_region 8 with fail
    go_wp2_with fail
    refine HU.out.mono ?_
    rintro e w6 ⟨rfl, rfl⟩
    go_wp2_with fail
    refine (HWt.out _).mono ?_
    rintro e w6 ⟨rfl, rfl⟩
    go_wp2_with fail
    refine HLn.out.mono ?_
    rintro e w6 ⟨rfl, rfl⟩
    go_wp2_with fail
    refine (HPt.out _).mono ?_
    rintro e w6 ⟨rfl, rfl⟩
    go_wp2
    go_ret
    exact ⟨rfl, by rw [hB]; exact HB5.out⟩
end Go.Proofs.YtcbeikiglccgaaaDoor
