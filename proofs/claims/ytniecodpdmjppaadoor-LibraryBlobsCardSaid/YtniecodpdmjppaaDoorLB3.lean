/- Tr, Ta, Ti, Tj, Cu, Tl, Tk, Tbm, Rf, Obs, Bkm: merged (a claim holds few files). -/
import Derived.Test.YtniecodpdmjppaaDoorLB2
import Derived.Deep.DeepAppendWide
import Derived.Test.YtniecodpdmjppaaDoorProg
import Derived.Test.YtniecodpdmjppaaDoorChecked
import Derived.WalkKit
import Derived.WalkSpells
import Derived.WalkLawsBesides
import Derived.Test.YtniecodpdmjppaaDoorRg
import Derived.Test.YtniecodpdmjppaaDoorOb
/- tapefmt.Read: its walk. Written by gen_tr.py. -/
namespace Go.Proofs.YtniecodpdmjppaaDoor
open Go.RowKit
open Sm
set_option linter.unusedVariables false
set_option linter.unusedSimpArgs false
theorem list_ex32 {l : List Value} (h : l.length = 32) : ∃ z0 z1 z2 z3 z4 z5 z6 z7 z8 z9 z10 z11 z12 z13 z14 z15 z16 z17 z18 z19 z20 z21 z22 z23 z24 z25 z26 z27 z28 z29 z30 z31, l = [z0, z1, z2, z3, z4, z5, z6, z7, z8, z9, z10, z11, z12, z13, z14, z15, z16, z17, z18, z19, z20, z21, z22, z23, z24, z25, z26, z27, z28, z29, z30, z31] := by
  obtain ⟨z0, l0, rfl, h0⟩ := list_ex h
  obtain ⟨z1, l1, rfl, h1⟩ := list_ex h0
  obtain ⟨z2, l2, rfl, h2⟩ := list_ex h1
  obtain ⟨z3, l3, rfl, h3⟩ := list_ex h2
  obtain ⟨z4, l4, rfl, h4⟩ := list_ex h3
  obtain ⟨z5, l5, rfl, h5⟩ := list_ex h4
  obtain ⟨z6, l6, rfl, h6⟩ := list_ex h5
  obtain ⟨z7, l7, rfl, h7⟩ := list_ex h6
  obtain ⟨z8, l8, rfl, h8⟩ := list_ex h7
  obtain ⟨z9, l9, rfl, h9⟩ := list_ex h8
  obtain ⟨z10, l10, rfl, h10⟩ := list_ex h9
  obtain ⟨z11, l11, rfl, h11⟩ := list_ex h10
  obtain ⟨z12, l12, rfl, h12⟩ := list_ex h11
  obtain ⟨z13, l13, rfl, h13⟩ := list_ex h12
  obtain ⟨z14, l14, rfl, h14⟩ := list_ex h13
  obtain ⟨z15, l15, rfl, h15⟩ := list_ex h14
  obtain ⟨z16, l16, rfl, h16⟩ := list_ex h15
  obtain ⟨z17, l17, rfl, h17⟩ := list_ex h16
  obtain ⟨z18, l18, rfl, h18⟩ := list_ex h17
  obtain ⟨z19, l19, rfl, h19⟩ := list_ex h18
  obtain ⟨z20, l20, rfl, h20⟩ := list_ex h19
  obtain ⟨z21, l21, rfl, h21⟩ := list_ex h20
  obtain ⟨z22, l22, rfl, h22⟩ := list_ex h21
  obtain ⟨z23, l23, rfl, h23⟩ := list_ex h22
  obtain ⟨z24, l24, rfl, h24⟩ := list_ex h23
  obtain ⟨z25, l25, rfl, h25⟩ := list_ex h24
  obtain ⟨z26, l26, rfl, h26⟩ := list_ex h25
  obtain ⟨z27, l27, rfl, h27⟩ := list_ex h26
  obtain ⟨z28, l28, rfl, h28⟩ := list_ex h27
  obtain ⟨z29, l29, rfl, h29⟩ := list_ex h28
  obtain ⟨z30, l30, rfl, h30⟩ := list_ex h29
  obtain ⟨z31, l31, rfl, h31⟩ := list_ex h30
  cases l31 with
  | nil => exact ⟨z0, z1, z2, z3, z4, z5, z6, z7, z8, z9, z10, z11, z12, z13, z14, z15, z16, z17, z18, z19, z20, z21, z22, z23, z24, z25, z26, z27, z28, z29, z30, z31, rfl⟩
  | cons _ _ => cases h31

set_option maxRecDepth 100000 in
set_option maxHeartbeats 8000000 in
theorem rblob_any {w : World} {B g : Nat} {s : VS} (h : Vol w B g s) (hc : s.Calm) (hS : Steps w) (hB : 0 < B) (from_ : Nat) (hf : from_ ≤ s.l.length) (id : Nat) (hid : id < 18446744073709551616) :
    Calls Tryd.prog 27 #[.pointer (some ⟨g, 0, none⟩), .int .i64 (from_ : Int), .int .u64 (id : Int)] w (ReadRet w B g s (rdGo s.lab from_ id (s.l.drop from_) 0 [])) := by
  have hbz := h.bz
  have hw0 := hS.1
  have hK := seek_vol h from_
  have hsk : s.seek from_ = ({ s with pos := from_ }, 0) := by
    rw [hc.seek, if_neg (by omega), Int.toNat_natCast]
  rw [hsk] at hK
  have hlen := h.1.len
  have HC := Lib.hid hc
  have HS := Lib.hid hS
  have hlbz := h.1.lab
  have HP : Hid (∀ (lab : ByteArray) (k pos : Nat) (acc : List UInt8), pos ≤ s.l.length → _) := Lib.hid fun lab k pos acc hp => rd_next (s := { s with pos := pos }) ⟨hc.lo, hc.lf, hc.pr⟩ hp lab from_ id k acc
  clear h hc hsk hS
  obtain ⟨R, hR⟩ : ∃ R, rdGo s.lab from_ id (s.l.drop from_) 0 [] = R := ⟨_, rfl⟩
  rw [hR]
  have HR := Lib.hid hR
  clear hR
  go_enter Tryd.func27, Tryd.ntmps27
  go_wp2_with fail
  refine hK.mono ?_
  rintro e w1 ⟨rfl, h1, st1⟩
  have h1 : Vol w1 B g { s with pos := from_ } := h1
  have hbd := BdIs.new w1
  have h2 := h1.alloc (.cells #[.pointer none, .slice none 0 0] 84)
  have st2 : Stay B g w (w1.alloc (.cells #[.pointer none, .slice none 0 0] 84)) := st1.trans (Stay.alloc _ _ h1.bz)
  have hlow := st1.size
  have H2 := Lib.hid h2
  have ST2 := Lib.hid st2
  have HBD := Lib.hid hbd
  clear h1 st1 hbd h2 st2 hK
  go_upto_region 5 with fail
  generalize w1.alloc (.cells #[.pointer none, .slice none 0 0] 84) = w2 at *
  generalize hb' : w1.heap.size = b at *
  clear hb'
  have G2 : Hid (∃ acc : List UInt8, acc.length ≤ 200 * 0 ∧ Vol w2 B g { s with pos := from_ + 0 } ∧ BdIs w2 b acc ∧ rdGo s.lab from_ id (s.l.drop (from_ + 0)) 0 acc = R) := Lib.hid ⟨[], by simp, H2.out, HBD.out, HR.out⟩
  clear H2 HBD HR
  go_wp2
  go_loopw [10] (fun i wr => ∃ k : Nat, from_ + k ≤ s.l.length ∧ i = .int .i64 (k : Int) ∧ Hid (∃ acc : List UInt8, acc.length ≤ 200 * k ∧ Vol wr B g { s with pos := from_ + k } ∧ BdIs wr b acc ∧ rdGo s.lab from_ id (s.l.drop (from_ + k)) k acc = R) ∧ Hid (Stay B g w wr))
    (fun i _ => s.l.length - from_ - (intOf i).toNat)
  case atStart => exact ⟨0, by omega, rfl, G2, ST2⟩
  case round =>
    clear G2 ST2
    obtain ⟨k, hk, rfl, HG, HST⟩ := hrel
    obtain ⟨acc, hacc, hv, hbd, hrd⟩ := HG.out
    have hSr := HS.out.below HST.out.below hB
    have hN := next_any hv hSr hB
    have hp := HP.out s.lab k (from_ + k) acc hk
    have HBD := Lib.hid hbd
    have HRD := Lib.hid hrd
    clear HG hv hbd hrd hSr HP
    rcases hp with ⟨ee, p, q, he0, hnx, hR⟩ | ⟨p, hplt, hgot, hnx, hR⟩
    · rw [hnx] at hN
      have hre : R = ([], ee) := HRD.out.symm.trans hR
      subst hre
      have heb : ((ee : Int) != 0) = true := by rw [bne_iff_ne]; omega
      have hC8 : p.cells.size = 8 := rfl
      have hC1 : p.cells.all (·.oneCell') = true := by simp [Value.oneCell']
      unfold NextEnds Pc.val at hN
      simp only at hN
      generalize p.cells = C at *
      have hI8 : (Tryd.prog.info? 78).map (·.size) = some C.size := by rw [hC8]; kernel_rfl
      have hI9 : pcZero.size = C.size := by rw [hC8]; rfl
      have HI8 := Lib.hid hI8
      have HI9 := Lib.hid hI9
      have HC1 := Lib.hid hC1
      clear hnx hR HRD he0 hC8 hC1 hI8 hI9
      go_wp2_with fail
      refine hN.mono ?_
      rintro e w3 ⟨rfl, h3, st3⟩
      have HST3 := Lib.hid (HST.out.trans st3)
      have H3 := Lib.hid h3
      have HX := Lib.hid (At.new w3 78 pcZero)
      have hWZ : (w3.alloc (.cells pcZero 78)).heap.size = w3.heap.size + 1 := by simp
      clear hN h3 st3 HST HBD
      go_wp2_with (refine wpList_store_whole rfl 78 _ _ rfl w3.heap.size C rfl rfl 78 _ HX.out HI8.out HI9.out HC1.out ?_; intro w9 hZ9 hG9; replace hZ9 := Lib.hid hZ9; replace hG9 := Lib.hid hG9)
      have hb9 : Below w3.heap.size w3 w9 := below_of_grownBy ((Below.refl _ w3).alloc (Nat.le_refl _) _) hG9.out (by rw [hWZ]; omega) (Nat.le_refl _)
      go_ret2
      exact ⟨rfl, ⟨q, H3.out.below hb9⟩, HST3.out.trans (Stay.of_below hb9 H3.out.bz)⟩
    · rw [hnx] at hN
      obtain ⟨pl, pb, pi, pp, pn, pz, ps, pd⟩ := p
      have hR2 := HRD.out.symm.trans hR
      obtain ⟨t, ht⟩ : ∃ t, ({ s with pos := from_ + k + 1 } : VS) = t := ⟨_, rfl⟩
      rw [ht] at hN
      have htl : t.lab = s.lab := by rw [← ht]
      have hLa : ∀ W, Vol W B g t → Calls Tryd.prog 13 #[.pointer (some ⟨g, 0, none⟩)] W fun e w' => e = .returned (.string s.lab) ∧ Below W.heap.size W w' := fun W hW => by
        have := label_any hW
        rw [htl] at this
        exact this
      obtain ⟨lab, hlab⟩ : ∃ lab, s.lab = lab := ⟨_, rfl⟩
      have HLAB := Lib.hid hlab
      rw [hlab] at hLa hR2
      obtain ⟨q1, q2, q3, q4, q5, q6, q7, q8⟩ := hgot
      simp only at hR2 q1 q2 q3 q4 q5 q6 q7 q8
      have hPt := fun W => parts_any pz (by omega) W
      obtain ⟨n2, hn2⟩ : ∃ n2, partsOf pz = n2 := ⟨_, rfl⟩
      have hn20 : n2 ≤ 20 := by rw [← hn2]; exact partsOf_le q2
      rw [hn2] at hPt hR2
      unfold NextEnds Pc.val Pc.cells at hN
      simp only at hN
      have hC1 : (#[.string pl, .int .i64 (pb : Nat), .int .u64 (pi : Nat), .int .i64 (pp : Nat), .int .i64 (pn : Nat), .int .i64 (pz : Nat), .int .u32 (ps : Nat), .string pd] : Array Value).all (·.oneCell') = true := by simp [Value.oneCell']
      have HC1 := Lib.hid hC1
      have HR2 := Lib.hid hR2
      have HT := Lib.hid ht
      have HLA := Lib.hid hLa
      have HPT := Lib.hid hPt
      clear hnx hR HRD ht htl hlab hn2 hC1 hR2 hLa hPt
      go_wp2_with fail
      refine hN.mono ?_
      rintro e w3 ⟨rfl, h3, st3⟩
      have HST3 := Lib.hid (HST.out.trans st3)
      have H3 := Lib.hid h3
      have HBD3 := Lib.hid (HBD.out.stay st3.toStay0)
      have HX := Lib.hid (At.new w3 78 pcZero)
      have hWZ : (w3.alloc (.cells pcZero 78)).heap.size = w3.heap.size + 1 := by simp
      clear hN h3 st3 HST HBD
      go_upto_region 8 with (refine wpList_store_whole rfl 78 _ _ rfl w3.heap.size #[.string pl, .int .i64 (pb : Nat), .int .u64 (pi : Nat), .int .i64 (pp : Nat), .int .i64 (pn : Nat), .int .i64 (pz : Nat), .int .u32 (ps : Nat), .string pd] rfl rfl 78 _ HX.out (by kernel_rfl) (by kernel_rfl) HC1.out ?_; intro w9 hZ9 hG9; replace hZ9 := Lib.hid hZ9; replace hG9 := Lib.hid hG9)
      have hb9 : Below w3.heap.size w3 w9 := below_of_grownBy ((Below.refl _ w3).alloc (Nat.le_refl _) _) hG9.out (by rw [hWZ]; omega) (Nat.le_refl _)
      have hst9 := HST3.out.trans (Stay.of_below hb9 H3.out.bz)
      have hT9 : RdT w B g t b acc w3.heap.size #[.string pl, .int .i64 (pb : Nat), .int .u64 (pi : Nat), .int .i64 (pp : Nat), .int .i64 (pn : Nat), .int .i64 (pz : Nat), .int .u32 (ps : Nat), .string pd] w9 := ⟨H3.out.below hb9, hst9, HS.out.below hst9.below hB, HBD3.out.below hb9, hZ9.out, hlow⟩
      clear hb9 hst9 HST3 H3 HBD3 HX hWZ hZ9 hG9 HC1
      generalize w3.heap.size = X at *
      have KC : Hid (∀ w', RdT w B g t b acc X #[.string pl, .int .i64 (pb : Nat), .int .u64 (pi : Nat), .int .i64 (pp : Nat), .int .i64 (pn : Nat), .int .i64 (pz : Nat), .int .u32 (ps : Nat), .string pd] w' → w'.cell? ⟨X, 0, none⟩ = some (.string pl) ∧ w'.cell? ⟨X, 1, none⟩ = some (.int .i64 (pb : Nat)) ∧ w'.cell? ⟨X, 2, none⟩ = some (.int .u64 (pi : Nat)) ∧ w'.cell? ⟨X, 3, none⟩ = some (.int .i64 (pp : Nat)) ∧ w'.cell? ⟨X, 4, none⟩ = some (.int .i64 (pn : Nat)) ∧ w'.cell? ⟨X, 5, none⟩ = some (.int .i64 (pz : Nat)) ∧ w'.cell? ⟨X, 6, none⟩ = some (.int .u32 (ps : Nat)) ∧ w'.cell? ⟨X, 7, none⟩ = some (.string pd)) := Lib.hid fun w' h => ⟨h.at_.cell 0, h.at_.cell 1, h.at_.cell 2, h.at_.cell 3, h.at_.cell 4, h.at_.cell 5, h.at_.cell 6, h.at_.cell 7⟩
      obtain ⟨x0, x1, x2, x3, x4, x5, x6, x7⟩ := KC.out w9 hT9
      clear x6 x7
      have hsum : IntKind.i64.wrap ((from_ : Int) + (k : Int)) = (from_ : Int) + (k : Int) := by rw [IntKind.wrap_i64]; omega
      have hfk : from_ + k ≤ 1000000 := by omega
      have hc5 : ((!pl.toList == lab.toList) || ((pb : Int) != (from_ : Int) + (k : Int)) || ((pi : Int) != (id : Int)) || ((pp : Int) != (k : Int)) || ((pn : Int) != (n2 : Int))) = true ↔ (pl ≠ lab ∨ pb ≠ from_ + k ∨ pi ≠ id ∨ pp ≠ k ∨ pn ≠ n2) := by
        have f1 : (!pl.toList == lab.toList) = true ↔ pl ≠ lab := by
          rw [Bool.not_eq_true', beq_eq_false_iff_ne]
          exact ⟨fun h e => h (by rw [e]), fun h e => h (ByteArray.ext (by rw [ByteArray.toList_eq, ByteArray.toList_eq] at e; exact Array.toList_inj.1 e))⟩
        simp only [Bool.or_eq_true, f1, bne_iff_ne, or_assoc]
        constructor <;> (rintro (h | h | h | h | h); exact .inl h; exact .inr (.inl (by omega)); exact .inr (.inr (.inl (by omega))); exact .inr (.inr (.inr (.inl (by omega)))); exact .inr (.inr (.inr (.inr (by omega)))))
      go_upto_region 10 with fail
      refine rg_region rfl ⟨rfl, rfl, rfl, rfl, rfl, rfl, rfl, rfl, rfl, rfl, hfk, HLA.out, HPT.out⟩ hT9 ?_
      intro xs w5 hxs hr5
      generalize ((!pl.toList == lab.toList) || ((pb : Int) != (from_ : Int) + (k : Int)) || ((pi : Int) != (id : Int)) || ((pp : Int) != (k : Int)) || ((pn : Int) != (n2 : Int))) = m at hc5 ⊢
      obtain ⟨z0, z1, z2, z3, z4, z5, z6, z7, z8, z9, z10, z11, z12, z13, z14, z15, z16, z17, z18, z19, z20, z21, z22, z23, z24, z25, z26, z27, z28, z29, z30, z31, rfl⟩ := list_ex32 hxs
      clear hxs
      simp only [List.take_succ_cons, List.take_zero, List.drop_succ_cons, List.drop_zero, List.cons_append, List.nil_append]
      cases m with
      | true =>
        have hre := HR2.out
        rw [if_pos (hc5.1 rfl)] at hre
        subst hre
        have HR5 := Lib.hid hr5
        clear HR2 hc5 hr5 hT9 KC HPT HLA x0 x1 x2 x3 x4 x5
        go_wp2
        go_ret2
        exact ⟨rfl, ⟨_, by have := HR5.out.vol; rw [← HT.out] at this; exact this⟩, HR5.out.stay⟩
      | false =>
        have hre := HR2.out
        have hnc : ¬ (pl ≠ lab ∨ pb ≠ from_ + k ∨ pi ≠ id ∨ pp ≠ k ∨ pn ≠ n2) := fun h => by have := hc5.2 h; cases this
        rw [if_neg hnc] at hre
        have hpn : pn = n2 := Classical.byContradiction fun h => hnc (.inr (.inr (.inr (.inr h))))
        have hpk : pp = k := Classical.byContradiction fun h => hnc (.inr (.inr (.inr (.inl h))))
        have HRE := Lib.hid hre
        clear hre HR2 hc5 hnc HPT HLA x0 x1 x2 x3 x4 x5
        have x7 := (KC.out w5 hr5).2.2.2.2.2.2.2
        have hwl : b < w5.heap.size := hr5.bd.lt
        have hWS := Tryd.Builder_WriteString_k b b (Lib.byteCells acc) pd w5 hr5.bd (by simp only [Lib.byteCells, List.length_map]; omega) (by omega)
        have HR5 := Lib.hid hr5
        have HBS : Hid (∀ w6, Lib.BuilderAtF 84 5 b b (.pointer (some ⟨b, 0, none⟩)) (Lib.byteCells acc ++ Lib.strCells pd) w6 → Below b w5 w6 → Lib.OthersKept 5 (some b) w5 w6 → RdT w B g t b (acc ++ pd.data.toList) X #[.string pl, .int .i64 (pb : Nat), .int .u64 (pi : Nat), .int .i64 (pp : Nat), .int .i64 (pn : Nat), .int .i64 (pz : Nat), .int .u32 (ps : Nat), .string pd] w6) := Lib.hid fun w6 h1 h2 h3 => RdT.others hr5 hbz hw0 (.inr (by
          have e : Lib.byteCells (acc ++ pd.data.toList) = Lib.byteCells acc ++ Lib.strCells pd := by simp [Lib.byteCells, Lib.strCells]
          rw [e]; exact h1)) h2 h3
        clear hr5 hT9 KC
        go_wp2_with fail
        refine hWS.mono ?_
        rintro e w6 ⟨rfl, hbd6, hb6, ho6⟩
        have hr6 := HBS.out w6 hbd6 hb6 ho6
        clear hWS hbd6 hb6 ho6 HBS HR5 x7
        have hac : (acc ++ pd.data.toList).length ≤ 200 * (k + 1) := by have hpz : pd.data.toList.length = pd.size := (by simp); rw [List.length_append]; omega
        obtain ⟨ac2, hac2⟩ : ∃ ac2, acc ++ pd.data.toList = ac2 := ⟨_, rfl⟩
        have hre := HRE.out
        rw [hac2] at hr6 hre hac
        clear HRE hac2
        have HRE := Lib.hid hre
        clear hre
        have y4 : w6.cell? ⟨X, 4, none⟩ = some (.int .i64 (pn : Nat)) := hr6.at_.cell 4
        have HR6 := Lib.hid hr6
        clear hr6
        by_cases hlast : k + 1 = pn
        · have hre := HRE.out
          rw [if_pos hlast] at hre
          have z1 : ((k : Int) == (pn : Int) - 1) = true := by rw [beq_iff_eq]; omega
          clear HRE
          go_upto_region 14 with fail
          obtain ⟨x0, x1, x2, x3, x4, x5, x6, x7⟩ : w6.cell? ⟨X, 0, none⟩ = some (.string pl) ∧ w6.cell? ⟨X, 1, none⟩ = some (.int .i64 (pb : Nat)) ∧ w6.cell? ⟨X, 2, none⟩ = some (.int .u64 (pi : Nat)) ∧ w6.cell? ⟨X, 3, none⟩ = some (.int .i64 (pp : Nat)) ∧ w6.cell? ⟨X, 4, none⟩ = some (.int .i64 (pn : Nat)) ∧ w6.cell? ⟨X, 5, none⟩ = some (.int .i64 (pz : Nat)) ∧ w6.cell? ⟨X, 6, none⟩ = some (.int .u32 (ps : Nat)) ∧ w6.cell? ⟨X, 7, none⟩ = some (.string pd) := ⟨HR6.out.at_.cell 0, HR6.out.at_.cell 1, HR6.out.at_.cell 2, HR6.out.at_.cell 3, HR6.out.at_.cell 4, HR6.out.at_.cell 5, HR6.out.at_.cell 6, HR6.out.at_.cell 7⟩
          have hT6 : RdT w B g t b ac2 X #[.string pl, .int .i64 (pb : Nat), .int .u64 (pi : Nat), .int .i64 (pp : Nat), .int .i64 (pn : Nat), .int .i64 (pz : Nat), .int .u32 (ps : Nat), .string pd] w6 := HR6.out
          obtain ⟨sx, hsx⟩ : ∃ sx : ByteArray, (⟨ac2.toArray⟩ : ByteArray) = sx := ⟨_, rfl⟩
          have hsd : sx.data.toList = ac2 := by rw [← hsx]
          have hsz : sx.size ≤ 1000000 := by rw [← hsx, str_len]; omega
          have HST14 : Hid (∀ W, RdT w B g t b ac2 X #[.string pl, .int .i64 (pb : Nat), .int .u64 (pi : Nat), .int .i64 (pp : Nat), .int .i64 (pn : Nat), .int .i64 (pz : Nat), .int .u32 (ps : Nat), .string pd] W → Calls Tryd.prog 50 #[.pointer (some ⟨b, 0, none⟩)] W fun e w' => e = .returned (.string sx) ∧ RdT w B g t b ac2 X #[.string pl, .int .i64 (pb : Nat), .int .u64 (pi : Nat), .int .i64 (pp : Nat), .int .i64 (pn : Nat), .int .i64 (pz : Nat), .int .u32 (ps : Nat), .string pd] w') := Lib.hid fun W h => by
            have hlt := h.bd.lt
            have := Tryd.Builder_String_any_k b b ac2 W h.bd (by omega)
            rw [hsx] at this
            exact this.mono fun e w' ⟨h1, h2, h3, h4⟩ => ⟨h1, RdT.others h hbz hw0 h2 h3 h4⟩
          have HWH : Hid (∀ W, RdT w B g t b ac2 X #[.string pl, .int .i64 (pb : Nat), .int .u64 (pi : Nat), .int .i64 (pp : Nat), .int .i64 (pn : Nat), .int .i64 (pz : Nat), .int .u32 (ps : Nat), .string pd] W → Calls Tryd.prog 49 #[.agg #[.string pl, .int .i64 (pb : Nat), .int .u64 (pi : Nat), .int .i64 (pp : Nat), .int .i64 (pn : Nat), .int .i64 (pz : Nat), .int .u32 (ps : Nat), .string pd], .string sx] W fun e w' => e = .returned (.tuple #[.string ⟨R.1.toArray⟩, .int .i64 (R.2 : Nat)]) ∧ RdT w B g t b ac2 X #[.string pl, .int .i64 (pb : Nat), .int .u64 (pi : Nat), .int .i64 (pp : Nat), .int .i64 (pn : Nat), .int .i64 (pz : Nat), .int .u32 (ps : Nat), .string pd] w') := Lib.hid fun W h => by
            have := whole_any ⟨pl, pb, pi, pp, pn, pz, ps, pd⟩ sx hsz W h.steps
            rw [hsd, ← hre] at this
            exact this.mono fun e w' ⟨h1, h2⟩ => ⟨h1, h.after h2⟩
          have HKC : Hid (∀ w', RdT w B g t b ac2 X #[.string pl, .int .i64 (pb : Nat), .int .u64 (pi : Nat), .int .i64 (pp : Nat), .int .i64 (pn : Nat), .int .i64 (pz : Nat), .int .u32 (ps : Nat), .string pd] w' → w'.cell? ⟨X, 0, none⟩ = some (.string pl) ∧ w'.cell? ⟨X, 1, none⟩ = some (.int .i64 (pb : Nat)) ∧ w'.cell? ⟨X, 2, none⟩ = some (.int .u64 (pi : Nat)) ∧ w'.cell? ⟨X, 3, none⟩ = some (.int .i64 (pp : Nat)) ∧ w'.cell? ⟨X, 4, none⟩ = some (.int .i64 (pn : Nat)) ∧ w'.cell? ⟨X, 5, none⟩ = some (.int .i64 (pz : Nat)) ∧ w'.cell? ⟨X, 6, none⟩ = some (.int .u32 (ps : Nat)) ∧ w'.cell? ⟨X, 7, none⟩ = some (.string pd)) := Lib.hid fun w' h => ⟨h.at_.cell 0, h.at_.cell 1, h.at_.cell 2, h.at_.cell 3, h.at_.cell 4, h.at_.cell 5, h.at_.cell 6, h.at_.cell 7⟩
          clear hsx hsd hsz hre y4 HR6 z1 hac hlast hpn hpk
          go_region_held3 (fun w' => w'.cell? ⟨X, 0, none⟩ = some (.string pl) ∧ w'.cell? ⟨X, 1, none⟩ = some (.int .i64 (pb : Nat)) ∧ w'.cell? ⟨X, 2, none⟩ = some (.int .u64 (pi : Nat)) ∧ w'.cell? ⟨X, 3, none⟩ = some (.int .i64 (pp : Nat)) ∧ w'.cell? ⟨X, 4, none⟩ = some (.int .i64 (pn : Nat)) ∧ w'.cell? ⟨X, 5, none⟩ = some (.int .i64 (pz : Nat)) ∧ w'.cell? ⟨X, 6, none⟩ = some (.int .u32 (ps : Nat)) ∧ w'.cell? ⟨X, 7, none⟩ = some (.string pd) ∧ RdT w B g t b ac2 X #[.string pl, .int .i64 (pb : Nat), .int .u64 (pi : Nat), .int .i64 (pp : Nat), .int .i64 (pn : Nat), .int .i64 (pz : Nat), .int .u32 (ps : Nat), .string pd] w') (go_keep)
            (first
             | (go_at_call 50; refine (HST14.out _ (by first | assumption | (apply RdT.drew; assumption))).mono ?_; rintro e w7 ⟨rfl, hr7⟩; obtain ⟨k0, k1, k2, k3, k4, k5, k6, k7⟩ := HKC.out w7 hr7)
             | (go_at_call 49; refine (HWH.out _ (by first | assumption | (apply RdT.drew; assumption))).mono ?_; rintro e w8 ⟨rfl, hr8⟩; obtain ⟨m0, m1, m2, m3, m4, m5, m6, m7⟩ := HKC.out w8 hr8))
          all_goals
            have HR8 := Lib.hid hr8
            clear hr8
            go_wp2
            go_ret2
            exact ⟨rfl, ⟨_, by have := HR8.out.vol; rw [← HT.out] at this; exact this⟩, HR8.out.stay⟩
        · have hre := HRE.out
          rw [if_neg hlast] at hre
          have z1 : ((k : Int) == (pn : Int) - 1) = false := by rw [beq_eq_false_iff_ne]; omega
          have HRE2 := Lib.hid hre
          clear hre HRE
          go_wp2
          go_roundw
          case rel => exact ⟨k + 1, by omega, by go_num, Lib.hid ⟨ac2, hac, by have := HR6.out.vol; rw [← HT.out] at this; exact this, HR6.out.bd, by rw [HLAB.out]; exact HRE2.out.symm⟩, Lib.hid HR6.out.stay⟩
          case measure => simp [intOf]; omega


end Go.Proofs.YtniecodpdmjppaaDoor

/- What Write makes of a calm volume; the tape of blobs. -/
namespace Go.Proofs.YtniecodpdmjppaaDoor
open Go.RowKit
open Sm
set_option linter.unusedVariables false
set_option linter.unusedSimpArgs false

theorem wgo_ok {rm : Int} : ∀ (bs : List Blk) (s : VS), s.Fresh rm → (∀ b ∈ bs, b.torn = false) → (wsum s.l : Int) + wsum bs ≤ rm → s.wgo bs = ({ s with l := s.l ++ bs, pos := s.pos + bs.length }, 0) := by
  intro bs
  induction bs with
  | nil => intro s _ _ _; unfold VS.wgo; simp
  | cons b r ih =>
    intro s h ht hw
    rw [wsum_cons] at hw
    have hb := ht b (by simp)
    have ha := h.add b
    rw [if_neg (by omega)] at ha
    unfold VS.wgo
    rw [ha, if_neg (by simp)]
    rw [ih _ (h.more b hb) (fun x hx => ht x (by simp [hx])) (by show (wsum (s.l ++ [b]) : Int) + _ ≤ _; rw [wsum_append, wsum_one]; omega)]
    simp [Nat.add_assoc, Nat.add_comm, Nat.add_left_comm]

theorem piece_wt {lab : ByteArray} {first id i : Nat} {d : List UInt8} (hl : lab.size ≤ 32) (hf : first + 20 ≤ 1000000) (hid : id < 18446744073709551616) (hd : d.length ≤ 4000) (hi : i < partsOf d.length) : (pieceBlk (pieceOf lab first id d i)).wt ≤ 71 + (chunkOf d i).length := by
  have h20 := partsOf_le hd
  have hok := pieceOf_ok hl (by omega : first + i ≤ 1000000) hid hd hi
  have he := enc_len hok (by show first + i ≤ _; omega) (by show partsOf d.length ≤ _; omega)
  have e1 : (pieceOf lab first id d i).data.size = (chunkOf d i).length := by show (⟨(chunkOf d i).toArray⟩ : ByteArray).size = _; rw [str_len]
  unfold pieceBlk Blk.wt Pc.spell
  show (⟨(frameL _).toArray⟩ : ByteArray).size + 4 ≤ _
  rw [str_len, frameL_len]
  omega
theorem blob_sum {lab : ByteArray} {first id : Nat} {d : List UInt8} (hl : lab.size ≤ 32) (hf : first + 20 ≤ 1000000) (hid : id < 18446744073709551616) (hd : d.length ≤ 4000) : wsum (blobBlks lab first id d) + 8 ≤ weightOf d.length := by
  have key : ∀ k, k ≤ partsOf d.length → wsum ((List.range k).map fun i => pieceBlk (pieceOf lab first id d i)) ≤ 71 * k + (d.take (200 * k)).length := by
    intro k
    induction k with
    | zero => intro _; simp [wsum]
    | succ k ih =>
      intro hk
      have h1 := ih (by omega)
      have h2 := piece_wt hl hf hid hd (show k < partsOf d.length by omega)
      rw [List.range_succ, List.map_append, wsum_append]
      show wsum _ + wsum [pieceBlk (pieceOf lab first id d k)] ≤ _
      rw [wsum_one, ← chunk_take, List.length_append]
      omega
  have h := key _ (Nat.le_refl _)
  have h3 : (d.take (200 * partsOf d.length)).length ≤ d.length := by rw [List.length_take]; omega
  have h4 := partsOf_pos d.length
  unfold blobBlks weightOf
  omega

/-- a volume on which a blob can be written -/
structure VS.Good (s : VS) (rm : Int) (lab : ByteArray) : Prop where
  calm : s.Calm
  rm : s.rm = rm
  torn : lastTorn s.l = false
  lab : s.lab = lab
theorem VS.Good.lb (rm : Int) (lab : ByteArray) : VS.Good { VS.new rm with lab := lab, er := 1 } rm lab := ⟨⟨rfl, rfl, rfl⟩, rfl, rfl, rfl⟩
theorem erase_new (rm : Int) (lab : ByteArray) : (VS.new rm).erase lab = ({ VS.new rm with lab := lab, er := 1 }, 0) := rfl

def VS.wrote (s : VS) (id : Nat) (d : List UInt8) : VS := { s with l := s.l ++ (blobBlks s.lab s.l.length id d ++ [markBlk]), pos := s.l.length + partsOf d.length + 1, sure := s.l.length + partsOf d.length + 1 }
theorem VS.wrote_len (s : VS) (id : Nat) (d : List UInt8) : (s.wrote id d).l.length = s.l.length + partsOf d.length + 1 := by
  show (s.l ++ (blobBlks s.lab s.l.length id d ++ [markBlk])).length = _
  rw [List.length_append, List.length_append, blobBlks_len]
  simp [Nat.add_assoc]
theorem VS.Good.wrote {s : VS} {rm : Int} {lab : ByteArray} (h : s.Good rm lab) (id : Nat) (d : List UInt8) : (s.wrote id d).Good rm lab :=
  ⟨⟨h.calm.lo, h.calm.lf, h.calm.pr⟩, h.rm, by show lastTorn (s.l ++ (blobBlks s.lab s.l.length id d ++ [markBlk])) = false; rw [← List.append_assoc, lastTorn_append]; rfl, h.lab⟩
theorem VS.Good.pos {s : VS} {rm : Int} {lab : ByteArray} (h : s.Good rm lab) (p : Nat) : VS.Good { s with pos := p } rm lab := ⟨⟨h.calm.lo, h.calm.lf, h.calm.pr⟩, h.rm, h.torn, h.lab⟩
theorem VS.wrote_sum {s : VS} {id : Nat} {d : List UInt8} (hl : s.lab.size ≤ 32) (hf : s.l.length + 20 ≤ 1000000) (hid : id < 18446744073709551616) (hd : d.length ≤ 4000) : wsum (s.wrote id d).l ≤ wsum s.l + weightOf d.length := by
  have h := blob_sum hl hf hid hd
  show wsum (s.l ++ (blobBlks s.lab s.l.length id d ++ [markBlk])) ≤ _
  rw [wsum_append, wsum_append, wsum_one]
  have : markBlk.wt = 4 := rfl
  omega

theorem wblob_ok {s : VS} {rm : Int} {lab : ByteArray} (h : s.Good rm lab) (hl : lab.size ≤ 32) (hf : s.l.length + 20 ≤ 1000000) {id : Nat} (hid : id < 18446744073709551616) {d : List UInt8} (hd : d.length ≤ 4000) (hw : (wsum s.l : Int) + weightOf d.length ≤ rm) : s.wblob id d = (s.wrote id d, (s.l.length : Int), 0) := by
  have hl' : s.lab.size ≤ 32 := by rw [h.lab]; exact hl
  have hbs := blob_sum hl' hf hid hd
  have hsk : s.seek s.l.length = ({ s with pos := s.l.length }, 0) := by
    rw [h.calm.seek, if_neg (by omega), Int.toNat_natCast]
  have hfr : VS.Fresh { s with pos := s.l.length } rm := ⟨⟨h.calm.lo, h.calm.lf, h.calm.pr⟩, h.rm, rfl, h.torn⟩
  have hnt : ∀ b ∈ blobBlks s.lab s.l.length id d, b.torn = false := by
    intro b hb
    unfold blobBlks at hb
    obtain ⟨i, _, rfl⟩ := List.mem_map.1 hb
    rfl
  have hgo := wgo_ok (blobBlks s.lab s.l.length id d) _ hfr hnt (by show (wsum s.l : Int) + _ ≤ _; omega)
  simp only at hgo
  have hfr2 : VS.Fresh { s with l := s.l ++ blobBlks s.lab s.l.length id d, pos := s.l.length + (blobBlks s.lab s.l.length id d).length } rm :=
    ⟨⟨h.calm.lo, h.calm.lf, h.calm.pr⟩, h.rm, by show _ = (s.l ++ _).length; rw [List.length_append], by
      show lastTorn (s.l ++ blobBlks s.lab s.l.length id d) = false
      have hne : blobBlks s.lab s.l.length id d ≠ [] := by
        intro e
        have := blobBlks_len s.lab s.l.length id d
        rw [e] at this
        have := partsOf_pos d.length
        simp at *
        omega
      obtain ⟨x, y, e⟩ : ∃ x y, blobBlks s.lab s.l.length id d = x ++ [y] := ⟨_, _, (List.dropLast_concat_getLast hne).symm⟩
      rw [e, ← List.append_assoc, lastTorn_append]
      exact hnt y (by rw [e]; simp)⟩
  have ha := hfr2.add markBlk
  rw [if_neg (by
    show ¬ rm < (wsum (s.l ++ blobBlks s.lab s.l.length id d) : Int) + markBlk.wt
    have e4 : markBlk.wt = 4 := rfl
    rw [wsum_append, e4]; omega)] at ha
  have hfr3 := hfr2.more markBlk rfl
  have hfl := hfr3.calm.flush
  simp only at ha hfl
  unfold VS.wblob
  rw [hsk]
  simp only
  rw [if_neg (by omega), if_neg (by simp), if_neg (by rw [h.rm]; omega), hgo]
  simp only
  rw [if_neg (by simp), ha]
  simp only
  rw [if_neg (by simp), hfl]
  simp only
  rw [if_neg (by simp)]
  congr 1
  unfold VS.wrote
  congr 1
  · simp
  · simp [blobBlks_len]; omega
  · simp [blobBlks_len]
end Go.Proofs.YtniecodpdmjppaaDoor

/- tapefmt.item: its walk. -/
namespace Go.Proofs.YtniecodpdmjppaaDoor
open Go.RowKit
open Sm
set_option linter.unusedVariables false
set_option linter.unusedSimpArgs false

theorem item_next {s : VS} (hc : s.Calm) {n : Nat} (hn : n ≤ s.l.length) :
    (∃ (e : Nat) (p : Pc) (q : Nat), e ≠ 0 ∧ ({ s with pos := n } : VS).nextP = ({ s with pos := q }, p, (e : Int)) ∧ itemAt s.lab s.l n = (⟨0, 0, 0⟩, e)) ∨
    (∃ p : Pc, n < s.l.length ∧ p.Got ∧ ({ s with pos := n } : VS).nextP = ({ s with pos := n + 1 }, p, 0) ∧ itemAt s.lab s.l n =
      (if (rdGo s.lab n p.id (s.l.drop n) 0 []).2 ≠ 0 then (⟨0, 0, 0⟩, (rdGo s.lab n p.id (s.l.drop n) 0 []).2) else (⟨p.id, n, (rdGo s.lab n p.id (s.l.drop n) 0 []).1.length⟩, 0))) := by
  have hr := (⟨hc.lo, hc.lf, hc.pr⟩ : VS.Calm { s with pos := n }).read
  unfold VS.nextP itemAt
  rw [hr]
  by_cases hlt : n < s.l.length
  · simp only [List.getElem?_eq_getElem hlt]
    generalize s.l[n] = b
    by_cases ht : b.torn = true
    · left
      rw [if_pos ht, if_pos ht]
      exact ⟨4, .no, n, by decide, rfl, rfl⟩
    · rw [if_neg ht, if_neg ht]
      by_cases hm : b.mark = true
      · left
        rw [if_pos hm]
        simp only
        rw [if_neg (by simp), if_pos hm]
        exact ⟨3, .no, n + 1, by decide, rfl, rfl⟩
      · rw [if_neg hm]
        simp only
        rw [if_neg (by simp), if_neg hm]
        by_cases he : (parseL b.t.data.toList).2 ≠ 0
        · left
          rw [if_pos he]
          exact ⟨(parseL b.t.data.toList).2, (parseL b.t.data.toList).1, n + 1, he, rfl, rfl⟩
        · right
          have he0 : (parseL b.t.data.toList).2 = 0 := by omega
          rw [if_neg he]
          exact ⟨(parseL b.t.data.toList).1, hlt, parseL_got he0, by rw [he0]; rfl, rfl⟩
  · left
    simp only [List.getElem?_eq_none (by omega : s.l.length ≤ n)]
    exact ⟨2, .no, n, by decide, rfl, rfl⟩

def itZero : Array Value := #[.int .u64 0, .int .i64 0, .int .i64 0]
def It.cells (i : It) : Array Value := #[.int .u64 (i.id : Nat), .int .i64 (i.from_ : Nat), .int .i64 (i.size : Nat)]
def ItemEnds (w : World) (B g : Nat) (s : VS) (r : It × Nat) (e : Ending) (w' : World) : Prop := e = .returned (.tuple #[.agg r.1.cells, .int .i64 (r.2 : Nat)]) ∧ (∃ pos, Vol w' B g { s with pos := pos }) ∧ Stay B g w w'

set_option maxRecDepth 100000 in
set_option maxHeartbeats 4000000 in
theorem item_any {w : World} {B g : Nat} {s : VS} (h : Vol w B g s) (hc : s.Calm) (hS : Steps w) (hB : 0 < B) (n : Nat) (hn : n ≤ s.l.length) :
    Calls Tryd.prog 51 #[.pointer (some ⟨g, 0, none⟩), .int .i64 (n : Int)] w (ItemEnds w B g s (itemAt s.lab s.l n)) := by
  have hbz := h.bz
  have hlen := h.1.len
  have hR0 := seek_vol (h.alloc (.cells itZero 93)) n
  have hsk : s.seek n = ({ s with pos := n }, 0) := by rw [hc.seek, if_neg (by omega), Int.toNat_natCast]
  rw [hsk] at hR0
  have hst0 : Stay B g w (w.alloc (.cells itZero 93)) := Stay.alloc _ _ hbz
  have hA0 := At.new w 93 itZero
  have hNx := item_next hc hn
  have HS := Lib.hid hS
  have HC := Lib.hid hc
  clear h hS hsk hc
  obtain ⟨RR, hRR⟩ : ∃ RR, itemAt s.lab s.l n = RR := ⟨_, rfl⟩
  rw [hRR] at hNx ⊢
  have HNX := Lib.hid hNx
  clear hNx hRR
  generalize hX : w.heap.size = X at *
  go_enter Tryd.func51, Tryd.ntmps51
  go_wp2_with fail
  refine hR0.mono ?_
  rintro e w1 ⟨rfl, h1, st1⟩
  have HX := Lib.hid hX
  clear hX
  have HA1 := Lib.hid (st1.toStay0.at_ hA0 (by decide) (by decide))
  have HST1 := Lib.hid (hst0.trans st1)
  have hN := next_any h1 (HS.out.below (hst0.trans st1).below hB) hB
  clear hR0 hA0 st1 hst0
  rcases HNX.out with ⟨e0, p, q, he0, hnx, rfl⟩ | ⟨p, hlt, hgot, hnx, hrr⟩
  · rw [hnx] at hN
    have heb : ((e0 : Int) != 0) = true := by rw [bne_iff_ne]; omega
    have hC8 : p.cells.size = 8 := rfl
    have hC1 : p.cells.all (·.oneCell') = true := by simp [Value.oneCell']
    unfold NextEnds Pc.val at hN
    simp only at hN
    generalize p.cells = C at *
    have hI8 : (Tryd.prog.info? 78).map (·.size) = some C.size := by rw [hC8]; kernel_rfl
    have hI9 : pcZero.size = C.size := by rw [hC8]; rfl
    have HI8 := Lib.hid hI8
    have HI9 := Lib.hid hI9
    have HC1 := Lib.hid hC1
    clear hnx he0 hC8 hC1 hI8 hI9 HNX h1
    go_wp2_with fail
    refine hN.mono ?_
    rintro e w3 ⟨rfl, h3, st3⟩
    have HST3 := Lib.hid (HST1.out.trans st3)
    have H3 := Lib.hid h3
    have HA3 := Lib.hid (st3.toStay0.at_ HA1.out (by decide) (by decide))
    have HP := Lib.hid (At.new w3 78 pcZero)
    have hWZ : (w3.alloc (.cells pcZero 78)).heap.size = w3.heap.size + 1 := by simp
    clear hN h3 st3 HST1 HA1
    go_upto_region 5 with (refine wpList_store_whole rfl 78 _ _ rfl w3.heap.size C rfl rfl 78 _ HP.out HI8.out HI9.out HC1.out ?_; intro w9 hZ9 hG9; replace hZ9 := Lib.hid hZ9; replace hG9 := Lib.hid hG9)
    have hb9 : Below w3.heap.size w3 w9 := below_of_grownBy ((Below.refl _ w3).alloc (Nat.le_refl _) _) hG9.out (by rw [hWZ]; omega) (Nat.le_refl _)
    have H9 := Lib.hid (H3.out.below hb9)
    have HST9 := Lib.hid (HST3.out.trans (Stay.of_below hb9 H3.out.bz))
    have HA9 := Lib.hid (HA3.out.below hb9 HA3.out.lt)
    clear hZ9 hG9 HP hWZ H3 HST3 HA3 hb9 HI8 HI9 HC1
    generalize w3.heap.size = X3 at *
    go_wp2_with (refine wpList_store_whole rfl 93 _ _ rfl X itZero rfl rfl 93 _ HA9.out (by kernel_rfl) (by kernel_rfl) (by kernel_rfl) ?_; intro w10 hZ10 hG10; replace hZ10 := Lib.hid hZ10; replace hG10 := Lib.hid hG10)
    refine bodyPost_ret (res_row_tmp rfl _ _ _ _ _ _ rfl hZ10.out Tryd.underlying93 (by kernel_rfl)) rfl ?_
    obtain ⟨v9, st9⟩ := vol_new H9.out HST9.out (by rw [HX.out]; exact hbz) HA9.out (by rw [HX.out]; exact Nat.le_refl _) hG10.out (by decide) (by decide)
    exact ⟨rfl, ⟨_, v9⟩, st9⟩
  · rw [hnx] at hN
    obtain ⟨pl, pb, pi, pp, pn, pz, ps, pd⟩ := p
    obtain ⟨q1, q2, q3, q4, q5, q6, q7, q8⟩ := hgot
    simp only at q1 q2 q3 q4 q5 q6 q7 q8
    unfold NextEnds Pc.val Pc.cells at hN
    simp only at hN
    have hC1 : (#[.string pl, .int .i64 (pb : Nat), .int .u64 (pi : Nat), .int .i64 (pp : Nat), .int .i64 (pn : Nat), .int .i64 (pz : Nat), .int .u32 (ps : Nat), .string pd] : Array Value).all (·.oneCell') = true := by simp [Value.oneCell']
    have HC1 := Lib.hid hC1
    have hRd := fun W pos (hv : Vol W B g { s with pos := pos }) (hSW : Steps W) => rblob_any hv ⟨HC.out.lo, HC.out.lf, HC.out.pr⟩ hSW hB n hn pi q8
    simp only at hRd hrr
    obtain ⟨R, hR⟩ : ∃ R, rdGo s.lab n pi (s.l.drop n) 0 [] = R := ⟨_, rfl⟩
    rw [hR] at hRd hrr
    have HRR := Lib.hid hrr
    obtain ⟨sx, hsx⟩ : ∃ sx : ByteArray, (⟨R.1.toArray⟩ : ByteArray) = sx := ⟨_, rfl⟩
    have hsl : sx.size = R.1.length := by rw [← hsx, str_len]
    unfold ReadRet at hRd
    rw [hsx] at hRd
    have HSL := Lib.hid hsl
    have HRD := Lib.hid hRd
    clear hsl hsx hRd hR hnx hC1 HNX h1 hrr
    go_wp2_with fail
    refine hN.mono ?_
    rintro e w3 ⟨rfl, h3, st3⟩
    have HST3 := Lib.hid (HST1.out.trans st3)
    have H3 := Lib.hid h3
    have HA3 := Lib.hid (st3.toStay0.at_ HA1.out (by decide) (by decide))
    have HP := Lib.hid (At.new w3 78 pcZero)
    have hWZ : (w3.alloc (.cells pcZero 78)).heap.size = w3.heap.size + 1 := by simp
    clear hN h3 st3 HST1 HA1
    go_upto_region 5 with (refine wpList_store_whole rfl 78 _ _ rfl w3.heap.size #[.string pl, .int .i64 (pb : Nat), .int .u64 (pi : Nat), .int .i64 (pp : Nat), .int .i64 (pn : Nat), .int .i64 (pz : Nat), .int .u32 (ps : Nat), .string pd] rfl rfl 78 _ HP.out (by kernel_rfl) (by kernel_rfl) HC1.out ?_; intro w9 hZ9 hG9; replace hZ9 := Lib.hid hZ9; replace hG9 := Lib.hid hG9)
    have hb9 : Below w3.heap.size w3 w9 := below_of_grownBy ((Below.refl _ w3).alloc (Nat.le_refl _) _) hG9.out (by rw [hWZ]; omega) (Nat.le_refl _)
    have H9 := H3.out.below hb9
    have HST9 := Lib.hid (HST3.out.trans (Stay.of_below hb9 H3.out.bz))
    have HA9 := Lib.hid (HA3.out.below hb9 HA3.out.lt)
    have hR9 := HRD.out w9 _ H9 (HS.out.below HST9.out.below hB)
    have x2 := hZ9.out.cell 2
    clear hG9 HP hWZ H3 HST3 HA3 hb9 HC1 HRD H9
    generalize w3.heap.size = X3 at *
    go_upto_region 7 with fail
    go_wp2_with fail
    refine hR9.mono ?_
    rintro e w10 ⟨rfl, h10, st10⟩
    have HST10 := Lib.hid (HST9.out.trans st10)
    have HA10 := Lib.hid (st10.toStay0.at_ HA9.out (by decide) (by decide))
    have HP10 := Lib.hid (st10.toStay0.at_ hZ9.out (by decide) (by decide))
    have H10 := Lib.hid h10
    clear hR9 h10 st10 HST9 HA9 hZ9 x2
    by_cases hr0 : R.2 = 0
    · have hrr := HRR.out
      rw [if_neg (by omega)] at hrr
      rw [hr0]
      subst hrr
      clear HRR
      have x2 := HP10.out.cell 2
      have hI1 : (#[.int .u64 (pi : Nat), .int .i64 (n : Int), .int .i64 (sx.size : Int)] : Array Value).all (·.oneCell') = true := by simp [Value.oneCell']
      have HI1 := Lib.hid hI1
      clear HP10 hI1
      go_wp2_with (refine wpList_store_whole rfl 93 _ _ rfl X #[.int .u64 (pi : Nat), .int .i64 (n : Int), .int .i64 (sx.size : Int)] rfl rfl 93 _ HA10.out (by kernel_rfl) (by kernel_rfl) HI1.out ?_; intro w11 hZ11 hG11; replace hZ11 := Lib.hid hZ11; replace hG11 := Lib.hid hG11)
      refine bodyPost_ret (res_row_tmp rfl _ _ _ _ _ _ rfl hZ11.out Tryd.underlying93 (by kernel_rfl)) rfl ?_
      obtain ⟨pos, h10⟩ := H10.out
      obtain ⟨v9, st9⟩ := vol_new h10 HST10.out (by rw [HX.out]; exact hbz) HA10.out (by rw [HX.out]; exact Nat.le_refl _) hG11.out (by decide) (by decide)
      refine ⟨?_, ⟨_, v9⟩, st9⟩
      rw [← HSL.out]
      rfl
    · have hrr := HRR.out
      rw [if_pos hr0] at hrr
      subst hrr
      clear HRR
      have heb : ((R.2 : Int) != 0) = true := by rw [bne_iff_ne]; omega
      clear HP10
      go_wp2_with (refine wpList_store_whole rfl 93 _ _ rfl X itZero rfl rfl 93 _ HA10.out (by kernel_rfl) (by kernel_rfl) (by kernel_rfl) ?_; intro w11 hZ11 hG11; replace hZ11 := Lib.hid hZ11; replace hG11 := Lib.hid hG11)
      refine bodyPost_ret (res_row_tmp rfl _ _ _ _ _ _ rfl hZ11.out Tryd.underlying93 (by kernel_rfl)) rfl ?_
      obtain ⟨pos, h10⟩ := H10.out
      obtain ⟨v9, st9⟩ := vol_new h10 HST10.out (by rw [HX.out]; exact hbz) HA10.out (by rw [HX.out]; exact Nat.le_refl _) hG11.out (by decide) (by decide)
      exact ⟨rfl, ⟨_, v9⟩, st9⟩
end Go.Proofs.YtniecodpdmjppaaDoor

/- tapefmt.Scan: its walk. -/
namespace Go.Proofs.YtniecodpdmjppaaDoor
open Go.RowKit
open Sm
open Wm (tk)
set_option linter.unusedVariables false
set_option linter.unusedSimpArgs false

/-! the errors of what is read -/
def Mild (e : Nat) : Prop := e = 0 ∨ e = 2 ∨ e = 3 ∨ e = 4 ∨ e = 11
theorem mild_tk : ∀ (l : List UInt8) (v : Nat) (f : Bool), Mild (tk l v f).2.1 := by
  intro l
  induction l with
  | nil => intro v f; exact .inr (.inl rfl)
  | cons b r ih =>
    intro v f
    unfold tk
    split
    · exact .inr (.inr (.inl rfl))
    · split
      · exact .inl rfl
      · exact ih _ _
theorem mild_tkI (l : List UInt8) (m : Nat) : Mild (tkI l m).2.1 := by
  unfold tkI
  split
  · exact .inr (.inr (.inr (.inr rfl)))
  · exact mild_tk _ _ _
theorem mild_tkS (l : List UInt8) (m : Nat) : Mild (tkS l m).2.1 := by
  unfold tkS
  split
  · exact mild_tkI _ _
  · split
    · exact .inr (.inl rfl)
    · exact .inl rfl
theorem mild_curU {c : List UInt8 × Nat} (h : Mild c.2) : Mild (curU c).1.2 := by
  unfold curU
  split
  · exact h
  · exact mild_tk _ _ _
theorem mild_curI {c : List UInt8 × Nat} (h : Mild c.2) (m : Nat) : Mild (curI c m).1.2 := by
  unfold curI
  split
  · exact h
  · exact mild_tkI _ _
theorem mild_curS {c : List UInt8 × Nat} (h : Mild c.2) (m : Nat) : Mild (curS c m).1.2 := by
  unfold curS
  split
  · exact h
  · exact mild_tkS _ _
theorem mild_only (l : List UInt8) : Mild (onlyL l).2 := by
  unfold onlyL openL
  repeat' split
  all_goals simp [Mild]
theorem Curs.mild {tx : List UInt8} {a : (List UInt8 × Nat) × List UInt8} {b c d f gg h : (List UInt8 × Nat) × Nat} {k : (List UInt8 × Nat) × List UInt8} (C : Curs tx a b c d f gg h k) : Mild k.1.2 := by
  rw [← C.ek]
  refine mild_curS ?_ _
  rw [← C.eh]
  refine mild_curU ?_
  rw [← C.eg]
  refine mild_curI ?_ _
  rw [← C.ef]
  refine mild_curI ?_ _
  rw [← C.ed]
  refine mild_curI ?_ _
  rw [← C.ec]
  refine mild_curU ?_
  rw [← C.eb]
  refine mild_curI ?_ _
  rw [← C.ea]
  exact mild_curS (.inl rfl) _
theorem mild_took (tx : List UInt8) : Mild (took tx).k.1.2 := by
  obtain ⟨a, ea⟩ : ∃ a, curS (tx, 0) 32 = a := ⟨_, rfl⟩
  obtain ⟨b, eb⟩ : ∃ b, curI a.1 1073741824 = b := ⟨_, rfl⟩
  obtain ⟨c, ec⟩ : ∃ c, curU b.1 = c := ⟨_, rfl⟩
  obtain ⟨d, ed⟩ : ∃ d, curI c.1 1048576 = d := ⟨_, rfl⟩
  obtain ⟨f, ef⟩ : ∃ f, curI d.1 1048576 = f := ⟨_, rfl⟩
  obtain ⟨gg, eg⟩ : ∃ gg, curI f.1 4000 = gg := ⟨_, rfl⟩
  obtain ⟨h, eh⟩ : ∃ h, curU gg.1 = h := ⟨_, rfl⟩
  obtain ⟨k, ek⟩ : ∃ k, curS h.1 200 = k := ⟨_, rfl⟩
  have C : Curs tx a b c d f gg h k := ⟨ea, eb, ec, ed, ef, eg, eh, ek⟩
  rw [C.took]
  exact C.mild
theorem mild_err (t : Took) (hk : Mild t.k.1.2) : Mild t.err := by
  unfold Took.err parseErr doneErr
  generalize t.k.1.2 = e at *
  generalize t.k.1.1 = r
  repeat' split
  all_goals first | exact hk | simp [Mild]
theorem mild_parse (l : List UInt8) : Mild (parseL l).2 := by
  have h1 := mild_only l
  have h2 := mild_err _ (mild_took (onlyL l).1)
  unfold parseL
  generalize took (onlyL l).1 = t at *
  split
  · exact h1
  · split
    · exact h2
    · exact .inl rfl
theorem mild_rd (lab : ByteArray) (f id : Nat) : ∀ (l : List Blk) (k : Nat) (acc : List UInt8), Mild (rdGo lab f id l k acc).2 := by
  intro l
  induction l with
  | nil => intro k acc; exact .inr (.inl rfl)
  | cons b r ih =>
    intro k acc
    have hp := mild_parse b.t.data.toList
    rw [rdGo_cons]
    unfold wholeP
    repeat' split
    all_goals first | exact ih _ _ | exact hp | simp [Mild]
theorem rd_size (lab : ByteArray) (f id : Nat) : ∀ (l : List Blk) (k : Nat) (acc : List UInt8), (rdGo lab f id l k acc).1.length ≤ 4000 := by
  intro l
  induction l with
  | nil => intro k acc; exact Nat.zero_le _
  | cons b r ih =>
    intro k acc
    rw [rdGo_cons]
    by_cases he : (parseL b.t.data.toList).2 ≠ 0
    · rw [if_pos he]
      repeat' split
      all_goals exact Nat.zero_le _
    · have hg := (parseL_got (by omega : (parseL b.t.data.toList).2 = 0)).size
      rw [if_neg he]
      unfold wholeP
      generalize (parseL b.t.data.toList).1 = p at *
      repeat' split
      all_goals first | exact Nat.zero_le _ | exact ih _ _ | (rename_i h _; skip; simp only [not_or, Decidable.not_not] at *; omega)
theorem item_size (lab : ByteArray) (l : List Blk) (n : Nat) : (itemAt lab l n).1.size ≤ 4000 := by
  unfold itemAt
  split
  · exact Nat.zero_le _
  · rename_i b _
    have hr := rd_size lab n (parseL b.t.data.toList).1.id (l.drop n) 0 []
    repeat' split
    all_goals first | exact hr | exact Nat.zero_le _
theorem mild_item (lab : ByteArray) (l : List Blk) (n : Nat) : Mild (itemAt lab l n).2 := by
  unfold itemAt
  split
  · exact .inr (.inl rfl)
  · rename_i b _
    have hp := mild_parse b.t.data.toList
    have hr := mild_rd lab n (parseL b.t.data.toList).1.id (l.drop n) 0 []
    repeat' split
    all_goals first | exact hp | exact hr | simp [Mild]

def itCells (l : List It) : List Value := l.flatMap fun i => i.cells.toList
theorem itCells_append (a b : List It) : itCells (a ++ b) = itCells a ++ itCells b := by unfold itCells; rw [List.flatMap_append]
theorem itCells_len (l : List It) : (itCells l).length = l.length * 3 := by
  induction l with
  | nil => rfl
  | cons a l ih => unfold itCells at ih ⊢; rw [List.flatMap_cons, List.length_append, ih, List.length_cons]; show 3 + _ = _; omega

theorem vol_row {w w1 w9 : World} {B g B' n : Nat} {t : VS} {v : Value} {xs : List Value} (hv : Vol w1 B g t) (hst : Stay B g w w1) (hB : B ≤ w.heap.size) (hr : w1.ownsRow B' 93 3 v n xs) (hB' : w.heap.size ≤ B') (hg : w1.grownBy w9 v.ownBlock) : Vol w9 B g t ∧ Stay B g w w9 := by
  rcases hr.2 with ⟨rfl, _⟩ | ⟨k, cap, cur, rfl, hk, hat, _⟩
  · have hb : Below w1.heap.size w1 w9 := ⟨hg.os, hg.tape, hg.output, hg.size, fun k hk => hg.block k hk (by simp [Value.ownBlock])⟩
    exact ⟨hv.below hb, hst.trans (Stay.of_below hb hv.bz)⟩
  · exact vol_new hv hst hB (T := 93) (cs := cur) hat (Nat.le_trans hB' hk) hg (by decide) (by decide)
theorem rowI_below {w w' : World} {B n z : Nat} {e : TypeId} {v : Value} {xs : List Value} (h : w.ownsRow B e z v n xs) (hb : Below w.heap.size w w') : w'.ownsRow B e z v n xs := by
  obtain ⟨h1, h2 | ⟨g, cap, cur, rfl, hk, hat, h3⟩⟩ := h
  · exact ⟨h1, .inl h2⟩
  · exact ⟨h1, .inr ⟨g, cap, cur, rfl, hk, (hb.block g (Array.getElem?_eq_some_iff.1 hat).1).trans hat, h3⟩⟩

def ScanEnds (w : World) (B g : Nat) (s : VS) (r : List It × Nat) (e : Ending) (w' : World) : Prop :=
  ∃ v, e = .returned (.tuple #[v, .int .i64 (r.2 : Nat), .int .i64 0]) ∧ w'.ownsRow w.heap.size 93 3 v r.1.length (itCells r.1) ∧ (∃ pos, Vol w' B g { s with pos := pos }) ∧ Stay B g w w'

theorem info_item : (Tryd.prog.info? 93).map (fun i => (i.zero, i.size, i.bytes)) = some (some (.agg #[.int .u64 0, .int .i64 0, .int .i64 0]), 3, 24) := by kernel_rfl

structure SC (w : World) (B g : Nat) (s : VS) (v : Value) (acc : List It) (e n : Nat) (wr : World) : Prop where
  row : wr.ownsRow w.heap.size 93 3 v acc.length (itCells acc)
  vol : ∃ pos, Vol wr B g { s with pos := pos }
  stay : Stay B g w wr
  scan : scanF s.lab s.l 0 0 = (acc ++ (scanF s.lab s.l n e).1, (scanF s.lab s.l n e).2)
  few : acc.length ≤ n

set_option maxRecDepth 100000 in
set_option maxHeartbeats 8000000 in
theorem tscan_any {w : World} {B g : Nat} {s : VS} (h : Vol w B g s) (hc : s.Calm) (hS : Steps w) (hB : 0 < B) :
    Calls Tryd.prog 29 #[.pointer (some ⟨g, 0, none⟩)] w (ScanEnds w B g s (scanF s.lab s.l 0 0)) := by
  have hbz := h.bz
  have hlen := h.1.len
  have hR0 := seek_vol h 0
  have hsk : s.seek 0 = ({ s with pos := 0 }, 0) := by rw [hc.seek, if_neg (by omega)]; rfl
  rw [hsk] at hR0
  have hIt := fun W pos (hv : Vol W B g { s with pos := pos }) (hSW : Steps W) n (hn : n ≤ s.l.length) => item_any hv ⟨hc.lo, hc.lf, hc.pr⟩ hSW hB n hn
  have hLn := fun W pos (hv : Vol W B g { s with pos := pos }) => len_vol hv
  have hMi := mild_item s.lab s.l
  have hSz := item_size s.lab s.l
  simp only at hLn hIt
  have HS := Lib.hid hS
  have HIT := Lib.hid hIt
  have HLN := Lib.hid hLn
  obtain ⟨RR, hRR⟩ : ∃ RR, scanF s.lab s.l 0 0 = RR := ⟨_, rfl⟩
  rw [hRR]
  have HRR := Lib.hid hRR
  clear h hS hsk hc hIt hLn hRR
  go_enter Tryd.func29, Tryd.ntmps29
  go_wp2_with fail
  refine hR0.mono ?_
  rintro e w1 ⟨rfl, h1, st1⟩
  have G1 : Hid (SC w B g s (.slice none 0 0) [] 0 0 w1) := Lib.hid ⟨World.ownsRow_nil _ _ _ _, ⟨_, h1⟩, st1, rfl, Nat.le_refl _⟩
  clear hR0 h1 st1
  go_wp2
  go_loopw [6, 7, 8] (fun l en i wr => ∃ (acc : List It) (e n : Nat), n ≤ s.l.length + 20 ∧ e ≤ 2000000 ∧ en = .int .i64 (e : Int) ∧ i = .int .i64 (n : Int) ∧ Hid (SC w B g s l acc e n wr))
    (fun _ _ i _ => s.l.length - (intOf i).toNat)
  case atStart => exact ⟨[], 0, 0, by omega, by omega, rfl, rfl, G1⟩
  case round =>
    clear G1
    obtain ⟨acc, e, n, hn, hen, rfl, rfl, HG⟩ := hrel
    obtain ⟨hrow, ⟨pos, hv⟩, hst, hsc, hfew⟩ := HG.out
    have hL := HLN.out wr pos hv
    by_cases hlt : n < s.l.length
    · have e1 : decide ((n : Int) < (s.l.length : Int)) = true := by simpa using hlt
      have hI := HIT.out wr pos hv (HS.out.below hst.below hB) n (by omega)
      have hmi := hMi n
      have hsz := hSz n
      have hmiss := scanF_miss (lab := s.lab) (e := e) hlt
      have hhit := scanF_hit (lab := s.lab) (e := e) hlt
      unfold ItemEnds It.cells at hI
      obtain ⟨P, hP⟩ : ∃ P, itemAt s.lab s.l n = P := ⟨_, rfl⟩
      rw [hP] at hI hmi hsz hmiss hhit
      obtain ⟨⟨ia, ib, ic⟩, er⟩ := P
      simp only at hI hmi hsz hmiss hhit
      have HROW := Lib.hid hrow
      have HST := Lib.hid hst
      have HSC := Lib.hid hsc
      have HMISS := Lib.hid hmiss
      have HHIT := Lib.hid hhit
      clear HG hP hMi hSz hrow hsc hmiss hhit hst
      generalize s.l.length = N at *
      go_wp2_with fail
      refine hL.mono ?_
      rintro e' w2 ⟨rfl, rfl⟩
      clear hv hL
      go_wp2_with fail
      refine hI.mono ?_
      rintro e' w3 ⟨rfl, h3, st3⟩
      have HST3 := Lib.hid (HST.out.trans st3)
      have H3 := Lib.hid h3
      have HROW3 := Lib.hid (st3.toStay0.row HROW.out (by decide) (by decide))
      have HX := Lib.hid (At.new w3 93 itZero)
      have hWZ : (w3.alloc (.cells itZero 93)).heap.size = w3.heap.size + 1 := by simp
      have hC1 : (#[.int .u64 (ia : Nat), .int .i64 (ib : Nat), .int .i64 (ic : Nat)] : Array Value).all (·.oneCell') = true := by simp [Value.oneCell']
      have HC1 := Lib.hid hC1
      clear hI h3 st3 HST HROW hC1
      go_upto_region 9 with (refine wpList_store_whole rfl 93 _ _ rfl w3.heap.size #[.int .u64 (ia : Nat), .int .i64 (ib : Nat), .int .i64 (ic : Nat)] rfl rfl 93 _ HX.out (by kernel_rfl) (by kernel_rfl) HC1.out ?_; intro w9 hZ9 hG9; replace hZ9 := Lib.hid hZ9; replace hG9 := Lib.hid hG9)
      have hb9 : Below w3.heap.size w3 w9 := below_of_grownBy ((Below.refl _ w3).alloc (Nat.le_refl _) _) hG9.out (by simp) (Nat.le_refl _)
      have HV9 : Hid (∃ pos, Vol w9 B g { s with pos := pos }) := Lib.hid (H3.out.elim fun p h => ⟨p, h.below hb9⟩)
      have hbz3 := H3.out.elim fun p h => h.bz
      have HST9 := Lib.hid (HST3.out.trans (Stay.of_below hb9 hbz3))
      have HROW9 := Lib.hid (rowI_below HROW3.out hb9)
      have hkX := HROW3.out.lt
      have HKX : Hid (∀ k, u6.ownBlock = some k → k < w3.heap.size) := Lib.hid fun k hk => (hkX k hk).2
      have hX9 : Hid (w3.heap.size < w9.heap.size) := Lib.hid hZ9.out.lt
      clear H3 HST3 HROW3 HX hWZ hG9 hb9 hbz3 hkX
      generalize w3.heap.size = X at *
      by_cases he0 : er = 0
      · subst he0
        have hsc := HSC.out
        rw [HHIT.out rfl] at hsc
        have hP := fun W => parts_any ic (by omega) W
        have h20 := partsOf_le hsz
        have hp1 := partsOf_pos ic
        obtain ⟨pz, hpz⟩ : ∃ pz, partsOf ic = pz := ⟨_, rfl⟩
        rw [hpz] at hsc hP h20 hp1
        have HSC2 := Lib.hid hsc
        have HPT := Lib.hid hP
        obtain ⟨i0, hie, hz0, hz1, hz2⟩ := info_parts info_item
        have HIE := Lib.hid hie
        have HZ0 := Lib.hid hz0
        have HZ1 := Lib.hid hz1
        have HZ2 := Lib.hid hz2
        clear hsc hP hpz HMISS HHIT HSC hie hz0 hz1 hz2
        go_upto_region 12 with fail
        go_wp2_with (first | (at_builtin; refine wpList_append_own_wide _ rfl _ _ 36 rfl w.heap.size 93 i0 _ 3 24 Tryd.underlying36 HIE.out HZ0.out HZ1.out HZ2.out rfl (by omega) _ _ _ rfl (HROW9.out.alloc _) ⟨w9.heap.size, 0, none⟩ 1 1 [.int .u64 (ia : Nat), .int .i64 (ib : Nat), .int .i64 (ic : Nat)] rfl rfl ?c1 ?c2 ?c3 ?c4 ?c5 ?_) | refine wpList_load_whole rfl 93 _ rfl X rfl 93 _ _ hZ9.out Tryd.underlying93 rfl (by kernel_rfl) ?_)
        case c2 => exact ⟨rfl, rfl, rfl⟩
        case c3 => unfold maxLen; omega
        case c4 => omega
        case c5 => have := HST9.out.toStay0.size; omega
        intro v' w10 hown hgrow _
        obtain ⟨pos, hv9⟩ := HV9.out
        have hva := hv9.alloc (.cells #[.int .u64 (ia : Nat), .int .i64 (ib : Nat), .int .i64 (ic : Nat)] 93)
        have hsa : Stay B g w (w9.alloc (.cells #[.int .u64 (ia : Nat), .int .i64 (ib : Nat), .int .i64 (ic : Nat)] 93)) := HST9.out.trans (Stay.alloc _ _ hv9.bz)
        obtain ⟨hv10, hst10⟩ := vol_row hva hsa hbz (HROW9.out.alloc _) (Nat.le_refl _) hgrow
        have hA10 : At w10 X 93 #[.int .u64 (ia : Nat), .int .i64 (ib : Nat), .int .i64 (ic : Nat)] := by
          have h1 := hZ9.out.alloc (.cells #[.int .u64 (ia : Nat), .int .i64 (ib : Nat), .int .i64 (ic : Nat)] 93)
          exact (hgrow.block X h1.lt (fun e => by have := HKX.out X e.symm; omega)).trans h1
        have x2 := hA10.cell 2
        have HROW10 : Hid (w10.ownsRow w.heap.size 93 3 v' (acc ++ [(⟨ia, ib, ic⟩ : It)]).length (itCells (acc ++ [(⟨ia, ib, ic⟩ : It)]))) := Lib.hid (by
          rw [List.length_append, itCells_append]
          exact hown)
        have HV10 := Lib.hid hv10
        have HST10 := Lib.hid hst10
        clear hva hsa hv10 hst10 hv9 HV9 HST9 HROW9 hZ9 HC1 hown hgrow HKX hX9 hA10 HIE HZ0 HZ1 HZ2
        go_upto_region 13 with fail
        go_wp2_with fail
        refine (HPT.out _).mono ?_
        rintro e' w11 ⟨rfl, rfl⟩
        clear x2 HPT
        go_wp2
        go_roundw
        case rel => exact ⟨acc ++ [(⟨ia, ib, ic⟩ : It)], n + pz, n + pz, by omega, by omega, by go_num, by go_num, Lib.hid ⟨HROW10.out, ⟨_, HV10.out⟩, HST10.out, by rw [HSC2.out]; simp, by rw [List.length_append]; show acc.length + 1 ≤ _; omega⟩⟩
        case measure => simp [intOf]; omega
      · have q1 : ((er : Int) == 0) = false := by rw [beq_eq_false_iff_ne]; omega
        have q2 : ((er : Int) == 14) = false := by rw [beq_eq_false_iff_ne]; unfold Mild at hmi; omega
        have q3 : ((er : Int) == 8) = false := by rw [beq_eq_false_iff_ne]; unfold Mild at hmi; omega
        have hsc := HSC.out
        rw [HMISS.out he0] at hsc
        have HSC2 := Lib.hid hsc
        clear hsc hZ9 HC1
        go_wp2
        go_roundw
        case rel => exact ⟨acc, e, n + 1, by omega, hen, rfl, by go_num, Lib.hid ⟨HROW9.out, HV9.out, HST9.out, HSC2.out, by omega⟩⟩
        case measure => simp [intOf]; omega
    · have e1 : decide ((n : Int) < (s.l.length : Int)) = false := by simpa using hlt
      rw [scanF_end hlt] at hsc
      have hRR := HRR.out.symm.trans hsc
      simp only [List.append_nil] at hRR
      subst hRR
      clear HG hsc hMi hSz hfew HRR
      have HROW := Lib.hid hrow
      have HV := Lib.hid hv
      have HST := Lib.hid hst
      clear hrow hv hst
      generalize s.l.length = N at *
      go_wp2_with fail
      refine hL.mono ?_
      rintro e' w2 ⟨rfl, rfl⟩
      go_wp2
      go_ret3
      exact ⟨_, rfl, HROW.out, ⟨_, HV.out⟩, HST.out⟩
end Go.Proofs.YtniecodpdmjppaaDoor

/- glacierlaw01.Cut: its walk. -/
namespace Go.Proofs.YtniecodpdmjppaaDoor
open Go.RowKit

/-- at most n bytes -/
def cutTo (s : ByteArray) (n : Nat) : ByteArray := if n < s.size then s.extract 0 n else s

theorem cutTo_le (s : ByteArray) (n : Nat) : (cutTo s n).size ≤ n := by
  unfold cutTo
  split
  · rw [ByteArray.size_extract]; omega
  · omega
theorem cutTo_size (s : ByteArray) (n : Nat) : (cutTo s n).size ≤ s.size := by
  unfold cutTo
  split
  · rw [ByteArray.size_extract]; omega
  · omega

set_option maxHeartbeats 400000 in
theorem cut_any (s : ByteArray) (n : Nat) (w : World) :
    Calls Tryd.prog 25 #[.string s, .int .i64 (n : Nat)] w fun e w' => e = .returned (.string (cutTo s n)) ∧ w = w' := by
  unfold cutTo
  by_cases h : n < s.size
  · rw [if_pos h]
    have h' : n ≤ s.size := by omega
    go_enter Tryd.func25, Tryd.ntmps25
    go_wp2
    go_ret
    exact ⟨rfl, rfl⟩
  · rw [if_neg h]
    go_enter Tryd.func25, Tryd.ntmps25
    go_wp2
    go_ret
    exact ⟨rfl, rfl⟩
end Go.Proofs.YtniecodpdmjppaaDoor

/- glacierlaw07.Long: its walk. -/
namespace Go.Proofs.YtniecodpdmjppaaDoor
open Go.RowKit
open Sm
set_option linter.unusedVariables false
set_option linter.unusedSimpArgs false

/-- a text, several times -/
def times (s : ByteArray) : Nat → ByteArray
  | 0 => ⟨#[]⟩
  | k + 1 => times s k ++ s
def longOf (s : ByteArray) (n : Int) : ByteArray := times (cutTo s 60) (min n 10).toNat
theorem times_size (s : ByteArray) (k : Nat) : (times s k).size = k * s.size := by
  induction k with
  | zero => simp [times]; rfl
  | succ k ih => rw [times, ByteArray.size_append, ih, Nat.succ_mul]
theorem longOf_size (s : ByteArray) (n : Int) : (longOf s n).size ≤ 600 := by
  unfold longOf
  rw [times_size]
  have h1 := cutTo_le s 60
  have h2 : (min n 10).toNat ≤ 10 := by omega
  calc _ ≤ 10 * 60 := Nat.mul_le_mul h2 h1
    _ = 600 := rfl

set_option maxRecDepth 100000 in
set_option maxHeartbeats 1000000 in
theorem long_any (s : ByteArray) (n : Int) (w : World) :
    Calls Tryd.prog 8 #[.string s, .int .i64 n] w fun e w' => e = .returned (.string (longOf s n)) ∧ w = w' := by
  have hC := cut_any s 60 w
  have hle := cutTo_le s 60
  obtain ⟨R, hR⟩ : ∃ R, longOf s n = R := ⟨_, rfl⟩
  rw [hR]
  unfold longOf at hR
  have HR := Lib.hid hR
  clear hR
  generalize cutTo s 60 = c at *
  go_enter Tryd.func8, Tryd.ntmps8
  go_wp2_with fail
  refine hC.mono ?_
  rintro e w1 ⟨rfl, rfl⟩
  clear hC
  go_wp2
  go_loopw [5, 6] (fun o i wr => ∃ k : Nat, k ≤ (min n 10).toNat ∧ k ≤ 10 ∧ i = .int .i64 (k : Int) ∧ o = .string (times c k) ∧ wr = w)
    (fun _ i _ => 10 - (intOf i).toNat)
  case atStart => exact ⟨0, by omega, by omega, rfl, rfl, rfl⟩
  case round =>
    obtain ⟨k, hk, hk10, rfl, rfl, rfl⟩ := hrel
    have hts := times_size c k
    have hle2 : k * c.size ≤ 10 * 60 := Nat.mul_le_mul hk10 hle
    by_cases h1 : (k : Int) < n
    · by_cases h2 : k < 10
      · have e1 : decide ((k : Int) < n) = true := by simpa using h1
        have e2 : decide ((k : Int) < 10) = true := by simp; omega
        go_wp2
        go_roundw
        case rel => exact ⟨k + 1, by omega, by omega, by go_num, rfl, trivial⟩
        case measure => simp [intOf]; omega
      · have e1 : decide ((k : Int) < n) = true := by simpa using h1
        have e2 : decide ((k : Int) < 10) = false := by simp; omega
        have hkk : (min n 10).toNat = k := by omega
        go_wp2
        go_ret
        obtain rfl : times c k = R := by have := HR.out; rwa [hkk] at this
        exact ⟨rfl, rfl⟩
    · have e1 : decide ((k : Int) < n) = false := by simpa using h1
      have hkk : (min n 10).toNat = k := by omega
      go_wp2
      go_ret
      obtain rfl : times c k = R := by have := HR.out; rwa [hkk] at this
      exact ⟨rfl, rfl⟩
end Go.Proofs.YtniecodpdmjppaaDoor

/- glacierlaw07.awake: its walk. -/
namespace Go.Proofs.YtniecodpdmjppaaDoor
open Go.RowKit
open Sm
set_option linter.unusedVariables false
set_option linter.unusedSimpArgs false

section
variable {w : World} {B g : Nat} {s : VS} {rm : Int} {lab : ByteArray}
theorem write_good (h : Vol w B g s) (hg : s.Good rm lab) (hS : Steps w) (hB : 0 < B) (hl : lab.size ≤ 32) (hf : s.l.length ≤ 900000) (id : Nat) (hid : id < 18446744073709551616) (d : ByteArray) (hd : d.size ≤ 4000) (hw : (wsum s.l : Int) + weightOf d.size ≤ rm) :
    Calls Tryd.prog 24 #[.pointer (some ⟨g, 0, none⟩), .int .u64 (id : Int), .string d] w fun e w' => e = .returned (.tuple #[.int .i64 (s.l.length : Nat), .int .i64 0]) ∧ Vol w' B g (s.wrote id d.data.toList) ∧ Stay B g w w' := by
  have hdl : d.data.toList.length = d.size := by simp
  have := wblob_any h hS hB hf (by rw [hg.lab]; exact hl) id hid d (by omega)
  rw [wblob_ok hg hl (by omega) hid (by omega) (by rw [hdl]; exact hw)] at this
  exact this
theorem read_good (h : Vol w B g s) (hg : s.Good rm lab) (hS : Steps w) (hB : 0 < B) (hl : lab.size ≤ 32) (hf : s.l.length ≤ 900000) (id : Nat) (hid : id < 18446744073709551616) (d : ByteArray) (hd : d.size ≤ 4000) (pre rest : List Blk) (hs : s.l = pre ++ (blobBlks lab pre.length id d.data.toList ++ rest)) :
    Calls Tryd.prog 27 #[.pointer (some ⟨g, 0, none⟩), .int .i64 (pre.length : Nat), .int .u64 (id : Int)] w fun e w' => e = .returned (.tuple #[.string d, .int .i64 0]) ∧ (∃ pos, Vol w' B g { s with pos := pos }) ∧ Stay B g w w' := by
  have hdl : d.data.toList.length = d.size := by simp
  have hpl : pre.length ≤ s.l.length := by rw [hs]; simp
  have := rblob_any h hg.calm hS hB pre.length hpl id hid
  rw [hg.lab, hs, List.drop_left, rd_whole hl (by omega) hid (by omega) rest] at this
  refine this.mono fun e w' ⟨he, hv, hst⟩ => ⟨?_, ?_, hst⟩
  · rw [he]
    rfl
  · obtain ⟨pos, hv⟩ := hv
    exact ⟨pos, hv⟩
end


def zeros : ByteArray := ⟨(List.replicate 401 (0 : UInt8)).toArray⟩
theorem zeros_size : zeros.size = 401 := by unfold zeros; rw [str_len, List.length_replicate]
theorem zeros_run (W : World) : ∃ W1 : World, (Instr.makeSlice 82 (.int .i64 401) (.int .i64 401)).run Tryd.prog W = .ok (.slice (some ⟨W.heap.size, 0, none⟩) 401 401) W1 ∧
    (convert 82 9 (.slice (some ⟨W.heap.size, 0, none⟩) 401 401)).run Tryd.prog W1 = .ok (.string zeros) W1 ∧ Below W.heap.size W W1 := by
  obtain ⟨i0, hie, hz0, hz1, hz2⟩ := info_parts info_byte
  obtain ⟨M, hM⟩ : ∃ M, M = madeCells (Value.int .u8 0).cells 401 := ⟨_, rfl⟩
  have hML : M.toList = List.replicate 401 (Value.int .u8 0) := by rw [hM]; exact toList_madeCells_one _ _
  refine ⟨W.alloc (.cells M 5), ?_, ?_, (Below.refl _ W).alloc (Nat.le_refl _) _⟩
  · have h := run_make (P := Tryd.prog) W 82 5 i0 (.int .u8 0) Tryd.underlying82 hie hz0 .i64 .i64 401 401 (by omega) (by omega) (by rw [hz2]; omega) (by omega)
    rw [hz1] at h
    rw [show ((401 : Int).toNat * 1) = 401 from rfl, ← hM] at h
    exact h
  · have hA : At (W.alloc (.cells M 5)) W.heap.size 5 M := heap_alloc_new W _
    have h := run_convert_bytes_back (P := Tryd.prog) (W.alloc (.cells M 5)) 82 9 5 ⟨W.heap.size, 0, none⟩ 401 (List.replicate 401 (0 : UInt8)) Tryd.underlying82 Tryd.underlying5 Tryd.underlying9 (fun j hj => by
      have e : (⟨W.heap.size, 0, none⟩ : Addr).add j = ⟨W.heap.size, j, none⟩ := by simp [Addr.add]; omega
      have hj' : j < 401 := by rw [List.length_replicate] at hj; exact hj
      rw [e, hA.cell j, ← Array.getElem?_toList, hML, List.getElem?_replicate, if_pos hj', List.getElem_replicate]
      rfl)
    rw [List.length_replicate] at h
    exact h

end Go.Proofs.YtniecodpdmjppaaDoor

/- The tape of blobs: what is written one behind the other, what Scan finds of it, what Read reads. -/
namespace Go.Proofs.YtniecodpdmjppaaDoor
open Go.RowKit
open Sm
set_option linter.unusedVariables false
set_option linter.unusedSimpArgs false

/-- blobs, one behind the other, from block n on -/
def tapeL (lab : ByteArray) : Nat → List (Nat × List UInt8) → List Blk
  | _, [] => []
  | n, x :: r => blobBlks lab n x.1 x.2 ++ (markBlk :: tapeL lab (n + partsOf x.2.length + 1) r)
/-- how many blocks they are -/
def tapeN : List (Nat × List UInt8) → Nat
  | [] => 0
  | x :: r => partsOf x.2.length + 1 + tapeN r
def itemsOf : Nat → List (Nat × List UInt8) → List It
  | _, [] => []
  | n, x :: r => ⟨x.1, n, x.2.length⟩ :: itemsOf (n + partsOf x.2.length + 1) r
def endOf : Nat → Nat → List (Nat × List UInt8) → Nat
  | _, e, [] => e
  | n, _, x :: r => endOf (n + partsOf x.2.length + 1) (n + partsOf x.2.length) r
theorem tapeL_len (lab : ByteArray) : ∀ (l : List (Nat × List UInt8)) (n : Nat), (tapeL lab n l).length = tapeN l := by
  intro l
  induction l with
  | nil => intro n; rfl
  | cons x r ih => intro n; rw [tapeL, tapeN, List.length_append, List.length_cons, ih, blobBlks_len]; omega
theorem tapeN_append (a b : List (Nat × List UInt8)) : tapeN (a ++ b) = tapeN a + tapeN b := by
  induction a with
  | nil => simp [tapeN]
  | cons x r ih => rw [List.cons_append, tapeN, tapeN, ih]; omega
theorem tapeL_append (lab : ByteArray) : ∀ (a b : List (Nat × List UInt8)) (n : Nat), tapeL lab n (a ++ b) = tapeL lab n a ++ tapeL lab (n + tapeN a) b := by
  intro a
  induction a with
  | nil => intro b n; rfl
  | cons x r ih =>
    intro b n
    rw [List.cons_append, tapeL, tapeL, ih, tapeN, List.append_assoc, List.cons_append, show n + partsOf x.2.length + 1 + tapeN r = n + (partsOf x.2.length + 1 + tapeN r) by omega]
theorem tapeL_one (lab : ByteArray) (n : Nat) (x : Nat × List UInt8) : tapeL lab n [x] = blobBlks lab n x.1 x.2 ++ [markBlk] := rfl
theorem itemsOf_len : ∀ (l : List (Nat × List UInt8)) (n : Nat), (itemsOf n l).length = l.length := by
  intro l
  induction l with
  | nil => intro n; rfl
  | cons x r ih => intro n; rw [itemsOf, List.length_cons, ih, List.length_cons]
theorem itemsOf_get : ∀ (l : List (Nat × List UInt8)) (n i : Nat) (h : i < l.length), (itemsOf n l)[i]? = some ⟨l[i].1, n + tapeN (l.take i), l[i].2.length⟩ := by
  intro l
  induction l with
  | nil => intro n i h; exact absurd h (Nat.not_lt_zero _)
  | cons x r ih =>
    intro n i h
    cases i with
    | zero => rfl
    | succ i =>
      have := ih (n + partsOf x.2.length + 1) i (by simpa using h)
      rw [itemsOf, List.getElem?_cons_succ, this, List.take_succ_cons, tapeN]
      simp only [List.getElem_cons_succ]
      rw [show n + partsOf x.2.length + 1 + tapeN (r.take i) = n + (partsOf x.2.length + 1 + tapeN (r.take i)) by omega]
theorem endOf_len : ∀ (l : List (Nat × List UInt8)) (n e : Nat), l ≠ [] → endOf n e l + 1 = n + tapeN l := by
  intro l
  induction l with
  | nil => intro n e h; exact absurd rfl h
  | cons x r ih =>
    intro n e _
    rw [endOf, tapeN]
    by_cases hr : r = []
    · subst hr
      rw [endOf, tapeN]
      omega
    · rw [ih _ _ hr]
      omega
theorem scan_tape {lab : ByteArray} (hl : lab.size ≤ 32) : ∀ (l : List (Nat × List UInt8)) (pre : List Blk) (e : Nat), pre.length + tapeN l + 20 ≤ 1000000 → (∀ x ∈ l, x.1 < 18446744073709551616 ∧ x.2.length ≤ 4000) →
    scanF lab (pre ++ tapeL lab pre.length l) pre.length e = (itemsOf pre.length l, endOf pre.length e l) := by
  intro l
  induction l with
  | nil =>
    intro pre e _ _
    rw [scanF_end (by simp [tapeL])]
    rfl
  | cons x r ih =>
    intro pre e hn hx
    obtain ⟨h1, h2⟩ := hx x (by simp)
    rw [tapeN] at hn
    have hp := partsOf_pos x.2.length
    have hbl := blobBlks_len lab pre.length x.1 x.2
    have hit : itemAt lab (pre ++ (blobBlks lab pre.length x.1 x.2 ++ (markBlk :: tapeL lab (pre.length + partsOf x.2.length + 1) r))) pre.length = (⟨x.1, pre.length, x.2.length⟩, 0) := item_blob hl (by omega) h1 h2 rfl
    rw [tapeL, scanF_hit (by rw [List.length_append, List.length_append, hbl]; omega) (by rw [hit]), hit]
    simp only
    have hmk : (pre ++ (blobBlks lab pre.length x.1 x.2 ++ (markBlk :: tapeL lab (pre.length + partsOf x.2.length + 1) r)))[pre.length + partsOf x.2.length]? = some markBlk := by
      rw [List.getElem?_append_right (by omega), List.getElem?_append_right (by omega), hbl]
      rw [show pre.length + partsOf x.2.length - pre.length - partsOf x.2.length = 0 by omega]
      rfl
    rw [scanF_miss (by rw [List.length_append, List.length_append, List.length_cons, hbl]; omega) (by rw [item_mark hmk]; decide)]
    have e1 : pre ++ (blobBlks lab pre.length x.1 x.2 ++ (markBlk :: tapeL lab (pre.length + partsOf x.2.length + 1) r)) = (pre ++ (blobBlks lab pre.length x.1 x.2 ++ [markBlk])) ++ tapeL lab (pre.length + partsOf x.2.length + 1) r := by simp
    have e2 : (pre ++ (blobBlks lab pre.length x.1 x.2 ++ [markBlk])).length = pre.length + partsOf x.2.length + 1 := by
      rw [List.length_append, List.length_append, hbl]; simp; omega
    have := ih (pre ++ (blobBlks lab pre.length x.1 x.2 ++ [markBlk])) (pre.length + partsOf x.2.length) (by rw [e2]; omega) (fun y hy => hx y (by simp [hy]))
    rw [e2] at this
    rw [e1, this]
    rfl
/-- where the i-th blob lies -/
theorem tape_split {lab : ByteArray} {l : List (Nat × List UInt8)} {i : Nat} (h : i < l.length) : ∃ rest, tapeL lab 0 l = tapeL lab 0 (l.take i) ++ (blobBlks lab (tapeN (l.take i)) l[i].1 l[i].2 ++ rest) := by
  refine ⟨markBlk :: tapeL lab (tapeN (l.take i) + partsOf l[i].2.length + 1) (l.drop (i + 1)), ?_⟩
  have e : l = l.take i ++ (l[i] :: l.drop (i + 1)) := by rw [List.getElem_cons_drop]; exact (List.take_append_drop i l).symm
  conv => lhs; rw [e]
  rw [tapeL_append, Nat.zero_add, tapeL]
/-- another number is asked for -/
theorem rd_wrong {lab : ByteArray} {first id id' : Nat} {d : List UInt8} (hl : lab.size ≤ 32) (hf : first + 20 ≤ 1000000) (hid : id < 18446744073709551616) (hd : d.length ≤ 4000) (hne : id ≠ id') (rest : List Blk) :
    rdGo lab first id' (blobBlks lab first id d ++ rest) 0 [] = ([], 3) := by
  have h20 := partsOf_le hd
  have hp := partsOf_pos d.length
  have hps := parse_spell (pieceOf_ok hl (by omega : first + 0 ≤ 1000000) hid hd hp)
  have hbt : (pieceBlk (pieceOf lab first id d 0)).t.data.toList = (pieceOf lab first id d 0).spell := rfl
  have hdr : blobBlks lab first id d = pieceBlk (pieceOf lab first id d 0) :: (blobBlks lab first id d).drop 1 := by
    have h0 : 0 < (blobBlks lab first id d).length := by rw [blobBlks_len]; exact hp
    have e := blobBlks_get (lab := lab) (first := first) (id := id) hp
    obtain ⟨h1, h2⟩ := List.getElem?_eq_some_iff.1 e
    have := List.drop_eq_getElem_cons h0
    rw [h2] at this
    simpa using this
  rw [hdr, List.cons_append, rdGo_cons, hbt, hps, if_neg (by simp [pieceBlk]), if_neg (by simp [pieceBlk]), if_neg (by simp), if_pos (.inr (.inr (.inl (by simpa [pieceOf] using hne))))]

/-- a volume that holds blobs -/
structure VS.Blobs (s : VS) (lab : ByteArray) (m : List (Nat × List UInt8)) : Prop where
  good : s.Good 100000 lab
  l : s.l = tapeL lab 0 m
  sum : wsum s.l ≤ m.length * 900
  ok : ∀ x ∈ m, x.1 < 18446744073709551616 ∧ x.2.length ≤ 600
theorem VS.Blobs.new (lab : ByteArray) : VS.Blobs { VS.new 100000 with lab := lab, er := 1 } lab [] := ⟨VS.Good.lb _ _, rfl, by show wsum [] ≤ _; simp [wsum], by simp⟩
theorem tapeN_le : ∀ (l : List (Nat × List UInt8)), (∀ x ∈ l, x.1 < 18446744073709551616 ∧ x.2.length ≤ 600) → tapeN l ≤ l.length * 4 := by
  intro l
  induction l with
  | nil => intro _; exact Nat.le_refl _
  | cons x r ih =>
    intro h
    have h1 := ih fun y hy => h y (by simp [hy])
    have h2 := (h x (by simp)).2
    have h3 : partsOf x.2.length ≤ 3 := by unfold partsOf; omega
    rw [tapeN, List.length_cons]
    omega
theorem VS.Blobs.len {s : VS} {lab : ByteArray} {l : List (Nat × List UInt8)} (h : s.Blobs lab l) : s.l.length = tapeN l := by rw [h.l, tapeL_len]
theorem VS.Blobs.more {s : VS} {lab : ByteArray} {l : List (Nat × List UInt8)} (h : s.Blobs lab l) (hl : lab.size ≤ 32) (hn : l.length ≤ 20) {id : Nat} (hid : id < 18446744073709551616) {d : List UInt8} (hd : d.length ≤ 600) :
    (s.wrote id d).Blobs lab (l ++ [(id, d)]) := by
  have h4 := tapeN_le l h.ok
  refine ⟨h.good.wrote id d, ?_, ?_, ?_⟩
  · show s.l ++ (blobBlks s.lab s.l.length id d ++ [markBlk]) = _
    rw [tapeL_append, h.len, h.good.lab, h.l, Nat.zero_add, tapeL_one]
  · have h1 := VS.wrote_sum (s := s) (id := id) (d := d) (by rw [h.good.lab]; exact hl) (by rw [h.len]; omega) hid (by omega)
    have h2 := h.sum
    have h3 : weightOf d.length ≤ 900 := by unfold weightOf partsOf; omega
    rw [List.length_append]
    show _ ≤ (l.length + 1) * 900
    omega
  · intro x hx
    rcases List.mem_append.1 hx with hx | hx
    · exact h.ok x hx
    · rw [List.mem_singleton.1 hx]
      exact ⟨hid, hd⟩
theorem VS.Blobs.pos {s : VS} {lab : ByteArray} {l : List (Nat × List UInt8)} (h : s.Blobs lab l) (p : Nat) : VS.Blobs { s with pos := p } lab l := ⟨h.good.pos p, h.l, h.sum, h.ok⟩
theorem VS.Blobs.scan {s : VS} {lab : ByteArray} {l : List (Nat × List UInt8)} (h : s.Blobs lab l) (hl : lab.size ≤ 32) (hn : l.length ≤ 20) : scanF s.lab s.l 0 0 = (itemsOf 0 l, endOf 0 0 l) := by
  have h4 := tapeN_le l h.ok
  have := scan_tape hl l [] 0 (by show 0 + tapeN l + 20 ≤ _; omega) (fun x hx => ⟨(h.ok x hx).1, by have := (h.ok x hx).2; omega⟩)
  rw [h.good.lab, h.l]
  simpa using this

section
variable {w : World} {B g : Nat} {s : VS} {lab : ByteArray} {l : List (Nat × List UInt8)}
theorem blobs_write (h : Vol w B g s) (hg : s.Blobs lab l) (hS : Steps w) (hB : 0 < B) (hl : lab.size ≤ 32) (hn : l.length ≤ 20) (id : Nat) (hid : id < 18446744073709551616) (d : ByteArray) (hd : d.size ≤ 600) :
    Calls Tryd.prog 24 #[.pointer (some ⟨g, 0, none⟩), .int .u64 (id : Int), .string d] w fun e w' => e = .returned (.tuple #[.int .i64 (tapeN l : Nat), .int .i64 0]) ∧ Vol w' B g (s.wrote id d.data.toList) ∧ Stay B g w w' := by
  have h4 := tapeN_le l hg.ok
  have h3 : weightOf d.size ≤ 900 := by unfold weightOf partsOf; omega
  have := write_good h hg.good hS hB hl (by rw [hg.len]; omega) id hid d (by omega) (by have := hg.sum; omega)
  rw [hg.len] at this
  exact this
theorem blobs_read (h : Vol w B g s) (hg : s.Blobs lab l) (hS : Steps w) (hB : 0 < B) (hl : lab.size ≤ 32) (hn : l.length ≤ 20) {i : Nat} (hi : i < l.length) :
    Calls Tryd.prog 27 #[.pointer (some ⟨g, 0, none⟩), .int .i64 (tapeN (l.take i) : Nat), .int .u64 (l[i].1 : Int)] w fun e w' => e = .returned (.tuple #[.string ⟨l[i].2.toArray⟩, .int .i64 0]) ∧ (∃ pos, Vol w' B g { s with pos := pos }) ∧ Stay B g w w' := by
  have h4 := tapeN_le l hg.ok
  obtain ⟨h1, h2⟩ := hg.ok _ (List.getElem_mem hi)
  obtain ⟨rest, hr⟩ := tape_split (lab := lab) hi
  have := read_good h hg.good hS hB hl (by rw [hg.len]; omega) l[i].1 h1 ⟨l[i].2.toArray⟩ (by rw [str_len]; omega) (tapeL lab 0 (l.take i)) rest (by rw [hg.l, hr, tapeL_len])
  rw [tapeL_len] at this
  exact this
set_option maxRecDepth 100000 in
theorem blobs_wrong (h : Vol w B g s) (hg : s.Blobs lab l) (hS : Steps w) (hB : 0 < B) (hl : lab.size ≤ 32) (hn : l.length ≤ 20) {i : Nat} (hi : i < l.length) (id' : Nat) (hid' : id' < 18446744073709551616) (hne : l[i].1 ≠ id') :
    Calls Tryd.prog 27 #[.pointer (some ⟨g, 0, none⟩), .int .i64 (tapeN (l.take i) : Nat), .int .u64 (id' : Int)] w fun e w' => e = .returned (.tuple #[.string ⟨#[]⟩, .int .i64 3]) ∧ (∃ pos, Vol w' B g { s with pos := pos }) ∧ Stay B g w w' := by
  have h4 := tapeN_le l hg.ok
  have h5 := tapeN_append (l.take i) (l.drop i)
  rw [List.take_append_drop] at h5
  have hll := hg.len
  have hlb := hg.good.lab
  have hok := hg.ok _ (List.getElem_mem hi)
  obtain ⟨rest, hr⟩ := tape_split (lab := lab) hi
  have hsl := hg.l
  have hR := rblob_any h hg.good.calm hS hB (tapeN (l.take i)) (by omega) id' hid'
  have hq : rdGo s.lab (tapeN (l.take i)) id' (s.l.drop (tapeN (l.take i))) 0 [] = ([], 3) := by
    have e : (tapeL lab 0 (l.take i)).length = tapeN (l.take i) := tapeL_len lab _ 0
    rw [hlb, hsl, hr]
    rw [show List.drop (tapeN (l.take i)) (tapeL lab 0 (l.take i) ++ (blobBlks lab (tapeN (l.take i)) l[i].1 l[i].2 ++ rest)) = blobBlks lab (tapeN (l.take i)) l[i].1 l[i].2 ++ rest by rw [← e, List.drop_left]]
    exact rd_wrong hl (by omega) hok.1 (by have := hok.2; omega) hne rest
  rw [hq] at hR
  refine hR.mono ?_
  rintro e w' ⟨he, hv, hst⟩
  exact ⟨he, hv, hst⟩
end
end Go.Proofs.YtniecodpdmjppaaDoor

/- A region that draws its order, whatever slots it writes: the invariant of values; what holds of the world may hang on which operations have come up. No program is named here. -/
namespace Go.Proofs.YtniecodpdmjppaaDoor
open Go.RowKit
set_option linter.unusedVariables false
set_option linter.unusedSimpArgs false

/-- a region's table: operation i leaves val i in slot slots[i] -/
structure Tf where
  slots : List Nat
  size : Nat
  base : Array Value
  val : Nat → Value
structure Tf.Inv (T : Tf) (H : (Nat → Bool) → World → Prop) (f : Nat → Bool) (a : Act) (W : World) : Prop where
  size : a.tmps.size = T.size
  defers : a.defers = []
  base : ∀ s, T.slots.contains s = false → a.tmps[s]?.getD undef = T.base[s]?.getD undef
  val : ∀ i d, T.slots[i]? = some d → f i = true → a.tmps[d]?.getD undef = T.val i
  held : H f W
theorem Tf.Inv.step {T : Tf} {H : (Nat → Bool) → World → Prop} {f : Nat → Bool} {a : Act} {W W' : World} {i d : Nat} (h : T.Inv H f a W) {v : Value} (hd : T.slots[i]? = some d) (hn : T.slots.Nodup) (hs : d < T.size) (hv : T.val i = v) (hH : H (hit f i) W') :
    T.Inv H (hit f i) (a.put (some d) v) W' := by
  have hlt : d < a.tmps.size := by rw [h.size]; exact hs
  refine ⟨?_, h.defers, fun s hs' => ?_, fun j d' hj hf => ?_, hH⟩
  · show (a.tmps.setIfInBounds _ _).size = _
    rw [Array.size_setIfInBounds, h.size]
  · have hne : s ≠ d := by
      rintro rfl
      have : T.slots.contains s = true := by
        rw [List.contains_iff_mem]
        exact List.mem_of_getElem? hd
      rw [this] at hs'
      cases hs'
    rw [put_get' _ _ _ _ hlt, if_neg hne, h.base s hs']
  · rw [put_get' _ _ _ _ hlt]
    by_cases e : j = i
    · subst e
      obtain rfl : d = d' := Option.some.inj (hd.symm.trans hj)
      rw [if_pos rfl, hv]
    · have hne : d' ≠ d := by
        rintro rfl
        obtain ⟨h1, h2⟩ := List.getElem?_eq_some_iff.1 hd
        obtain ⟨h3, h4⟩ := List.getElem?_eq_some_iff.1 hj
        have hp := List.pairwise_iff_getElem.1 hn
        rcases Nat.lt_or_gt_of_ne e with h | h
        · exact hp j i h3 h1 h (h4.trans h2.symm)
        · exact hp i j h1 h3 h (h2.trans h4.symm)
      rw [if_neg hne]
      exact h.val j d' hj (by rw [hit_of f i j e] at hf; exact hf)
/-- the frame behind the region -/
def finGo : List Nat → Nat → (Nat → Value) → Array Value → Array Value
  | [], _, _, t => t
  | d :: r, k, val, t => finGo r (k + 1) val (t.setIfInBounds d (val k))
theorem fin_size : ∀ (l : List Nat) (k : Nat) (val : Nat → Value) (t : Array Value), (finGo l k val t).size = t.size := by
  intro l
  induction l with
  | nil => intro k val t; rfl
  | cons d r ih => intro k val t; rw [finGo, ih, Array.size_setIfInBounds]
theorem fin_other : ∀ (l : List Nat) (k : Nat) (val : Nat → Value) (t : Array Value) (s : Nat), s ∉ l → (finGo l k val t)[s]? = t[s]? := by
  intro l
  induction l with
  | nil => intro k val t s _; rfl
  | cons d r ih =>
    intro k val t s hs
    rw [finGo, ih _ _ _ _ (fun h => hs (by simp [h])), Array.getElem?_setIfInBounds, if_neg (fun e => hs (by simp [e]))]
theorem fin_at : ∀ (l : List Nat) (k : Nat) (val : Nat → Value) (t : Array Value) (i d : Nat), l.Nodup → l[i]? = some d → d < t.size → (finGo l k val t)[d]? = some (val (k + i)) := by
  intro l
  induction l with
  | nil => intro k val t i d _ h; simp at h
  | cons x r ih =>
    intro k val t i d hn hi hd
    rw [List.nodup_cons] at hn
    cases i with
    | zero =>
      have e : x = d := by simpa using hi
      subst e
      rw [finGo, fin_other r _ _ _ _ hn.1, Array.getElem?_setIfInBounds, if_pos rfl, if_pos hd]
      rfl
    | succ i =>
      have hi' : r[i]? = some d := by simpa using hi
      rw [finGo, ih (k + 1) val _ i d hn.2 hi' (by rw [Array.size_setIfInBounds]; exact hd)]
      congr 2
      omega
theorem Tf.Inv.fin {T : Tf} {H : (Nat → Bool) → World → Prop} {f : Nat → Bool} {a : Act} {W : World} (h : T.Inv H f a W) (hall : ∀ i, i < T.slots.length → f i = true) (hb : T.base.size = T.size) (hn : T.slots.Nodup) (hs : T.slots.all (fun d => decide (d < T.size)) = true) :
    a = ⟨finGo T.slots 0 T.val T.base, []⟩ := by
  obtain ⟨tms, df⟩ := a
  have hd : df = [] := h.defers
  subst hd
  have hsz : tms.size = T.size := h.size
  congr 1
  apply Array.ext_getElem?
  intro s
  by_cases hm : s ∈ T.slots
  · obtain ⟨i, hi⟩ := List.getElem?_of_mem hm
    have hlt : s < T.size := by simpa using List.all_eq_true.1 hs s hm
    rw [fin_at _ _ _ _ i s hn hi (by rw [hb]; exact hlt)]
    have hv := h.val i s hi (hall i (List.getElem?_eq_some_iff.1 hi).1)
    simp only at hv
    rw [Array.getElem?_eq_getElem (by rw [hsz]; exact hlt)] at hv ⊢
    rw [Nat.zero_add]
    exact congrArg some hv
  · rw [fin_other _ _ _ _ _ hm]
    have hv := h.base s (by simpa using hm)
    simp only at hv
    by_cases hlt : s < T.size
    · rw [Array.getElem?_eq_getElem (by rw [hsz]; exact hlt), Array.getElem?_eq_getElem (by rw [hb]; exact hlt)] at hv ⊢
      exact congrArg some hv
    · rw [Array.getElem?_eq_none (by rw [hsz]; omega), Array.getElem?_eq_none (by rw [hb]; omega)]
end Go.Proofs.YtniecodpdmjppaaDoor

/- A []Blob that came in, opened. -/
namespace Go.Proofs.YtniecodpdmjppaaDoor
open Go.ChangeShapes Go.WideShapes Go.ChangeAt Go.RowKit
set_option linter.unusedVariables false
set_option linter.unusedSimpArgs false

/-- a blob -/
structure Bl where
  id : Nat
  s : ByteArray
  n : Int
def Bl.cells (t : Bl) : List Value := [.int .u64 (t.id : Int), .string t.s, .int .i64 t.n]
/-- the blobs of a slice, where they lie -/
def BlobsAt (w : World) (B : Nat) (A : Option Addr) (l : List Bl) : Prop :=
  ∀ i (h : i < l.length), ∃ ad, A = some ad ∧ ad.block < B ∧ (∀ j u, (l[i].cells)[j]? = some u → w.cell? (ad.add (i * 3 + j)) = some u) ∧ l[i].id < 18446744073709551616
theorem BlobsAt.below {w w' : World} {B : Nat} {A : Option Addr} {l : List Bl} (h : BlobsAt w B A l) (hb : Below B w w') : BlobsAt w' B A l := fun i hi => by
  obtain ⟨ad, e, hlt, hc, hok⟩ := h i hi
  exact ⟨ad, e, hlt, fun j u hj => (hb.cell (p := ad.add (i * 3 + j)) (by rw [add_block]; exact hlt)).trans (hc j u hj), hok⟩
theorem addr_at3 (ad : Addr) (m j : Nat) : ad.add (m + (j + 1)) = ⟨(ad.add m).block, (ad.add m).off + (j + 1), none⟩ := by
  unfold Addr.add
  by_cases hm : m = 0
  · subst hm; simp
  · simp [hm, Nat.add_assoc]
theorem BlobsAt.get {w : World} {B : Nat} {A : Option Addr} {l : List Bl} (h : BlobsAt w B A l) {k : Nat} (hk : k < l.length) : ∃ ad, A = some ad ∧ (∀ w', Below B w w' → w'.cell? (ad.add (k * 3)) = some (.int .u64 (l[k].id : Int)) ∧ w'.cell? ⟨(ad.add (k * 3)).block, (ad.add (k * 3)).off + 1, none⟩ = some (.string l[k].s) ∧ w'.cell? ⟨(ad.add (k * 3)).block, (ad.add (k * 3)).off + 2, none⟩ = some (.int .i64 l[k].n)) ∧ l[k].id < 18446744073709551616 := by
  obtain ⟨ad, e, hlt, hc, hok⟩ := h k hk
  refine ⟨ad, e, fun w' hb => ?_, hok⟩
  have key : ∀ j u, (l[k].cells)[j]? = some u → w'.cell? (ad.add (k * 3 + j)) = some u := fun j u hj => (hb.cell (p := ad.add (k * 3 + j)) (by rw [add_block]; exact hlt)).trans (hc j u hj)
  have h0 := key 0 _ rfl
  have h1 := key 1 _ rfl
  have h2 := key 2 _ rfl
  rw [addr_at3] at h1 h2
  exact ⟨h0, h1, h2⟩

set_option maxRecDepth 100000 in
theorem blob_fields : ∃ fs : Array Field, Tryd.prog.underlying 32 = some (.struct fs) ∧ fs.size = 3 ∧ Go.Deep.oneCellFields Tryd.prog fs = true ∧ fs.toList.map (fun f : Field => f.type) = [30, 9, 3] := by
  refine ⟨_, Tryd.underlying32, ?_, ?_, ?_⟩ <;> kernel_rfl

set_option maxRecDepth 100000 in
theorem open_blobs {H : Type} {enc : TypeId × Value → H} {W : World} {base : Nat} {spare : Nat → Bool} {held : Bool} {v : Value} {d : DataW H} {p : List MemPlace} {r : Reach} {b0 : Nat}
    (hv : Value.okWide Tryd.prog W r b0 22 v) (h : DataW.Trod enc Tryd.prog W base spare held 22 v d p) :
    ∃ (A : Option Addr) (cap : Nat) (l : List Bl), v = .slice A l.length cap ∧ l.length ≤ cap ∧ BlobsAt W W.heap.size A l ∧ l.length ≤ 9223372036854775807 := by
  obtain ⟨fs, he, hsz, hone, hty⟩ := blob_fields
  obtain ⟨A, len, cap, rfl, hlc, hi⟩ := open_structs Tryd.underlying22 he hone (by rw [blob_cells, hsz]) (by omega) hv h
  have hmx : len ≤ 9223372036854775807 := slice_max (enc := enc) (d := d) (p := p) Tryd.underlying22 h
  rw [hsz] at hi
  have key : ∀ i, ∃ t : Bl, i < len → ∃ ad, A = some ad ∧ ad.block < W.heap.size ∧ (∀ j u, (t.cells)[j]? = some u → W.cell? (ad.add (i * 3 + j)) = some u) ∧ t.id < 18446744073709551616 := by
    intro i
    by_cases hil : i < len
    · obtain ⟨ad, cs, hA, hblk, hcl, hcell, hrd⟩ := hi i hil
      obtain ⟨c0, c1, c2, rfl⟩ : ∃ a b c, cs = [a, b, c] := by
        match cs, hcl with
        | [a, b, c], _ => exact ⟨a, b, c, rfl⟩
      have hf : ∀ j (hj : j < 3), ∃ f, fs[j]? = some f ∧ [30, 9, 3][j]? = some f.type := fun j hj => by
        have hj' : j < fs.size := by omega
        refine ⟨fs[j], Array.getElem?_eq_getElem hj', ?_⟩
        rw [← hty, List.getElem?_map]
        simp [hj']
      obtain ⟨f0, g0, e0⟩ := hf 0 (by omega)
      obtain ⟨f1, g1, e1⟩ := hf 1 (by omega)
      obtain ⟨f2, g2, e2⟩ := hf 2 (by omega)
      simp at e0 e1 e2
      obtain ⟨n0, x0, r0⟩ := hrd 0 f0 c0 g0 rfl
      obtain ⟨n1, x1, r1⟩ := hrd 1 f1 c1 g1 rfl
      obtain ⟨n2, x2, r2⟩ := hrd 2 f2 c2 g2 rfl
      rw [← e0] at r0
      rw [← e1] at r1
      rw [← e2] at r2
      obtain ⟨K, k0, _, w0⟩ := DataW.trod_int Tryd.underlying30 r0
      obtain ⟨SA, k1, _⟩ := DataW.trod_string Tryd.underlying9 r1
      obtain ⟨N, k2, _, w2⟩ := DataW.trod_int Tryd.underlying3 r2
      simp at k0 k1 k2
      subst k0 k1 k2
      have b0 := bounds_u64' w0
      obtain ⟨id, rfl⟩ := Int.eq_ofNat_of_zero_le b0.1
      exact ⟨⟨id, SA, N⟩, fun _ => ⟨ad, hA, hblk, fun j u hj => hcell j u hj, by show id < _; omega⟩⟩
    · exact ⟨⟨0, ⟨#[]⟩, 0⟩, fun h => absurd h hil⟩
  have hT := fun i => Classical.choose_spec (key i)
  refine ⟨A, cap, (List.range len).map (fun i => Classical.choose (key i)), by simp, by simpa using hlc, fun i hil => ?_, by simpa using hmx⟩
  have hil' : i < len := by simpa using hil
  simpa using hT i hil'
end Go.Proofs.YtniecodpdmjppaaDoor

/- The laws of layer 7 that write blobs in a loop: what stays between their rounds. -/
namespace Go.Proofs.YtniecodpdmjppaaDoor
open Go.RowKit
open Sm
set_option linter.unusedVariables false
set_option linter.unusedSimpArgs false

/-- a blob of the law's, as it is written -/
def Bl.data (b : Bl) : ByteArray := longOf b.s b.n
def blobsOf (l : List Bl) : List (Nat × List UInt8) := l.map fun b => (b.id, b.data.data.toList)
/-- where they lie -/
def places (l : List Bl) (k : Nat) : List Value := (List.range k).map fun i => .int .i64 ((tapeN (blobsOf (l.take i)) : Nat) : Int)
theorem places_more (l : List Bl) (k : Nat) : places l (k + 1) = places l k ++ [.int .i64 ((tapeN (blobsOf (l.take k)) : Nat) : Int)] := by unfold places; rw [List.range_succ, List.map_append]; rfl
theorem places_len (l : List Bl) (k : Nat) : (places l k).length = k := by unfold places; simp
theorem places_get (l : List Bl) {k i : Nat} (h : i < k) : (places l k)[i]? = some (.int .i64 ((tapeN (blobsOf (l.take i)) : Nat) : Int)) := by
  unfold places
  rw [List.getElem?_map, List.getElem?_range h]
  rfl
theorem blobsOf_take (l : List Bl) (k : Nat) : (blobsOf l).take k = blobsOf (l.take k) := by unfold blobsOf; rw [List.map_take]
theorem blobsOf_len (l : List Bl) : (blobsOf l).length = l.length := by unfold blobsOf; simp
theorem blobsOf_next {l : List Bl} {k : Nat} (h : k < l.length) : blobsOf (l.take (k + 1)) = blobsOf (l.take k) ++ [(l[k].id, l[k].data.data.toList)] := by
  rw [List.take_succ_eq_append_getElem h]
  unfold blobsOf
  rw [List.map_append]
  rfl
theorem data_len (b : Bl) : b.data.data.toList.length ≤ 600 := by
  have := longOf_size b.s b.n
  have e : b.data.data.toList.length = b.data.size := by simp
  unfold Bl.data at *
  omega
theorem row_empty (W : World) (e : TypeId) (z : Nat) : (W.alloc (.cells #[] e)).ownsRow W.heap.size e z (.slice (some ⟨W.heap.size, 0, none⟩) 0 0) 0 [] :=
  ⟨by simp, .inr ⟨_, 0, _, rfl, Nat.le_refl _, heap_alloc_new W _, Nat.le_refl _, by simp [maxLen], by simp, by simp⟩⟩
theorem row_form {W : World} {B n z : Nat} {e : TypeId} {v : Value} {xs : List Value} (h : W.ownsRow B e z v n xs) : ∃ A c, v = .slice A n c ∧ n ≤ c ∧ (0 < n → ∃ k, A = some ⟨k, 0, none⟩) := by
  rcases h.2 with ⟨rfl, rfl⟩ | ⟨k, cap, cur, rfl, _, _, hc, _⟩
  · exact ⟨none, 0, rfl, Nat.le_refl _, fun h => absurd h (Nat.lt_irrefl _)⟩
  · exact ⟨_, cap, rfl, hc, fun _ => ⟨k, rfl⟩⟩
theorem itCells_get : ∀ (l : List It) (i j : Nat) (x : It) (u : Value), l[i]? = some x → x.cells.toList[j]? = some u → (itCells l)[i * 3 + j]? = some u := by
  intro l
  induction l with
  | nil => intro i j x u h; simp at h
  | cons a r ih =>
    intro i j x u h hj
    have ha : a.cells.toList.length = 3 := rfl
    have e : itCells (a :: r) = a.cells.toList ++ itCells r := by unfold itCells; rw [List.flatMap_cons]
    cases i with
    | zero =>
      obtain rfl : a = x := by simpa using h
      have hj3 : j < 3 := by have := (List.getElem?_eq_some_iff.1 hj).1; omega
      rw [e, Nat.zero_mul, Nat.zero_add, List.getElem?_append_left (by omega)]
      exact hj
    | succ i =>
      have := ih i j x u (by simpa using h) hj
      rw [e, List.getElem?_append_right (by omega), ha, show (i + 1) * 3 + j - 3 = i * 3 + j by omega]
      exact this

theorem info_int' : (Tryd.prog.info? 3).map (fun i => (i.zero, i.size, i.bytes)) = some (some (.int .i64 0), 1, 8) := by kernel_rfl
theorem vol_grow {w w' : World} {B g : Nat} {s : VS} {B' n z : Nat} {e : TypeId} {v : Value} {xs : List Value} (h : Vol w B g s) (hr : w.ownsRow B' e z v n xs) (h1 : e ≠ 51) (h2 : e ≠ 101) (hg : w.grownBy w' v.ownBlock) : Vol w' B g s := by
  rcases hr.2 with ⟨rfl, _⟩ | ⟨k, cap, cur, rfl, hk, hat, _⟩
  · exact h.below ⟨hg.os, hg.tape, hg.output, hg.size, fun k hk => hg.block k hk (by simp [Value.ownBlock])⟩
  · exact Vol.other h hg hat (by rintro cs fz e; injection e with _ e _; exact h1 e) (by rintro cs fz e; injection e with _ e _; exact h2 e)
theorem below_grow {w w' : World} {B n z : Nat} {e : TypeId} {v : Value} {xs : List Value} (hr : w.ownsRow B e z v n xs) (hg : w.grownBy w' v.ownBlock) (hB : B ≤ w.heap.size) : Below B w w' :=
  ⟨hg.os, hg.tape, hg.output, hg.size, fun k hk => hg.block k (by omega) (fun e => by have := (hr.lt k e.symm).1; omega)⟩

/-- behind the first k writes -/
structure BK (w : World) (B g : Nat) (m : List Bl) (v : Value) (k : Nat) (wr : World) : Prop where
  row : wr.ownsRow B 3 1 v k (places m k)
  vol : ∃ s, Vol wr B g s ∧ s.Blobs ⟨#[65]⟩ (blobsOf (m.take k))
  below : Below B w wr
theorem BK.drew {w : World} {B g : Nat} {m : List Bl} {v : Value} {k : Nat} {wr : World} (h : BK w B g m v k wr) : BK w B g m v k wr.drew :=
  ⟨h.row.drew, h.vol.elim fun s h => ⟨s, h.1.below (Below.drew (Below.refl _ wr)), h.2⟩, Below.drew h.below⟩
/-- all are written, and Scan has been asked -/
structure BR (w : World) (B g : Nat) (m : List Bl) (N : Nat) (va vi : Value) (wr : World) : Prop where
  ra : wr.ownsRow B 3 1 va N (places m N)
  ri : wr.ownsRow B 93 3 vi N (itCells (itemsOf 0 (blobsOf (m.take N))))
  vol : ∃ s, Vol wr B g s ∧ s.Blobs ⟨#[65]⟩ (blobsOf (m.take N))
  below : Below B w wr
theorem BR.drew {w : World} {B g : Nat} {m : List Bl} {N : Nat} {va vi : Value} {wr : World} (h : BR w B g m N va vi wr) : BR w B g m N va vi wr.drew :=
  ⟨h.ra.drew, h.ri.drew, h.vol.elim fun s h => ⟨s, h.1.below (Below.drew (Below.refl _ wr)), h.2⟩, Below.drew h.below⟩
theorem BR.read {w : World} {B g : Nat} {m : List Bl} {N : Nat} {va vi : Value} {wr w' : World} {s : VS} (h : BR w B g m N va vi wr) (hg : s.Blobs ⟨#[65]⟩ (blobsOf (m.take N))) (hv : ∃ pos, Vol w' B g { s with pos := pos }) (hst : Stay B g wr w') : BR w B g m N va vi w' :=
  ⟨hst.toStay0.row h.ra (by decide) (by decide), hst.toStay0.row h.ri (by decide) (by decide), hv.elim fun p hv => ⟨_, hv, hg.pos p⟩, h.below.trans hst.below⟩
theorem blobs_at {m : List Bl} {N j : Nat} (hN : N ≤ m.length) (hj : j < N) : ∃ h : j < (blobsOf (m.take N)).length, (blobsOf (m.take N))[j] = (m[j].id, m[j].data.data.toList) ∧ (blobsOf (m.take N)).take j = blobsOf (m.take j) := by
  have hl : (blobsOf (m.take N)).length = N := by rw [blobsOf_len, List.length_take]; omega
  refine ⟨by omega, ?_, ?_⟩
  · unfold blobsOf
    rw [List.getElem_map, List.getElem_take]
  · rw [blobsOf_take, List.take_take, Nat.min_eq_left (by omega)]
section
variable {w : World} {B g : Nat} {m : List Bl} {N k4 k9 c4 c9 : Nat} {W : World} {j : Nat}
theorem BR.cells (h : BR w B g m N (.slice (some ⟨k4, 0, none⟩) N c4) (.slice (some ⟨k9, 0, none⟩) N c9) W) (hN : N ≤ m.length) (hj : j < N) : W.cell? ((⟨k4, 0, none⟩ : Addr).add j) = some (.int .i64 ((tapeN (blobsOf (m.take j)) : Nat) : Int)) ∧ W.cell? ((⟨k9, 0, none⟩ : Addr).add (j * 3)) = some (.int .u64 (m[j].id : Int)) ∧
    W.cell? ⟨((⟨k9, 0, none⟩ : Addr).add (j * 3)).block, ((⟨k9, 0, none⟩ : Addr).add (j * 3)).off + 1, none⟩ = some (.int .i64 ((tapeN (blobsOf (m.take j)) : Nat) : Int)) ∧ W.cell? ⟨((⟨k9, 0, none⟩ : Addr).add (j * 3)).block, ((⟨k9, 0, none⟩ : Addr).add (j * 3)).off + 2, none⟩ = some (.int .i64 (m[j].data.size : Int)) := by
  obtain ⟨h1, h2, h3⟩ := blobs_at hN hj
  have hx := itemsOf_get (blobsOf (m.take N)) 0 j h1
  rw [h2, h3, Nat.zero_add] at hx
  simp only at hx
  have e2 : m[j].data.data.toList.length = m[j].data.size := by simp
  rw [e2] at hx
  have key : ∀ q u, (It.cells ⟨m[j].id, tapeN (blobsOf (m.take j)), m[j].data.size⟩).toList[q]? = some u → W.cell? ((⟨k9, 0, none⟩ : Addr).add (j * 3 + q)) = some u := fun q u hq => h.ri.cells (g := k9) rfl (j * 3 + q) u (itCells_get _ j q _ u hx hq)
  have y0 := key 0 _ rfl
  have y1 := key 1 _ rfl
  have y2 := key 2 _ rfl
  rw [addr_at3] at y1 y2
  exact ⟨h.ra.cells (g := k4) rfl j _ (places_get m hj), y0, y1, y2⟩
theorem BR.reads {va vi : Value} (h : BR w B g m N va vi W) (hS : Steps W) (hB : 0 < B) (h6 : N ≤ 6) (hN : N ≤ m.length) (hj : j < N) :
    Calls Tryd.prog 27 #[.pointer (some ⟨g, 0, none⟩), .int .i64 ((tapeN (blobsOf (m.take j)) : Nat) : Int), .int .u64 (m[j].id : Int)] W fun e w' => e = .returned (.tuple #[.string m[j].data, .int .i64 0]) ∧ BR w B g m N va vi w' := by
  obtain ⟨h1, h2, h3⟩ := blobs_at hN hj
  obtain ⟨s, hv, hbb⟩ := h.vol
  have := blobs_read hv hbb hS hB (by decide) (by rw [blobsOf_len, List.length_take]; omega) h1
  rw [h2, h3] at this
  refine this.mono ?_
  rintro e w' ⟨rfl, hv', hst⟩
  exact ⟨rfl, h.read hbb hv' hst⟩
theorem BR.wrong {va vi : Value} (h : BR w B g m N va vi W) (hS : Steps W) (hB : 0 < B) (h6 : N ≤ 6) (hN : N ≤ m.length) (hj : j < N) (id2 : Nat) (hid2 : id2 < 18446744073709551616) (hne : m[j].id ≠ id2) :
    Calls Tryd.prog 27 #[.pointer (some ⟨g, 0, none⟩), .int .i64 ((tapeN (blobsOf (m.take j)) : Nat) : Int), .int .u64 (id2 : Int)] W fun e w' => e = .returned (.tuple #[.string ⟨#[]⟩, .int .i64 3]) ∧ BR w B g m N va vi w' := by
  obtain ⟨h1, h2, h3⟩ := blobs_at hN hj
  obtain ⟨s, hv, hbb⟩ := h.vol
  have := blobs_wrong hv hbb hS hB (by decide) (by rw [blobsOf_len, List.length_take]; omega) h1 id2 hid2 (by rw [h2]; exact hne)
  rw [h3] at this
  refine this.mono ?_
  rintro e w' ⟨rfl, hv', hst⟩
  exact ⟨rfl, h.read hbb hv' hst⟩
end
theorem next_id (n : Nat) (h : n < 18446744073709551616) : ∃ n2 : Nat, n2 < 18446744073709551616 ∧ n ≠ n2 ∧ IntKind.u64.wrap ((n : Int) + 1) = (n2 : Int) := by
  by_cases e : n = 18446744073709551615
  · subst e
    exact ⟨0, by omega, by omega, by decide⟩
  · exact ⟨n + 1, by omega, by omega, by rw [IntKind.wrap_u64] <;> omega⟩

end Go.Proofs.YtniecodpdmjppaaDoor
