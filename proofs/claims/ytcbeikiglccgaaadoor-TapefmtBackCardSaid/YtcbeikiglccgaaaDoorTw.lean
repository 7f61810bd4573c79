/- tapefmt.Write: its walk. -/
import Derived.Test.YtcbeikiglccgaaaDoorTq
import Derived.Deep.QuietTactic
import Derived.BigQuiet
namespace Go.Proofs.YtcbeikiglccgaaaDoor
open Go.RowKit
open Sm
set_option linter.unusedVariables false

/-- blocks one behind the other, up to the first error -/
def VS.wgo (s : VS) : List Blk → VS × Int
  | [] => (s, 0)
  | b :: r => if (s.add b).2 ≠ 0 then s.add b else VS.wgo (s.add b).1 r
/-- Write: what becomes of the volume, the number of the first block, the error's number -/
def VS.wblob (s : VS) (id : Nat) (d : List UInt8) : VS × Int × Int :=
  if 4000 < d.length then (s, 0, 11) else
  if (s.seek s.l.length).2 ≠ 0 then ((s.seek s.l.length).1, 0, (s.seek s.l.length).2) else
  if (s.seek s.l.length).1.rm - wsum (s.seek s.l.length).1.l < weightOf d.length then ((s.seek s.l.length).1, 0, 7) else
  if ((s.seek s.l.length).1.wgo (blobBlks s.lab s.l.length id d)).2 ≠ 0 then (((s.seek s.l.length).1.wgo (blobBlks s.lab s.l.length id d)).1, 0, ((s.seek s.l.length).1.wgo (blobBlks s.lab s.l.length id d)).2) else
  if (((s.seek s.l.length).1.wgo (blobBlks s.lab s.l.length id d)).1.add markBlk).2 ≠ 0 then ((((s.seek s.l.length).1.wgo (blobBlks s.lab s.l.length id d)).1.add markBlk).1, 0, (((s.seek s.l.length).1.wgo (blobBlks s.lab s.l.length id d)).1.add markBlk).2) else
  if ((((s.seek s.l.length).1.wgo (blobBlks s.lab s.l.length id d)).1.add markBlk).1.flush).2 ≠ 0 then (((((s.seek s.l.length).1.wgo (blobBlks s.lab s.l.length id d)).1.add markBlk).1.flush).1, 0, ((((s.seek s.l.length).1.wgo (blobBlks s.lab s.l.length id d)).1.add markBlk).1.flush).2) else
  (((((s.seek s.l.length).1.wgo (blobBlks s.lab s.l.length id d)).1.add markBlk).1.flush).1, s.l.length, 0)

theorem seek_lab (s : VS) (n : Int) : (s.seek n).1.lab = s.lab ∧ (s.seek n).1.l = s.l ∧ (s.seek n).1.rm = s.rm := by
  unfold VS.seek
  split
  · exact ⟨rfl, rfl, rfl⟩
  · split <;> exact ⟨rfl, rfl, rfl⟩
theorem add_len (s : VS) (b : Blk) : (s.add b).1.l.length ≤ s.l.length + 1 := by
  unfold VS.add
  split
  · show s.l.length ≤ _; omega
  · split
    · show s.l.length ≤ _; omega
    · split
      · show s.l.length ≤ _; omega
      · split
        · show s.l.length ≤ _; omega
        · show (s.l ++ [b]).length ≤ _; simp

def WroteEnds (w : World) (B g : Nat) (r : VS × Int × Int) (e : Ending) (w' : World) : Prop := e = .returned (.tuple #[.int .i64 r.2.1, .int .i64 r.2.2]) ∧ Vol w' B g r.1 ∧ Stay B g w w'

theorem Vol.drewN {w : World} {B g : Nat} {s : VS} (h : Vol w B g s) (n : Nat) : Vol (w.drewN n) B g s := ⟨h.1, h.2.elim fun v h => ⟨v, h.drewN n⟩⟩
theorem fits_vol {w : World} {B g : Nat} {s : VS} (h : Vol w B g s) (n : Int) : Calls Tryd.prog 45 #[.pointer (some ⟨g, 0, none⟩), .int .i64 n] w fun e w' => e = .returned (.bool (decide (n ≤ s.rm - (wsum s.l : Nat)))) ∧ ∃ n, w' = w.drewN n := by
  obtain ⟨ok, v, h⟩ := h
  exact fits_any (h.meter ok) n

section
variable {w : World} {B g : Nat} {s : VS}

set_option maxRecDepth 100000 in
set_option maxHeartbeats 1000000 in
theorem wblob_big (h : Vol w B g s) (id : Nat) (d : ByteArray) (hd : 4000 < d.size) (hd2 : d.size ≤ 9223372036854775807) :
    Calls Tryd.prog 14 #[.pointer (some ⟨g, 0, none⟩), .int .u64 (id : Int), .string d] w (WroteEnds w B g (s, 0, 11)) := by
  have H := Lib.hid h
  clear h
  go_enter Tryd.func14, Tryd.ntmps14
  go_wp2
  go_ret2
  exact ⟨rfl, H.out, Stay.refl _ _⟩

set_option maxRecDepth 100000 in
set_option maxHeartbeats 1000000 in
theorem wblob_seek (h : Vol w B g s) (id : Nat) (d : ByteArray) (hd : ¬ 4000 < d.size) (t : VS) (c : Int) (hs : s.seek s.l.length = (t, c)) (hc : c ≠ 0) :
    Calls Tryd.prog 14 #[.pointer (some ⟨g, 0, none⟩), .int .u64 (id : Int), .string d] w (WroteEnds w B g (t, 0, c)) := by
  have hL := len_vol h
  have hK := seek_vol h s.l.length
  rw [hs] at hK
  have hcb : (c != 0) = true := by rw [bne_iff_ne]; exact hc
  clear h hs hc
  generalize s.l.length = n at *
  go_enter Tryd.func14, Tryd.ntmps14
  go_wp2_with fail
  refine hL.mono ?_
  rintro e w1 ⟨rfl, rfl⟩
  go_wp2_with fail
  refine hK.mono ?_
  rintro e w2 ⟨rfl, h2, st2⟩
  have H2 := Lib.hid h2
  have ST := Lib.hid st2
  clear hK hL h2 st2
  go_wp2
  go_ret2
  exact ⟨rfl, H2.out, ST.out⟩

set_option maxRecDepth 100000 in
set_option maxHeartbeats 1000000 in
theorem wblob_full (h : Vol w B g s) (id : Nat) (d : ByteArray) (hd : ¬ 4000 < d.size) (t : VS) (hs : s.seek s.l.length = (t, 0)) (hf : t.rm - wsum t.l < weightOf d.size) :
    Calls Tryd.prog 14 #[.pointer (some ⟨g, 0, none⟩), .int .u64 (id : Int), .string d] w (WroteEnds w B g (t, 0, 7)) := by
  have hL := len_vol h
  have hK := seek_vol h s.l.length
  rw [hs] at hK
  have hW := fun W => weight_any d.size (by omega) W
  have hq : decide ((weightOf d.size : Nat) ≤ t.rm - (wsum t.l : Nat)) = false := by simp; omega
  clear h hs hf
  generalize s.l.length = n at *
  go_enter Tryd.func14, Tryd.ntmps14
  go_wp2_with fail
  refine hL.mono ?_
  rintro e w1 ⟨rfl, rfl⟩
  go_wp2_with fail
  refine hK.mono ?_
  rintro e w2 ⟨rfl, h2, st2⟩
  have hF := fun k => fits_vol (h2.drewN k) (weightOf d.size : Nat)
  rw [hq] at hF
  have HF := Lib.hid hF
  have H2 := Lib.hid h2
  have ST := Lib.hid st2
  clear hK hL h2 st2 hF hq
  generalize weightOf d.size = wt at *
  go_wp2_with fail
  go_quiet (first | (go_at_call 25; exact Calls.quiet_of_same ((hW _).mono fun _ _ ⟨he, hw⟩ => ⟨he, hw.symm⟩)) | (go_at_call 45; exact Calls.quiet_of (HF.out _)))
  go_wp2
  go_ret2
  exact ⟨rfl, H2.out.drewN _, ST.out.trans (Stay.drewN _ _)⟩

theorem label_any (h : Vol w B g s) : Calls Tryd.prog 36 #[.pointer (some ⟨g, 0, none⟩)] w fun e w' => e = .returned (.string s.lab) ∧ Below w.heap.size w w' := label_vol h

/-- the volume behind the first pieces -/
def Going (w : World) (B g : Nat) (n : Nat) (bl : List Blk) (r : VS × Int) (k : Nat) : Prop := ∃ t : VS, Vol w B g t ∧ t.wgo (bl.drop k) = r ∧ t.l.length ≤ n + k

set_option maxRecDepth 100000 in
set_option maxHeartbeats 4000000 in
theorem wblob_main (h : Vol w B g s) (hS : Steps w) (hB : 0 < B) (hlen : s.l.length ≤ 900000) (hlab : s.lab.size ≤ 32) (id : Nat) (hid : id < 18446744073709551616) (d : ByteArray) (hd : ¬ 4000 < d.size) (t : VS) (hs : s.seek s.l.length = (t, 0)) (hf : ¬ t.rm - wsum t.l < weightOf d.size) :
    Calls Tryd.prog 14 #[.pointer (some ⟨g, 0, none⟩), .int .u64 (id : Int), .string d] w (WroteEnds w B g (s.wblob id d.data.toList)) := by
  have hlt := seek_lab s s.l.length
  rw [hs] at hlt
  simp only at hlt
  obtain ⟨hl1, hl2, hl3⟩ := hlt
  have hok := h.1
  have hL := len_vol h
  have hK := seek_vol h s.l.length
  rw [hs] at hK
  have hW := fun W => weight_any d.size (by omega) W
  have hq : decide ((weightOf d.size : Nat) ≤ t.rm - (wsum t.l : Nat)) = true := by simp; omega
  have hPc := fun W (hW : Steps W) => pieces_any s.lab s.l.length id d (by omega) hid (by omega) W hW
  have hdl : d.data.toList.length = d.size := by simp
  have hr : s.wblob id d.data.toList = (if (t.wgo (blobBlks s.lab s.l.length id d.data.toList)).2 ≠ 0 then ((t.wgo (blobBlks s.lab s.l.length id d.data.toList)).1, 0, (t.wgo (blobBlks s.lab s.l.length id d.data.toList)).2) else
      if ((t.wgo (blobBlks s.lab s.l.length id d.data.toList)).1.add markBlk).2 ≠ 0 then (((t.wgo (blobBlks s.lab s.l.length id d.data.toList)).1.add markBlk).1, 0, ((t.wgo (blobBlks s.lab s.l.length id d.data.toList)).1.add markBlk).2) else
      if (((t.wgo (blobBlks s.lab s.l.length id d.data.toList)).1.add markBlk).1.flush).2 ≠ 0 then ((((t.wgo (blobBlks s.lab s.l.length id d.data.toList)).1.add markBlk).1.flush).1, 0, (((t.wgo (blobBlks s.lab s.l.length id d.data.toList)).1.add markBlk).1.flush).2) else
      ((((t.wgo (blobBlks s.lab s.l.length id d.data.toList)).1.add markBlk).1.flush).1, (s.l.length : Int), 0)) := by
    unfold VS.wblob
    rw [hs, hdl, if_neg hd, if_neg (by simp), if_neg hf]
  rw [hr]
  have hbp := blobBlks_pcs s.lab s.l.length id d.data.toList
  have hpl := blobPcs_len s.lab s.l.length id d.data.toList
  have hp20 := partsOf_le (show d.data.toList.length ≤ 4000 by omega)
  rw [← hpl] at hp20
  have HPO : Hid (∀ i (hi : i < (blobPcs s.lab s.l.length id d.data.toList).length), ((blobPcs s.lab s.l.length id d.data.toList)[i]).ok) := Lib.hid fun i hi => by
    rw [blobPcs_get hi]
    exact pieceOf_ok hlab (by omega) hid (by omega) (by rw [← hpl]; exact hi)
  generalize blobPcs s.lab s.l.length id d.data.toList = L at *
  generalize blobBlks s.lab s.l.length id d.data.toList = bl at *
  generalize hR : t.wgo bl = r at *
  have HR := Lib.hid hR
  have HBP := Lib.hid hbp
  have htl : t.l.length = s.l.length := by rw [hl2]
  have hlb : t.lab = s.lab := hl1
  have hlbz := hok.lab
  clear hs hr hbp hR hl1 hl2 hl3 hok hpl hdl hf
  generalize s.lab = lab at *
  generalize s.l.length = n at *
  clear h
  generalize hRR : (if r.2 ≠ 0 then (r.1, (0 : Int), r.2) else _) = RR
  have HRR := Lib.hid hRR
  clear hRR
  go_enter Tryd.func14, Tryd.ntmps14
  go_wp2_with fail
  refine hL.mono ?_
  rintro e w1 ⟨rfl, rfl⟩
  go_wp2_with fail
  refine hK.mono ?_
  rintro e w2 ⟨rfl, h2, st2⟩
  have h2 : Vol w2 B g t := h2
  have hF := fun k => fits_vol (h2.drewN k) (weightOf d.size : Nat)
  rw [hq] at hF
  have HF := Lib.hid hF
  have H2 := Lib.hid h2
  have ST := Lib.hid st2
  have HTL := Lib.hid htl
  have HLB := Lib.hid hlb
  clear hK hL h2 st2 hF hq htl hlb
  generalize weightOf d.size = wt at *
  go_wp2_with fail
  go_quiet (first | (go_at_call 25; exact Calls.quiet_of_same ((hW _).mono fun _ _ ⟨he, hw⟩ => ⟨he, hw.symm⟩)) | (go_at_call 45; exact Calls.quiet_of (HF.out _)))
  have H3 := Lib.hid (H2.out.drewN nq)
  have ST3 := Lib.hid (ST.out.trans (Stay.drewN w2 nq))
  clear H2 ST HF hW
  generalize w2.drewN nq = w3 at *
  have hLa := label_any H3.out
  rw [HLB.out] at hLa
  go_wp2_with fail
  refine hLa.mono ?_
  rintro e w4 ⟨rfl, hb4⟩
  have H4 := Lib.hid (H3.out.below hb4)
  have ST4 := Lib.hid (ST3.out.trans (Stay.of_below hb4 H3.out.bz))
  clear H3 ST3 hLa hb4
  have HS := Lib.hid hS
  have hS4 := HS.out.below ST4.out.below hB
  go_wp2_with fail
  refine (hPc w4 hS4).mono ?_
  rintro e w5 ⟨q, rfl, hq4, hR5, hb5⟩
  have H5 := Lib.hid (H4.out.below hb5)
  have ST5 := Lib.hid (ST4.out.trans (Stay.of_below hb5 H4.out.bz))
  have HR5 := Lib.hid hR5
  clear H4 ST4 hPc hb5 hR5 hS4 hq4 hS
  obtain ⟨N, hN⟩ : ∃ N, L.length = N := ⟨_, rfl⟩
  have HN := Lib.hid hN
  rw [hN] at HR5 hp20 ⊢
  clear hN
  have G5 : Hid (Going w5 B g n bl r 0) := Lib.hid ⟨t, H5.out, HR.out, by rw [HTL.out]; omega⟩
  have hinf : (Tryd.prog.info? 90).map (·.size) = some 8 := by kernel_rfl
  have HIN := Lib.hid hinf
  clear H5 hinf HR HTL HLB
  go_wp2
  go_loopw [41] (fun i wr => ∃ k : Nat, k ≤ N ∧ i = .int .i64 (k : Int) ∧ Hid (PcRow wr q L N) ∧ Hid (Going wr B g n bl r k) ∧ Hid (Stay B g w wr))
    (fun i _ => N - (intOf i).toNat)
  case atStart => exact ⟨0, by omega, rfl, HR5, G5, ST5⟩
  case round =>
    clear HR5 G5 ST5
    obtain ⟨k, hk, rfl, HRW, HG, HST⟩ := hrel
    obtain ⟨t', hv, hw, hl⟩ := HG.out
    clear HG
    by_cases hlt : k < N
    · have hkL : k < L.length := by rw [HN.out]; exact hlt
      have hpo := HPO.out k hkL
      have hra := HRW.out.got k hkL
      have hbd : bl.drop k = pieceBlk L[k] :: bl.drop (k + 1) := by
        rw [HBP.out, ← List.map_drop, List.drop_eq_getElem_cons hkL, List.map_cons, List.map_drop]
      rw [hbd] at hw
      generalize L[k] = p at *
      have hSp := fun W (h : Steps W) => spell_any p hpo W h
      have hez := enc_max hpo
      have hsz : (⟨p.spell.toArray⟩ : ByteArray).size ≤ 1000 := by rw [str_len]; unfold Pc.spell; rw [frameL_len]; omega
      unfold VS.wgo at hw
      unfold pieceBlk at hw
      obtain ⟨C, hC⟩ : ∃ C, p.cells = C := ⟨_, rfl⟩
      have hC8 : C.size = 8 := by rw [← hC]; rfl
      have hC1 : C.all (·.oneCell') = true := by rw [← hC]; simp [Value.oneCell']
      rw [hC] at hra
      unfold Pc.val at hSp
      rw [hC] at hSp
      generalize (⟨p.spell.toArray⟩ : ByteArray) = sp at *
      have hWr := fun W (h : Vol W B g t') => write_vol h sp (by omega) (by omega)
      obtain ⟨u, hu⟩ : ∃ u, t'.add ⟨sp, false, false⟩ = u := ⟨_, rfl⟩
      rw [hu] at hw hWr
      have hul := add_len t' ⟨sp, false, false⟩
      rw [hu] at hul
      have HC8 := Lib.hid hC8
      have HC1 := Lib.hid hC1
      have HRA := Lib.hid hra
      have HV := Lib.hid hv
      have hS5 := HS.out.below HST.out.below hB
      have HS5 := Lib.hid hS5
      have HWR := Lib.hid hWr
      have HSP := Lib.hid hSp
      have hX := At.new wr 90 pcZ
      have HX := Lib.hid hX
      have hI8 : (Tryd.prog.info? 90).map (·.size) = some C.size := by rw [HC8.out]; exact HIN.out
      have hI9 : pcZ.size = C.size := by rw [HC8.out]; rfl
      have HI8 := Lib.hid hI8
      have HI9 := Lib.hid hI9
      have HW := Lib.hid hw
      have HUL := Lib.hid hul
      have i0 : (0 : Int) ≤ (k : Int) := by omega
      have i1 : (k : Int) < (N : Int) := by omega
      clear hC8 hC1 hra hv hS5 hWr hSp hX hI8 hI9 hw hul hu hC hbd hpo hez
      have hWZ : (wr.alloc (.cells pcZ 90)).heap.size = wr.heap.size + 1 := by simp
      go_upto_region 12 with (first | refine wpList_load_part rfl 90 _ rfl q (k * 8) rfl C _ HRA.out Tryd.underlying90 rfl HI8.out ?_ | (refine wpList_store_whole rfl 90 _ _ rfl wr.heap.size C rfl rfl 90 _ HX.out HI8.out HI9.out HC1.out ?_; intro w9 hZ9 hG9; replace hZ9 := Lib.hid hZ9; replace hG9 := Lib.hid hG9))
      have hb9 : Below wr.heap.size wr w9 := below_of_grownBy ((Below.refl _ wr).alloc (Nat.le_refl _) _) hG9.out (by rw [hWZ]; omega) (Nat.le_refl _)
      have H9 := Lib.hid (HV.out.below hb9)
      have ST9 := Lib.hid (HST.out.trans (Stay.of_below hb9 HV.out.bz))
      have HS9 := Lib.hid (HS5.out.below hb9 HS5.out.1)
      have HR9 := Lib.hid (HRW.out.below hb9)
      clear HV HST HS5 HRW hb9 hG9 HX HI9 HRA hWZ
      generalize wr.heap.size = X at *
      go_wp2_with (refine wpList_load_whole rfl 90 _ rfl X rfl 90 _ _ hZ9.out Tryd.underlying90 rfl HI8.out ?_)
      refine (HSP.out w9 HS9.out).mono ?_
      rintro e w10 ⟨rfl, hb10⟩
      have H10 := Lib.hid (H9.out.below hb10)
      have ST10 := Lib.hid (ST9.out.trans (Stay.of_below hb10 H9.out.bz))
      have HR10 := Lib.hid (HR9.out.below hb10)
      clear H9 ST9 HR9 HS9 hb10 hZ9 HSP
      go_wp2_with fail
      refine (HWR.out w10 H10.out).mono ?_
      rintro e w11 ⟨rfl, h11, st11⟩
      have H11 := Lib.hid h11
      have ST11 := Lib.hid (ST10.out.trans st11)
      have HR11 := Lib.hid (HR10.out.stay st11.toStay0)
      clear H10 ST10 HR10 h11 st11 HWR
      by_cases hu0 : u.2 = 0
      · have hw2 := HW.out
        rw [if_neg (by rw [hu0]; simp)] at hw2
        have HW2 := Lib.hid hw2
        rw [hu0]
        clear hw2 HW hu0
        go_wp2
        go_roundw
        case rel => exact ⟨k + 1, by omega, by go_num, HR11, Lib.hid ⟨u.1, H11.out, HW2.out, by have := HUL.out; omega⟩, ST11⟩
        case measure => simp [intOf]; omega
      · have hw2 := HW.out
        rw [if_pos hu0] at hw2
        have hrr := HRR.out
        rw [← hw2, if_pos hu0] at hrr
        subst hrr
        have hub : (u.2 != 0) = true := by rw [bne_iff_ne]; exact hu0
        clear hw2 HW hu0 HRR
        go_wp2
        go_ret2
        exact ⟨rfl, H11.out, ST11.out⟩
    · obtain rfl : k = N := by omega
      have hbl : bl.drop k = [] := by rw [HBP.out]; exact List.drop_of_length_le (by rw [List.length_map, HN.out]; exact Nat.le_refl _)
      rw [hbl] at hw
      unfold VS.wgo at hw
      subst hw
      have hM := mark_vol hv (by omega)
      obtain ⟨u, hu⟩ : ∃ u, t'.add markBlk = u := ⟨_, rfl⟩
      rw [show t'.add ⟨⟨#[]⟩, true, false⟩ = u from hu] at hM
      have hrr := HRR.out
      simp only [hu] at hrr
      rw [if_neg (by simp)] at hrr
      have HRR2 := Lib.hid hrr
      have HM := Lib.hid hM
      clear hM hv hrr HRR hu HRW hbl
      go_wp2_with fail
      refine HM.out.mono ?_
      rintro e w6 ⟨rfl, h6, st6⟩
      have ST6 := Lib.hid (HST.out.trans st6)
      by_cases hu0 : u.2 = 0
      · rw [hu0]
        have hrr := HRR2.out
        rw [if_neg (by rw [hu0]; simp)] at hrr
        have hFl := flush_vol h6
        generalize u.1.flush = v at *
        have HRR3 := Lib.hid hrr
        have HFL := Lib.hid hFl
        clear hFl hrr h6 st6 HM HRR2 hu0 HST
        go_wp2_with fail
        refine HFL.out.mono ?_
        rintro e w7 ⟨rfl, h7, st7⟩
        have ST7 := Lib.hid (ST6.out.trans st7)
        have H7 := Lib.hid h7
        clear HFL h7 st7
        by_cases hv0 : v.2 = 0
        · rw [hv0]
          have hrr := HRR3.out
          rw [if_neg (by rw [hv0]; simp)] at hrr
          subst hrr
          clear hv0 HRR3
          go_wp2
          go_ret2
          exact ⟨rfl, H7.out, ST7.out⟩
        · have hrr := HRR3.out
          rw [if_pos hv0] at hrr
          subst hrr
          have hvb : (v.2 != 0) = true := by rw [bne_iff_ne]; exact hv0
          clear hv0 HRR3
          go_wp2
          go_ret2
          exact ⟨rfl, H7.out, ST7.out⟩
      · have hrr := HRR2.out
        rw [if_pos hu0] at hrr
        subst hrr
        have H6 := Lib.hid h6
        have hub : (u.2 != 0) = true := by rw [bne_iff_ne]; exact hu0
        clear hu0 HRR2 h6 st6 HM
        go_wp2
        go_ret2
        exact ⟨rfl, H6.out, ST6.out⟩

theorem wblob_any (h : Vol w B g s) (hS : Steps w) (hB : 0 < B) (hlen : s.l.length ≤ 900000) (hlab : s.lab.size ≤ 32) (id : Nat) (hid : id < 18446744073709551616) (d : ByteArray) (hd : d.size ≤ 9223372036854775807) :
    Calls Tryd.prog 14 #[.pointer (some ⟨g, 0, none⟩), .int .u64 (id : Int), .string d] w (WroteEnds w B g (s.wblob id d.data.toList)) := by
  have hdl : d.data.toList.length = d.size := by simp
  by_cases h1 : 4000 < d.size
  · have := wblob_big h id d h1 hd
    unfold VS.wblob
    rw [hdl, if_pos h1]
    exact this
  · obtain ⟨⟨t, c⟩, hs⟩ : ∃ r, s.seek s.l.length = r := ⟨_, rfl⟩
    by_cases hc : c = 0
    · subst hc
      by_cases hf : t.rm - wsum t.l < weightOf d.size
      · have := wblob_full h id d h1 t hs hf
        unfold VS.wblob
        rw [hdl, if_neg h1, hs, if_neg (by simp), if_pos hf]
        exact this
      · exact wblob_main h hS hB hlen hlab id hid d h1 t hs hf
    · have := wblob_seek h id d h1 t c hs hc
      unfold VS.wblob
      rw [hdl, if_neg h1, hs, if_pos hc]
      exact this
end
end Go.Proofs.YtcbeikiglccgaaaDoor
