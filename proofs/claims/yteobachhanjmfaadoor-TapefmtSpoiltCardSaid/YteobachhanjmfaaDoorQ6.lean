/- Spw: merged (a claim holds few files). -/
import Derived.Test.YteobachhanjmfaaDoorQ4
import Derived.Test.YteobachhanjmfaaDoorQ5
/- glacierlaw07.TapefmtSpoilt: its walk. Written by gen_spw.py. -/
namespace Go.Proofs.YteobachhanjmfaaDoor
open Go.RowKit
open Sm
set_option linter.unusedVariables false
set_option linter.unusedSimpArgs false

/-- behind Spoil -/
structure BSp (w : World) (B g : Nat) (m : List Bl) (N : Nat) (va : Value) (s : VS) (wr : World) : Prop where
  row : wr.ownsRow B 3 1 va N (places m N)
  vol : ∃ pos, Vol wr B g { s with pos := pos }
  below : Below B w wr
theorem BSp.drew {w : World} {B g : Nat} {m : List Bl} {N : Nat} {va : Value} {s : VS} {wr : World} (h : BSp w B g m N va s wr) : BSp w B g m N va s wr.drew :=
  ⟨h.row.drew, h.vol.elim fun p h => ⟨p, h.below (Below.drew (Below.refl _ wr))⟩, Below.drew h.below⟩

theorem BSp.reads {w W : World} {B g : Nat} {m : List Bl} {N : Nat} {va : Value} {s : VS} (h : BSp w B g m N va s W) (hc : s.Calm) (hl : s.lab = ⟨#[65]⟩) (hS : Steps W) (hB : 0 < B) (p : Nat) (hp : p ≤ s.l.length) (id : Nat) (hid : id < 18446744073709551616) (rr : List UInt8 × Nat) (hr : rdGo ⟨#[65]⟩ p id (s.l.drop p) 0 [] = rr) :
    Calls Tryd.prog 18 #[.pointer (some ⟨g, 0, none⟩), .int .i64 (p : Int), .int .u64 (id : Int)] W fun e w' => e = .returned (.tuple #[.string ⟨rr.1.toArray⟩, .int .i64 (rr.2 : Nat)]) ∧ BSp w B g m N va s w' := by
  obtain ⟨pos, hv⟩ := h.vol
  have := rblob_any hv ⟨hc.lo, hc.lf, hc.pr⟩ hS hB p (by show _ ≤ s.l.length; exact hp) id hid
  unfold ReadRet at this
  have e : rdGo ({ s with pos := pos } : VS).lab p id (({ s with pos := pos } : VS).l.drop p) 0 [] = rr := by
    rw [← hr, ← hl]
  rw [e] at this
  refine this.mono ?_
  rintro e w' ⟨he, hv', hst⟩
  exact ⟨he, hst.toStay0.row h.row (by decide) (by decide), hv'.elim fun p h => ⟨p, h⟩, h.below.trans hst.below⟩

set_option maxRecDepth 100000 in
set_option maxHeartbeats 8000000 in
theorem walk_spoilt (A : Option Addr) (cap : Nat) (m : List Bl) (hcap : m.length ≤ cap) (hmx : m.length ≤ 9223372036854775807) (bn ba : Int) (y : UInt8) (w : World) (hS : Steps w) (hL : BlobsAt w w.heap.size A m) :
    Calls Tryd.prog 5 #[.slice A m.length cap, .int .i64 bn, .int .i64 ba, .int .u8 (y.toNat : Int)] w fun e w' => e = .returned (.bool true) ∧ Below w.heap.size w w' := by
  have hS0 := hS.1
  have hN := new_vol 100000 100000 (by omega) rfl w
  obtain ⟨B, hB⟩ : ∃ B, w.heap.size = B := ⟨_, rfl⟩
  rw [hB] at hN hL hS0 ⊢
  obtain ⟨N, hNN⟩ : ∃ N : Nat, min m.length 6 = N := ⟨_, rfl⟩
  have hmin : min (m.length : Int) 6 = (N : Int) := by omega
  have hNm : N ≤ m.length := by omega
  have hN6 : N ≤ 6 := by omega
  have hlab : (⟨#[65]⟩ : ByteArray).size ≤ 32 := by decide
  have HCELL : Hid (∀ k (h : k < m.length), ∃ ad, A = some ad ∧ (∀ w', Below B w w' → w'.cell? (ad.add (k * 3)) = some (.int .u64 (m[k].id : Int)) ∧ w'.cell? ⟨(ad.add (k * 3)).block, (ad.add (k * 3)).off + 1, none⟩ = some (.string m[k].s) ∧ w'.cell? ⟨(ad.add (k * 3)).block, (ad.add (k * 3)).off + 2, none⟩ = some (.int .i64 m[k].n)) ∧ m[k].id < 18446744073709551616) := Lib.hid fun k h => hL.get h
  have HST : Hid (∀ W, Below B w W → Steps W) := Lib.hid fun W h => hS.below h hS0
  clear hL hS
  go_enter Tryd.func5, Tryd.ntmps5
  go_upto_region 1 with fail
  go_wp2_with fail
  refine hN.mono ?_
  rintro e w1 ⟨g, rfl, hv1, hb1⟩
  have hAw := awake_any w1 (HST.out _ hb1)
  clear hN
  go_upto_region 2 with fail
  go_wp2_with fail
  refine hAw.mono ?_
  rintro e w2 ⟨rfl, hb2⟩
  have hv2 := hv1.below hb2
  have hbz := hv1.bz
  have hb2 := hb1.trans (hb2.mono hbz)
  have hE := erase_vol hv2 ⟨#[65]⟩ (by decide) (by decide)
  rw [erase_new] at hE
  clear hAw hv1 hv2 hb1 hbz
  go_wp2_with fail
  refine hE.mono ?_
  rintro e w3 ⟨rfl, h3, st3⟩
  have hb3 := hb2.trans st3.below
  have hbz3 := h3.bz
  have G3 : Hid (BK w B g m (.slice (some ⟨w3.heap.size, 0, none⟩) 0 0) 0 (w3.alloc (.cells #[] 3))) := Lib.hid ⟨by
      have := row_empty w3 3 1
      exact ⟨this.1, this.2.imp id fun ⟨k, cap, cur, h1, h2, h3⟩ => ⟨k, cap, cur, h1, Nat.le_trans hbz3 h2, h3⟩⟩, ⟨_, h3.alloc _, VS.Blobs.new _⟩, hb3.trans ((Below.refl _ w3).alloc hbz3 _)⟩
  clear hE st3 h3 hb2 hb3 hbz3
  obtain ⟨i0, hie, hz0, hz1, hz2⟩ := info_parts info_int'
  have HIE := Lib.hid hie
  have HZ0 := Lib.hid hz0
  have HZ1 := Lib.hid hz1
  have HZ2 := Lib.hid hz2
  clear hie hz0 hz1 hz2
  go_wp2
  go_loopw [10, 12] (fun va i wr => ∃ k : Nat, k ≤ N ∧ i = .int .i64 (k : Int) ∧ Hid (BK w B g m va k wr))
    (fun _ i _ => N - (intOf i).toNat)
  case atStart => exact ⟨0, by omega, rfl, G3⟩
  case round =>
    clear G3
    obtain ⟨k, hk, rfl, HG⟩ := hrel
    by_cases hlt : k < N
    · have q1 : decide ((k : Int) < (N : Int)) = true := by simpa using hlt
      have hkm : k < m.length := by omega
      obtain ⟨ad, rfl, hcl, hid⟩ := HCELL.out k hkm
      have hbn := blobsOf_next hkm
      have hpm := places_more m k
      have hdz := data_len m[k]
      have hds : m[k].data.size ≤ 600 := longOf_size _ _
      have hLo : ∀ W, Calls Tryd.prog 15 #[.string m[k].s, .int .i64 m[k].n] W fun e w' => e = .returned (.string m[k].data) ∧ W = w' := fun W => long_any m[k].s m[k].n W
      generalize m[k].data = d at *
      generalize m[k].s = sx at *
      generalize m[k].n = nx at *
      generalize m[k].id = id at *
      have hWr : ∀ W, BK w B g m u10 k W → Calls Tryd.prog 14 #[.pointer (some ⟨g, 0, none⟩), .int .u64 (id : Int), .string d] W fun e w' => e = .returned (.tuple #[.int .i64 ((tapeN (blobsOf (m.take k)) : Nat) : Int), .int .i64 0]) ∧ (w'.ownsRow B 3 1 u10 k (places m k) ∧ (∃ s, Vol w' B g s ∧ s.Blobs ⟨#[65]⟩ (blobsOf (m.take (k + 1)))) ∧ Below B w w') := fun W h => by
        obtain ⟨s, hv, hbb⟩ := h.vol
        have hn : (blobsOf (m.take k)).length ≤ 20 := by rw [blobsOf_len, List.length_take]; omega
        refine (blobs_write hv hbb (HST.out W h.below) hS0 hlab hn id hid d hds).mono ?_
        rintro e w' ⟨rfl, hv', hst⟩
        exact ⟨rfl, hst.toStay0.row h.row (by decide) (by decide), ⟨_, hv', by rw [hbn]; exact hbb.more hlab hn hid hdz⟩, h.below.trans hst.below⟩
      have HWR := Lib.hid hWr
      have HLO := Lib.hid hLo
      have HCL := Lib.hid hcl
      have HPM := Lib.hid hpm
      clear hWr hLo hcl hpm hbn
      generalize tapeN (blobsOf (m.take k)) = tp at *
      go_upto_region 9 with fail
      refine spa_region (Pre := fun W => BK w B g m u10 k W) rfl ⟨hkm, rfl, rfl, rfl, fun W hW => HCL.out W (by rcases hW with hW | hW; exact hW.below; exact hW.2.2), HLO.out, HWR.out⟩ HG.out.drew ?_
      intro w7 hw7
      simp only [List.setIfInBounds_toArray, List.set_cons_zero, List.set_cons_succ]
      obtain ⟨hrow7, hv7, hb7⟩ := hw7
      have HROW7 := Lib.hid hrow7
      have HV7 := Lib.hid hv7
      have HB7 := Lib.hid hb7
      clear HWR HLO HCL HG hrow7 hv7 hb7
      go_upto_region 12 with fail
      go_wp2_with (at_builtin; refine wpList_append_own _ rfl _ _ 28 rfl B 3 i0 (.int .i64 0) 1 8 Tryd.underlying28 HIE.out HZ0.out HZ1.out HZ2.out rfl (by decide) _ _ _ rfl (HROW7.out.alloc _) ⟨w7.heap.size, 0, none⟩ 1 1 [.int .i64 (tp : Int)] rfl rfl ?c1 ?c2 ?c3 ?c4 ?c5 ?_)
      case c1 => exact cell_one_new _ _ _
      case c2 => intro u hu; simp at hu; subst hu; rfl
      case c3 => unfold maxLen; omega
      case c4 => omega
      case c5 => have := HB7.out.size; simp; omega
      intro v' w8 hown hgrow _
      have hG8 : BK w B g m v' (k + 1) w8 := by
        refine ⟨by rw [HPM.out]; exact hown, ?_, ?_⟩
        · obtain ⟨s, hv, hbb⟩ := HV7.out
          exact ⟨s, vol_grow (hv.alloc _) (HROW7.out.alloc _) (by decide) (by decide) hgrow, hbb⟩
        · exact (HB7.out.trans ((Below.refl _ w7).alloc (by have := HB7.out.size; omega) _)).trans (below_grow (HROW7.out.alloc _) hgrow (by have := HB7.out.size; simp; omega))
      have HG8 := Lib.hid hG8
      clear hG8 hown hgrow HROW7 HV7 HB7 HPM
      go_wp2
      go_roundw
      case rel => exact ⟨k + 1, by omega, by go_num, HG8⟩
      case measure => simp [intOf]; omega
    · have q1 : decide ((k : Int) < (N : Int)) = false := by simpa using hlt
      obtain rfl : k = N := by omega
      obtain ⟨s, hv, hbb⟩ := HG.out.vol
      have hn : (blobsOf (m.take k)).length ≤ 20 := by rw [blobsOf_len, List.length_take]; omega
      have hln : (blobsOf (m.take k)).length = k := by rw [blobsOf_len, List.length_take]; omega
      have hSp := spoil_vol hv bn ba y
      unfold SpoilEnds at hSp
      have hkp := VS.spoil_kept s bn ba y
      have hrd : ∀ j (hj : j < k) (hjm : j < m.length), ((s.spoil bn ba y).2 = true → y ≠ 0 → (tapeN (blobsOf (m.take j)) : Int) ≤ bn → bn < (tapeN (blobsOf (m.take j)) : Int) + (partsOf m[j].data.size : Nat) → ∃ e, e ≠ 0 ∧ rdGo ⟨#[65]⟩ (tapeN (blobsOf (m.take j))) m[j].id ((s.spoil bn ba y).1.l.drop (tapeN (blobsOf (m.take j)))) 0 [] = ([], e)) ∧
          (¬ ((s.spoil bn ba y).2 = true ∧ y ≠ 0 ∧ (tapeN (blobsOf (m.take j)) : Int) ≤ bn ∧ bn < (tapeN (blobsOf (m.take j)) : Int) + (partsOf m[j].data.size : Nat)) → rdGo ⟨#[65]⟩ (tapeN (blobsOf (m.take j))) m[j].id ((s.spoil bn ba y).1.l.drop (tapeN (blobsOf (m.take j)))) 0 [] = (m[j].data.data.toList, 0)) := fun j hj hjm => by
        obtain ⟨h1, h2, h3⟩ := blobs_at hNm hj
        have := spoil_read hbb hlab hn bn ba y h1
        rw [h2, h3] at this
        have e2 : m[j].data.data.toList.length = m[j].data.size := by simp
        simp only [e2] at this
        exact this
      have htp : ∀ j, j < k → tapeN (blobsOf (m.take j)) ≤ 100 ∧ tapeN (blobsOf (m.take j)) ≤ s.l.length := fun j hj => by
        obtain ⟨h1, h2, h3⟩ := blobs_at hNm hj
        have h4 := tapeN_le _ hbb.ok
        have h5 := tapeN_append ((blobsOf (m.take k)).take j) ((blobsOf (m.take k)).drop j)
        rw [List.take_append_drop, h3] at h5
        have h6 := hbb.len
        omega
      have hcalm : (s.spoil bn ba y).1.Calm := hkp.2.2 hbb.good.calm
      have hlb : (s.spoil bn ba y).1.lab = ⟨#[65]⟩ := hkp.1.trans hbb.good.lab
      have hl1 : (s.spoil bn ba y).1.l.length = s.l.length := hkp.2.1
      obtain ⟨R, hR⟩ : ∃ R, s.spoil bn ba y = R := ⟨_, rfl⟩
      rw [hR] at hSp hrd hcalm hlb hl1
      obtain ⟨s1, hit⟩ := R
      simp only at hSp hrd hcalm hlb hl1
      have hRow := HG.out.row
      have hBlw := HG.out.below
      have HRB : Hid (∀ W j, j < k → BSp w B g m k u10 s1 W → ∀ id, id < 18446744073709551616 → ∀ rr, rdGo ⟨#[65]⟩ (tapeN (blobsOf (m.take j))) id (s1.l.drop (tapeN (blobsOf (m.take j)))) 0 [] = rr → Calls Tryd.prog 18 #[.pointer (some ⟨g, 0, none⟩), .int .i64 ((tapeN (blobsOf (m.take j)) : Nat) : Int), .int .u64 (id : Int)] W fun e w' => e = .returned (.tuple #[.string ⟨rr.1.toArray⟩, .int .i64 (rr.2 : Nat)]) ∧ BSp w B g m k u10 s1 w') := Lib.hid fun W j hj h id hid rr hr =>
        h.reads hcalm hlb (HST.out W h.below) hS0 _ (by have := (htp j hj).2; omega) id hid rr hr
      have HRDF := Lib.hid hrd
      have HTP := Lib.hid htp
      have HROW := Lib.hid hRow
      have HBLW := Lib.hid hBlw
      clear hrd htp hbb hv hkp hcalm hlb hl1 hR HG HIE HZ0 HZ1 HZ2 hRow hBlw hn hln
      go_upto_region 13 with fail
      go_wp2_with fail
      refine hSp.mono ?_
      rintro e w10 ⟨rfl, hv10, hst10⟩
      have hB10 : BSp w B g m k u10 s1 w10 := ⟨hst10.toStay0.row HROW.out (by decide) (by decide), ⟨s1.pos, hv10⟩, HBLW.out.trans hst10.below⟩
      obtain ⟨A4, c4, rfl, hc4, hA4⟩ := row_form hB10.row
      have HB10 := Lib.hid hB10
      clear hB10 hSp hv10 hst10 HROW HBLW
      by_cases hhit : hit = true
      · subst hhit
        by_cases hy : y = 0
        · have hyb : ((y.toNat : Int) != 0) = false := by rw [hy]; rfl
          have hyb2 : (y.toNat != 0) = false := by rw [hy]; rfl
          go_upto_region 14 with fail
          go_wp2
          go_loopw [16] (fun i wr => ∃ j : Nat, j ≤ k ∧ i = .int .i64 (j : Int) ∧ Hid (BSp w B g m k (.slice A4 k c4) s1 wr))
            (fun i _ => k - (intOf i).toNat)
          case atStart => exact ⟨0, by omega, rfl, HB10⟩
          case round =>
            clear HB10
            obtain ⟨j, hj, rfl, HG⟩ := hrel
            by_cases hjk : j < k
            · have q2 : decide ((j : Int) < (k : Int)) = true := by simpa using hjk
              have hjm : j < m.length := by omega
              obtain ⟨ad, rfl, hcl, hid⟩ := HCELL.out j hjm
              obtain ⟨k4, rfl⟩ := hA4 (by omega)
              have hCells := fun W (h : BSp w B g m k (.slice (some ⟨k4, 0, none⟩) k c4) s1 W) => h.row.cells (g := k4) rfl j _ (places_get m hjk)
              have hRf := HRDF.out j hjk hjm
              obtain ⟨rr, hr0⟩ : ∃ rr, rdGo ⟨#[65]⟩ (tapeN (blobsOf (m.take j))) m[j].id (s1.l.drop (tapeN (blobsOf (m.take j)))) 0 [] = rr := ⟨_, rfl⟩
              rw [hr0] at hRf
              have hRb := fun W (h : BSp w B g m k (.slice (some ⟨k4, 0, none⟩) k c4) s1 W) => HRB.out W j hjk h m[j].id hid rr hr0
              clear hr0
              have htp := (HTP.out j hjk).1
              have hLo : ∀ W, Calls Tryd.prog 15 #[.string m[j].s, .int .i64 m[j].n] W fun e w' => e = .returned (.string m[j].data) ∧ W = w' := fun W => long_any m[j].s m[j].n W
              have hds : m[j].data.size ≤ 600 := longOf_size _ _
              generalize m[j].data = d at *
              generalize m[j].s = sx at *
              generalize m[j].n = nx at *
              generalize m[j].id = id at *
              have hPt := fun W => parts_any d.size (by omega) W
              have hp20 := partsOf_le (show d.size ≤ 4000 by omega)
              generalize partsOf d.size = pn at *
              generalize tapeN (blobsOf (m.take j)) = pj at *
              have HCL := Lib.hid hcl
              have HCS := Lib.hid hCells
              have HRD := Lib.hid hRb
              have HLO := Lib.hid hLo
              have HPT := Lib.hid hPt
              clear hcl hCells hRb hLo hPt
              generalize hAD2 : (⟨k4, 0, none⟩ : Addr) = ad2 at *
              clear hAD2
              go_upto_region 17 with fail
              refine spb_region (Pre := fun W => BSp w B g m k (.slice (some ad2) k c4) s1 W) (Post := fun W => BSp w B g m k (.slice (some ad2) k c4) s1 W) rfl ⟨rfl, rfl, rfl, rfl, hjm, hjk, fun W hW => ⟨(HCL.out W (by rcases hW with hW | hW <;> exact hW.below)).1, HCS.out W (by rcases hW with hW | hW <;> exact hW)⟩, HRD.out⟩ HG.out.drew ?_
              intro w11 hw11
              simp only [List.setIfInBounds_toArray, List.set_cons_zero, List.set_cons_succ]
              clear HG
              go_upto_region 18 with fail
              refine spc_region (Pre := fun W => BSp w B g m k (.slice (some ad2) k c4) s1 W) rfl ⟨rfl, rfl, hjm, fun W hW => (HCL.out W (by rcases hW with hW | hW <;> exact hW.below)).2, HLO.out, HPT.out⟩ hw11.drew ?_
              intro w12 hw12
              simp only [List.setIfInBounds_toArray, List.set_cons_zero, List.set_cons_succ]
              clear hw11
              have hrr := hRf.2 (fun h => h.2.1 hy)
              rw [hrr]
              rw [show (⟨d.data.toList.toArray⟩ : ByteArray) = d from rfl]
              have c22 := HCS.out w12 hw12
              go_upto_region 22 with fail
              refine spd_region (Pre := fun W => BSp w B g m k (.slice (some ad2) k c4) s1 W) rfl ⟨rfl, rfl, rfl, rfl, hjm, fun W hW => (HCL.out W (by rcases hW with hW | hW <;> exact hW.below)).2, HLO.out⟩ hw12.drew ?_
              intro w13 hw13
              simp only [List.setIfInBounds_toArray, List.set_cons_zero, List.set_cons_succ]
              have HG13 := Lib.hid hw13
              clear hw12 hw13 HCL HCS HRD HLO
              go_wp2
              go_roundw
              case rel => exact ⟨j + 1, by omega, by go_num, HG13⟩
              case measure => simp [intOf]; omega
            · have q2 : decide ((j : Int) < (k : Int)) = false := by simpa using hjk
              have HBL := Lib.hid HG.out.below
              clear HG
              go_wp2
              go_ret
              exact ⟨rfl, HBL.out⟩
        · have hyb : ((y.toNat : Int) != 0) = true := by
            rw [bne_iff_ne]
            intro e
            exact hy (UInt8.toNat_inj.1 (by simpa using e))
          have hyb2 : (y.toNat != 0) = true := by
            rw [bne_iff_ne]
            intro e
            exact hy (UInt8.toNat_inj.1 (by simpa using e))
          go_upto_region 14 with fail
          go_wp2
          go_loopw [16] (fun i wr => ∃ j : Nat, j ≤ k ∧ i = .int .i64 (j : Int) ∧ Hid (BSp w B g m k (.slice A4 k c4) s1 wr))
            (fun i _ => k - (intOf i).toNat)
          case atStart => exact ⟨0, by omega, rfl, HB10⟩
          case round =>
            clear HB10
            obtain ⟨j, hj, rfl, HG⟩ := hrel
            by_cases hjk : j < k
            · have q2 : decide ((j : Int) < (k : Int)) = true := by simpa using hjk
              have hjm : j < m.length := by omega
              obtain ⟨ad, rfl, hcl, hid⟩ := HCELL.out j hjm
              obtain ⟨k4, rfl⟩ := hA4 (by omega)
              have hCells := fun W (h : BSp w B g m k (.slice (some ⟨k4, 0, none⟩) k c4) s1 W) => h.row.cells (g := k4) rfl j _ (places_get m hjk)
              have hRf := HRDF.out j hjk hjm
              obtain ⟨rr, hr0⟩ : ∃ rr, rdGo ⟨#[65]⟩ (tapeN (blobsOf (m.take j))) m[j].id (s1.l.drop (tapeN (blobsOf (m.take j)))) 0 [] = rr := ⟨_, rfl⟩
              rw [hr0] at hRf
              have hRb := fun W (h : BSp w B g m k (.slice (some ⟨k4, 0, none⟩) k c4) s1 W) => HRB.out W j hjk h m[j].id hid rr hr0
              clear hr0
              have htp := (HTP.out j hjk).1
              have hLo : ∀ W, Calls Tryd.prog 15 #[.string m[j].s, .int .i64 m[j].n] W fun e w' => e = .returned (.string m[j].data) ∧ W = w' := fun W => long_any m[j].s m[j].n W
              have hds : m[j].data.size ≤ 600 := longOf_size _ _
              generalize m[j].data = d at *
              generalize m[j].s = sx at *
              generalize m[j].n = nx at *
              generalize m[j].id = id at *
              have hPt := fun W => parts_any d.size (by omega) W
              have hp20 := partsOf_le (show d.size ≤ 4000 by omega)
              generalize partsOf d.size = pn at *
              generalize tapeN (blobsOf (m.take j)) = pj at *
              have HCL := Lib.hid hcl
              have HCS := Lib.hid hCells
              have HRD := Lib.hid hRb
              have HLO := Lib.hid hLo
              have HPT := Lib.hid hPt
              clear hcl hCells hRb hLo hPt
              generalize hAD2 : (⟨k4, 0, none⟩ : Addr) = ad2 at *
              clear hAD2
              go_upto_region 17 with fail
              refine spb_region (Pre := fun W => BSp w B g m k (.slice (some ad2) k c4) s1 W) (Post := fun W => BSp w B g m k (.slice (some ad2) k c4) s1 W) rfl ⟨rfl, rfl, rfl, rfl, hjm, hjk, fun W hW => ⟨(HCL.out W (by rcases hW with hW | hW <;> exact hW.below)).1, HCS.out W (by rcases hW with hW | hW <;> exact hW)⟩, HRD.out⟩ HG.out.drew ?_
              intro w11 hw11
              simp only [List.setIfInBounds_toArray, List.set_cons_zero, List.set_cons_succ]
              clear HG
              go_upto_region 18 with fail
              refine spc_region (Pre := fun W => BSp w B g m k (.slice (some ad2) k c4) s1 W) rfl ⟨rfl, rfl, hjm, fun W hW => (HCL.out W (by rcases hW with hW | hW <;> exact hW.below)).2, HLO.out, HPT.out⟩ hw11.drew ?_
              intro w12 hw12
              simp only [List.setIfInBounds_toArray, List.set_cons_zero, List.set_cons_succ]
              clear hw11
              by_cases x1 : (pj : Int) ≤ bn
              · by_cases x2 : bn < (pj : Int) + (pn : Int)
                · skip
                  obtain ⟨e, he, hrr⟩ := hRf.1 (by trivial) hy x1 x2
                  rw [hrr]
                  have c22 := HCS.out w12 hw12
                  have z1 : ((e : Int) == 0) = false := by rw [beq_eq_false_iff_ne]; omega
                  have z2 : decide ((pj : Int) ≤ bn) = true := by simpa using x1
                  have z3 : decide (bn < (pj : Int) + (pn : Int)) = true := by simpa using x2
                  have HG13 := Lib.hid hw12
                  clear hw12 HCL HCS HRD HLO
                  go_wp2
                  go_roundw
                  case rel => exact ⟨j + 1, by omega, by go_num, HG13⟩
                  case measure => simp [intOf]; omega
                · skip
                  have z2 : decide ((pj : Int) ≤ bn) = true := by simpa using x1
                  have z3 : decide (bn < (pj : Int) + (pn : Int)) = false := by simpa using x2
                  have hrr := hRf.2 (fun h => x2 h.2.2.2)
                  rw [hrr]
                  rw [show (⟨d.data.toList.toArray⟩ : ByteArray) = d from rfl]
                  have c22 := HCS.out w12 hw12
                  go_upto_region 22 with fail
                  refine spd_region (Pre := fun W => BSp w B g m k (.slice (some ad2) k c4) s1 W) rfl ⟨rfl, rfl, rfl, rfl, hjm, fun W hW => (HCL.out W (by rcases hW with hW | hW <;> exact hW.below)).2, HLO.out⟩ hw12.drew ?_
                  intro w13 hw13
                  simp only [List.setIfInBounds_toArray, List.set_cons_zero, List.set_cons_succ]
                  have HG13 := Lib.hid hw13
                  clear hw12 hw13 HCL HCS HRD HLO
                  go_wp2
                  go_roundw
                  case rel => exact ⟨j + 1, by omega, by go_num, HG13⟩
                  case measure => simp [intOf]; omega
              · skip
                have z2 : decide ((pj : Int) ≤ bn) = false := by simpa using x1
                have hrr := hRf.2 (fun h => x1 h.2.2.1)
                rw [hrr]
                rw [show (⟨d.data.toList.toArray⟩ : ByteArray) = d from rfl]
                have c22 := HCS.out w12 hw12
                go_upto_region 22 with fail
                refine spd_region (Pre := fun W => BSp w B g m k (.slice (some ad2) k c4) s1 W) rfl ⟨rfl, rfl, rfl, rfl, hjm, fun W hW => (HCL.out W (by rcases hW with hW | hW <;> exact hW.below)).2, HLO.out⟩ hw12.drew ?_
                intro w13 hw13
                simp only [List.setIfInBounds_toArray, List.set_cons_zero, List.set_cons_succ]
                have HG13 := Lib.hid hw13
                clear hw12 hw13 HCL HCS HRD HLO
                go_wp2
                go_roundw
                case rel => exact ⟨j + 1, by omega, by go_num, HG13⟩
                case measure => simp [intOf]; omega
            · have q2 : decide ((j : Int) < (k : Int)) = false := by simpa using hjk
              have HBL := Lib.hid HG.out.below
              clear HG
              go_wp2
              go_ret
              exact ⟨rfl, HBL.out⟩
      · have hhit : hit = false := by simpa using hhit
        subst hhit
        go_upto_region 14 with fail
        go_wp2
        go_loopw [16] (fun i wr => ∃ j : Nat, j ≤ k ∧ i = .int .i64 (j : Int) ∧ Hid (BSp w B g m k (.slice A4 k c4) s1 wr))
          (fun i _ => k - (intOf i).toNat)
        case atStart => exact ⟨0, by omega, rfl, HB10⟩
        case round =>
          clear HB10
          obtain ⟨j, hj, rfl, HG⟩ := hrel
          by_cases hjk : j < k
          · have q2 : decide ((j : Int) < (k : Int)) = true := by simpa using hjk
            have hjm : j < m.length := by omega
            obtain ⟨ad, rfl, hcl, hid⟩ := HCELL.out j hjm
            obtain ⟨k4, rfl⟩ := hA4 (by omega)
            have hCells := fun W (h : BSp w B g m k (.slice (some ⟨k4, 0, none⟩) k c4) s1 W) => h.row.cells (g := k4) rfl j _ (places_get m hjk)
            have hRf := HRDF.out j hjk hjm
            obtain ⟨rr, hr0⟩ : ∃ rr, rdGo ⟨#[65]⟩ (tapeN (blobsOf (m.take j))) m[j].id (s1.l.drop (tapeN (blobsOf (m.take j)))) 0 [] = rr := ⟨_, rfl⟩
            rw [hr0] at hRf
            have hRb := fun W (h : BSp w B g m k (.slice (some ⟨k4, 0, none⟩) k c4) s1 W) => HRB.out W j hjk h m[j].id hid rr hr0
            clear hr0
            have htp := (HTP.out j hjk).1
            have hLo : ∀ W, Calls Tryd.prog 15 #[.string m[j].s, .int .i64 m[j].n] W fun e w' => e = .returned (.string m[j].data) ∧ W = w' := fun W => long_any m[j].s m[j].n W
            have hds : m[j].data.size ≤ 600 := longOf_size _ _
            generalize m[j].data = d at *
            generalize m[j].s = sx at *
            generalize m[j].n = nx at *
            generalize m[j].id = id at *
            have hPt := fun W => parts_any d.size (by omega) W
            have hp20 := partsOf_le (show d.size ≤ 4000 by omega)
            generalize partsOf d.size = pn at *
            generalize tapeN (blobsOf (m.take j)) = pj at *
            have HCL := Lib.hid hcl
            have HCS := Lib.hid hCells
            have HRD := Lib.hid hRb
            have HLO := Lib.hid hLo
            have HPT := Lib.hid hPt
            clear hcl hCells hRb hLo hPt
            generalize hAD2 : (⟨k4, 0, none⟩ : Addr) = ad2 at *
            clear hAD2
            go_upto_region 17 with fail
            refine spb_region (Pre := fun W => BSp w B g m k (.slice (some ad2) k c4) s1 W) (Post := fun W => BSp w B g m k (.slice (some ad2) k c4) s1 W) rfl ⟨rfl, rfl, rfl, rfl, hjm, hjk, fun W hW => ⟨(HCL.out W (by rcases hW with hW | hW <;> exact hW.below)).1, HCS.out W (by rcases hW with hW | hW <;> exact hW)⟩, HRD.out⟩ HG.out.drew ?_
            intro w11 hw11
            simp only [List.setIfInBounds_toArray, List.set_cons_zero, List.set_cons_succ]
            clear HG
            go_upto_region 18 with fail
            refine spc_region (Pre := fun W => BSp w B g m k (.slice (some ad2) k c4) s1 W) rfl ⟨rfl, rfl, hjm, fun W hW => (HCL.out W (by rcases hW with hW | hW <;> exact hW.below)).2, HLO.out, HPT.out⟩ hw11.drew ?_
            intro w12 hw12
            simp only [List.setIfInBounds_toArray, List.set_cons_zero, List.set_cons_succ]
            clear hw11
            have hrr := hRf.2 (fun h => by cases h.1)
            rw [hrr]
            rw [show (⟨d.data.toList.toArray⟩ : ByteArray) = d from rfl]
            have c22 := HCS.out w12 hw12
            go_upto_region 22 with fail
            refine spd_region (Pre := fun W => BSp w B g m k (.slice (some ad2) k c4) s1 W) rfl ⟨rfl, rfl, rfl, rfl, hjm, fun W hW => (HCL.out W (by rcases hW with hW | hW <;> exact hW.below)).2, HLO.out⟩ hw12.drew ?_
            intro w13 hw13
            simp only [List.setIfInBounds_toArray, List.set_cons_zero, List.set_cons_succ]
            have HG13 := Lib.hid hw13
            clear hw12 hw13 HCL HCS HRD HLO
            go_wp2
            go_roundw
            case rel => exact ⟨j + 1, by omega, by go_num, HG13⟩
            case measure => simp [intOf]; omega
          · have q2 : decide ((j : Int) < (k : Int)) = false := by simpa using hjk
            have HBL := Lib.hid HG.out.below
            clear HG
            go_wp2
            go_ret
            exact ⟨rfl, HBL.out⟩
end Go.Proofs.YteobachhanjmfaaDoor
