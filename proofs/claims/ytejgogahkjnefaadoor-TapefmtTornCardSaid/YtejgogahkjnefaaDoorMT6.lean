/- Tnw: merged (a claim holds few files). -/
import Derived.Test.YtejgogahkjnefaaDoorMT4
import Derived.Test.YtejgogahkjnefaaDoorMT5
import Derived.Test.YtejgogahkjnefaaDoorMT3
/- glacierlaw07.TapefmtTorn: its walk. Written by gen_tnw.py. -/
namespace Go.Proofs.YtejgogahkjnefaaDoor
open Go.RowKit
open Sm
set_option linter.unusedVariables false
set_option linter.unusedSimpArgs false

/-- a blob, as an argument -/
abbrev tornCells (id : Nat) (s : ByteArray) (n : Int) : Array Value := #[.int .u64 (id : Int), .string s, .int .i64 n]

/-- k blobs are written -/
structure BT (w : World) (B C g : Nat) (m : List Bl) (k : Nat) (X : Nat) (cx : Array Value) (wr : World) : Prop where
  vol : ∃ s, Vol wr C g s ∧ s.Blobs ⟨#[65]⟩ (blobsOf (m.take k)) ∧ s.sure = s.l.length
  below : Below B w wr
  box : At wr X 25 cx
theorem BT.drew {w : World} {B C g : Nat} {m : List Bl} {k X : Nat} {cx : Array Value} {wr : World} (h : BT w B C g m k X cx wr) : BT w B C g m k X cx wr.drew :=
  ⟨h.vol.elim fun s h => ⟨s, h.1.below (Below.drew (Below.refl _ wr)), h.2⟩, Below.drew h.below, h.box.drew⟩

set_option maxRecDepth 100000 in
set_option maxHeartbeats 8000000 in
theorem walk_torn (A : Option Addr) (cap : Nat) (m : List Bl) (hcap : m.length ≤ cap) (hmx : m.length ≤ 9223372036854775807) (id : Nat) (hid : id < 18446744073709551616) (sb : ByteArray) (nb : Int) (fl : Int) (hfl : -9223372036854775808 ≤ fl) (A2 : Option Addr) (cap2 : Nat) (l2 : List Int) (hli : ∀ x ∈ l2, -9223372036854775808 ≤ x ∧ x ≤ 9223372036854775807) (w : World) (hS : Steps w) (hL : BlobsAt w w.heap.size A m) (hR2 : Lies w w.heap.size A2 (ints l2)) (hl2x : l2.length ≤ 9223372036854775807) :
    Calls Tryd.prog 3 #[.slice A m.length cap, .agg (tornCells id sb nb), .int .i64 fl, .slice A2 l2.length cap2] w fun e w' => e = .returned (.bool true) ∧ Below w.heap.size w w' := by
  have hS0 := hS.1
  obtain ⟨wx, hwx⟩ : ∃ wx, w.alloc (.cells (tornCells id sb nb) 25) = wx := ⟨_, rfl⟩
  have hA0 : At wx w.heap.size 25 (tornCells id sb nb) := by rw [← hwx]; exact heap_alloc_new w _
  have hb0 : Below w.heap.size w wx := by rw [← hwx]; exact (Below.refl _ w).alloc (Nat.le_refl _) _
  have hlt0 := hA0.lt
  have hN := new_vol 100000 100000 (by omega) rfl wx
  have hC : wx.heap.size = w.heap.size + 1 := by rw [← hwx]; simp
  obtain ⟨C, hCC⟩ : ∃ C, wx.heap.size = C := ⟨_, rfl⟩
  obtain ⟨B, hB⟩ : ∃ B, w.heap.size = B := ⟨_, rfl⟩
  rw [hB] at hL hS0 hA0 hb0 hlt0 hR2 hC ⊢
  rw [hCC] at hN hC hlt0
  have hC0 : 0 < C := by omega
  obtain ⟨N, hNN⟩ : ∃ N : Nat, min m.length 5 = N := ⟨_, rfl⟩
  have hmin : min (m.length : Int) 5 = (N : Int) := by omega
  have hNm : N ≤ m.length := by omega
  have hN6 : N ≤ 5 := by omega
  have hlab : (⟨#[65]⟩ : ByteArray).size ≤ 32 := by decide
  have HCELL : Hid (∀ k (h : k < m.length), ∃ ad, A = some ad ∧ (∀ w', Below B w w' → w'.cell? (ad.add (k * 3)) = some (.int .u64 (m[k].id : Int)) ∧ w'.cell? ⟨(ad.add (k * 3)).block, (ad.add (k * 3)).off + 1, none⟩ = some (.string m[k].s) ∧ w'.cell? ⟨(ad.add (k * 3)).block, (ad.add (k * 3)).off + 2, none⟩ = some (.int .i64 m[k].n)) ∧ m[k].id < 18446744073709551616) := Lib.hid fun k h => hL.get h
  have HST : Hid (∀ W, Below B w W → Steps W) := Lib.hid fun W h => hS.below h hS0
  clear hL hS
  go_enter Tryd.func3, Tryd.ntmps3
  go_upto_region 1 with fail
  clear hwx
  go_wp2_with fail
  refine hN.mono ?_
  rintro e w1 ⟨g, rfl, hv1, hb1⟩
  have hA1 := hA0.below hb1 hlt0
  have hbz0 : B ≤ C := by omega
  have hb1 := hb0.trans (hb1.mono hbz0)
  have hAw := awake_any w1 (HST.out _ hb1)
  clear hN
  go_upto_region 2 with fail
  go_wp2_with fail
  refine hAw.mono ?_
  rintro e w2 ⟨rfl, hb2⟩
  have hA2 := hA1.below hb2 hA1.lt

  have hv2 := hv1.below hb2
  have hbz := hv1.bz
  have hb2 := hb1.trans (hb2.mono (by have := hb1.size; omega))
  have hE := erase_vol hv2 ⟨#[65]⟩ (by decide) (by decide)
  rw [erase_new] at hE
  clear hAw hv1 hv2 hb1 hbz hA0 hA1 hb0
  go_wp2_with fail
  refine hE.mono ?_
  rintro e w3 ⟨rfl, h3, st3⟩
  have G3 : Hid (BT w B C g m 0 B (tornCells id sb nb) w3) := Lib.hid ⟨⟨_, h3, VS.Blobs.new _, rfl⟩, hb2.trans (st3.below.mono hbz0), st3.toStay0.at_ hA2 (by decide) (by decide)⟩
  clear hE st3 h3 hb2 hA2
  go_wp2
  go_loopw [11, 12] (fun i u12 wr => ∃ k : Nat, k ≤ N ∧ i = .int .i64 (k : Int) ∧ Hid (BT w B C g m k B (tornCells id sb nb) wr))
    (fun i _ _ => N - (intOf i).toNat)
  case atStart => exact ⟨0, by omega, rfl, G3⟩
  case round =>
    clear G3
    obtain ⟨k, hk, rfl, HG⟩ := hrel
    by_cases hlt : k < N
    · have q1 : decide ((k : Int) < (N : Int)) = true := by simpa using hlt
      have hkm : k < m.length := by omega
      obtain ⟨ad, rfl, hcl, hidk⟩ := HCELL.out k hkm
      have hbn := blobsOf_next hkm
      have hdz := data_len m[k]
      have hds : m[k].data.size ≤ 600 := longOf_size _ _
      have hLo : ∀ W, Calls Tryd.prog 11 #[.string m[k].s, .int .i64 m[k].n] W fun e w' => e = .returned (.string m[k].data) ∧ W = w' := fun W => long_any m[k].s m[k].n W
      generalize m[k].data = d at *
      generalize m[k].s = sx at *
      generalize m[k].n = nx at *
      generalize m[k].id = idk at *
      have hWr : ∀ W, BT w B C g m k B (tornCells id sb nb) W → Calls Tryd.prog 10 #[.pointer (some ⟨g, 0, none⟩), .int .u64 (idk : Int), .string d] W fun e w' => e = .returned (.tuple #[.int .i64 ((tapeN (blobsOf (m.take k)) : Nat) : Int), .int .i64 0]) ∧ BT w B C g m (k + 1) B (tornCells id sb nb) w' := fun W h => by
        obtain ⟨s, hv, hbb, hsu⟩ := h.vol
        have hn : (blobsOf (m.take k)).length ≤ 20 := by rw [blobsOf_len, List.length_take]; omega
        refine (blobs_write hv hbb (HST.out W h.below) hC0 hlab hn idk hidk d hds).mono ?_
        rintro e w' ⟨rfl, hv', hst⟩
        exact ⟨rfl, ⟨_, hv', by rw [hbn]; exact hbb.more hlab hn hidk hdz, (s.wrote_len idk d.data.toList).symm⟩, h.below.trans (hst.below.mono hbz0), hst.toStay0.at_ h.box (by decide) (by decide)⟩
      have HWR := Lib.hid hWr
      have HLO := Lib.hid hLo
      have HCL := Lib.hid hcl
      clear hWr hLo hcl hbn
      generalize tapeN (blobsOf (m.take k)) = tp at *
      go_upto_region 8 with fail
      refine tna_region (Pre := fun W => BT w B C g m k B (tornCells id sb nb) W) (Post := fun W => BT w B C g m (k + 1) B (tornCells id sb nb) W) rfl ⟨hkm, rfl, rfl, rfl, fun W hW => HCL.out W (by rcases hW with hW | hW <;> exact hW.below), HLO.out, HWR.out⟩ HG.out.drew ?_
      intro w7 hw7
      simp only [List.setIfInBounds_toArray, List.set_cons_zero, List.set_cons_succ]
      have HG7 := Lib.hid hw7
      clear HWR HLO HCL HG hw7
      go_wp2
      go_roundw
      case rel => exact ⟨k + 1, by omega, by go_num, HG7⟩
      case measure => simp [intOf]; omega
    · have q1 : decide ((k : Int) < (N : Int)) = false := by simpa using hlt
      obtain rfl : k = N := by omega
      obtain ⟨s, hv, hbb, hsu⟩ := HG.out.vol
      have hblw := HG.out.below
      have hbox := HG.out.box
      clear HG
      have hn : (blobsOf (m.take k)).length ≤ 20 := by rw [blobsOf_len, List.length_take]; omega
      have hln : (blobsOf (m.take k)).length = k := by rw [blobsOf_len, List.length_take]; omega
      have hok4 := hbb.ok
      have hF := fail_vol hv fl hfl
      go_wp2_with fail
      refine hF.mono ?_
      rintro e w10 ⟨rfl, hv10, st10⟩
      have hb10 := hblw.trans (st10.below.mono hbz0)
      have hbx10 := st10.toStay0.at_ hbox (by decide) (by decide)
      clear hF hv hblw hbox st10
      have hdL : (longOf sb nb).size ≤ 600 := longOf_size _ _
      have hLo : ∀ W, Calls Tryd.prog 11 #[.string sb, .int .i64 nb] W fun e w' => e = .returned (.string (longOf sb nb)) ∧ W = w' := fun W => long_any sb nb W
      obtain ⟨dL, hdd⟩ : ∃ dL, longOf sb nb = dL := ⟨_, rfl⟩
      rw [hdd] at hdL hLo
      have hdl : dL.data.toList.length ≤ 600 := by simpa using hdL
      have hPt := fun t ht ok => hbb.part hlab hn hsu hid hdl (armed fl) t ht ok l2
      have hs4 : s.l.length ≤ 900000 := by have := tapeN_le _ hok4; rw [hbb.len]; omega
      have hsl : s.lab.size ≤ 32 := by rw [hbb.good.lab]; exact hlab
      have hWr : ∀ W, (Vol W C g { s with lf := armed fl } ∧ Below B w W ∧ At W B 25 (tornCells id sb nb)) → Calls Tryd.prog 10 #[.pointer (some ⟨g, 0, none⟩), .int .u64 (id : Int), .string dL] W fun e w' => e = .returned (.tuple #[.int .i64 (VS.wblob { s with lf := armed fl } id dL.data.toList).2.1, .int .i64 (VS.wblob { s with lf := armed fl } id dL.data.toList).2.2]) ∧ (Vol w' C g (VS.wblob { s with lf := armed fl } id dL.data.toList).1 ∧ Below B w w' ∧ At w' B 25 (tornCells id sb nb)) := fun W h => by
        refine (wblob_any h.1 (HST.out W h.2.1) hC0 hs4 hsl id hid dL (by omega)).mono ?_
        rintro e w' ⟨rfl, hv', hst⟩
        exact ⟨rfl, hv', h.2.1.trans (hst.below.mono hbz0), hst.toStay0.at_ h.2.2 (by decide) (by decide)⟩
      obtain ⟨R, hR⟩ : ∃ R, VS.wblob { s with lf := armed fl } id dL.data.toList = R := ⟨_, rfl⟩
      rw [hR] at hPt hWr
      obtain ⟨t, r1, r2⟩ := R
      simp only at hPt hWr
      have HWR := Lib.hid hWr
      have HLO := Lib.hid hLo
      have HPT := Lib.hid hPt
      have HB10 := Lib.hid (And.intro hv10 (And.intro hb10 hbx10))
      have HOK4 := Lib.hid hok4
      have HDD := Lib.hid hdd
      have HDL := Lib.hid hdL
      clear hWr hLo hPt hv10 hb10 hbx10 hok4 hdd hdL hdl hs4 hsl hR hbb hsu
      go_upto_region 12 with fail
      refine tnb_region (X := B) (Pre := fun W => Vol W C g { s with lf := armed fl } ∧ Below B w W ∧ At W B 25 (tornCells id sb nb)) (Post := fun W => Vol W C g t ∧ Below B w W ∧ At W B 25 (tornCells id sb nb)) rfl ⟨rfl, rfl, fun W hW => ?cells12, HLO.out, HWR.out⟩ ⟨HB10.out.1.below (Below.drew (Below.refl _ _)), Below.drew HB10.out.2.1, HB10.out.2.2.drew⟩ ?_
      case cells12 =>
        have hat : At W B 25 (tornCells id sb nb) := by rcases hW with hW | hW <;> exact hW.2.2
        exact ⟨hat.cell 0, hat.cell 1, hat.cell 2⟩
      intro w12 hw12
      simp only [List.setIfInBounds_toArray, List.set_cons_zero, List.set_cons_succ]
      have hF := fail_vol hw12.1 (-1) (by decide)
      have HW12 := Lib.hid hw12.2
      clear HWR HLO HB10 hw12
      go_wp2_with fail
      refine hF.mono ?_
      rintro e w13 ⟨rfl, hv13, st13⟩
      have hb13 := HW12.out.1.trans (st13.below.mono hbz0)
      have hbx13 := st13.toStay0.at_ HW12.out.2 (by decide) (by decide)
      have hv13' : Vol w13 C g { t with lf := 0 } := hv13
      obtain ⟨kk, e2, s2, g1, g2, g3, g4, g5⟩ := HPT.out t rfl hv13'.1
      have hCr := crash_vol hv13' A2 cap2 l2 l2.length rfl (Reads.of_low ((hR2.below hb13).more hbz0) hv13'.bz) hli hl2x
      unfold CrashEnds at hCr
      clear hF hv13 hv13' st13 HW12 HPT
      go_wp2_with fail
      refine hCr.mono ?_
      rintro e w14 ⟨rfl, hv14, st14⟩
      have hMe := mend_any hv14 e2 s2 g1 g2 g3
      unfold VolEnds at hMe
      have hb14 := hb13.trans (st14.below.mono hbz0)
      have hbx14 := st14.toStay0.at_ hbx13 (by decide) (by decide)
      clear hCr hv14 st14 hb13 hbx13 g1
      go_wp2_with fail
      refine hMe.mono ?_
      rintro e w15 ⟨rfl, hv15, st15⟩
      have hb15 := hb14.trans (st15.below.mono hbz0)
      have hbx15 := st15.toStay0.at_ hbx14 (by decide) (by decide)
      clear hMe st15 hb14 hbx14 g2
      have hm4 : ∀ x ∈ blobsOf (m.take k), x.1 < 18446744073709551616 ∧ x.2.length ≤ 600 := HOK4.out
      have hdl : dL.data.toList.length ≤ 600 := by simpa using HDL.out
      have hsc := g4.scan hm4 hlab hn hid hdl
      have hcm : VS.Calm { s2 with pos := s2.l.length } := ⟨g3.lo, g3.lf, g3.pr⟩
      have hSc := tscan_any hv15 hcm (HST.out _ hb15) hC0
      unfold ScanEnds at hSc
      obtain ⟨its, hits⟩ : ∃ its, partIt (blobsOf (m.take k)) id dL.data.toList kk = its := ⟨_, rfl⟩
      obtain ⟨L, hL⟩ : ∃ L, its.length = L := ⟨_, rfl⟩
      rw [hits] at hsc
      rw [hsc, hL] at hSc
      have HITS := Lib.hid hits
      have HLL := Lib.hid hL
      clear hits hL
      have HB15 := Lib.hid (And.intro hb15 hbx15)
      have G4 := Lib.hid g4
      have G5 := Lib.hid g5
      clear hsc hm4 hcm hb15 hbx15 g4 g5 hv15
      go_upto_region 17 with fail
      go_wp2_with fail
      refine hSc.mono ?_
      rintro e w17 ⟨vI, rfl, hrow17, ⟨pos17, hv17⟩, st17⟩
      have hb17 := HB15.out.1.trans (st17.below.mono hbz0)
      have hbx17 := st17.toStay0.at_ HB15.out.2 (by decide) (by decide)
      obtain ⟨A4, c4, rfl, hc4, hA4⟩ := row_form hrow17
      have hL1 : (partIt (blobsOf (m.take k)) id dL.data.toList kk).length = k + (if partsOf dL.data.toList.length ≤ kk then 1 else 0) := by
        unfold partIt
        rw [List.length_append, itemsOf_len, hln]
        split <;> rfl
      have hL5 : r2 = 0 → (partIt (blobsOf (m.take k)) id dL.data.toList kk).length = k + 1 := fun h => by
        rw [hL1, if_pos (by have := G5.out h; omega)]
      rw [HITS.out, HLL.out] at hL1 hL5
      have hLk : k ≤ L ∧ L ≤ k + 1 := by split at hL1 <;> omega
      obtain ⟨Bv, hBv⟩ : ∃ b, w15.heap.size = b := ⟨_, rfl⟩
      rw [hBv] at hrow17
      obtain ⟨S, hPS, hVS⟩ : ∃ S : VS, VS.Part S ⟨#[65]⟩ (blobsOf (m.take k)) id dL.data.toList kk ∧ ∃ pos, Vol w17 C g { S with pos := pos } := ⟨{ s2 with pos := s2.l.length }, G4.out, pos17, hv17⟩
      have HU : Hid (BU w B C g S (.slice A4 L c4) its L Bv B (tornCells id sb nb) w17) := Lib.hid ⟨hrow17, hVS, hb17, hbx17⟩
      have HPS := Lib.hid hPS
      have HL1 := Lib.hid hL1
      clear hrow17 hv17 hb17 hbx17 hL1 HB15 st17 hSc hPS hVS hBv G4
      have q3 : decide ((L : Int) < (k : Int)) = false := by simp; omega
      have q3n : decide (L < k) = false := by simp; omega
      have q4 : decide ((k : Int) + 1 < (L : Int)) = false := by simp; omega
      by_cases hr0 : r2 = 0
      · subst hr0
        have q8 : ((L : Int) != (k : Int) + 1) = false := by have := hL5 rfl; simp; omega
        clear hL5
        go_upto_region 20 with fail
        go_wp2
        clear G5
        go_loopw [132] (fun i wr => ∃ j : Nat, j ≤ L ∧ i = .int .i64 (j : Int) ∧ Hid (BU w B C g S (.slice A4 L c4) its L Bv B (tornCells id sb nb) wr)) (fun i _ => L - (intOf i).toNat)
        case atStart => exact ⟨0, by omega, rfl, HU⟩
        case round =>
          clear HU
          obtain ⟨j, hj, rfl, HG⟩ := hrel
          by_cases hjL : j < L
          · have q6 : decide ((j : Int) < (L : Int)) = true := by simpa using hjL
            obtain ⟨kI, rfl⟩ := hA4 (by omega)
            have hI3 : (Tryd.prog.info? 49).map (·.size) = some 3 := by kernel_rfl
            have hIB : (Tryd.prog.info? 25).map (·.size) = some 3 := by kernel_rfl
            have HI3 := Lib.hid hI3
            have HIB := Lib.hid hIB
            clear hI3 hIB
            have hBwr : B ≤ wr.heap.size := by have := HG.out.below.size; omega
            have hm4 : ∀ x ∈ blobsOf (m.take k), x.1 < 18446744073709551616 ∧ x.2.length ≤ 600 := HOK4.out
            by_cases hjk : j < k
            · have q7 : decide ((j : Int) < (k : Int)) = true := by simpa using hjk
              have hjm : j < m.length := by omega
              obtain ⟨ad, rfl, hcl, hidj⟩ := HCELL.out j hjm
              obtain ⟨h1, h2, h3⟩ := blobs_at (by omega : k ≤ m.length) hjk
              have e2 : m[j].data.data.toList.length = m[j].data.size := by simp
              have hx := HITS.out ▸ (partIt_lt (id := id) (d := dL.data.toList) (kk := kk) h1)
              rw [h2, h3, e2] at hx
              have hRd : ∀ W, BU w B C g S (.slice (some ⟨kI, 0, none⟩) L c4) its L Bv B (tornCells id sb nb) W → Calls Tryd.prog 16 #[.pointer (some ⟨g, 0, none⟩), .int .i64 ((tapeN (blobsOf (m.take j)) : Nat) : Int), .int .u64 ((m[j].id : Nat) : Int)] W fun e w' => e = .returned (.tuple #[.string m[j].data, .int .i64 0]) ∧ BU w B C g S (.slice (some ⟨kI, 0, none⟩) L c4) its L Bv B (tornCells id sb nb) w' ∧ Stay0 C W w' := fun W h => by
                obtain ⟨p, hv⟩ := h.vol
                have := part_read hv (HPS.out.pos p) HOK4.out (HST.out W h.below) hC0 hlab hn hdl h1
                rw [h2, h3] at this
                refine this.mono ?_
                rintro e w' ⟨rfl, hv', hst⟩
                exact ⟨rfl, h.stay hst hv' hbz0, hst.toStay0⟩
              have hLo : ∀ W, Calls Tryd.prog 11 #[.string m[j].s, .int .i64 m[j].n] W fun e w' => e = .returned (.string m[j].data) ∧ W = w' := fun W => long_any m[j].s m[j].n W
              have HRD := Lib.hid hRd
              have HLO := Lib.hid hLo
              have hra := HG.out.item hx
              have HRA := Lib.hid hra
              clear hRd hLo hra hx hm4
              clear h2 h3 e2
              have HCL := Lib.hid hcl
              clear hcl
              generalize m[j].data = dk at *
              generalize m[j].s = sk at *
              generalize m[j].n = nk at *
              generalize m[j].id = idk at *
              generalize tapeN (blobsOf (m.take j)) = pj at *
              obtain ⟨zk, hzk⟩ : ∃ z, dk.size = z := ⟨_, rfl⟩
              rw [hzk] at HRA
              have hC1 : ((⟨idk, pj, zk⟩ : It).cells).all (·.oneCell') = true := by simp [It.cells, Value.oneCell']
              have hC2 : (tornCells id sb nb).all (·.oneCell') = true := by simp [Value.oneCell']
              have HC1 := Lib.hid hC1
              have HC2 := Lib.hid hC2
              have HX := Lib.hid (At.new wr 49 itZero)
              clear hC1 hC2
              go_upto_region 23 with (first | refine wpList_load_part rfl 49 _ rfl kI (j * 3) rfl ((⟨idk, pj, zk⟩ : It).cells) _ HRA.out Tryd.underlying49 rfl HI3.out ?_ | (refine wpList_store_whole rfl 49 _ _ rfl wr.heap.size ((⟨idk, pj, zk⟩ : It).cells) rfl rfl 49 _ HX.out HI3.out rfl HC1.out ?_; intro w22 hZ22 hG22; replace hZ22 := Lib.hid hZ22; replace hG22 := Lib.hid hG22))
              have hb22 : Below wr.heap.size wr w22 := below_of_grownBy ((Below.refl _ wr).alloc (Nat.le_refl _) _) hG22.out (by simp) (Nat.le_refl _)
              have hlt22 := hZ22.out.lt
              have hbox22 := (HG.out.grow hb22 hBwr).box
              have HBX := Lib.hid hbox22
              have HB22 := Lib.hid hb22
              have HX2 := Lib.hid (At.new w22 25 #[.int .u64 0, .string ⟨#[]⟩, .int .i64 0])
              clear hb22 hbox22 HRA HX hG22
              go_upto_region 24 with (first | refine wpList_load_whole rfl 25 _ rfl B rfl 25 _ _ HBX.out Tryd.underlying25 rfl HIB.out ?_ | (refine wpList_store_whole rfl 25 _ _ rfl w22.heap.size (tornCells id sb nb) rfl rfl 25 _ HX2.out HIB.out rfl HC2.out ?_; intro w23 hZ23 hG23; replace hZ23 := Lib.hid hZ23; replace hG23 := Lib.hid hG23))
              have hb23 : Below w22.heap.size w22 w23 := below_of_grownBy ((Below.refl _ w22).alloc (Nat.le_refl _) _) hG23.out (by simp) (Nat.le_refl _)
              have hX1 := hZ22.out.below hb23 hlt22
              have hlt23 := hZ23.out.lt
              have hbb23 := HB22.out.trans (hb23.mono (by omega))
              clear HB22 hb23 hG23 HX2 HBX hZ22
              generalize hX1e : wr.heap.size = X1 at *
              generalize w22.heap.size = X2 at *
              have HX1 := Lib.hid hX1
              have HB23 := Lib.hid hbb23
              clear hX1 hbb23
              have hcl23 := HCL.out w23 (HG.out.below.trans (HB23.out.mono (by omega)))
              have HCA := Lib.hid (cells_three hcl23)
              have hC3 : (tornCells idk sk nk).all (·.oneCell') = true := by simp [Value.oneCell']
              have HC3 := Lib.hid hC3
              clear hcl23 hC3
              go_upto_region 26 with (first | refine wpList_load_addr rfl 25 _ rfl (ad.add (j * 3)) rfl _ _ HCA.out Tryd.underlying25 rfl HIB.out ?_ | (refine wpList_store_whole rfl 25 _ _ rfl X2 (tornCells idk sk nk) rfl rfl 25 _ hZ23.out HIB.out rfl HC3.out ?_; intro w25 hZ25 hG25; replace hZ25 := Lib.hid hZ25; replace hG25 := Lib.hid hG25))
              have hb25 := below_of_grownBy HB23.out hG25.out (by have := HX1.out.lt; omega) (by omega)
              have HU25 := Lib.hid (HG.out.grow (by rw [hX1e]; exact hb25) (by omega))
              have HX1E := Lib.hid (HX1.out.grown hG25.out (by simp; omega))
              have HX2E := Lib.hid hZ25.out
              clear hb25 HG HX1 HB23 hG25 hZ25 HCA HC3 hZ23 HCL
              have c0 := HX1E.out.cell 0
              have c1 := HX1E.out.cell 1
              simp only [It.cells] at c0 c1
              go_wp2_with fail
              refine (HRD.out _ HU25.out).mono ?_
              rintro e w26 ⟨rfl, hu26, hs26⟩
              have HU26 := Lib.hid hu26
              have d0 := (hs26.at_ HX1E.out (by decide) (by decide)).cell 0
              have hX2z := hs26.at_ HX2E.out (by decide) (by decide)
              have e0 := hX2z.cell 0
              have e1 := hX2z.cell 1
              have e2 := hX2z.cell 2
              simp only [It.cells] at d0
              clear c0 c1 hu26 hs26 hX2z HX1E HX2E HU25 HRD
              go_wp2_with fail
              refine (HLO.out w26).mono ?_
              rintro e w27 ⟨rfl, rfl⟩
              clear HLO
              go_wp2
              go_roundw
              case rel => exact ⟨j + 1, by omega, by go_num, HU26⟩
              case measure => simp [intOf]; omega
            · obtain rfl : k = j := by omega
              have q7 : decide ((k : Int) < (k : Int)) = false := by simp
              have hpk : partsOf dL.data.toList.length ≤ kk := by
                have := HL1.out
                split at this
                · assumption
                · omega
              have e2 : dL.data.toList.length = dL.size := by simp
              have hx := HITS.out ▸ (partIt_last (m := blobsOf (m.take k)) (id := id) hpk)
              rw [hln, e2] at hx
              have hRd : ∀ W, BU w B C g S (.slice (some ⟨kI, 0, none⟩) L c4) its L Bv B (tornCells id sb nb) W → Calls Tryd.prog 16 #[.pointer (some ⟨g, 0, none⟩), .int .i64 ((tapeN (blobsOf (m.take k)) : Nat) : Int), .int .u64 ((id : Nat) : Int)] W fun e w' => e = .returned (.tuple #[.string dL, .int .i64 0]) ∧ BU w B C g S (.slice (some ⟨kI, 0, none⟩) L c4) its L Bv B (tornCells id sb nb) w' ∧ Stay0 C W w' := fun W h => by
                obtain ⟨p, hv⟩ := h.vol
                have := part_last hv (HPS.out.pos p) HOK4.out (HST.out W h.below) hC0 hlab hn hid hdl hpk
                rw [show (⟨dL.data.toList.toArray⟩ : ByteArray) = dL by simp] at this
                refine this.mono ?_
                rintro e w' ⟨rfl, hv', hst⟩
                exact ⟨rfl, h.stay hst hv' hbz0, hst.toStay0⟩
              have hLo : ∀ W, Calls Tryd.prog 11 #[.string sb, .int .i64 nb] W fun e w' => e = .returned (.string dL) ∧ W = w' := fun W => by have := long_any sb nb W; rw [HDD.out] at this; exact this
              have HRD := Lib.hid hRd
              have HLO := Lib.hid hLo
              have hra := HG.out.item hx
              have HRA := Lib.hid hra
              clear hRd hLo hra hx hm4
              clear e2 hpk
              generalize tapeN (blobsOf (m.take k)) = pj at *
              obtain ⟨zk, hzk⟩ : ∃ z, dL.size = z := ⟨_, rfl⟩
              rw [hzk] at HRA
              have hC1 : ((⟨id, pj, zk⟩ : It).cells).all (·.oneCell') = true := by simp [It.cells, Value.oneCell']
              have hC2 : (tornCells id sb nb).all (·.oneCell') = true := by simp [Value.oneCell']
              have HC1 := Lib.hid hC1
              have HC2 := Lib.hid hC2
              have HX := Lib.hid (At.new wr 49 itZero)
              clear hC1 hC2
              go_upto_region 23 with (first | refine wpList_load_part rfl 49 _ rfl kI (k * 3) rfl ((⟨id, pj, zk⟩ : It).cells) _ HRA.out Tryd.underlying49 rfl HI3.out ?_ | (refine wpList_store_whole rfl 49 _ _ rfl wr.heap.size ((⟨id, pj, zk⟩ : It).cells) rfl rfl 49 _ HX.out HI3.out rfl HC1.out ?_; intro w22 hZ22 hG22; replace hZ22 := Lib.hid hZ22; replace hG22 := Lib.hid hG22))
              have hb22 : Below wr.heap.size wr w22 := below_of_grownBy ((Below.refl _ wr).alloc (Nat.le_refl _) _) hG22.out (by simp) (Nat.le_refl _)
              have hlt22 := hZ22.out.lt
              have hbox22 := (HG.out.grow hb22 hBwr).box
              have HBX := Lib.hid hbox22
              have HB22 := Lib.hid hb22
              have HX2 := Lib.hid (At.new w22 25 #[.int .u64 0, .string ⟨#[]⟩, .int .i64 0])
              clear hb22 hbox22 HRA HX hG22
              go_upto_region 24 with (first | refine wpList_load_whole rfl 25 _ rfl B rfl 25 _ _ HBX.out Tryd.underlying25 rfl HIB.out ?_ | (refine wpList_store_whole rfl 25 _ _ rfl w22.heap.size (tornCells id sb nb) rfl rfl 25 _ HX2.out HIB.out rfl HC2.out ?_; intro w23 hZ23 hG23; replace hZ23 := Lib.hid hZ23; replace hG23 := Lib.hid hG23))
              have hb23 : Below w22.heap.size w22 w23 := below_of_grownBy ((Below.refl _ w22).alloc (Nat.le_refl _) _) hG23.out (by simp) (Nat.le_refl _)
              have hX1 := hZ22.out.below hb23 hlt22
              have hlt23 := hZ23.out.lt
              have hbb23 := HB22.out.trans (hb23.mono (by omega))
              clear HB22 hb23 hG23 HX2 HBX hZ22
              generalize hX1e : wr.heap.size = X1 at *
              generalize w22.heap.size = X2 at *
              have HX1 := Lib.hid hX1
              have HB23 := Lib.hid hbb23
              clear hX1 hbb23
              have HU25 := Lib.hid (HG.out.grow (by rw [hX1e]; exact HB23.out) (by omega))
              have HX1E := Lib.hid HX1.out
              have HX2E := Lib.hid hZ23.out
              clear HG HX1 HB23 hZ23
              go_upto_region 26 with fail
              have c0 := HX1E.out.cell 0
              have c1 := HX1E.out.cell 1
              simp only [It.cells] at c0 c1
              go_wp2_with fail
              refine (HRD.out _ HU25.out).mono ?_
              rintro e w26 ⟨rfl, hu26, hs26⟩
              have HU26 := Lib.hid hu26
              have d0 := (hs26.at_ HX1E.out (by decide) (by decide)).cell 0
              have hX2z := hs26.at_ HX2E.out (by decide) (by decide)
              have e0 := hX2z.cell 0
              have e1 := hX2z.cell 1
              have e2 := hX2z.cell 2
              simp only [It.cells] at d0
              clear c0 c1 hu26 hs26 hX2z HX1E HX2E HU25 HRD
              go_wp2_with fail
              refine (HLO.out w26).mono ?_
              rintro e w27 ⟨rfl, rfl⟩
              clear HLO
              go_wp2
              go_roundw
              case rel => exact ⟨k + 1, by omega, by go_num, HU26⟩
              case measure => simp [intOf]; omega
          · have q6 : decide ((j : Int) < (L : Int)) = false := by simpa using hjL
            obtain ⟨pos9, hv9⟩ := HG.out.vol
            have hb9 := HG.out.below
            have hm4 : ∀ x ∈ blobsOf (m.take k), x.1 < 18446744073709551616 ∧ x.2.length ≤ 600 := HOK4.out
            have hWr := part_write hv9 (HPS.out.pos pos9) hm4 (HST.out _ hb9) hC0 hlab hn hdl 99 (by decide) ⟨#[109, 111, 114, 101]⟩ (by decide)
            have hMr := fun W (h : Vol W C g (VS.wrote { S with pos := pos9 } 99 (⟨#[109, 111, 114, 101]⟩ : ByteArray).data.toList)) (hb : Below B w W) => part_more h (HPS.out.pos pos9) hm4 (HST.out W hb) hC0 hlab hn hdl (by decide) (by decide)
            have HB9 := Lib.hid hb9
            have HMR := Lib.hid hMr
            clear HG hb9 hMr hv9 hm4
            generalize ({ S with pos := pos9 } : VS).l.length = p9 at *
            go_wp2_with fail
            refine hWr.mono ?_
            rintro e w30 ⟨rfl, hv30, st30⟩
            have hb30 := HB9.out.trans (st30.below.mono hbz0)
            have hMr := HMR.out w30 hv30 hb30
            clear hWr HMR st30 hv30 HB9
            go_wp2_with fail
            refine hMr.mono ?_
            rintro e w31 ⟨rfl, hv31, st31⟩
            have hb31 := Lib.hid (hb30.trans (st31.below.mono hbz0))
            clear hMr hv31 st31 hb30
            go_wp2
            go_ret
            exact ⟨rfl, hb31.out⟩
      · have q5 : (r2 == 0) = false := by simpa using hr0
        clear hL5
        go_upto_region 20 with fail
        go_wp2
        clear G5
        go_loopw [132] (fun i wr => ∃ j : Nat, j ≤ L ∧ i = .int .i64 (j : Int) ∧ Hid (BU w B C g S (.slice A4 L c4) its L Bv B (tornCells id sb nb) wr)) (fun i _ => L - (intOf i).toNat)
        case atStart => exact ⟨0, by omega, rfl, HU⟩
        case round =>
          clear HU
          obtain ⟨j, hj, rfl, HG⟩ := hrel
          by_cases hjL : j < L
          · have q6 : decide ((j : Int) < (L : Int)) = true := by simpa using hjL
            obtain ⟨kI, rfl⟩ := hA4 (by omega)
            have hI3 : (Tryd.prog.info? 49).map (·.size) = some 3 := by kernel_rfl
            have hIB : (Tryd.prog.info? 25).map (·.size) = some 3 := by kernel_rfl
            have HI3 := Lib.hid hI3
            have HIB := Lib.hid hIB
            clear hI3 hIB
            have hBwr : B ≤ wr.heap.size := by have := HG.out.below.size; omega
            have hm4 : ∀ x ∈ blobsOf (m.take k), x.1 < 18446744073709551616 ∧ x.2.length ≤ 600 := HOK4.out
            by_cases hjk : j < k
            · have q7 : decide ((j : Int) < (k : Int)) = true := by simpa using hjk
              have hjm : j < m.length := by omega
              obtain ⟨ad, rfl, hcl, hidj⟩ := HCELL.out j hjm
              obtain ⟨h1, h2, h3⟩ := blobs_at (by omega : k ≤ m.length) hjk
              have e2 : m[j].data.data.toList.length = m[j].data.size := by simp
              have hx := HITS.out ▸ (partIt_lt (id := id) (d := dL.data.toList) (kk := kk) h1)
              rw [h2, h3, e2] at hx
              have hRd : ∀ W, BU w B C g S (.slice (some ⟨kI, 0, none⟩) L c4) its L Bv B (tornCells id sb nb) W → Calls Tryd.prog 16 #[.pointer (some ⟨g, 0, none⟩), .int .i64 ((tapeN (blobsOf (m.take j)) : Nat) : Int), .int .u64 ((m[j].id : Nat) : Int)] W fun e w' => e = .returned (.tuple #[.string m[j].data, .int .i64 0]) ∧ BU w B C g S (.slice (some ⟨kI, 0, none⟩) L c4) its L Bv B (tornCells id sb nb) w' ∧ Stay0 C W w' := fun W h => by
                obtain ⟨p, hv⟩ := h.vol
                have := part_read hv (HPS.out.pos p) HOK4.out (HST.out W h.below) hC0 hlab hn hdl h1
                rw [h2, h3] at this
                refine this.mono ?_
                rintro e w' ⟨rfl, hv', hst⟩
                exact ⟨rfl, h.stay hst hv' hbz0, hst.toStay0⟩
              have hLo : ∀ W, Calls Tryd.prog 11 #[.string m[j].s, .int .i64 m[j].n] W fun e w' => e = .returned (.string m[j].data) ∧ W = w' := fun W => long_any m[j].s m[j].n W
              have HRD := Lib.hid hRd
              have HLO := Lib.hid hLo
              have hra := HG.out.item hx
              have HRA := Lib.hid hra
              clear hRd hLo hra hx hm4
              clear h2 h3 e2
              have HCL := Lib.hid hcl
              clear hcl
              generalize m[j].data = dk at *
              generalize m[j].s = sk at *
              generalize m[j].n = nk at *
              generalize m[j].id = idk at *
              generalize tapeN (blobsOf (m.take j)) = pj at *
              obtain ⟨zk, hzk⟩ : ∃ z, dk.size = z := ⟨_, rfl⟩
              rw [hzk] at HRA
              have hC1 : ((⟨idk, pj, zk⟩ : It).cells).all (·.oneCell') = true := by simp [It.cells, Value.oneCell']
              have hC2 : (tornCells id sb nb).all (·.oneCell') = true := by simp [Value.oneCell']
              have HC1 := Lib.hid hC1
              have HC2 := Lib.hid hC2
              have HX := Lib.hid (At.new wr 49 itZero)
              clear hC1 hC2
              go_upto_region 23 with (first | refine wpList_load_part rfl 49 _ rfl kI (j * 3) rfl ((⟨idk, pj, zk⟩ : It).cells) _ HRA.out Tryd.underlying49 rfl HI3.out ?_ | (refine wpList_store_whole rfl 49 _ _ rfl wr.heap.size ((⟨idk, pj, zk⟩ : It).cells) rfl rfl 49 _ HX.out HI3.out rfl HC1.out ?_; intro w22 hZ22 hG22; replace hZ22 := Lib.hid hZ22; replace hG22 := Lib.hid hG22))
              have hb22 : Below wr.heap.size wr w22 := below_of_grownBy ((Below.refl _ wr).alloc (Nat.le_refl _) _) hG22.out (by simp) (Nat.le_refl _)
              have hlt22 := hZ22.out.lt
              have hbox22 := (HG.out.grow hb22 hBwr).box
              have HBX := Lib.hid hbox22
              have HB22 := Lib.hid hb22
              have HX2 := Lib.hid (At.new w22 25 #[.int .u64 0, .string ⟨#[]⟩, .int .i64 0])
              clear hb22 hbox22 HRA HX hG22
              go_upto_region 24 with (first | refine wpList_load_whole rfl 25 _ rfl B rfl 25 _ _ HBX.out Tryd.underlying25 rfl HIB.out ?_ | (refine wpList_store_whole rfl 25 _ _ rfl w22.heap.size (tornCells id sb nb) rfl rfl 25 _ HX2.out HIB.out rfl HC2.out ?_; intro w23 hZ23 hG23; replace hZ23 := Lib.hid hZ23; replace hG23 := Lib.hid hG23))
              have hb23 : Below w22.heap.size w22 w23 := below_of_grownBy ((Below.refl _ w22).alloc (Nat.le_refl _) _) hG23.out (by simp) (Nat.le_refl _)
              have hX1 := hZ22.out.below hb23 hlt22
              have hlt23 := hZ23.out.lt
              have hbb23 := HB22.out.trans (hb23.mono (by omega))
              clear HB22 hb23 hG23 HX2 HBX hZ22
              generalize hX1e : wr.heap.size = X1 at *
              generalize w22.heap.size = X2 at *
              have HX1 := Lib.hid hX1
              have HB23 := Lib.hid hbb23
              clear hX1 hbb23
              have hcl23 := HCL.out w23 (HG.out.below.trans (HB23.out.mono (by omega)))
              have HCA := Lib.hid (cells_three hcl23)
              have hC3 : (tornCells idk sk nk).all (·.oneCell') = true := by simp [Value.oneCell']
              have HC3 := Lib.hid hC3
              clear hcl23 hC3
              go_upto_region 26 with (first | refine wpList_load_addr rfl 25 _ rfl (ad.add (j * 3)) rfl _ _ HCA.out Tryd.underlying25 rfl HIB.out ?_ | (refine wpList_store_whole rfl 25 _ _ rfl X2 (tornCells idk sk nk) rfl rfl 25 _ hZ23.out HIB.out rfl HC3.out ?_; intro w25 hZ25 hG25; replace hZ25 := Lib.hid hZ25; replace hG25 := Lib.hid hG25))
              have hb25 := below_of_grownBy HB23.out hG25.out (by have := HX1.out.lt; omega) (by omega)
              have HU25 := Lib.hid (HG.out.grow (by rw [hX1e]; exact hb25) (by omega))
              have HX1E := Lib.hid (HX1.out.grown hG25.out (by simp; omega))
              have HX2E := Lib.hid hZ25.out
              clear hb25 HG HX1 HB23 hG25 hZ25 HCA HC3 hZ23 HCL
              have c0 := HX1E.out.cell 0
              have c1 := HX1E.out.cell 1
              simp only [It.cells] at c0 c1
              go_wp2_with fail
              refine (HRD.out _ HU25.out).mono ?_
              rintro e w26 ⟨rfl, hu26, hs26⟩
              have HU26 := Lib.hid hu26
              have d0 := (hs26.at_ HX1E.out (by decide) (by decide)).cell 0
              have hX2z := hs26.at_ HX2E.out (by decide) (by decide)
              have e0 := hX2z.cell 0
              have e1 := hX2z.cell 1
              have e2 := hX2z.cell 2
              simp only [It.cells] at d0
              clear c0 c1 hu26 hs26 hX2z HX1E HX2E HU25 HRD
              go_wp2_with fail
              refine (HLO.out w26).mono ?_
              rintro e w27 ⟨rfl, rfl⟩
              clear HLO
              go_wp2
              go_roundw
              case rel => exact ⟨j + 1, by omega, by go_num, HU26⟩
              case measure => simp [intOf]; omega
            · obtain rfl : k = j := by omega
              have q7 : decide ((k : Int) < (k : Int)) = false := by simp
              have hpk : partsOf dL.data.toList.length ≤ kk := by
                have := HL1.out
                split at this
                · assumption
                · omega
              have e2 : dL.data.toList.length = dL.size := by simp
              have hx := HITS.out ▸ (partIt_last (m := blobsOf (m.take k)) (id := id) hpk)
              rw [hln, e2] at hx
              have hRd : ∀ W, BU w B C g S (.slice (some ⟨kI, 0, none⟩) L c4) its L Bv B (tornCells id sb nb) W → Calls Tryd.prog 16 #[.pointer (some ⟨g, 0, none⟩), .int .i64 ((tapeN (blobsOf (m.take k)) : Nat) : Int), .int .u64 ((id : Nat) : Int)] W fun e w' => e = .returned (.tuple #[.string dL, .int .i64 0]) ∧ BU w B C g S (.slice (some ⟨kI, 0, none⟩) L c4) its L Bv B (tornCells id sb nb) w' ∧ Stay0 C W w' := fun W h => by
                obtain ⟨p, hv⟩ := h.vol
                have := part_last hv (HPS.out.pos p) HOK4.out (HST.out W h.below) hC0 hlab hn hid hdl hpk
                rw [show (⟨dL.data.toList.toArray⟩ : ByteArray) = dL by simp] at this
                refine this.mono ?_
                rintro e w' ⟨rfl, hv', hst⟩
                exact ⟨rfl, h.stay hst hv' hbz0, hst.toStay0⟩
              have hLo : ∀ W, Calls Tryd.prog 11 #[.string sb, .int .i64 nb] W fun e w' => e = .returned (.string dL) ∧ W = w' := fun W => by have := long_any sb nb W; rw [HDD.out] at this; exact this
              have HRD := Lib.hid hRd
              have HLO := Lib.hid hLo
              have hra := HG.out.item hx
              have HRA := Lib.hid hra
              clear hRd hLo hra hx hm4
              clear e2 hpk
              generalize tapeN (blobsOf (m.take k)) = pj at *
              obtain ⟨zk, hzk⟩ : ∃ z, dL.size = z := ⟨_, rfl⟩
              rw [hzk] at HRA
              have hC1 : ((⟨id, pj, zk⟩ : It).cells).all (·.oneCell') = true := by simp [It.cells, Value.oneCell']
              have hC2 : (tornCells id sb nb).all (·.oneCell') = true := by simp [Value.oneCell']
              have HC1 := Lib.hid hC1
              have HC2 := Lib.hid hC2
              have HX := Lib.hid (At.new wr 49 itZero)
              clear hC1 hC2
              go_upto_region 23 with (first | refine wpList_load_part rfl 49 _ rfl kI (k * 3) rfl ((⟨id, pj, zk⟩ : It).cells) _ HRA.out Tryd.underlying49 rfl HI3.out ?_ | (refine wpList_store_whole rfl 49 _ _ rfl wr.heap.size ((⟨id, pj, zk⟩ : It).cells) rfl rfl 49 _ HX.out HI3.out rfl HC1.out ?_; intro w22 hZ22 hG22; replace hZ22 := Lib.hid hZ22; replace hG22 := Lib.hid hG22))
              have hb22 : Below wr.heap.size wr w22 := below_of_grownBy ((Below.refl _ wr).alloc (Nat.le_refl _) _) hG22.out (by simp) (Nat.le_refl _)
              have hlt22 := hZ22.out.lt
              have hbox22 := (HG.out.grow hb22 hBwr).box
              have HBX := Lib.hid hbox22
              have HB22 := Lib.hid hb22
              have HX2 := Lib.hid (At.new w22 25 #[.int .u64 0, .string ⟨#[]⟩, .int .i64 0])
              clear hb22 hbox22 HRA HX hG22
              go_upto_region 24 with (first | refine wpList_load_whole rfl 25 _ rfl B rfl 25 _ _ HBX.out Tryd.underlying25 rfl HIB.out ?_ | (refine wpList_store_whole rfl 25 _ _ rfl w22.heap.size (tornCells id sb nb) rfl rfl 25 _ HX2.out HIB.out rfl HC2.out ?_; intro w23 hZ23 hG23; replace hZ23 := Lib.hid hZ23; replace hG23 := Lib.hid hG23))
              have hb23 : Below w22.heap.size w22 w23 := below_of_grownBy ((Below.refl _ w22).alloc (Nat.le_refl _) _) hG23.out (by simp) (Nat.le_refl _)
              have hX1 := hZ22.out.below hb23 hlt22
              have hlt23 := hZ23.out.lt
              have hbb23 := HB22.out.trans (hb23.mono (by omega))
              clear HB22 hb23 hG23 HX2 HBX hZ22
              generalize hX1e : wr.heap.size = X1 at *
              generalize w22.heap.size = X2 at *
              have HX1 := Lib.hid hX1
              have HB23 := Lib.hid hbb23
              clear hX1 hbb23
              have HU25 := Lib.hid (HG.out.grow (by rw [hX1e]; exact HB23.out) (by omega))
              have HX1E := Lib.hid HX1.out
              have HX2E := Lib.hid hZ23.out
              clear HG HX1 HB23 hZ23
              go_upto_region 26 with fail
              have c0 := HX1E.out.cell 0
              have c1 := HX1E.out.cell 1
              simp only [It.cells] at c0 c1
              go_wp2_with fail
              refine (HRD.out _ HU25.out).mono ?_
              rintro e w26 ⟨rfl, hu26, hs26⟩
              have HU26 := Lib.hid hu26
              have d0 := (hs26.at_ HX1E.out (by decide) (by decide)).cell 0
              have hX2z := hs26.at_ HX2E.out (by decide) (by decide)
              have e0 := hX2z.cell 0
              have e1 := hX2z.cell 1
              have e2 := hX2z.cell 2
              simp only [It.cells] at d0
              clear c0 c1 hu26 hs26 hX2z HX1E HX2E HU25 HRD
              go_wp2_with fail
              refine (HLO.out w26).mono ?_
              rintro e w27 ⟨rfl, rfl⟩
              clear HLO
              go_wp2
              go_roundw
              case rel => exact ⟨k + 1, by omega, by go_num, HU26⟩
              case measure => simp [intOf]; omega
          · have q6 : decide ((j : Int) < (L : Int)) = false := by simpa using hjL
            obtain ⟨pos9, hv9⟩ := HG.out.vol
            have hb9 := HG.out.below
            have hm4 : ∀ x ∈ blobsOf (m.take k), x.1 < 18446744073709551616 ∧ x.2.length ≤ 600 := HOK4.out
            have hWr := part_write hv9 (HPS.out.pos pos9) hm4 (HST.out _ hb9) hC0 hlab hn hdl 99 (by decide) ⟨#[109, 111, 114, 101]⟩ (by decide)
            have hMr := fun W (h : Vol W C g (VS.wrote { S with pos := pos9 } 99 (⟨#[109, 111, 114, 101]⟩ : ByteArray).data.toList)) (hb : Below B w W) => part_more h (HPS.out.pos pos9) hm4 (HST.out W hb) hC0 hlab hn hdl (by decide) (by decide)
            have HB9 := Lib.hid hb9
            have HMR := Lib.hid hMr
            clear HG hb9 hMr hv9 hm4
            generalize ({ S with pos := pos9 } : VS).l.length = p9 at *
            go_wp2_with fail
            refine hWr.mono ?_
            rintro e w30 ⟨rfl, hv30, st30⟩
            have hb30 := HB9.out.trans (st30.below.mono hbz0)
            have hMr := HMR.out w30 hv30 hb30
            clear hWr HMR st30 hv30 HB9
            go_wp2_with fail
            refine hMr.mono ?_
            rintro e w31 ⟨rfl, hv31, st31⟩
            have hb31 := Lib.hid (hb30.trans (st31.below.mono hbz0))
            clear hMr hv31 st31 hb30
            go_wp2
            go_ret
            exact ⟨rfl, hb31.out⟩
end Go.Proofs.YtejgogahkjnefaaDoor
