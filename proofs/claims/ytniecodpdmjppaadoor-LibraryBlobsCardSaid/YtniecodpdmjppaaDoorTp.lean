/- tapefmt.Parse: its walk. -/
import Derived.Test.YtniecodpdmjppaaDoorTd
import Derived.Test.YtniecodpdmjppaaDoorTm
import Derived.Test.YtniecodpdmjppaaDoorVz
import Derived.Test.YtniecodpdmjppaaDoorTs
namespace Go.Proofs.YtniecodpdmjppaaDoor
open Go.RowKit
open Wm (num tk)
open Sm
set_option linter.unusedVariables false

abbrev pcZero : Array Value := #[.string ⟨#[]⟩, .int .i64 0, .int .u64 0, .int .i64 0, .int .i64 0, .int .i64 0, .int .u32 0, .string ⟨#[]⟩]
theorem pcZero_val : Pc.no.val = .agg pcZero := rfl

/-- what Parse returns -/
def ParseRet (w : World) (r : Pc × Nat) (e : Ending) (w' : World) : Prop := e = .returned (.tuple #[r.1.val, .int .i64 (r.2 : Nat)]) ∧ Below w.heap.size w w'

set_option maxRecDepth 100000 in
set_option maxHeartbeats 2000000 in
theorem parse_only (s : ByteArray) (hs : s.size ≤ 1000000) (w : World) (hS : Steps w) (hbad : (onlyL s.data.toList).2 ≠ 0) :
    Calls Tryd.prog 64 #[.string s] w (ParseRet w (.no, (onlyL s.data.toList).2)) := by
  unfold ParseRet
  simp only [pcZero_val]
  have hO := fun W h => only_any s (by omega) W h
  generalize (onlyL s.data.toList).2 = e at *
  generalize (⟨(onlyL s.data.toList).1.toArray⟩ : ByteArray) = tx at *
  have he : ((e : Int) != 0) = true := by rw [bne_iff_ne]; omega
  have he2 : ((e : Int) == 0) = false := by rw [beq_eq_false_iff_ne]; omega
  have hz0 := At.new w 78 pcZero
  have hS1 := hS.alloc (.cells pcZero 78)
  have hb0 : Below w.heap.size w (w.alloc (.cells pcZero 78)) := (Below.refl _ w).alloc (Nat.le_refl _) _
  clear hbad hS
  go_enter Tryd.func64, Tryd.ntmps64
  go_wp2_with fail
  refine (hO _ hS1).mono ?_
  rintro x w1 ⟨rfl, hb1⟩
  have hz1 := hz0.below hb1 hz0.lt
  have HB := Lib.hid (hb0.trans (hb1.mono hb0.size))
  have HZ := Lib.hid hz1
  clear hz0 hS1 hb0 hb1 hz1 hO
  generalize hG : w.heap.size = G at *
  go_wp2_with (refine wpList_store_whole rfl 78 _ _ rfl G _ rfl rfl 78 _ (unhid HZ) (by kernel_rfl) (by kernel_rfl) (by kernel_rfl) ?_; intro w2 hZ2 hG2; replace hZ2 := Lib.hid hZ2; replace hG2 := Lib.hid hG2)
  refine bodyPost_ret (res_row_tmp rfl _ _ _ _ _ _ rfl (unhid hZ2) Tryd.underlying78 (by kernel_rfl)) rfl ⟨rfl, ?_⟩
  have hs2 := (unhid HB).size
  rw [hG]
  exact below_of_grownBy (unhid HB) (unhid hG2) (by omega) (by omega)
/-- the cursors, by letters -/
structure Curs (tx : List UInt8) (a : (List UInt8 × Nat) × List UInt8) (b c d f gg h : (List UInt8 × Nat) × Nat) (k : (List UInt8 × Nat) × List UInt8) : Prop where
  ea : curS (tx, 0) 32 = a
  eb : curI a.1 1073741824 = b
  ec : curU b.1 = c
  ed : curI c.1 1048576 = d
  ef : curI d.1 1048576 = f
  eg : curI f.1 4000 = gg
  eh : curU gg.1 = h
  ek : curS h.1 200 = k
theorem Curs.took {tx : List UInt8} {a : (List UInt8 × Nat) × List UInt8} {b c d f gg h : (List UInt8 × Nat) × Nat} {k : (List UInt8 × Nat) × List UInt8} (C : Curs tx a b c d f gg h k) : took tx = ⟨a, b, c, d, f, gg, h, k⟩ := by
  obtain ⟨rfl, rfl, rfl, rfl, rfl, rfl, rfl, rfl⟩ := C
  rfl
theorem Curs.len {tx : List UInt8} {a : (List UInt8 × Nat) × List UInt8} {b c d f gg h : (List UInt8 × Nat) × Nat} {k : (List UInt8 × Nat) × List UInt8} (C : Curs tx a b c d f gg h k) : h.1.1.length ≤ tx.length := by
  obtain ⟨rfl, rfl, rfl, rfl, rfl, rfl, rfl, rfl⟩ := C
  exact Nat.le_trans (curU_len _) (Nat.le_trans (curI_len _ _) (Nat.le_trans (curI_len _ _) (Nat.le_trans (curI_len _ _) (Nat.le_trans (curU_len _) (Nat.le_trans (curI_len _ _) (curS_len _ _))))))
theorem Curs.hb {tx : List UInt8} {a : (List UInt8 × Nat) × List UInt8} {b c d f gg h : (List UInt8 × Nat) × Nat} {k : (List UInt8 × Nat) × List UInt8} (C : Curs tx a b c d f gg h k) : h.2 < 18446744073709551616 := by
  obtain ⟨rfl, rfl, rfl, rfl, rfl, rfl, rfl, rfl⟩ := C
  exact curU_bound _

set_option maxRecDepth 100000 in
set_option maxHeartbeats 4000000 in
theorem parse_a (s : ByteArray) (hs : s.size ≤ 1000000) (w : World) (hS : Steps w) (hgood : (onlyL s.data.toList).2 = 0) {a : (List UInt8 × Nat) × List UInt8} {b c d f gg h : (List UInt8 × Nat) × Nat} {k : (List UInt8 × Nat) × List UInt8} (C : Curs (onlyL s.data.toList).1 a b c d f gg h k) (e : Nat) (hee : doneErr k.1.1 (if k.1.2 = 0 then 3 else k.1.2) = e) (hne : e ≠ 0) (hA : 4294967295 < h.2) :
    Calls Tryd.prog 64 #[.string s] w (ParseRet w (.no, e)) := by
  unfold ParseRet
  simp only [pcZero_val]
  have hO := fun W h => only_any s (by omega) W h
  rw [hgood] at hO
  have htl : (onlyL s.data.toList).1.length ≤ 1000000 := by have := only_len s.data.toList; rw [size_list] at this; omega
  generalize htx : (onlyL s.data.toList).1 = tl at *
  obtain ⟨tx, htx2⟩ : ∃ tx : ByteArray, (⟨tl.toArray⟩ : ByteArray) = tx := ⟨_, rfl⟩
  rw [htx2] at hO
  have htd : tx.data.toList = tl := by rw [← htx2]
  have htz : tx.size ≤ 1000000 := by rw [← htx2, str_len]; exact htl
  have hhl := C.len
  have hhb := C.hb
  have hF := fun W => from_any tx W (by omega)
  rw [htd] at hF
  have DA : Hid (∀ W g, DecIs W g tl 0 → Calls Tryd.prog 77 #[.pointer (some ⟨g, 0, none⟩), .int .i64 32] W (DecRet g a.1.1 a.1.2 (.string ⟨a.2.toArray⟩) W)) := Lib.hid fun W g h => by
    have := decS_cur g (tl, 0) W 32 (by decide) (by simp only; omega) h; rw [C.ea] at this; exact this
  have DB : Hid (∀ W g, DecIs W g a.1.1 a.1.2 → Calls Tryd.prog 78 #[.pointer (some ⟨g, 0, none⟩), .int .i64 1073741824] W (DecRet g b.1.1 b.1.2 (.int .i64 (b.2 : Nat)) W)) := Lib.hid fun W g h => by
    have := decI_cur g a.1 W 1073741824 (by decide) h; rw [C.eb] at this; exact this
  have DC : Hid (∀ W g, DecIs W g b.1.1 b.1.2 → Calls Tryd.prog 79 #[.pointer (some ⟨g, 0, none⟩)] W (DecRet g c.1.1 c.1.2 (.int .u64 (c.2 : Nat)) W)) := Lib.hid fun W g h => by
    have := decU_cur g b.1 W h; rw [C.ec] at this; exact this
  have DD : Hid (∀ W g, DecIs W g c.1.1 c.1.2 → Calls Tryd.prog 78 #[.pointer (some ⟨g, 0, none⟩), .int .i64 1048576] W (DecRet g d.1.1 d.1.2 (.int .i64 (d.2 : Nat)) W)) := Lib.hid fun W g h => by
    have := decI_cur g c.1 W 1048576 (by decide) h; rw [C.ed] at this; exact this
  have DF : Hid (∀ W g, DecIs W g d.1.1 d.1.2 → Calls Tryd.prog 78 #[.pointer (some ⟨g, 0, none⟩), .int .i64 1048576] W (DecRet g f.1.1 f.1.2 (.int .i64 (f.2 : Nat)) W)) := Lib.hid fun W g h => by
    have := decI_cur g d.1 W 1048576 (by decide) h; rw [C.ef] at this; exact this
  have DG : Hid (∀ W g, DecIs W g f.1.1 f.1.2 → Calls Tryd.prog 78 #[.pointer (some ⟨g, 0, none⟩), .int .i64 4000] W (DecRet g gg.1.1 gg.1.2 (.int .i64 (gg.2 : Nat)) W)) := Lib.hid fun W g h => by
    have := decI_cur g f.1 W 4000 (by decide) h; rw [C.eg] at this; exact this
  have DH : Hid (∀ W g, DecIs W g gg.1.1 gg.1.2 → Calls Tryd.prog 79 #[.pointer (some ⟨g, 0, none⟩)] W (DecRet g h.1.1 h.1.2 (.int .u64 (h.2 : Nat)) W)) := Lib.hid fun W g hh => by
    have := decU_cur g gg.1 W hh; rw [C.eh] at this; exact this
  have DK : Hid (∀ W g, DecIs W g h.1.1 h.1.2 → Calls Tryd.prog 77 #[.pointer (some ⟨g, 0, none⟩), .int .i64 200] W (DecRet g k.1.1 k.1.2 (.string ⟨k.2.toArray⟩) W)) := Lib.hid fun W g hh => by
    have := decS_cur g h.1 W 200 (by decide) (by omega) hh; rw [C.ek] at this; exact this
  clear C htx htx2 htd hgood hhl htl
  have HEE := Lib.hid hee
  clear hee
  obtain ⟨⟨a0, a1⟩, a2⟩ := a
  obtain ⟨⟨b0, b1⟩, b2⟩ := b
  obtain ⟨⟨c0, c1⟩, c2⟩ := c
  obtain ⟨⟨d0, d1⟩, d2⟩ := d
  obtain ⟨⟨f0, f1⟩, f2⟩ := f
  obtain ⟨⟨g0, g1⟩, g2⟩ := gg
  obtain ⟨⟨h0, h1⟩, h2⟩ := h
  obtain ⟨⟨k0, k1⟩, k2⟩ := k
  simp only at *
  generalize (⟨a2.toArray⟩ : ByteArray) = sa at *
  generalize (⟨k2.toArray⟩ : ByteArray) = sk at *
  have hq : decide ((4294967295 : Int) < (h2 : Nat)) = true := by simp; omega
  have hz0 := At.new w 78 pcZero
  have hS1 := hS.alloc (.cells pcZero 78)
  have hb0 : Below w.heap.size w (w.alloc (.cells pcZero 78)) := (Below.refl _ w).alloc (Nat.le_refl _) _
  clear hS
  go_enter Tryd.func64, Tryd.ntmps64
  go_wp2_with fail
  refine (hO _ hS1).mono ?_
  rintro x w1 ⟨rfl, hb1⟩
  have HZ1 := Lib.hid (hz0.below hb1 hz0.lt)
  have HB1 := Lib.hid (hb0.trans (hb1.mono hb0.size))
  clear hz0 hS1 hb0 hb1 hO
  generalize hG : w.heap.size = G at *
  go_wp2_with fail
  refine (hF w1).mono ?_
  rintro x w2 ⟨g, rfl, hg2, hd2, hb2⟩
  have hz2 := (unhid HZ1).below hb2 (unhid HZ1).lt
  have hGg : G < g := by have := (unhid HZ1).lt; omega
  have HB2 := Lib.hid ((unhid HB1).trans (hb2.mono (by have := (unhid HB1).size; omega)))
  have HZ2 := Lib.hid hz2
  have HD2 := Lib.hid hd2
  clear hz2 hd2 hb2 hg2 HZ1 HB1 hF
  go_wp2_with fail
  refine (DA.out w2 g (unhid HD2)).mono ?_
  rintro x w3 ⟨rfl, hd, hgr⟩
  have HZ3 := Lib.hid ((unhid HZ2).grown hgr (by simp; omega))
  have HB3 := Lib.hid (below_of_grownBy (unhid HB2) hgr (by have := (unhid HB2).size; omega) (by omega))
  have HD3 := Lib.hid hd
  clear hd hgr HZ2 HB2 HD2 DA
  go_wp2_with fail
  refine (DB.out w3 g (unhid HD3)).mono ?_
  rintro x w4 ⟨rfl, hd, hgr⟩
  have HZ4 := Lib.hid ((unhid HZ3).grown hgr (by simp; omega))
  have HB4 := Lib.hid (below_of_grownBy (unhid HB3) hgr (by have := (unhid HB3).size; omega) (by omega))
  have HD4 := Lib.hid hd
  clear hd hgr HZ3 HB3 HD3 DB
  go_wp2_with fail
  refine (DC.out w4 g (unhid HD4)).mono ?_
  rintro x w5 ⟨rfl, hd, hgr⟩
  have HZ5 := Lib.hid ((unhid HZ4).grown hgr (by simp; omega))
  have HB5 := Lib.hid (below_of_grownBy (unhid HB4) hgr (by have := (unhid HB4).size; omega) (by omega))
  have HD5 := Lib.hid hd
  clear hd hgr HZ4 HB4 HD4 DC
  go_wp2_with fail
  refine (DD.out w5 g (unhid HD5)).mono ?_
  rintro x w6 ⟨rfl, hd, hgr⟩
  have HZ6 := Lib.hid ((unhid HZ5).grown hgr (by simp; omega))
  have HB6 := Lib.hid (below_of_grownBy (unhid HB5) hgr (by have := (unhid HB5).size; omega) (by omega))
  have HD6 := Lib.hid hd
  clear hd hgr HZ5 HB5 HD5 DD
  go_wp2_with fail
  refine (DF.out w6 g (unhid HD6)).mono ?_
  rintro x w7 ⟨rfl, hd, hgr⟩
  have HZ7 := Lib.hid ((unhid HZ6).grown hgr (by simp; omega))
  have HB7 := Lib.hid (below_of_grownBy (unhid HB6) hgr (by have := (unhid HB6).size; omega) (by omega))
  have HD7 := Lib.hid hd
  clear hd hgr HZ6 HB6 HD6 DF
  go_wp2_with fail
  refine (DG.out w7 g (unhid HD7)).mono ?_
  rintro x w8 ⟨rfl, hd, hgr⟩
  have HZ8 := Lib.hid ((unhid HZ7).grown hgr (by simp; omega))
  have HB8 := Lib.hid (below_of_grownBy (unhid HB7) hgr (by have := (unhid HB7).size; omega) (by omega))
  have HD8 := Lib.hid hd
  clear hd hgr HZ7 HB7 HD7 DG
  have hzn := At.new w8 78 pcZero
  have HZA := Lib.hid ((unhid HZ8).alloc (.cells pcZero 78))
  have HBA := Lib.hid ((unhid HB8).alloc (by have := (unhid HB8).size; omega) (.cells pcZero 78))
  have HDA : Hid (DecIs (w8.alloc (.cells pcZero 78)) g g0 g1) := Lib.hid (At.alloc (unhid HD8) _)
  have hzs : (w8.alloc (.cells pcZero 78)).heap.size = w8.heap.size + 1 := by simp
  have hgz : g < w8.heap.size := At.lt (unhid HD8)
  have hGz : G < w8.heap.size := (unhid HZ8).lt
  have HZN := Lib.hid hzn
  clear hzn HZ8 HB8 HD8
  go_upto_region 6 with (refine wpList_store_whole rfl 78 _ _ rfl w8.heap.size #[.string sa, .int .i64 (b2 : Nat), .int .u64 (c2 : Nat), .int .i64 (d2 : Nat), .int .i64 (f2 : Nat), .int .i64 (g2 : Nat), .int .u32 0, .string ⟨#[]⟩] rfl rfl 78 _ (unhid HZN) (by kernel_rfl) (by kernel_rfl) (by kernel_rfl) ?_; intro w9 hZ9 hG9; replace hZ9 := Lib.hid hZ9; replace hG9 := Lib.hid hG9)
  have HP9 := hZ9
  have HZ9 := Lib.hid ((unhid HZA).grown (unhid hG9) (by simp; omega))
  have HB9 := Lib.hid (below_of_grownBy (unhid HBA) (unhid hG9) (by omega) (by omega))
  have HD9 : Hid (DecIs w9 g g0 g1) := Lib.hid (At.grown (unhid HDA) (unhid hG9) (by simp; omega))
  generalize hX : w8.heap.size = X at *
  clear HZA HBA HDA HZN hG9 hzs hZ9
  go_wp2_with fail
  refine (DH.out w9 g (unhid HD9)).mono ?_
  rintro x w10 ⟨rfl, hd, hgr⟩
  have HZ10 := Lib.hid ((unhid HZ9).grown hgr (by simp; omega))
  have HP10 := Lib.hid ((unhid HP9).grown hgr (by simp; omega))
  have HB10 := Lib.hid (below_of_grownBy (unhid HB9) hgr (by have := (unhid HB9).size; omega) (by omega))
  have HD10 := Lib.hid hd
  clear hd hgr HZ9 HB9 HD9 HP9 DH
  have fx := (unhid HP10).frozen 6
  have cx : w10.cell? ⟨X, 6, none⟩ = some (.int .u32 0) := (unhid HP10).cell 6
  have hw32 : IntKind.u32.wrap (h2 : Int) = ((h2 : Int) % 4294967296) := by rw [IntKind.wrap_u32]
  go_upto_region 8 with fail
  have HP11 := Lib.hid ((unhid HP10).set 6 (.int .u32 ((h2 : Int) % 4294967296)))
  have HZ11 := Lib.hid ((unhid HZ10).far (p := ⟨X, 6, none⟩) (by simp; omega) (.int .u32 ((h2 : Int) % 4294967296)))
  have HB11 := Lib.hid ((unhid HB10).setCell (p := ⟨X, 6, none⟩) (by simp; omega) (.int .u32 ((h2 : Int) % 4294967296)))
  have HD11 : Hid (DecIs (w10.setCell ⟨X, 6, none⟩ (.int .u32 ((h2 : Int) % 4294967296))) g h0 h1) := Lib.hid (At.far (unhid HD10) (p := ⟨X, 6, none⟩) (by simp; omega) _)
  have hszX : (w10.setCell ⟨X, 6, none⟩ (.int .u32 ((h2 : Int) % 4294967296))).heap.size = w10.heap.size := by simp [World.setCell]
  clear cx fx HP10 HZ10 HB10 HD10 hw32
  generalize w10.setCell ⟨X, 6, none⟩ (.int .u32 ((h2 : Int) % 4294967296)) = w11 at *
  clear hszX
  go_wp2_with fail
  refine (DK.out w11 g (unhid HD11)).mono ?_
  rintro x w12 ⟨rfl, hd, hgr⟩
  have HZ12 := Lib.hid ((unhid HZ11).grown hgr (by simp; omega))
  have HP12 := Lib.hid ((unhid HP11).grown hgr (by simp; omega))
  have HB12 := Lib.hid (below_of_grownBy (unhid HB11) hgr (by have := (unhid HB11).size; omega) (by omega))
  have HD12 := Lib.hid hd
  clear hd hgr HZ11 HB11 HD11 HP11 DK
  have fx := (unhid HP12).frozen 7
  have cx : w12.cell? ⟨X, 7, none⟩ = some (.string ⟨#[]⟩) := (unhid HP12).cell 7
  go_upto_region 9 with fail
  have HP13 := Lib.hid ((unhid HP12).set 7 (.string sk))
  have HZ13 := Lib.hid ((unhid HZ12).far (p := ⟨X, 7, none⟩) (by simp; omega) (.string sk))
  have HB13 := Lib.hid ((unhid HB12).setCell (p := ⟨X, 7, none⟩) (by simp; omega) (.string sk))
  have HD13 : Hid (DecIs (w12.setCell ⟨X, 7, none⟩ (.string sk)) g k0 k1) := Lib.hid (At.far (unhid HD12) (p := ⟨X, 7, none⟩) (by simp; omega) _)
  clear cx fx HP12 HZ12 HB12 HD12
  generalize w12.setCell ⟨X, 7, none⟩ (.string sk) = w13 at *
  have x3 : w13.cell? ⟨X, 3, none⟩ = some (.int .i64 (d2 : Nat)) := (unhid HP13).cell 3
  have x4 : w13.cell? ⟨X, 4, none⟩ = some (.int .i64 (f2 : Nat)) := (unhid HP13).cell 4
  go_wp2_with fail
  refine (decFail_cur g (k0, k1) w13 3 (unhid HD13)).mono ?_
  rintro x w14 ⟨rfl, hd, hgr⟩
  have HZ14 := Lib.hid ((unhid HZ13).grown hgr (by simp; omega))
  have HB14 := Lib.hid (below_of_grownBy (unhid HB13) hgr (by have := (unhid HB13).size; omega) (by omega))
  simp only at hd
  have HD14 := Lib.hid hd
  clear hd hgr HZ13 HP13 HB13 HD13 x3 x4
  go_wp2_with fail
  refine (decDone_cur g (k0, if k1 = 0 then 3 else k1) w14 (unhid HD14)).mono ?_
  rintro x w15 ⟨rfl, hd, hgr⟩
  have HZ15 := Lib.hid ((unhid HZ14).grown hgr (by simp; omega))
  have HB15 := Lib.hid (below_of_grownBy (unhid HB14) hgr (by have := (unhid HB14).size; omega) (by omega))
  clear hd hgr HZ14 HB14 HD14
  simp only
  rw [HEE.out]
  have he : ((e : Int) != 0) = true := by rw [bne_iff_ne]; omega
  have he2 : ((e : Int) == 0) = false := by rw [beq_eq_false_iff_ne]; omega
  clear hne
  go_wp2_with (refine wpList_store_whole rfl 78 _ _ rfl G _ rfl rfl 78 _ (unhid HZ15) (by kernel_rfl) (by kernel_rfl) (by kernel_rfl) ?_; intro w16 hZ16 hG16; replace hZ16 := Lib.hid hZ16; replace hG16 := Lib.hid hG16)
  refine bodyPost_ret (res_row_tmp rfl _ _ _ _ _ _ rfl (unhid hZ16) Tryd.underlying78 (by kernel_rfl)) rfl ⟨rfl, ?_⟩
  have hs2 := (unhid HB15).size
  rw [hG]
  exact below_of_grownBy (unhid HB15) (unhid hG16) (by omega) (by omega)

set_option maxRecDepth 100000 in
set_option maxHeartbeats 4000000 in
theorem parse_b (s : ByteArray) (hs : s.size ≤ 1000000) (w : World) (hS : Steps w) (hgood : (onlyL s.data.toList).2 = 0) {a : (List UInt8 × Nat) × List UInt8} {b c d f gg h : (List UInt8 × Nat) × Nat} {k : (List UInt8 × Nat) × List UInt8} (C : Curs (onlyL s.data.toList).1 a b c d f gg h k) (e : Nat) (hee : doneErr k.1.1 (if k.1.2 = 0 then 3 else k.1.2) = e) (hne : e ≠ 0) (hA : ¬ 4294967295 < h.2) (hB : f.2 ≤ d.2) :
    Calls Tryd.prog 64 #[.string s] w (ParseRet w (.no, e)) := by
  unfold ParseRet
  simp only [pcZero_val]
  have hO := fun W h => only_any s (by omega) W h
  rw [hgood] at hO
  have htl : (onlyL s.data.toList).1.length ≤ 1000000 := by have := only_len s.data.toList; rw [size_list] at this; omega
  generalize htx : (onlyL s.data.toList).1 = tl at *
  obtain ⟨tx, htx2⟩ : ∃ tx : ByteArray, (⟨tl.toArray⟩ : ByteArray) = tx := ⟨_, rfl⟩
  rw [htx2] at hO
  have htd : tx.data.toList = tl := by rw [← htx2]
  have htz : tx.size ≤ 1000000 := by rw [← htx2, str_len]; exact htl
  have hhl := C.len
  have hhb := C.hb
  have hF := fun W => from_any tx W (by omega)
  rw [htd] at hF
  have DA : Hid (∀ W g, DecIs W g tl 0 → Calls Tryd.prog 77 #[.pointer (some ⟨g, 0, none⟩), .int .i64 32] W (DecRet g a.1.1 a.1.2 (.string ⟨a.2.toArray⟩) W)) := Lib.hid fun W g h => by
    have := decS_cur g (tl, 0) W 32 (by decide) (by simp only; omega) h; rw [C.ea] at this; exact this
  have DB : Hid (∀ W g, DecIs W g a.1.1 a.1.2 → Calls Tryd.prog 78 #[.pointer (some ⟨g, 0, none⟩), .int .i64 1073741824] W (DecRet g b.1.1 b.1.2 (.int .i64 (b.2 : Nat)) W)) := Lib.hid fun W g h => by
    have := decI_cur g a.1 W 1073741824 (by decide) h; rw [C.eb] at this; exact this
  have DC : Hid (∀ W g, DecIs W g b.1.1 b.1.2 → Calls Tryd.prog 79 #[.pointer (some ⟨g, 0, none⟩)] W (DecRet g c.1.1 c.1.2 (.int .u64 (c.2 : Nat)) W)) := Lib.hid fun W g h => by
    have := decU_cur g b.1 W h; rw [C.ec] at this; exact this
  have DD : Hid (∀ W g, DecIs W g c.1.1 c.1.2 → Calls Tryd.prog 78 #[.pointer (some ⟨g, 0, none⟩), .int .i64 1048576] W (DecRet g d.1.1 d.1.2 (.int .i64 (d.2 : Nat)) W)) := Lib.hid fun W g h => by
    have := decI_cur g c.1 W 1048576 (by decide) h; rw [C.ed] at this; exact this
  have DF : Hid (∀ W g, DecIs W g d.1.1 d.1.2 → Calls Tryd.prog 78 #[.pointer (some ⟨g, 0, none⟩), .int .i64 1048576] W (DecRet g f.1.1 f.1.2 (.int .i64 (f.2 : Nat)) W)) := Lib.hid fun W g h => by
    have := decI_cur g d.1 W 1048576 (by decide) h; rw [C.ef] at this; exact this
  have DG : Hid (∀ W g, DecIs W g f.1.1 f.1.2 → Calls Tryd.prog 78 #[.pointer (some ⟨g, 0, none⟩), .int .i64 4000] W (DecRet g gg.1.1 gg.1.2 (.int .i64 (gg.2 : Nat)) W)) := Lib.hid fun W g h => by
    have := decI_cur g f.1 W 4000 (by decide) h; rw [C.eg] at this; exact this
  have DH : Hid (∀ W g, DecIs W g gg.1.1 gg.1.2 → Calls Tryd.prog 79 #[.pointer (some ⟨g, 0, none⟩)] W (DecRet g h.1.1 h.1.2 (.int .u64 (h.2 : Nat)) W)) := Lib.hid fun W g hh => by
    have := decU_cur g gg.1 W hh; rw [C.eh] at this; exact this
  have DK : Hid (∀ W g, DecIs W g h.1.1 h.1.2 → Calls Tryd.prog 77 #[.pointer (some ⟨g, 0, none⟩), .int .i64 200] W (DecRet g k.1.1 k.1.2 (.string ⟨k.2.toArray⟩) W)) := Lib.hid fun W g hh => by
    have := decS_cur g h.1 W 200 (by decide) (by omega) hh; rw [C.ek] at this; exact this
  clear C htx htx2 htd hgood hhl htl
  have HEE := Lib.hid hee
  clear hee
  obtain ⟨⟨a0, a1⟩, a2⟩ := a
  obtain ⟨⟨b0, b1⟩, b2⟩ := b
  obtain ⟨⟨c0, c1⟩, c2⟩ := c
  obtain ⟨⟨d0, d1⟩, d2⟩ := d
  obtain ⟨⟨f0, f1⟩, f2⟩ := f
  obtain ⟨⟨g0, g1⟩, g2⟩ := gg
  obtain ⟨⟨h0, h1⟩, h2⟩ := h
  obtain ⟨⟨k0, k1⟩, k2⟩ := k
  simp only at *
  generalize (⟨a2.toArray⟩ : ByteArray) = sa at *
  generalize (⟨k2.toArray⟩ : ByteArray) = sk at *
  have hq : decide ((4294967295 : Int) < (h2 : Nat)) = false := by simp; omega
  have hr : decide (f2 ≤ d2) = true := by simp; omega
  have hz0 := At.new w 78 pcZero
  have hS1 := hS.alloc (.cells pcZero 78)
  have hb0 : Below w.heap.size w (w.alloc (.cells pcZero 78)) := (Below.refl _ w).alloc (Nat.le_refl _) _
  clear hS
  go_enter Tryd.func64, Tryd.ntmps64
  go_wp2_with fail
  refine (hO _ hS1).mono ?_
  rintro x w1 ⟨rfl, hb1⟩
  have HZ1 := Lib.hid (hz0.below hb1 hz0.lt)
  have HB1 := Lib.hid (hb0.trans (hb1.mono hb0.size))
  clear hz0 hS1 hb0 hb1 hO
  generalize hG : w.heap.size = G at *
  go_wp2_with fail
  refine (hF w1).mono ?_
  rintro x w2 ⟨g, rfl, hg2, hd2, hb2⟩
  have hz2 := (unhid HZ1).below hb2 (unhid HZ1).lt
  have hGg : G < g := by have := (unhid HZ1).lt; omega
  have HB2 := Lib.hid ((unhid HB1).trans (hb2.mono (by have := (unhid HB1).size; omega)))
  have HZ2 := Lib.hid hz2
  have HD2 := Lib.hid hd2
  clear hz2 hd2 hb2 hg2 HZ1 HB1 hF
  go_wp2_with fail
  refine (DA.out w2 g (unhid HD2)).mono ?_
  rintro x w3 ⟨rfl, hd, hgr⟩
  have HZ3 := Lib.hid ((unhid HZ2).grown hgr (by simp; omega))
  have HB3 := Lib.hid (below_of_grownBy (unhid HB2) hgr (by have := (unhid HB2).size; omega) (by omega))
  have HD3 := Lib.hid hd
  clear hd hgr HZ2 HB2 HD2 DA
  go_wp2_with fail
  refine (DB.out w3 g (unhid HD3)).mono ?_
  rintro x w4 ⟨rfl, hd, hgr⟩
  have HZ4 := Lib.hid ((unhid HZ3).grown hgr (by simp; omega))
  have HB4 := Lib.hid (below_of_grownBy (unhid HB3) hgr (by have := (unhid HB3).size; omega) (by omega))
  have HD4 := Lib.hid hd
  clear hd hgr HZ3 HB3 HD3 DB
  go_wp2_with fail
  refine (DC.out w4 g (unhid HD4)).mono ?_
  rintro x w5 ⟨rfl, hd, hgr⟩
  have HZ5 := Lib.hid ((unhid HZ4).grown hgr (by simp; omega))
  have HB5 := Lib.hid (below_of_grownBy (unhid HB4) hgr (by have := (unhid HB4).size; omega) (by omega))
  have HD5 := Lib.hid hd
  clear hd hgr HZ4 HB4 HD4 DC
  go_wp2_with fail
  refine (DD.out w5 g (unhid HD5)).mono ?_
  rintro x w6 ⟨rfl, hd, hgr⟩
  have HZ6 := Lib.hid ((unhid HZ5).grown hgr (by simp; omega))
  have HB6 := Lib.hid (below_of_grownBy (unhid HB5) hgr (by have := (unhid HB5).size; omega) (by omega))
  have HD6 := Lib.hid hd
  clear hd hgr HZ5 HB5 HD5 DD
  go_wp2_with fail
  refine (DF.out w6 g (unhid HD6)).mono ?_
  rintro x w7 ⟨rfl, hd, hgr⟩
  have HZ7 := Lib.hid ((unhid HZ6).grown hgr (by simp; omega))
  have HB7 := Lib.hid (below_of_grownBy (unhid HB6) hgr (by have := (unhid HB6).size; omega) (by omega))
  have HD7 := Lib.hid hd
  clear hd hgr HZ6 HB6 HD6 DF
  go_wp2_with fail
  refine (DG.out w7 g (unhid HD7)).mono ?_
  rintro x w8 ⟨rfl, hd, hgr⟩
  have HZ8 := Lib.hid ((unhid HZ7).grown hgr (by simp; omega))
  have HB8 := Lib.hid (below_of_grownBy (unhid HB7) hgr (by have := (unhid HB7).size; omega) (by omega))
  have HD8 := Lib.hid hd
  clear hd hgr HZ7 HB7 HD7 DG
  have hzn := At.new w8 78 pcZero
  have HZA := Lib.hid ((unhid HZ8).alloc (.cells pcZero 78))
  have HBA := Lib.hid ((unhid HB8).alloc (by have := (unhid HB8).size; omega) (.cells pcZero 78))
  have HDA : Hid (DecIs (w8.alloc (.cells pcZero 78)) g g0 g1) := Lib.hid (At.alloc (unhid HD8) _)
  have hzs : (w8.alloc (.cells pcZero 78)).heap.size = w8.heap.size + 1 := by simp
  have hgz : g < w8.heap.size := At.lt (unhid HD8)
  have hGz : G < w8.heap.size := (unhid HZ8).lt
  have HZN := Lib.hid hzn
  clear hzn HZ8 HB8 HD8
  go_upto_region 6 with (refine wpList_store_whole rfl 78 _ _ rfl w8.heap.size #[.string sa, .int .i64 (b2 : Nat), .int .u64 (c2 : Nat), .int .i64 (d2 : Nat), .int .i64 (f2 : Nat), .int .i64 (g2 : Nat), .int .u32 0, .string ⟨#[]⟩] rfl rfl 78 _ (unhid HZN) (by kernel_rfl) (by kernel_rfl) (by kernel_rfl) ?_; intro w9 hZ9 hG9; replace hZ9 := Lib.hid hZ9; replace hG9 := Lib.hid hG9)
  have HP9 := hZ9
  have HZ9 := Lib.hid ((unhid HZA).grown (unhid hG9) (by simp; omega))
  have HB9 := Lib.hid (below_of_grownBy (unhid HBA) (unhid hG9) (by omega) (by omega))
  have HD9 : Hid (DecIs w9 g g0 g1) := Lib.hid (At.grown (unhid HDA) (unhid hG9) (by simp; omega))
  generalize hX : w8.heap.size = X at *
  clear HZA HBA HDA HZN hG9 hzs hZ9
  go_wp2_with fail
  refine (DH.out w9 g (unhid HD9)).mono ?_
  rintro x w10 ⟨rfl, hd, hgr⟩
  have HZ10 := Lib.hid ((unhid HZ9).grown hgr (by simp; omega))
  have HP10 := Lib.hid ((unhid HP9).grown hgr (by simp; omega))
  have HB10 := Lib.hid (below_of_grownBy (unhid HB9) hgr (by have := (unhid HB9).size; omega) (by omega))
  have HD10 := Lib.hid hd
  clear hd hgr HZ9 HB9 HD9 HP9 DH
  have fx := (unhid HP10).frozen 6
  have cx : w10.cell? ⟨X, 6, none⟩ = some (.int .u32 0) := (unhid HP10).cell 6
  have hw32 : IntKind.u32.wrap (h2 : Int) = ((h2 : Int) % 4294967296) := by rw [IntKind.wrap_u32]
  go_upto_region 8 with fail
  have HP11 := Lib.hid ((unhid HP10).set 6 (.int .u32 ((h2 : Int) % 4294967296)))
  have HZ11 := Lib.hid ((unhid HZ10).far (p := ⟨X, 6, none⟩) (by simp; omega) (.int .u32 ((h2 : Int) % 4294967296)))
  have HB11 := Lib.hid ((unhid HB10).setCell (p := ⟨X, 6, none⟩) (by simp; omega) (.int .u32 ((h2 : Int) % 4294967296)))
  have HD11 : Hid (DecIs (w10.setCell ⟨X, 6, none⟩ (.int .u32 ((h2 : Int) % 4294967296))) g h0 h1) := Lib.hid (At.far (unhid HD10) (p := ⟨X, 6, none⟩) (by simp; omega) _)
  have hszX : (w10.setCell ⟨X, 6, none⟩ (.int .u32 ((h2 : Int) % 4294967296))).heap.size = w10.heap.size := by simp [World.setCell]
  clear cx fx HP10 HZ10 HB10 HD10 hw32
  generalize w10.setCell ⟨X, 6, none⟩ (.int .u32 ((h2 : Int) % 4294967296)) = w11 at *
  clear hszX
  go_wp2_with fail
  refine (DK.out w11 g (unhid HD11)).mono ?_
  rintro x w12 ⟨rfl, hd, hgr⟩
  have HZ12 := Lib.hid ((unhid HZ11).grown hgr (by simp; omega))
  have HP12 := Lib.hid ((unhid HP11).grown hgr (by simp; omega))
  have HB12 := Lib.hid (below_of_grownBy (unhid HB11) hgr (by have := (unhid HB11).size; omega) (by omega))
  have HD12 := Lib.hid hd
  clear hd hgr HZ11 HB11 HD11 HP11 DK
  have fx := (unhid HP12).frozen 7
  have cx : w12.cell? ⟨X, 7, none⟩ = some (.string ⟨#[]⟩) := (unhid HP12).cell 7
  go_upto_region 9 with fail
  have HP13 := Lib.hid ((unhid HP12).set 7 (.string sk))
  have HZ13 := Lib.hid ((unhid HZ12).far (p := ⟨X, 7, none⟩) (by simp; omega) (.string sk))
  have HB13 := Lib.hid ((unhid HB12).setCell (p := ⟨X, 7, none⟩) (by simp; omega) (.string sk))
  have HD13 : Hid (DecIs (w12.setCell ⟨X, 7, none⟩ (.string sk)) g k0 k1) := Lib.hid (At.far (unhid HD12) (p := ⟨X, 7, none⟩) (by simp; omega) _)
  clear cx fx HP12 HZ12 HB12 HD12
  generalize w12.setCell ⟨X, 7, none⟩ (.string sk) = w13 at *
  have x3 : w13.cell? ⟨X, 3, none⟩ = some (.int .i64 (d2 : Nat)) := (unhid HP13).cell 3
  have x4 : w13.cell? ⟨X, 4, none⟩ = some (.int .i64 (f2 : Nat)) := (unhid HP13).cell 4
  go_wp2_with fail
  refine (decFail_cur g (k0, k1) w13 3 (unhid HD13)).mono ?_
  rintro x w14 ⟨rfl, hd, hgr⟩
  have HZ14 := Lib.hid ((unhid HZ13).grown hgr (by simp; omega))
  have HB14 := Lib.hid (below_of_grownBy (unhid HB13) hgr (by have := (unhid HB13).size; omega) (by omega))
  simp only at hd
  have HD14 := Lib.hid hd
  clear hd hgr HZ13 HP13 HB13 HD13 x3 x4
  go_wp2_with fail
  refine (decDone_cur g (k0, if k1 = 0 then 3 else k1) w14 (unhid HD14)).mono ?_
  rintro x w15 ⟨rfl, hd, hgr⟩
  have HZ15 := Lib.hid ((unhid HZ14).grown hgr (by simp; omega))
  have HB15 := Lib.hid (below_of_grownBy (unhid HB14) hgr (by have := (unhid HB14).size; omega) (by omega))
  clear hd hgr HZ14 HB14 HD14
  simp only
  rw [HEE.out]
  have he : ((e : Int) != 0) = true := by rw [bne_iff_ne]; omega
  have he2 : ((e : Int) == 0) = false := by rw [beq_eq_false_iff_ne]; omega
  clear hne
  go_wp2_with (refine wpList_store_whole rfl 78 _ _ rfl G _ rfl rfl 78 _ (unhid HZ15) (by kernel_rfl) (by kernel_rfl) (by kernel_rfl) ?_; intro w16 hZ16 hG16; replace hZ16 := Lib.hid hZ16; replace hG16 := Lib.hid hG16)
  refine bodyPost_ret (res_row_tmp rfl _ _ _ _ _ _ rfl (unhid hZ16) Tryd.underlying78 (by kernel_rfl)) rfl ⟨rfl, ?_⟩
  have hs2 := (unhid HB15).size
  rw [hG]
  exact below_of_grownBy (unhid HB15) (unhid hG16) (by omega) (by omega)

set_option maxRecDepth 100000 in
set_option maxHeartbeats 4000000 in
theorem parse_c (s : ByteArray) (hs : s.size ≤ 1000000) (w : World) (hS : Steps w) (hgood : (onlyL s.data.toList).2 = 0) {a : (List UInt8 × Nat) × List UInt8} {b c d f gg h : (List UInt8 × Nat) × Nat} {k : (List UInt8 × Nat) × List UInt8} (C : Curs (onlyL s.data.toList).1 a b c d f gg h k) (e : Nat) (hee : doneErr k.1.1 k.1.2 = e) (hne : e ≠ 0) (hA : ¬ 4294967295 < h.2) (hB : ¬ f.2 ≤ d.2) :
    Calls Tryd.prog 64 #[.string s] w (ParseRet w (.no, e)) := by
  unfold ParseRet
  simp only [pcZero_val]
  have hO := fun W h => only_any s (by omega) W h
  rw [hgood] at hO
  have htl : (onlyL s.data.toList).1.length ≤ 1000000 := by have := only_len s.data.toList; rw [size_list] at this; omega
  generalize htx : (onlyL s.data.toList).1 = tl at *
  obtain ⟨tx, htx2⟩ : ∃ tx : ByteArray, (⟨tl.toArray⟩ : ByteArray) = tx := ⟨_, rfl⟩
  rw [htx2] at hO
  have htd : tx.data.toList = tl := by rw [← htx2]
  have htz : tx.size ≤ 1000000 := by rw [← htx2, str_len]; exact htl
  have hhl := C.len
  have hhb := C.hb
  have hF := fun W => from_any tx W (by omega)
  rw [htd] at hF
  have DA : Hid (∀ W g, DecIs W g tl 0 → Calls Tryd.prog 77 #[.pointer (some ⟨g, 0, none⟩), .int .i64 32] W (DecRet g a.1.1 a.1.2 (.string ⟨a.2.toArray⟩) W)) := Lib.hid fun W g h => by
    have := decS_cur g (tl, 0) W 32 (by decide) (by simp only; omega) h; rw [C.ea] at this; exact this
  have DB : Hid (∀ W g, DecIs W g a.1.1 a.1.2 → Calls Tryd.prog 78 #[.pointer (some ⟨g, 0, none⟩), .int .i64 1073741824] W (DecRet g b.1.1 b.1.2 (.int .i64 (b.2 : Nat)) W)) := Lib.hid fun W g h => by
    have := decI_cur g a.1 W 1073741824 (by decide) h; rw [C.eb] at this; exact this
  have DC : Hid (∀ W g, DecIs W g b.1.1 b.1.2 → Calls Tryd.prog 79 #[.pointer (some ⟨g, 0, none⟩)] W (DecRet g c.1.1 c.1.2 (.int .u64 (c.2 : Nat)) W)) := Lib.hid fun W g h => by
    have := decU_cur g b.1 W h; rw [C.ec] at this; exact this
  have DD : Hid (∀ W g, DecIs W g c.1.1 c.1.2 → Calls Tryd.prog 78 #[.pointer (some ⟨g, 0, none⟩), .int .i64 1048576] W (DecRet g d.1.1 d.1.2 (.int .i64 (d.2 : Nat)) W)) := Lib.hid fun W g h => by
    have := decI_cur g c.1 W 1048576 (by decide) h; rw [C.ed] at this; exact this
  have DF : Hid (∀ W g, DecIs W g d.1.1 d.1.2 → Calls Tryd.prog 78 #[.pointer (some ⟨g, 0, none⟩), .int .i64 1048576] W (DecRet g f.1.1 f.1.2 (.int .i64 (f.2 : Nat)) W)) := Lib.hid fun W g h => by
    have := decI_cur g d.1 W 1048576 (by decide) h; rw [C.ef] at this; exact this
  have DG : Hid (∀ W g, DecIs W g f.1.1 f.1.2 → Calls Tryd.prog 78 #[.pointer (some ⟨g, 0, none⟩), .int .i64 4000] W (DecRet g gg.1.1 gg.1.2 (.int .i64 (gg.2 : Nat)) W)) := Lib.hid fun W g h => by
    have := decI_cur g f.1 W 4000 (by decide) h; rw [C.eg] at this; exact this
  have DH : Hid (∀ W g, DecIs W g gg.1.1 gg.1.2 → Calls Tryd.prog 79 #[.pointer (some ⟨g, 0, none⟩)] W (DecRet g h.1.1 h.1.2 (.int .u64 (h.2 : Nat)) W)) := Lib.hid fun W g hh => by
    have := decU_cur g gg.1 W hh; rw [C.eh] at this; exact this
  have DK : Hid (∀ W g, DecIs W g h.1.1 h.1.2 → Calls Tryd.prog 77 #[.pointer (some ⟨g, 0, none⟩), .int .i64 200] W (DecRet g k.1.1 k.1.2 (.string ⟨k.2.toArray⟩) W)) := Lib.hid fun W g hh => by
    have := decS_cur g h.1 W 200 (by decide) (by omega) hh; rw [C.ek] at this; exact this
  clear C htx htx2 htd hgood hhl htl
  have HEE := Lib.hid hee
  clear hee
  obtain ⟨⟨a0, a1⟩, a2⟩ := a
  obtain ⟨⟨b0, b1⟩, b2⟩ := b
  obtain ⟨⟨c0, c1⟩, c2⟩ := c
  obtain ⟨⟨d0, d1⟩, d2⟩ := d
  obtain ⟨⟨f0, f1⟩, f2⟩ := f
  obtain ⟨⟨g0, g1⟩, g2⟩ := gg
  obtain ⟨⟨h0, h1⟩, h2⟩ := h
  obtain ⟨⟨k0, k1⟩, k2⟩ := k
  simp only at *
  generalize (⟨a2.toArray⟩ : ByteArray) = sa at *
  generalize (⟨k2.toArray⟩ : ByteArray) = sk at *
  have hq : decide ((4294967295 : Int) < (h2 : Nat)) = false := by simp; omega
  have hr : decide (f2 ≤ d2) = false := by simp; omega
  have hz0 := At.new w 78 pcZero
  have hS1 := hS.alloc (.cells pcZero 78)
  have hb0 : Below w.heap.size w (w.alloc (.cells pcZero 78)) := (Below.refl _ w).alloc (Nat.le_refl _) _
  clear hS
  go_enter Tryd.func64, Tryd.ntmps64
  go_wp2_with fail
  refine (hO _ hS1).mono ?_
  rintro x w1 ⟨rfl, hb1⟩
  have HZ1 := Lib.hid (hz0.below hb1 hz0.lt)
  have HB1 := Lib.hid (hb0.trans (hb1.mono hb0.size))
  clear hz0 hS1 hb0 hb1 hO
  generalize hG : w.heap.size = G at *
  go_wp2_with fail
  refine (hF w1).mono ?_
  rintro x w2 ⟨g, rfl, hg2, hd2, hb2⟩
  have hz2 := (unhid HZ1).below hb2 (unhid HZ1).lt
  have hGg : G < g := by have := (unhid HZ1).lt; omega
  have HB2 := Lib.hid ((unhid HB1).trans (hb2.mono (by have := (unhid HB1).size; omega)))
  have HZ2 := Lib.hid hz2
  have HD2 := Lib.hid hd2
  clear hz2 hd2 hb2 hg2 HZ1 HB1 hF
  go_wp2_with fail
  refine (DA.out w2 g (unhid HD2)).mono ?_
  rintro x w3 ⟨rfl, hd, hgr⟩
  have HZ3 := Lib.hid ((unhid HZ2).grown hgr (by simp; omega))
  have HB3 := Lib.hid (below_of_grownBy (unhid HB2) hgr (by have := (unhid HB2).size; omega) (by omega))
  have HD3 := Lib.hid hd
  clear hd hgr HZ2 HB2 HD2 DA
  go_wp2_with fail
  refine (DB.out w3 g (unhid HD3)).mono ?_
  rintro x w4 ⟨rfl, hd, hgr⟩
  have HZ4 := Lib.hid ((unhid HZ3).grown hgr (by simp; omega))
  have HB4 := Lib.hid (below_of_grownBy (unhid HB3) hgr (by have := (unhid HB3).size; omega) (by omega))
  have HD4 := Lib.hid hd
  clear hd hgr HZ3 HB3 HD3 DB
  go_wp2_with fail
  refine (DC.out w4 g (unhid HD4)).mono ?_
  rintro x w5 ⟨rfl, hd, hgr⟩
  have HZ5 := Lib.hid ((unhid HZ4).grown hgr (by simp; omega))
  have HB5 := Lib.hid (below_of_grownBy (unhid HB4) hgr (by have := (unhid HB4).size; omega) (by omega))
  have HD5 := Lib.hid hd
  clear hd hgr HZ4 HB4 HD4 DC
  go_wp2_with fail
  refine (DD.out w5 g (unhid HD5)).mono ?_
  rintro x w6 ⟨rfl, hd, hgr⟩
  have HZ6 := Lib.hid ((unhid HZ5).grown hgr (by simp; omega))
  have HB6 := Lib.hid (below_of_grownBy (unhid HB5) hgr (by have := (unhid HB5).size; omega) (by omega))
  have HD6 := Lib.hid hd
  clear hd hgr HZ5 HB5 HD5 DD
  go_wp2_with fail
  refine (DF.out w6 g (unhid HD6)).mono ?_
  rintro x w7 ⟨rfl, hd, hgr⟩
  have HZ7 := Lib.hid ((unhid HZ6).grown hgr (by simp; omega))
  have HB7 := Lib.hid (below_of_grownBy (unhid HB6) hgr (by have := (unhid HB6).size; omega) (by omega))
  have HD7 := Lib.hid hd
  clear hd hgr HZ6 HB6 HD6 DF
  go_wp2_with fail
  refine (DG.out w7 g (unhid HD7)).mono ?_
  rintro x w8 ⟨rfl, hd, hgr⟩
  have HZ8 := Lib.hid ((unhid HZ7).grown hgr (by simp; omega))
  have HB8 := Lib.hid (below_of_grownBy (unhid HB7) hgr (by have := (unhid HB7).size; omega) (by omega))
  have HD8 := Lib.hid hd
  clear hd hgr HZ7 HB7 HD7 DG
  have hzn := At.new w8 78 pcZero
  have HZA := Lib.hid ((unhid HZ8).alloc (.cells pcZero 78))
  have HBA := Lib.hid ((unhid HB8).alloc (by have := (unhid HB8).size; omega) (.cells pcZero 78))
  have HDA : Hid (DecIs (w8.alloc (.cells pcZero 78)) g g0 g1) := Lib.hid (At.alloc (unhid HD8) _)
  have hzs : (w8.alloc (.cells pcZero 78)).heap.size = w8.heap.size + 1 := by simp
  have hgz : g < w8.heap.size := At.lt (unhid HD8)
  have hGz : G < w8.heap.size := (unhid HZ8).lt
  have HZN := Lib.hid hzn
  clear hzn HZ8 HB8 HD8
  go_upto_region 6 with (refine wpList_store_whole rfl 78 _ _ rfl w8.heap.size #[.string sa, .int .i64 (b2 : Nat), .int .u64 (c2 : Nat), .int .i64 (d2 : Nat), .int .i64 (f2 : Nat), .int .i64 (g2 : Nat), .int .u32 0, .string ⟨#[]⟩] rfl rfl 78 _ (unhid HZN) (by kernel_rfl) (by kernel_rfl) (by kernel_rfl) ?_; intro w9 hZ9 hG9; replace hZ9 := Lib.hid hZ9; replace hG9 := Lib.hid hG9)
  have HP9 := hZ9
  have HZ9 := Lib.hid ((unhid HZA).grown (unhid hG9) (by simp; omega))
  have HB9 := Lib.hid (below_of_grownBy (unhid HBA) (unhid hG9) (by omega) (by omega))
  have HD9 : Hid (DecIs w9 g g0 g1) := Lib.hid (At.grown (unhid HDA) (unhid hG9) (by simp; omega))
  generalize hX : w8.heap.size = X at *
  clear HZA HBA HDA HZN hG9 hzs hZ9
  go_wp2_with fail
  refine (DH.out w9 g (unhid HD9)).mono ?_
  rintro x w10 ⟨rfl, hd, hgr⟩
  have HZ10 := Lib.hid ((unhid HZ9).grown hgr (by simp; omega))
  have HP10 := Lib.hid ((unhid HP9).grown hgr (by simp; omega))
  have HB10 := Lib.hid (below_of_grownBy (unhid HB9) hgr (by have := (unhid HB9).size; omega) (by omega))
  have HD10 := Lib.hid hd
  clear hd hgr HZ9 HB9 HD9 HP9 DH
  have fx := (unhid HP10).frozen 6
  have cx : w10.cell? ⟨X, 6, none⟩ = some (.int .u32 0) := (unhid HP10).cell 6
  have hw32 : IntKind.u32.wrap (h2 : Int) = ((h2 : Int) % 4294967296) := by rw [IntKind.wrap_u32]
  go_upto_region 8 with fail
  have HP11 := Lib.hid ((unhid HP10).set 6 (.int .u32 ((h2 : Int) % 4294967296)))
  have HZ11 := Lib.hid ((unhid HZ10).far (p := ⟨X, 6, none⟩) (by simp; omega) (.int .u32 ((h2 : Int) % 4294967296)))
  have HB11 := Lib.hid ((unhid HB10).setCell (p := ⟨X, 6, none⟩) (by simp; omega) (.int .u32 ((h2 : Int) % 4294967296)))
  have HD11 : Hid (DecIs (w10.setCell ⟨X, 6, none⟩ (.int .u32 ((h2 : Int) % 4294967296))) g h0 h1) := Lib.hid (At.far (unhid HD10) (p := ⟨X, 6, none⟩) (by simp; omega) _)
  have hszX : (w10.setCell ⟨X, 6, none⟩ (.int .u32 ((h2 : Int) % 4294967296))).heap.size = w10.heap.size := by simp [World.setCell]
  clear cx fx HP10 HZ10 HB10 HD10 hw32
  generalize w10.setCell ⟨X, 6, none⟩ (.int .u32 ((h2 : Int) % 4294967296)) = w11 at *
  clear hszX
  go_wp2_with fail
  refine (DK.out w11 g (unhid HD11)).mono ?_
  rintro x w12 ⟨rfl, hd, hgr⟩
  have HZ12 := Lib.hid ((unhid HZ11).grown hgr (by simp; omega))
  have HP12 := Lib.hid ((unhid HP11).grown hgr (by simp; omega))
  have HB12 := Lib.hid (below_of_grownBy (unhid HB11) hgr (by have := (unhid HB11).size; omega) (by omega))
  have HD12 := Lib.hid hd
  clear hd hgr HZ11 HB11 HD11 HP11 DK
  have fx := (unhid HP12).frozen 7
  have cx : w12.cell? ⟨X, 7, none⟩ = some (.string ⟨#[]⟩) := (unhid HP12).cell 7
  go_upto_region 9 with fail
  have HP13 := Lib.hid ((unhid HP12).set 7 (.string sk))
  have HZ13 := Lib.hid ((unhid HZ12).far (p := ⟨X, 7, none⟩) (by simp; omega) (.string sk))
  have HB13 := Lib.hid ((unhid HB12).setCell (p := ⟨X, 7, none⟩) (by simp; omega) (.string sk))
  have HD13 : Hid (DecIs (w12.setCell ⟨X, 7, none⟩ (.string sk)) g k0 k1) := Lib.hid (At.far (unhid HD12) (p := ⟨X, 7, none⟩) (by simp; omega) _)
  clear cx fx HP12 HZ12 HB12 HD12
  generalize w12.setCell ⟨X, 7, none⟩ (.string sk) = w13 at *
  have x3 : w13.cell? ⟨X, 3, none⟩ = some (.int .i64 (d2 : Nat)) := (unhid HP13).cell 3
  have x4 : w13.cell? ⟨X, 4, none⟩ = some (.int .i64 (f2 : Nat)) := (unhid HP13).cell 4
  go_wp2_with fail
  refine (decDone_cur g (k0, k1) w13 (unhid HD13)).mono ?_
  rintro x w15 ⟨rfl, hd, hgr⟩
  have HZ15 := Lib.hid ((unhid HZ13).grown hgr (by simp; omega))
  have HP15 := Lib.hid ((unhid HP13).grown hgr (by simp; omega))
  have HB15 := Lib.hid (below_of_grownBy (unhid HB13) hgr (by have := (unhid HB13).size; omega) (by omega))
  clear hd hgr HZ13 HB13 HD13 HP13 x3 x4
  simp only
  rw [HEE.out]
  have he : ((e : Int) != 0) = true := by rw [bne_iff_ne]; omega
  have he2 : ((e : Int) == 0) = false := by rw [beq_eq_false_iff_ne]; omega
  clear hne
  go_wp2_with (refine wpList_store_whole rfl 78 _ _ rfl G _ rfl rfl 78 _ (unhid HZ15) (by kernel_rfl) (by kernel_rfl) (by kernel_rfl) ?_; intro w16 hZ16 hG16; replace hZ16 := Lib.hid hZ16; replace hG16 := Lib.hid hG16)
  refine bodyPost_ret (res_row_tmp rfl _ _ _ _ _ _ rfl (unhid hZ16) Tryd.underlying78 (by kernel_rfl)) rfl ⟨rfl, ?_⟩
  have hs2 := (unhid HB15).size
  rw [hG]
  exact below_of_grownBy (unhid HB15) (unhid hG16) (by omega) (by omega)

set_option maxRecDepth 100000 in
set_option maxHeartbeats 4000000 in
theorem parse_d (s : ByteArray) (hs : s.size ≤ 1000000) (w : World) (hS : Steps w) (hgood : (onlyL s.data.toList).2 = 0) {a : (List UInt8 × Nat) × List UInt8} {b c d f gg h : (List UInt8 × Nat) × Nat} {k : (List UInt8 × Nat) × List UInt8} (C : Curs (onlyL s.data.toList).1 a b c d f gg h k) (hee : doneErr k.1.1 k.1.2 = 0) (hA : ¬ 4294967295 < h.2) (hB : ¬ f.2 ≤ d.2) :
    Calls Tryd.prog 64 #[.string s] w (ParseRet w (pcOf a.2 b.2 c.2 d.2 f.2 gg.2 h.2 k.2, 0)) := by
  unfold ParseRet
  simp only
  have hO := fun W h => only_any s (by omega) W h
  rw [hgood] at hO
  have htl : (onlyL s.data.toList).1.length ≤ 1000000 := by have := only_len s.data.toList; rw [size_list] at this; omega
  generalize htx : (onlyL s.data.toList).1 = tl at *
  obtain ⟨tx, htx2⟩ : ∃ tx : ByteArray, (⟨tl.toArray⟩ : ByteArray) = tx := ⟨_, rfl⟩
  rw [htx2] at hO
  have htd : tx.data.toList = tl := by rw [← htx2]
  have htz : tx.size ≤ 1000000 := by rw [← htx2, str_len]; exact htl
  have hhl := C.len
  have hhb := C.hb
  have hF := fun W => from_any tx W (by omega)
  rw [htd] at hF
  have DA : Hid (∀ W g, DecIs W g tl 0 → Calls Tryd.prog 77 #[.pointer (some ⟨g, 0, none⟩), .int .i64 32] W (DecRet g a.1.1 a.1.2 (.string ⟨a.2.toArray⟩) W)) := Lib.hid fun W g h => by
    have := decS_cur g (tl, 0) W 32 (by decide) (by simp only; omega) h; rw [C.ea] at this; exact this
  have DB : Hid (∀ W g, DecIs W g a.1.1 a.1.2 → Calls Tryd.prog 78 #[.pointer (some ⟨g, 0, none⟩), .int .i64 1073741824] W (DecRet g b.1.1 b.1.2 (.int .i64 (b.2 : Nat)) W)) := Lib.hid fun W g h => by
    have := decI_cur g a.1 W 1073741824 (by decide) h; rw [C.eb] at this; exact this
  have DC : Hid (∀ W g, DecIs W g b.1.1 b.1.2 → Calls Tryd.prog 79 #[.pointer (some ⟨g, 0, none⟩)] W (DecRet g c.1.1 c.1.2 (.int .u64 (c.2 : Nat)) W)) := Lib.hid fun W g h => by
    have := decU_cur g b.1 W h; rw [C.ec] at this; exact this
  have DD : Hid (∀ W g, DecIs W g c.1.1 c.1.2 → Calls Tryd.prog 78 #[.pointer (some ⟨g, 0, none⟩), .int .i64 1048576] W (DecRet g d.1.1 d.1.2 (.int .i64 (d.2 : Nat)) W)) := Lib.hid fun W g h => by
    have := decI_cur g c.1 W 1048576 (by decide) h; rw [C.ed] at this; exact this
  have DF : Hid (∀ W g, DecIs W g d.1.1 d.1.2 → Calls Tryd.prog 78 #[.pointer (some ⟨g, 0, none⟩), .int .i64 1048576] W (DecRet g f.1.1 f.1.2 (.int .i64 (f.2 : Nat)) W)) := Lib.hid fun W g h => by
    have := decI_cur g d.1 W 1048576 (by decide) h; rw [C.ef] at this; exact this
  have DG : Hid (∀ W g, DecIs W g f.1.1 f.1.2 → Calls Tryd.prog 78 #[.pointer (some ⟨g, 0, none⟩), .int .i64 4000] W (DecRet g gg.1.1 gg.1.2 (.int .i64 (gg.2 : Nat)) W)) := Lib.hid fun W g h => by
    have := decI_cur g f.1 W 4000 (by decide) h; rw [C.eg] at this; exact this
  have DH : Hid (∀ W g, DecIs W g gg.1.1 gg.1.2 → Calls Tryd.prog 79 #[.pointer (some ⟨g, 0, none⟩)] W (DecRet g h.1.1 h.1.2 (.int .u64 (h.2 : Nat)) W)) := Lib.hid fun W g hh => by
    have := decU_cur g gg.1 W hh; rw [C.eh] at this; exact this
  have DK : Hid (∀ W g, DecIs W g h.1.1 h.1.2 → Calls Tryd.prog 77 #[.pointer (some ⟨g, 0, none⟩), .int .i64 200] W (DecRet g k.1.1 k.1.2 (.string ⟨k.2.toArray⟩) W)) := Lib.hid fun W g hh => by
    have := decS_cur g h.1 W 200 (by decide) (by omega) hh; rw [C.ek] at this; exact this
  clear C htx htx2 htd hgood hhl htl
  unfold pcOf Pc.val Pc.cells
  simp only
  have HEE := Lib.hid hee
  clear hee
  obtain ⟨⟨a0, a1⟩, a2⟩ := a
  obtain ⟨⟨b0, b1⟩, b2⟩ := b
  obtain ⟨⟨c0, c1⟩, c2⟩ := c
  obtain ⟨⟨d0, d1⟩, d2⟩ := d
  obtain ⟨⟨f0, f1⟩, f2⟩ := f
  obtain ⟨⟨g0, g1⟩, g2⟩ := gg
  obtain ⟨⟨h0, h1⟩, h2⟩ := h
  obtain ⟨⟨k0, k1⟩, k2⟩ := k
  simp only at *
  generalize (⟨a2.toArray⟩ : ByteArray) = sa at *
  generalize (⟨k2.toArray⟩ : ByteArray) = sk at *
  have hq : decide ((4294967295 : Int) < (h2 : Nat)) = false := by simp; omega
  have hr : decide (f2 ≤ d2) = false := by simp; omega
  have hz0 := At.new w 78 pcZero
  have hS1 := hS.alloc (.cells pcZero 78)
  have hb0 : Below w.heap.size w (w.alloc (.cells pcZero 78)) := (Below.refl _ w).alloc (Nat.le_refl _) _
  clear hS
  go_enter Tryd.func64, Tryd.ntmps64
  go_wp2_with fail
  refine (hO _ hS1).mono ?_
  rintro x w1 ⟨rfl, hb1⟩
  have HZ1 := Lib.hid (hz0.below hb1 hz0.lt)
  have HB1 := Lib.hid (hb0.trans (hb1.mono hb0.size))
  clear hz0 hS1 hb0 hb1 hO
  generalize hG : w.heap.size = G at *
  go_wp2_with fail
  refine (hF w1).mono ?_
  rintro x w2 ⟨g, rfl, hg2, hd2, hb2⟩
  have hz2 := (unhid HZ1).below hb2 (unhid HZ1).lt
  have hGg : G < g := by have := (unhid HZ1).lt; omega
  have HB2 := Lib.hid ((unhid HB1).trans (hb2.mono (by have := (unhid HB1).size; omega)))
  have HZ2 := Lib.hid hz2
  have HD2 := Lib.hid hd2
  clear hz2 hd2 hb2 hg2 HZ1 HB1 hF
  go_wp2_with fail
  refine (DA.out w2 g (unhid HD2)).mono ?_
  rintro x w3 ⟨rfl, hd, hgr⟩
  have HZ3 := Lib.hid ((unhid HZ2).grown hgr (by simp; omega))
  have HB3 := Lib.hid (below_of_grownBy (unhid HB2) hgr (by have := (unhid HB2).size; omega) (by omega))
  have HD3 := Lib.hid hd
  clear hd hgr HZ2 HB2 HD2 DA
  go_wp2_with fail
  refine (DB.out w3 g (unhid HD3)).mono ?_
  rintro x w4 ⟨rfl, hd, hgr⟩
  have HZ4 := Lib.hid ((unhid HZ3).grown hgr (by simp; omega))
  have HB4 := Lib.hid (below_of_grownBy (unhid HB3) hgr (by have := (unhid HB3).size; omega) (by omega))
  have HD4 := Lib.hid hd
  clear hd hgr HZ3 HB3 HD3 DB
  go_wp2_with fail
  refine (DC.out w4 g (unhid HD4)).mono ?_
  rintro x w5 ⟨rfl, hd, hgr⟩
  have HZ5 := Lib.hid ((unhid HZ4).grown hgr (by simp; omega))
  have HB5 := Lib.hid (below_of_grownBy (unhid HB4) hgr (by have := (unhid HB4).size; omega) (by omega))
  have HD5 := Lib.hid hd
  clear hd hgr HZ4 HB4 HD4 DC
  go_wp2_with fail
  refine (DD.out w5 g (unhid HD5)).mono ?_
  rintro x w6 ⟨rfl, hd, hgr⟩
  have HZ6 := Lib.hid ((unhid HZ5).grown hgr (by simp; omega))
  have HB6 := Lib.hid (below_of_grownBy (unhid HB5) hgr (by have := (unhid HB5).size; omega) (by omega))
  have HD6 := Lib.hid hd
  clear hd hgr HZ5 HB5 HD5 DD
  go_wp2_with fail
  refine (DF.out w6 g (unhid HD6)).mono ?_
  rintro x w7 ⟨rfl, hd, hgr⟩
  have HZ7 := Lib.hid ((unhid HZ6).grown hgr (by simp; omega))
  have HB7 := Lib.hid (below_of_grownBy (unhid HB6) hgr (by have := (unhid HB6).size; omega) (by omega))
  have HD7 := Lib.hid hd
  clear hd hgr HZ6 HB6 HD6 DF
  go_wp2_with fail
  refine (DG.out w7 g (unhid HD7)).mono ?_
  rintro x w8 ⟨rfl, hd, hgr⟩
  have HZ8 := Lib.hid ((unhid HZ7).grown hgr (by simp; omega))
  have HB8 := Lib.hid (below_of_grownBy (unhid HB7) hgr (by have := (unhid HB7).size; omega) (by omega))
  have HD8 := Lib.hid hd
  clear hd hgr HZ7 HB7 HD7 DG
  have hzn := At.new w8 78 pcZero
  have HZA := Lib.hid ((unhid HZ8).alloc (.cells pcZero 78))
  have HBA := Lib.hid ((unhid HB8).alloc (by have := (unhid HB8).size; omega) (.cells pcZero 78))
  have HDA : Hid (DecIs (w8.alloc (.cells pcZero 78)) g g0 g1) := Lib.hid (At.alloc (unhid HD8) _)
  have hzs : (w8.alloc (.cells pcZero 78)).heap.size = w8.heap.size + 1 := by simp
  have hgz : g < w8.heap.size := At.lt (unhid HD8)
  have hGz : G < w8.heap.size := (unhid HZ8).lt
  have HZN := Lib.hid hzn
  clear hzn HZ8 HB8 HD8
  go_upto_region 6 with (refine wpList_store_whole rfl 78 _ _ rfl w8.heap.size #[.string sa, .int .i64 (b2 : Nat), .int .u64 (c2 : Nat), .int .i64 (d2 : Nat), .int .i64 (f2 : Nat), .int .i64 (g2 : Nat), .int .u32 0, .string ⟨#[]⟩] rfl rfl 78 _ (unhid HZN) (by kernel_rfl) (by kernel_rfl) (by kernel_rfl) ?_; intro w9 hZ9 hG9; replace hZ9 := Lib.hid hZ9; replace hG9 := Lib.hid hG9)
  have HP9 := hZ9
  have HZ9 := Lib.hid ((unhid HZA).grown (unhid hG9) (by simp; omega))
  have HB9 := Lib.hid (below_of_grownBy (unhid HBA) (unhid hG9) (by omega) (by omega))
  have HD9 : Hid (DecIs w9 g g0 g1) := Lib.hid (At.grown (unhid HDA) (unhid hG9) (by simp; omega))
  generalize hX : w8.heap.size = X at *
  clear HZA HBA HDA HZN hG9 hzs hZ9
  go_wp2_with fail
  refine (DH.out w9 g (unhid HD9)).mono ?_
  rintro x w10 ⟨rfl, hd, hgr⟩
  have HZ10 := Lib.hid ((unhid HZ9).grown hgr (by simp; omega))
  have HP10 := Lib.hid ((unhid HP9).grown hgr (by simp; omega))
  have HB10 := Lib.hid (below_of_grownBy (unhid HB9) hgr (by have := (unhid HB9).size; omega) (by omega))
  have HD10 := Lib.hid hd
  clear hd hgr HZ9 HB9 HD9 HP9 DH
  have fx := (unhid HP10).frozen 6
  have cx : w10.cell? ⟨X, 6, none⟩ = some (.int .u32 0) := (unhid HP10).cell 6
  have hw32 : IntKind.u32.wrap (h2 : Int) = ((h2 : Int) % 4294967296) := by rw [IntKind.wrap_u32]
  go_upto_region 8 with fail
  have HP11 := Lib.hid ((unhid HP10).set 6 (.int .u32 ((h2 : Int) % 4294967296)))
  have HZ11 := Lib.hid ((unhid HZ10).far (p := ⟨X, 6, none⟩) (by simp; omega) (.int .u32 ((h2 : Int) % 4294967296)))
  have HB11 := Lib.hid ((unhid HB10).setCell (p := ⟨X, 6, none⟩) (by simp; omega) (.int .u32 ((h2 : Int) % 4294967296)))
  have HD11 : Hid (DecIs (w10.setCell ⟨X, 6, none⟩ (.int .u32 ((h2 : Int) % 4294967296))) g h0 h1) := Lib.hid (At.far (unhid HD10) (p := ⟨X, 6, none⟩) (by simp; omega) _)
  have hszX : (w10.setCell ⟨X, 6, none⟩ (.int .u32 ((h2 : Int) % 4294967296))).heap.size = w10.heap.size := by simp [World.setCell]
  clear cx fx HP10 HZ10 HB10 HD10 hw32
  generalize w10.setCell ⟨X, 6, none⟩ (.int .u32 ((h2 : Int) % 4294967296)) = w11 at *
  clear hszX
  go_wp2_with fail
  refine (DK.out w11 g (unhid HD11)).mono ?_
  rintro x w12 ⟨rfl, hd, hgr⟩
  have HZ12 := Lib.hid ((unhid HZ11).grown hgr (by simp; omega))
  have HP12 := Lib.hid ((unhid HP11).grown hgr (by simp; omega))
  have HB12 := Lib.hid (below_of_grownBy (unhid HB11) hgr (by have := (unhid HB11).size; omega) (by omega))
  have HD12 := Lib.hid hd
  clear hd hgr HZ11 HB11 HD11 HP11 DK
  have fx := (unhid HP12).frozen 7
  have cx : w12.cell? ⟨X, 7, none⟩ = some (.string ⟨#[]⟩) := (unhid HP12).cell 7
  go_upto_region 9 with fail
  have HP13 := Lib.hid ((unhid HP12).set 7 (.string sk))
  have HZ13 := Lib.hid ((unhid HZ12).far (p := ⟨X, 7, none⟩) (by simp; omega) (.string sk))
  have HB13 := Lib.hid ((unhid HB12).setCell (p := ⟨X, 7, none⟩) (by simp; omega) (.string sk))
  have HD13 : Hid (DecIs (w12.setCell ⟨X, 7, none⟩ (.string sk)) g k0 k1) := Lib.hid (At.far (unhid HD12) (p := ⟨X, 7, none⟩) (by simp; omega) _)
  clear cx fx HP12 HZ12 HB12 HD12
  generalize w12.setCell ⟨X, 7, none⟩ (.string sk) = w13 at *
  have x3 : w13.cell? ⟨X, 3, none⟩ = some (.int .i64 (d2 : Nat)) := (unhid HP13).cell 3
  have x4 : w13.cell? ⟨X, 4, none⟩ = some (.int .i64 (f2 : Nat)) := (unhid HP13).cell 4
  go_wp2_with fail
  refine (decDone_cur g (k0, k1) w13 (unhid HD13)).mono ?_
  rintro x w15 ⟨rfl, hd, hgr⟩
  have HZ15 := Lib.hid ((unhid HZ13).grown hgr (by simp; omega))
  have HP15 := Lib.hid ((unhid HP13).grown hgr (by simp; omega))
  have HB15 := Lib.hid (below_of_grownBy (unhid HB13) hgr (by have := (unhid HB13).size; omega) (by omega))
  clear hd hgr HZ13 HB13 HD13 HP13 x3 x4
  simp only
  rw [HEE.out]
  go_wp2_with (first | refine wpList_load_whole rfl 78 _ rfl X rfl 78 _ _ (unhid HP15) Tryd.underlying78 rfl (by kernel_rfl) ?_ | (refine wpList_store_whole rfl 78 _ _ rfl G _ rfl rfl 78 _ (unhid HZ15) (by kernel_rfl) (by kernel_rfl) (by kernel_rfl) ?_; intro w16 hZ16 hG16; replace hZ16 := Lib.hid hZ16; replace hG16 := Lib.hid hG16))
  refine bodyPost_ret (res_row_tmp rfl _ _ _ _ _ _ rfl (unhid hZ16) Tryd.underlying78 (by kernel_rfl)) rfl ⟨?_, ?_⟩
  · rfl
  · have hs2 := (unhid HB15).size
    rw [hG]
    exact below_of_grownBy (unhid HB15) (unhid hG16) (by omega) (by omega)

theorem parse_any (s : ByteArray) (hs : s.size ≤ 1000000) (w : World) (hS : Steps w) : Calls Tryd.prog 64 #[.string s] w (ParseRet w (parseL s.data.toList)) := by
  by_cases h1 : (onlyL s.data.toList).2 ≠ 0
  · have := parse_only s hs w hS h1
    unfold parseL
    rw [if_pos h1]
    exact this
  · have h0 : (onlyL s.data.toList).2 = 0 := by omega
    have C : Curs (onlyL s.data.toList).1 _ _ _ _ _ _ _ _ := ⟨rfl, rfl, rfl, rfl, rfl, rfl, rfl, rfl⟩
    have ht := C.took
    have hA := parse_a s hs w hS h0 C _ rfl
    have hB := parse_b s hs w hS h0 C _ rfl
    have hC := parse_c s hs w hS h0 C _ rfl
    have hD := parse_d s hs w hS h0 C
    clear C
    unfold parseL
    rw [if_neg h1, ht]
    clear ht
    generalize curS ((onlyL s.data.toList).1, 0) 32 = a at *
    generalize curI a.1 1073741824 = b at *
    generalize curU b.1 = c at *
    generalize curI c.1 1048576 = d at *
    generalize curI d.1 1048576 = f at *
    generalize curI f.1 4000 = gg at *
    generalize curU gg.1 = h at *
    generalize curS h.1 200 = k at *
    unfold Took.err Took.pc parseErr
    simp only
    have hd3 : doneErr k.1.1 (if k.1.2 = 0 then 3 else k.1.2) ≠ 0 := by
      have hx : (if k.1.2 = 0 then 3 else k.1.2) ≠ 0 := by split <;> omega
      generalize (if k.1.2 = 0 then 3 else k.1.2) = x at *
      unfold doneErr
      split
      · exact hx
      · exact hx
    by_cases q : 4294967295 < h.2
    · have hc : (4294967295 < h.2 ∨ f.2 ≤ d.2) = True := eq_true (.inl q)
      simp only [hc, if_true]
      rw [if_pos hd3]
      exact hA hd3 q
    · by_cases r : f.2 ≤ d.2
      · have hc : (4294967295 < h.2 ∨ f.2 ≤ d.2) = True := eq_true (.inr r)
        simp only [hc, if_true]
        rw [if_pos hd3]
        exact hB hd3 q r
      · have hc : (4294967295 < h.2 ∨ f.2 ≤ d.2) = False := eq_false (by rintro (h' | h'); exact q h'; exact r h')
        simp only [hc, if_false]
        by_cases z : doneErr k.1.1 k.1.2 = 0
        · rw [if_neg (by omega)]
          exact hD z q r
        · rw [if_pos z]
          exact hC z q r

end Go.Proofs.YtniecodpdmjppaaDoor
