/- Tq, Tw, Tn, Tr0: merged (a claim holds few files). -/
import Derived.Test.YtniecodpdmjppaaDoorTs
import Derived.Test.YtniecodpdmjppaaDoorVz
import Derived.Test.YtniecodpdmjppaaDoorVl
import Derived.Laws.MakeOwn
import Derived.Deep.QuietTactic
import Derived.BigQuiet
import Derived.Test.YtniecodpdmjppaaDoorTp
import Derived.Deep.RegionHeld3
import Derived.Test.YtniecodpdmjppaaDoorBd
/- tapefmt.Parts, Weight, pieces: their walks. -/
namespace Go.Proofs.YtniecodpdmjppaaDoor
open Go.RowKit
open Sm
set_option linter.unusedVariables false

def weightOf (n : Nat) : Nat := n + 76 * partsOf n + 4

set_option maxHeartbeats 400000 in
theorem parts_any (n : Nat) (hn : n ≤ 1000000000) (w : World) : Calls Tryd.prog 47 #[.int .i64 (n : Int)] w fun e w' => e = .returned (.int .i64 (partsOf n : Nat)) ∧ w = w' := by
  have e1 : ((partsOf n : Nat) : Int) = (max (n : Int) 1 - 1) / 200 + 1 := by
    unfold partsOf
    omega
  rw [e1]
  go_enter Tryd.func47, Tryd.ntmps47
  go_wp2
  go_ret
  exact ⟨rfl, rfl⟩

set_option maxHeartbeats 400000 in
theorem weight_any (n : Nat) (hn : n ≤ 1000000) (w : World) : Calls Tryd.prog 40 #[.int .i64 (n : Int)] w fun e w' => e = .returned (.int .i64 (weightOf n : Nat)) ∧ w = w' := by
  have hP := fun W => parts_any n (by omega) W
  have hp1 : partsOf n ≤ 10000 := by unfold partsOf; omega
  have e1 : ((weightOf n : Nat) : Int) = (n : Int) + 76 * ((partsOf n : Nat) : Int) + 4 := by unfold weightOf; omega
  rw [e1]
  generalize partsOf n = k at *
  have h0 : ¬ (n : Int) < 0 := by omega
  go_enter Tryd.func40, Tryd.ntmps40
  go_wp2_with fail
  refine (hP _).mono ?_
  rintro e w1 ⟨rfl, rfl⟩
  go_wp2
  go_ret
  exact ⟨rfl, rfl⟩

abbrev pcZ : Array Value := #[.string ⟨#[]⟩, .int .i64 0, .int .u64 0, .int .i64 0, .int .i64 0, .int .i64 0, .int .u32 0, .string ⟨#[]⟩]
def blobPcs (lab : ByteArray) (first id : Nat) (d : List UInt8) : List Pc := (List.range (partsOf d.length)).map (pieceOf lab first id d)
theorem blobPcs_len (lab : ByteArray) (first id : Nat) (d : List UInt8) : (blobPcs lab first id d).length = partsOf d.length := by unfold blobPcs; simp
theorem blobPcs_get {lab : ByteArray} {first id : Nat} {d : List UInt8} {i : Nat} (h : i < (blobPcs lab first id d).length) : (blobPcs lab first id d)[i] = pieceOf lab first id d i := by
  simp only [blobPcs, List.getElem_map, List.getElem_range]
theorem blobPcs_take {lab : ByteArray} {first id : Nat} {d : List UInt8} {k : Nat} (h : k < (blobPcs lab first id d).length) : (blobPcs lab first id d).take (k + 1) = (blobPcs lab first id d).take k ++ [pieceOf lab first id d k] := by
  rw [List.take_succ_eq_append_getElem h, blobPcs_get h]
theorem blobBlks_pcs (lab : ByteArray) (first id : Nat) (d : List UInt8) : blobBlks lab first id d = (blobPcs lab first id d).map pieceBlk := by
  unfold blobBlks blobPcs
  rw [List.map_map]
  rfl
theorem setCells_grown (q : Nat) : ∀ (vs : List Value) (o : Nat) (w w0 : World), w0.grownBy w (some q) → w0.grownBy (w.setCells q o vs) (some q)
  | [], _, _, _, h => h
  | v :: r, o, w, w0, h => by
    rw [World.setCells]
    exact setCells_grown q r (o + 1) _ w0 (grownBy_set h o v)

/-- block q holds the pieces, with room for n -/
structure PcRow (w : World) (q : Nat) (l : List Pc) (n : Nat) : Prop where
  got : ∀ i (h : i < l.length), w.rangeAt q (i * 8) l[i].cells.toList
  room : w.there q 0 (n * 8)
  at_ : ∃ cs, At w q 78 cs
theorem PcRow.lt {w : World} {q n : Nat} {l : List Pc} (h : PcRow w q l n) : q < w.heap.size := by obtain ⟨cs, h⟩ := h.at_; exact h.lt
theorem PcRow.same {w w' : World} {q n : Nat} {l : List Pc} (h : PcRow w q l n) (hb : ∀ cs, At w q 78 cs → At w' q 78 cs) : PcRow w' q l n := by
  obtain ⟨cs, hc⟩ := h.at_
  have hc' := hb cs hc
  have e1 : ∀ o, w'.cell? ⟨q, o, none⟩ = w.cell? ⟨q, o, none⟩ := fun o => by rw [hc.cell, hc'.cell]
  have e2 : ∀ o, w'.frozen? ⟨q, o, none⟩ = w.frozen? ⟨q, o, none⟩ := fun o => by rw [hc.frozen, hc'.frozen]
  exact ⟨fun i hi j v hv => by rw [e1]; exact h.got i hi j v hv, fun j hj => by rw [e1, e2]; exact h.room j hj, ⟨cs, hc'⟩⟩
theorem PcRow.below {w w' : World} {q n : Nat} {l : List Pc} (h : PcRow w q l n) (hb : Below w.heap.size w w') : PcRow w' q l n := h.same fun cs hc => hc.below hb hc.lt
theorem PcRow.stay {w w' : World} {q n B : Nat} {l : List Pc} (h : PcRow w q l n) (hb : Stay0 B w w') : PcRow w' q l n := h.same fun cs hc => hb.at_ hc (by decide) (by decide)
theorem At.setCells {q : Nat} {t : TypeId} : ∀ (vs : List Value) (o : Nat) (w : World), (∃ cs, At w q t cs) → ∃ cs, At (w.setCells q o vs) q t cs
  | [], _, _, h => h
  | v :: r, o, w, ⟨cs, h⟩ => by
    rw [World.setCells]
    exact At.setCells r (o + 1) _ ⟨_, h.set o v⟩
theorem PcRow.step {w : World} {q n : Nat} {l : List Pc} (h : PcRow w q l n) (p : Pc) (hl : l.length < n) : PcRow (w.setCells q (l.length * 8) p.cells.toList) q (l ++ [p]) n := by
  have hth : w.there q (l.length * 8) p.cells.toList.length := fun j hj => by
    have hj' : j < 8 := hj
    have := h.room (l.length * 8 + j) (by omega)
    rwa [Nat.zero_add] at this
  refine ⟨fun i hi => ?_, World.there_setCells h.room _ _ _, At.setCells _ _ _ h.at_⟩
  rw [List.length_append] at hi
  simp at hi
  by_cases e : i = l.length
  · subst e
    rw [List.getElem_append_right (Nat.le_refl _)]
    simp only [Nat.sub_self, List.getElem_cons_zero]
    exact World.rangeAt_setCells_same _ _ _ _ hth
  · rw [List.getElem_append_left (by omega)]
    refine World.rangeAt_setCells_apart (h.got i (by omega)) _ _ _ (.inr (.inl ?_))
    show i * 8 + 8 ≤ l.length * 8
    omega

theorem info_pc : (Tryd.prog.info? 78).map (fun i => (i.zero, i.size, i.bytes)) = some (some (.agg #[.string ⟨#[]⟩, .int .i64 0, .int .u64 0, .int .i64 0, .int .i64 0, .int .i64 0, .int .u32 0, .string ⟨#[]⟩]), 8, 80) := by kernel_rfl

/-- what pieces returns -/
def PiecesRet (w : World) (l : List Pc) (e : Ending) (w' : World) : Prop := ∃ q, e = .returned (.slice (some ⟨q, 0, none⟩) l.length l.length) ∧ w.heap.size ≤ q ∧ PcRow w' q l l.length ∧ Below w.heap.size w w'

theorem extract_list (d : ByteArray) (a b : Nat) : (d.extract a b).data.toList = (d.data.toList.drop a).take (b - a) := by
  rw [ByteArray.data_extract, Array.toList_extract, List.extract_eq_take_drop]

set_option maxRecDepth 100000 in
set_option maxHeartbeats 4000000 in
theorem pieces_any (lab : ByteArray) (first id : Nat) (d : ByteArray) (hf : first ≤ 1000000) (hid : id < 18446744073709551616) (hd : d.size ≤ 4000) (w : World) (hS : Steps w) :
    Calls Tryd.prog 41 #[.string lab, .int .i64 (first : Int), .int .u64 (id : Int), .string d] w (PiecesRet w (blobPcs lab first id d.data.toList)) := by
  obtain ⟨i0, hie, hz0, hz1, hz2⟩ := info_parts info_pc
  have hdl : d.data.toList.length = d.size := by simp
  obtain ⟨n, hn⟩ : ∃ n, partsOf d.size = n := ⟨_, rfl⟩
  have hn20 : n ≤ 20 := by rw [← hn]; exact partsOf_le hd
  have hbd := partsOf_bd d.size
  rw [hn] at hbd
  have hP := fun W => parts_any d.size (by omega) W
  rw [hn] at hP
  have hSm := fun (V : World) (g : Nat) (hg : g = V.heap.size) (h : Steps V) => sum_new [d] #[.string d] 1 g V rfl rfl hg h (by simp) (by simp; omega)
  have hcat : cat [d] = d.data.toList := by simp [cat]
  rw [hcat] at hSm
  have hpl : (blobPcs lab first id d.data.toList).length = n := by rw [blobPcs_len, hdl, hn]
  have HTK : Hid (∀ k, k < n → (blobPcs lab first id d.data.toList).take (k + 1) = (blobPcs lab first id d.data.toList).take k ++ [pieceOf lab first id d.data.toList k]) := Lib.hid fun k hk => blobPcs_take (by rw [hpl]; exact hk)
  have HPC : Hid (∀ k (dk : ByteArray), dk.data.toList = d.data.toList.drop (200 * k) → pieceOf lab first id d.data.toList k = ⟨lab, first + k, id, k, n, d.size, crc d.data.toList, dk.extract 0 (min dk.size 200)⟩) := Lib.hid fun k dk h => by
    unfold pieceOf chunkOf
    rw [hdl, hn]
    congr 1
    apply ByteArray.ext
    apply Array.toList_inj.1
    rw [extract_list, h]
    have e1 : dk.size = (d.data.toList.drop (200 * k)).length := by rw [← h]; simp
    simp only [List.drop_zero, Nat.sub_zero]
    rw [e1]
    rw [List.take_eq_take_iff]
    omega
  have hcrc := crc_lt d.data.toList
  generalize crc d.data.toList = cr at *
  have hmk : ∀ W : World, (Instr.makeSlice 74 (.int .i64 (n : Int)) (.int .i64 (n : Int))).run Tryd.prog W = .ok (.slice (some ⟨W.heap.size, 0, none⟩) n n) (W.alloc (.cells (madeCells (Value.agg pcZ).cells (n * 8)) 78)) := fun W => by
    have h := run_make (P := Tryd.prog) W 74 78 i0 (.agg pcZ) Tryd.underlying74 hie hz0 .i64 .i64 (n : Int) (n : Int) (by omega) (by omega) (by rw [hz2]; omega) (by omega)
    rw [hz1] at h
    simpa using h
  have hms : (madeCells (Value.agg pcZ).cells (n * 8)).size = n * 8 := size_madeCells _ _
  generalize madeCells (Value.agg pcZ).cells (n * 8) = M at *
  have hb0 : d.data.toList.drop (200 * 0) = d.data.toList := by simp
  clear hie hz0 hz1 hz2 hcat hn hdl
  have HMS := Lib.hid hms; clear hms
  have HB0 := Lib.hid hb0; clear hb0
  have HBD := Lib.hid hbd; clear hbd
  obtain ⟨L, hL⟩ : ∃ L, blobPcs lab first id d.data.toList = L := ⟨_, rfl⟩
  have HL : Hid (blobPcs lab first id d.data.toList = L) := Lib.hid hL
  have HLn : Hid (L.length = n) := Lib.hid (by rw [← hL]; exact hpl)
  rw [hL]
  unfold PiecesRet
  rw [HLn.out]
  clear hL hpl
  go_enter Tryd.func41, Tryd.ntmps41
  go_wp2_with fail
  refine (hSm w _ rfl hS).mono ?_
  rintro e w1 ⟨rfl, rfl⟩
  have hs1 := hS.alloc (.cells #[.string d] 9)
  have hb1 : Below w.heap.size w (w.alloc (.cells #[.string d] 9)) := (Below.refl _ w).alloc (Nat.le_refl _) _
  clear hSm hS
  generalize w.alloc (.cells #[.string d] 9) = w1 at *
  go_wp2_with fail
  refine (hP w1).mono ?_
  rintro e w2 ⟨rfl, rfl⟩
  clear hP
  go_wp2_with fail
  have hat := At.new w1 78 M
  have hb2 := hb1.alloc hb1.size (.cells M 78)
  have hq := hb1.size
  have R0 : PcRow (w1.alloc (.cells M 78)) w1.heap.size [] n := ⟨fun i h => (by simp at h), fun j hj => (by
    rw [Nat.zero_add, hat.cell, Array.getElem?_eq_getElem (by rw [HMS.out]; exact hj)]
    exact ⟨rfl, hat.frozen j⟩), ⟨M, hat⟩⟩
  generalize w1.alloc (.cells M 78) = w2 at *
  generalize hQ : w1.heap.size = q at *
  have HR0 := Lib.hid R0
  have HB2 := Lib.hid hb2
  clear R0 hb2 hat hb1 hs1 hmk hQ
  go_wp2
  go_loopw [3, 24] (fun x i wr => ∃ (k : Nat) (dk : ByteArray), k ≤ n ∧ i = .int .i64 (k : Int) ∧ x = .string dk ∧ dk.size ≤ 4000 ∧ Hid (dk.data.toList = d.data.toList.drop (200 * k)) ∧ Hid (PcRow wr q (L.take k) n) ∧ Hid (Below w.heap.size w wr))
    (fun _ i _ => n - (intOf i).toNat)
  case atStart => exact ⟨0, d, by omega, rfl, rfl, hd, Lib.hid (by rw [HB0.out]), Lib.hid (by rw [List.take_zero]; exact HR0.out), HB2⟩
  case round =>
    clear HR0 HB2
    obtain ⟨k, dk, hk, rfl, rfl, hdk, HDK, HR, HB⟩ := hrel
    by_cases hlt : k < n
    · have hLk : (L.take k).length = k := by rw [List.length_take, HLn.out]; omega
      obtain ⟨m, hm⟩ : ∃ m, min dk.size 200 = m := ⟨_, rfl⟩
      have hp := HPC.out k dk HDK.out
      rw [hm] at hp
      have hmi : min (dk.size : Int) 200 = (m : Int) := by omega
      have hms : m ≤ dk.size := by omega
      have hdk2 : (dk.extract m dk.size).data.toList = d.data.toList.drop (200 * (k + 1)) := by
        rw [extract_list, HDK.out, List.drop_drop]
        have e1 : dk.size = d.data.toList.length - 200 * k := by
          have : dk.data.toList.length = dk.size := by simp
          rw [← this, HDK.out, List.length_drop]
        rw [List.take_of_length_le (by rw [List.length_drop]; omega)]
        by_cases h200 : 200 ≤ dk.size
        · rw [show 200 * k + m = 200 * (k + 1) by omega]
        · rw [List.drop_of_length_le (by omega), List.drop_of_length_le (by omega)]
      have hdk3 : (dk.extract m dk.size).size ≤ 4000 := by rw [ByteArray.size_extract]; omega
      have hR := HR.out.step (pieceOf lab first id d.data.toList k) (by rw [hLk]; exact hlt)
      rw [hLk, hp] at hR
      have hT := HTK.out k hlt
      rw [HL.out, hp] at hT
      rw [← hT] at hR
      have hth : wr.there q (k * 8) 8 := fun j hj => by
        have := HR.out.room (k * 8 + j) (by omega)
        rwa [Nat.zero_add] at this
      have hcs : (Pc.cells ⟨lab, first + k, id, k, n, d.size, cr, dk.extract 0 m⟩) = #[.string lab, .int .i64 ((first : Int) + (k : Int)), .int .u64 (id : Int), .int .i64 (k : Int), .int .i64 (n : Int), .int .i64 (d.size : Int), .int .u32 (cr : Int), .string (dk.extract 0 m)] := by
        unfold Pc.cells
        simp only [Int.natCast_add]
      rw [hcs] at hR
      have hgr := below_of_grownBy HB.out (setCells_grown q [.string lab, .int .i64 ((first : Int) + (k : Int)), .int .u64 (id : Int), .int .i64 (k : Int), .int .i64 (n : Int), .int .i64 (d.size : Int), .int .u32 (cr : Int), .string (dk.extract 0 m)] (k * 8) wr wr (grown_refl _ _)) HB.out.size hq
      have HR2 := Lib.hid hR
      have HB2 := Lib.hid hgr
      have HDK2 := Lib.hid hdk2
      have i0 : (0 : Int) ≤ (k : Int) := by omega
      have i1 : (k : Int) < (n : Int) := by omega
      clear hR hgr hdk2 hT hp hcs HR HB HDK hm hLk
      have hinf : (Tryd.prog.info? 78).map (·.size) = some 8 := by kernel_rfl
      have hone : (#[.string lab, .int .i64 ((first : Int) + (k : Int)), .int .u64 (id : Int), .int .i64 (k : Int), .int .i64 (n : Int), .int .i64 (d.size : Int), .int .u32 (cr : Int), .string (dk.extract 0 m)] : Array Value).all (·.oneCell') = true := by simp [Value.oneCell']
      have HIN := Lib.hid hinf
      have HON := Lib.hid hone
      clear hinf hone
      go_wp2_with (refine wpList_store_part rfl 78 _ _ rfl q (k * 8) #[.string lab, .int .i64 ((first : Int) + (k : Int)), .int .u64 (id : Int), .int .i64 (k : Int), .int .i64 (n : Int), .int .i64 (d.size : Int), .int .u32 (cr : Int), .string (dk.extract 0 m)] rfl rfl hth HIN.out HON.out ?_; intro w9 hw9; replace hw9 := Lib.hid hw9)
      go_roundw
      case rel => exact ⟨k + 1, dk.extract m dk.size, by omega, by go_num, rfl, hdk3, HDK2, Lib.hid (by rw [hw9.out]; exact HR2.out), Lib.hid (by rw [hw9.out]; exact HB2.out)⟩
      case measure => simp [intOf]; omega
    · obtain rfl : k = n := by omega
      have hLn : L.take k = L := List.take_of_length_le (by rw [HLn.out]; exact Nat.le_refl _)
      rw [hLn] at HR
      clear hLn
      go_wp2
      go_ret
      exact ⟨q, rfl, hq, HR.out, HB.out⟩
end Go.Proofs.YtniecodpdmjppaaDoor

/- tapefmt.Write: its walk. -/
namespace Go.Proofs.YtniecodpdmjppaaDoor
open Go.RowKit
open Sm
set_option linter.unusedVariables false

/-- blocks one behind the other, up to the first error -/
def VS.wgo (s : VS) : List Blk → VS × Int
  | [] => (s, 0)
  | b :: r => if (s.add b).2 ≠ 0 then s.add b else VS.wgo (s.add b).1 r
/-- Write: what becomes of the volume, the number of the first block, the error's number -/
def VS.wblob (s : VS) (id : Nat) (d : List UInt8) : VS × Int × Int :=
  if 4000 < d.length then (s, 0, 11) else
  if (s.seek s.l.length).2 ≠ 0 then ((s.seek s.l.length).1, 0, (s.seek s.l.length).2) else
  if (s.seek s.l.length).1.rm - wsum (s.seek s.l.length).1.l < weightOf d.length then ((s.seek s.l.length).1, 0, 7) else
  if ((s.seek s.l.length).1.wgo (blobBlks s.lab s.l.length id d)).2 ≠ 0 then (((s.seek s.l.length).1.wgo (blobBlks s.lab s.l.length id d)).1, 0, ((s.seek s.l.length).1.wgo (blobBlks s.lab s.l.length id d)).2) else
  if (((s.seek s.l.length).1.wgo (blobBlks s.lab s.l.length id d)).1.add markBlk).2 ≠ 0 then ((((s.seek s.l.length).1.wgo (blobBlks s.lab s.l.length id d)).1.add markBlk).1, 0, (((s.seek s.l.length).1.wgo (blobBlks s.lab s.l.length id d)).1.add markBlk).2) else
  if ((((s.seek s.l.length).1.wgo (blobBlks s.lab s.l.length id d)).1.add markBlk).1.flush).2 ≠ 0 then (((((s.seek s.l.length).1.wgo (blobBlks s.lab s.l.length id d)).1.add markBlk).1.flush).1, 0, ((((s.seek s.l.length).1.wgo (blobBlks s.lab s.l.length id d)).1.add markBlk).1.flush).2) else
  (((((s.seek s.l.length).1.wgo (blobBlks s.lab s.l.length id d)).1.add markBlk).1.flush).1, s.l.length, 0)

theorem seek_lab (s : VS) (n : Int) : (s.seek n).1.lab = s.lab ∧ (s.seek n).1.l = s.l ∧ (s.seek n).1.rm = s.rm := by
  unfold VS.seek
  split
  · exact ⟨rfl, rfl, rfl⟩
  · split <;> exact ⟨rfl, rfl, rfl⟩
theorem add_len (s : VS) (b : Blk) : (s.add b).1.l.length ≤ s.l.length + 1 := by
  unfold VS.add
  split
  · show s.l.length ≤ _; omega
  · split
    · show s.l.length ≤ _; omega
    · split
      · show s.l.length ≤ _; omega
      · split
        · show s.l.length ≤ _; omega
        · show (s.l ++ [b]).length ≤ _; simp

def WroteEnds (w : World) (B g : Nat) (r : VS × Int × Int) (e : Ending) (w' : World) : Prop := e = .returned (.tuple #[.int .i64 r.2.1, .int .i64 r.2.2]) ∧ Vol w' B g r.1 ∧ Stay B g w w'

theorem Vol.drewN {w : World} {B g : Nat} {s : VS} (h : Vol w B g s) (n : Nat) : Vol (w.drewN n) B g s := ⟨h.1, h.2.elim fun v h => ⟨v, h.drewN n⟩⟩
theorem fits_vol {w : World} {B g : Nat} {s : VS} (h : Vol w B g s) (n : Int) : Calls Tryd.prog 39 #[.pointer (some ⟨g, 0, none⟩), .int .i64 n] w fun e w' => e = .returned (.bool (decide (n ≤ s.rm - (wsum s.l : Nat)))) ∧ ∃ n, w' = w.drewN n := by
  obtain ⟨ok, v, h⟩ := h
  exact fits_any (h.meter ok) n

section
variable {w : World} {B g : Nat} {s : VS}

set_option maxRecDepth 100000 in
set_option maxHeartbeats 1000000 in
theorem wblob_big (h : Vol w B g s) (id : Nat) (d : ByteArray) (hd : 4000 < d.size) (hd2 : d.size ≤ 9223372036854775807) :
    Calls Tryd.prog 24 #[.pointer (some ⟨g, 0, none⟩), .int .u64 (id : Int), .string d] w (WroteEnds w B g (s, 0, 11)) := by
  have H := Lib.hid h
  clear h
  go_enter Tryd.func24, Tryd.ntmps24
  go_wp2
  go_ret2
  exact ⟨rfl, H.out, Stay.refl _ _⟩

set_option maxRecDepth 100000 in
set_option maxHeartbeats 1000000 in
theorem wblob_seek (h : Vol w B g s) (id : Nat) (d : ByteArray) (hd : ¬ 4000 < d.size) (t : VS) (c : Int) (hs : s.seek s.l.length = (t, c)) (hc : c ≠ 0) :
    Calls Tryd.prog 24 #[.pointer (some ⟨g, 0, none⟩), .int .u64 (id : Int), .string d] w (WroteEnds w B g (t, 0, c)) := by
  have hL := len_vol h
  have hK := seek_vol h s.l.length
  rw [hs] at hK
  have hcb : (c != 0) = true := by rw [bne_iff_ne]; exact hc
  clear h hs hc
  generalize s.l.length = n at *
  go_enter Tryd.func24, Tryd.ntmps24
  go_wp2_with fail
  refine hL.mono ?_
  rintro e w1 ⟨rfl, rfl⟩
  go_wp2_with fail
  refine hK.mono ?_
  rintro e w2 ⟨rfl, h2, st2⟩
  have H2 := Lib.hid h2
  have ST := Lib.hid st2
  clear hK hL h2 st2
  go_wp2
  go_ret2
  exact ⟨rfl, H2.out, ST.out⟩

set_option maxRecDepth 100000 in
set_option maxHeartbeats 1000000 in
theorem wblob_full (h : Vol w B g s) (id : Nat) (d : ByteArray) (hd : ¬ 4000 < d.size) (t : VS) (hs : s.seek s.l.length = (t, 0)) (hf : t.rm - wsum t.l < weightOf d.size) :
    Calls Tryd.prog 24 #[.pointer (some ⟨g, 0, none⟩), .int .u64 (id : Int), .string d] w (WroteEnds w B g (t, 0, 7)) := by
  have hL := len_vol h
  have hK := seek_vol h s.l.length
  rw [hs] at hK
  have hW := fun W => weight_any d.size (by omega) W
  have hq : decide ((weightOf d.size : Nat) ≤ t.rm - (wsum t.l : Nat)) = false := by simp; omega
  clear h hs hf
  generalize s.l.length = n at *
  go_enter Tryd.func24, Tryd.ntmps24
  go_wp2_with fail
  refine hL.mono ?_
  rintro e w1 ⟨rfl, rfl⟩
  go_wp2_with fail
  refine hK.mono ?_
  rintro e w2 ⟨rfl, h2, st2⟩
  have hF := fun k => fits_vol (h2.drewN k) (weightOf d.size : Nat)
  rw [hq] at hF
  have HF := Lib.hid hF
  have H2 := Lib.hid h2
  have ST := Lib.hid st2
  clear hK hL h2 st2 hF hq
  generalize weightOf d.size = wt at *
  go_wp2_with fail
  go_quiet (first | (go_at_call 40; exact Calls.quiet_of_same ((hW _).mono fun _ _ ⟨he, hw⟩ => ⟨he, hw.symm⟩)) | (go_at_call 39; exact Calls.quiet_of (HF.out _)))
  go_wp2
  go_ret2
  exact ⟨rfl, H2.out.drewN _, ST.out.trans (Stay.drewN _ _)⟩

theorem label_any (h : Vol w B g s) : Calls Tryd.prog 13 #[.pointer (some ⟨g, 0, none⟩)] w fun e w' => e = .returned (.string s.lab) ∧ Below w.heap.size w w' := label_vol h

/-- the volume behind the first pieces -/
def Going (w : World) (B g : Nat) (n : Nat) (bl : List Blk) (r : VS × Int) (k : Nat) : Prop := ∃ t : VS, Vol w B g t ∧ t.wgo (bl.drop k) = r ∧ t.l.length ≤ n + k

set_option maxRecDepth 100000 in
set_option maxHeartbeats 4000000 in
theorem wblob_main (h : Vol w B g s) (hS : Steps w) (hB : 0 < B) (hlen : s.l.length ≤ 900000) (hlab : s.lab.size ≤ 32) (id : Nat) (hid : id < 18446744073709551616) (d : ByteArray) (hd : ¬ 4000 < d.size) (t : VS) (hs : s.seek s.l.length = (t, 0)) (hf : ¬ t.rm - wsum t.l < weightOf d.size) :
    Calls Tryd.prog 24 #[.pointer (some ⟨g, 0, none⟩), .int .u64 (id : Int), .string d] w (WroteEnds w B g (s.wblob id d.data.toList)) := by
  have hlt := seek_lab s s.l.length
  rw [hs] at hlt
  simp only at hlt
  obtain ⟨hl1, hl2, hl3⟩ := hlt
  have hok := h.1
  have hL := len_vol h
  have hK := seek_vol h s.l.length
  rw [hs] at hK
  have hW := fun W => weight_any d.size (by omega) W
  have hq : decide ((weightOf d.size : Nat) ≤ t.rm - (wsum t.l : Nat)) = true := by simp; omega
  have hPc := fun W (hW : Steps W) => pieces_any s.lab s.l.length id d (by omega) hid (by omega) W hW
  have hdl : d.data.toList.length = d.size := by simp
  have hr : s.wblob id d.data.toList = (if (t.wgo (blobBlks s.lab s.l.length id d.data.toList)).2 ≠ 0 then ((t.wgo (blobBlks s.lab s.l.length id d.data.toList)).1, 0, (t.wgo (blobBlks s.lab s.l.length id d.data.toList)).2) else
      if ((t.wgo (blobBlks s.lab s.l.length id d.data.toList)).1.add markBlk).2 ≠ 0 then (((t.wgo (blobBlks s.lab s.l.length id d.data.toList)).1.add markBlk).1, 0, ((t.wgo (blobBlks s.lab s.l.length id d.data.toList)).1.add markBlk).2) else
      if (((t.wgo (blobBlks s.lab s.l.length id d.data.toList)).1.add markBlk).1.flush).2 ≠ 0 then ((((t.wgo (blobBlks s.lab s.l.length id d.data.toList)).1.add markBlk).1.flush).1, 0, (((t.wgo (blobBlks s.lab s.l.length id d.data.toList)).1.add markBlk).1.flush).2) else
      ((((t.wgo (blobBlks s.lab s.l.length id d.data.toList)).1.add markBlk).1.flush).1, (s.l.length : Int), 0)) := by
    unfold VS.wblob
    rw [hs, hdl, if_neg hd, if_neg (by simp), if_neg hf]
  rw [hr]
  have hbp := blobBlks_pcs s.lab s.l.length id d.data.toList
  have hpl := blobPcs_len s.lab s.l.length id d.data.toList
  have hp20 := partsOf_le (show d.data.toList.length ≤ 4000 by omega)
  rw [← hpl] at hp20
  have HPO : Hid (∀ i (hi : i < (blobPcs s.lab s.l.length id d.data.toList).length), ((blobPcs s.lab s.l.length id d.data.toList)[i]).ok) := Lib.hid fun i hi => by
    rw [blobPcs_get hi]
    exact pieceOf_ok hlab (by omega) hid (by omega) (by rw [← hpl]; exact hi)
  generalize blobPcs s.lab s.l.length id d.data.toList = L at *
  generalize blobBlks s.lab s.l.length id d.data.toList = bl at *
  generalize hR : t.wgo bl = r at *
  have HR := Lib.hid hR
  have HBP := Lib.hid hbp
  have htl : t.l.length = s.l.length := by rw [hl2]
  have hlb : t.lab = s.lab := hl1
  have hlbz := hok.lab
  clear hs hr hbp hR hl1 hl2 hl3 hok hpl hdl hf
  generalize s.lab = lab at *
  generalize s.l.length = n at *
  clear h
  generalize hRR : (if r.2 ≠ 0 then (r.1, (0 : Int), r.2) else _) = RR
  have HRR := Lib.hid hRR
  clear hRR
  go_enter Tryd.func24, Tryd.ntmps24
  go_wp2_with fail
  refine hL.mono ?_
  rintro e w1 ⟨rfl, rfl⟩
  go_wp2_with fail
  refine hK.mono ?_
  rintro e w2 ⟨rfl, h2, st2⟩
  have h2 : Vol w2 B g t := h2
  have hF := fun k => fits_vol (h2.drewN k) (weightOf d.size : Nat)
  rw [hq] at hF
  have HF := Lib.hid hF
  have H2 := Lib.hid h2
  have ST := Lib.hid st2
  have HTL := Lib.hid htl
  have HLB := Lib.hid hlb
  clear hK hL h2 st2 hF hq htl hlb
  generalize weightOf d.size = wt at *
  go_wp2_with fail
  go_quiet (first | (go_at_call 40; exact Calls.quiet_of_same ((hW _).mono fun _ _ ⟨he, hw⟩ => ⟨he, hw.symm⟩)) | (go_at_call 39; exact Calls.quiet_of (HF.out _)))
  have H3 := Lib.hid (H2.out.drewN nq)
  have ST3 := Lib.hid (ST.out.trans (Stay.drewN w2 nq))
  clear H2 ST HF hW
  generalize w2.drewN nq = w3 at *
  have hLa := label_any H3.out
  rw [HLB.out] at hLa
  go_wp2_with fail
  refine hLa.mono ?_
  rintro e w4 ⟨rfl, hb4⟩
  have H4 := Lib.hid (H3.out.below hb4)
  have ST4 := Lib.hid (ST3.out.trans (Stay.of_below hb4 H3.out.bz))
  clear H3 ST3 hLa hb4
  have HS := Lib.hid hS
  have hS4 := HS.out.below ST4.out.below hB
  go_wp2_with fail
  refine (hPc w4 hS4).mono ?_
  rintro e w5 ⟨q, rfl, hq4, hR5, hb5⟩
  have H5 := Lib.hid (H4.out.below hb5)
  have ST5 := Lib.hid (ST4.out.trans (Stay.of_below hb5 H4.out.bz))
  have HR5 := Lib.hid hR5
  clear H4 ST4 hPc hb5 hR5 hS4 hq4 hS
  obtain ⟨N, hN⟩ : ∃ N, L.length = N := ⟨_, rfl⟩
  have HN := Lib.hid hN
  rw [hN] at HR5 hp20 ⊢
  clear hN
  have G5 : Hid (Going w5 B g n bl r 0) := Lib.hid ⟨t, H5.out, HR.out, by rw [HTL.out]; omega⟩
  have hinf : (Tryd.prog.info? 78).map (·.size) = some 8 := by kernel_rfl
  have HIN := Lib.hid hinf
  clear H5 hinf HR HTL HLB
  go_wp2
  go_loopw [41] (fun i wr => ∃ k : Nat, k ≤ N ∧ i = .int .i64 (k : Int) ∧ Hid (PcRow wr q L N) ∧ Hid (Going wr B g n bl r k) ∧ Hid (Stay B g w wr))
    (fun i _ => N - (intOf i).toNat)
  case atStart => exact ⟨0, by omega, rfl, HR5, G5, ST5⟩
  case round =>
    clear HR5 G5 ST5
    obtain ⟨k, hk, rfl, HRW, HG, HST⟩ := hrel
    obtain ⟨t', hv, hw, hl⟩ := HG.out
    clear HG
    by_cases hlt : k < N
    · have hkL : k < L.length := by rw [HN.out]; exact hlt
      have hpo := HPO.out k hkL
      have hra := HRW.out.got k hkL
      have hbd : bl.drop k = pieceBlk L[k] :: bl.drop (k + 1) := by
        rw [HBP.out, ← List.map_drop, List.drop_eq_getElem_cons hkL, List.map_cons, List.map_drop]
      rw [hbd] at hw
      generalize L[k] = p at *
      have hSp := fun W (h : Steps W) => spell_any p hpo W h
      have hez := enc_max hpo
      have hsz : (⟨p.spell.toArray⟩ : ByteArray).size ≤ 1000 := by rw [str_len]; unfold Pc.spell; rw [frameL_len]; omega
      unfold VS.wgo at hw
      unfold pieceBlk at hw
      obtain ⟨C, hC⟩ : ∃ C, p.cells = C := ⟨_, rfl⟩
      have hC8 : C.size = 8 := by rw [← hC]; rfl
      have hC1 : C.all (·.oneCell') = true := by rw [← hC]; simp [Value.oneCell']
      rw [hC] at hra
      unfold Pc.val at hSp
      rw [hC] at hSp
      generalize (⟨p.spell.toArray⟩ : ByteArray) = sp at *
      have hWr := fun W (h : Vol W B g t') => write_vol h sp (by omega) (by omega)
      obtain ⟨u, hu⟩ : ∃ u, t'.add ⟨sp, false, false⟩ = u := ⟨_, rfl⟩
      rw [hu] at hw hWr
      have hul := add_len t' ⟨sp, false, false⟩
      rw [hu] at hul
      have HC8 := Lib.hid hC8
      have HC1 := Lib.hid hC1
      have HRA := Lib.hid hra
      have HV := Lib.hid hv
      have hS5 := HS.out.below HST.out.below hB
      have HS5 := Lib.hid hS5
      have HWR := Lib.hid hWr
      have HSP := Lib.hid hSp
      have hX := At.new wr 78 pcZ
      have HX := Lib.hid hX
      have hI8 : (Tryd.prog.info? 78).map (·.size) = some C.size := by rw [HC8.out]; exact HIN.out
      have hI9 : pcZ.size = C.size := by rw [HC8.out]; rfl
      have HI8 := Lib.hid hI8
      have HI9 := Lib.hid hI9
      have HW := Lib.hid hw
      have HUL := Lib.hid hul
      have i0 : (0 : Int) ≤ (k : Int) := by omega
      have i1 : (k : Int) < (N : Int) := by omega
      clear hC8 hC1 hra hv hS5 hWr hSp hX hI8 hI9 hw hul hu hC hbd hpo hez
      have hWZ : (wr.alloc (.cells pcZ 78)).heap.size = wr.heap.size + 1 := by simp
      go_upto_region 12 with (first | refine wpList_load_part rfl 78 _ rfl q (k * 8) rfl C _ HRA.out Tryd.underlying78 rfl HI8.out ?_ | (refine wpList_store_whole rfl 78 _ _ rfl wr.heap.size C rfl rfl 78 _ HX.out HI8.out HI9.out HC1.out ?_; intro w9 hZ9 hG9; replace hZ9 := Lib.hid hZ9; replace hG9 := Lib.hid hG9))
      have hb9 : Below wr.heap.size wr w9 := below_of_grownBy ((Below.refl _ wr).alloc (Nat.le_refl _) _) hG9.out (by rw [hWZ]; omega) (Nat.le_refl _)
      have H9 := Lib.hid (HV.out.below hb9)
      have ST9 := Lib.hid (HST.out.trans (Stay.of_below hb9 HV.out.bz))
      have HS9 := Lib.hid (HS5.out.below hb9 HS5.out.1)
      have HR9 := Lib.hid (HRW.out.below hb9)
      clear HV HST HS5 HRW hb9 hG9 HX HI9 HRA hWZ
      generalize wr.heap.size = X at *
      go_wp2_with (refine wpList_load_whole rfl 78 _ rfl X rfl 78 _ _ hZ9.out Tryd.underlying78 rfl HI8.out ?_)
      refine (HSP.out w9 HS9.out).mono ?_
      rintro e w10 ⟨rfl, hb10⟩
      have H10 := Lib.hid (H9.out.below hb10)
      have ST10 := Lib.hid (ST9.out.trans (Stay.of_below hb10 H9.out.bz))
      have HR10 := Lib.hid (HR9.out.below hb10)
      clear H9 ST9 HR9 HS9 hb10 hZ9 HSP
      go_wp2_with fail
      refine (HWR.out w10 H10.out).mono ?_
      rintro e w11 ⟨rfl, h11, st11⟩
      have H11 := Lib.hid h11
      have ST11 := Lib.hid (ST10.out.trans st11)
      have HR11 := Lib.hid (HR10.out.stay st11.toStay0)
      clear H10 ST10 HR10 h11 st11 HWR
      by_cases hu0 : u.2 = 0
      · have hw2 := HW.out
        rw [if_neg (by rw [hu0]; simp)] at hw2
        have HW2 := Lib.hid hw2
        rw [hu0]
        clear hw2 HW hu0
        go_wp2
        go_roundw
        case rel => exact ⟨k + 1, by omega, by go_num, HR11, Lib.hid ⟨u.1, H11.out, HW2.out, by have := HUL.out; omega⟩, ST11⟩
        case measure => simp [intOf]; omega
      · have hw2 := HW.out
        rw [if_pos hu0] at hw2
        have hrr := HRR.out
        rw [← hw2, if_pos hu0] at hrr
        subst hrr
        have hub : (u.2 != 0) = true := by rw [bne_iff_ne]; exact hu0
        clear hw2 HW hu0 HRR
        go_wp2
        go_ret2
        exact ⟨rfl, H11.out, ST11.out⟩
    · obtain rfl : k = N := by omega
      have hbl : bl.drop k = [] := by rw [HBP.out]; exact List.drop_of_length_le (by rw [List.length_map, HN.out]; exact Nat.le_refl _)
      rw [hbl] at hw
      unfold VS.wgo at hw
      subst hw
      have hM := mark_vol hv (by omega)
      obtain ⟨u, hu⟩ : ∃ u, t'.add markBlk = u := ⟨_, rfl⟩
      rw [show t'.add ⟨⟨#[]⟩, true, false⟩ = u from hu] at hM
      have hrr := HRR.out
      simp only [hu] at hrr
      rw [if_neg (by simp)] at hrr
      have HRR2 := Lib.hid hrr
      have HM := Lib.hid hM
      clear hM hv hrr HRR hu HRW hbl
      go_wp2_with fail
      refine HM.out.mono ?_
      rintro e w6 ⟨rfl, h6, st6⟩
      have ST6 := Lib.hid (HST.out.trans st6)
      by_cases hu0 : u.2 = 0
      · rw [hu0]
        have hrr := HRR2.out
        rw [if_neg (by rw [hu0]; simp)] at hrr
        have hFl := flush_vol h6
        generalize u.1.flush = v at *
        have HRR3 := Lib.hid hrr
        have HFL := Lib.hid hFl
        clear hFl hrr h6 st6 HM HRR2 hu0 HST
        go_wp2_with fail
        refine HFL.out.mono ?_
        rintro e w7 ⟨rfl, h7, st7⟩
        have ST7 := Lib.hid (ST6.out.trans st7)
        have H7 := Lib.hid h7
        clear HFL h7 st7
        by_cases hv0 : v.2 = 0
        · rw [hv0]
          have hrr := HRR3.out
          rw [if_neg (by rw [hv0]; simp)] at hrr
          subst hrr
          clear hv0 HRR3
          go_wp2
          go_ret2
          exact ⟨rfl, H7.out, ST7.out⟩
        · have hrr := HRR3.out
          rw [if_pos hv0] at hrr
          subst hrr
          have hvb : (v.2 != 0) = true := by rw [bne_iff_ne]; exact hv0
          clear hv0 HRR3
          go_wp2
          go_ret2
          exact ⟨rfl, H7.out, ST7.out⟩
      · have hrr := HRR2.out
        rw [if_pos hu0] at hrr
        subst hrr
        have H6 := Lib.hid h6
        have hub : (u.2 != 0) = true := by rw [bne_iff_ne]; exact hu0
        clear hu0 HRR2 h6 st6 HM
        go_wp2
        go_ret2
        exact ⟨rfl, H6.out, ST6.out⟩

theorem wblob_any (h : Vol w B g s) (hS : Steps w) (hB : 0 < B) (hlen : s.l.length ≤ 900000) (hlab : s.lab.size ≤ 32) (id : Nat) (hid : id < 18446744073709551616) (d : ByteArray) (hd : d.size ≤ 9223372036854775807) :
    Calls Tryd.prog 24 #[.pointer (some ⟨g, 0, none⟩), .int .u64 (id : Int), .string d] w (WroteEnds w B g (s.wblob id d.data.toList)) := by
  have hdl : d.data.toList.length = d.size := by simp
  by_cases h1 : 4000 < d.size
  · have := wblob_big h id d h1 hd
    unfold VS.wblob
    rw [hdl, if_pos h1]
    exact this
  · obtain ⟨⟨t, c⟩, hs⟩ : ∃ r, s.seek s.l.length = r := ⟨_, rfl⟩
    by_cases hc : c = 0
    · subst hc
      by_cases hf : t.rm - wsum t.l < weightOf d.size
      · have := wblob_full h id d h1 t hs hf
        unfold VS.wblob
        rw [hdl, if_neg h1, hs, if_neg (by simp), if_pos hf]
        exact this
      · exact wblob_main h hS hB hlen hlab id hid d h1 t hs hf
    · have := wblob_seek h id d h1 t c hs hc
      unfold VS.wblob
      rw [hdl, if_neg h1, hs, if_pos hc]
      exact this
end
end Go.Proofs.YtniecodpdmjppaaDoor

/- tapefmt.next, (Piece).whole: their walks. -/
namespace Go.Proofs.YtniecodpdmjppaaDoor
open Go.RowKit
open Sm
set_option linter.unusedVariables false

theorem Stay.low {w w1 w2 : World} {B g : Nat} (h : Stay B g w w1) (hB : B ≤ w.heap.size) (hb : Below w.heap.size w1 w2) (hr : rowOf w2 g = rowOf w1 g) : Stay B g w w2 := by
  refine ⟨⟨h.below.trans (hb.mono hB), fun k o hk h1 h2 => ?_⟩, fun hg => ?_⟩
  · exact (hb.block k (Array.getElem?_eq_some_iff.1 hk).1).trans (h.kept k o hk h1 h2)
  · obtain ⟨a1, a2⟩ := h.foot hg
    exact ⟨fun k hk h1 h2 => (hb.block k hk).trans (a1 k hk h1 h2), fun k e => a2 k (by rw [← hr]; exact e)⟩
/-- a block of the call's own was written -/
theorem vol_new {w w1 w9 : World} {B g X : Nat} {t : VS} {T : TypeId} {cs : Array Value} (hv : Vol w1 B g t) (hst : Stay B g w w1) (hB : B ≤ w.heap.size) (hA : At w1 X T cs) (hX : w.heap.size ≤ X) (hg : w1.grownBy w9 (some X)) (h1 : T ≠ 51) (h2 : T ≠ 101) : Vol w9 B g t ∧ Stay B g w w9 := by
  obtain ⟨ok, v, hva⟩ := hv
  have hne : g ≠ X := hva.at_.differ hA (Ne.symm h1)
  refine ⟨Vol.other ⟨ok, v, hva⟩ hg hA (by rintro cs fz e; injection e with _ e _; exact h1 e) (by rintro cs fz e; injection e with _ e _; exact h2 e), hst.low hB (below_of_grownBy (Below.refl _ _) hg hst.size hX) ?_⟩
  unfold rowOf
  rw [World.cell?_of_block (hg.block g hva.lt (by simpa using hne))]

/-- the next block, as a piece: what becomes of the volume; the piece; the error's number -/
def VS.nextP (s : VS) : VS × Pc × Int :=
  if s.read.2.2 ≠ 0 then (s.read.1, .no, s.read.2.2) else
  if s.read.2.1.mark = true then (s.read.1, .no, 3) else
  (s.read.1, (parseL s.read.2.1.t.data.toList).1, ((parseL s.read.2.1.t.data.toList).2 : Nat))

def NextEnds (w : World) (B g : Nat) (r : VS × Pc × Int) (e : Ending) (w' : World) : Prop := e = .returned (.tuple #[r.2.1.val, .int .i64 r.2.2]) ∧ Vol w' B g r.1 ∧ Stay B g w w'

theorem read_ok_size {s : VS} (ok : s.ok) : s.read.2.1.t.size ≤ 1000000 := by
  unfold VS.read
  split
  · show 0 ≤ _; omega
  · cases h : s.l[s.pos]? with
    | none => show 0 ≤ _; omega
    | some b =>
      simp only
      split
      · show 0 ≤ _; omega
      · exact (ok.blk b (List.mem_of_getElem? h)).1

set_option maxRecDepth 100000 in
set_option maxHeartbeats 2000000 in
theorem next_any {w : World} {B g : Nat} {s : VS} (h : Vol w B g s) (hS : Steps w) (hB : 0 < B) :
    Calls Tryd.prog 46 #[.pointer (some ⟨g, 0, none⟩)] w (NextEnds w B g s.nextP) := by
  have hz := read_ok_size h.1
  have hbz := h.bz
  have hR0 := read_vol (h.alloc (.cells pcZero 78))
  have hst0 : Stay B g w (w.alloc (.cells pcZero 78)) := Stay.alloc _ _ hbz
  have hA0 := At.new w 78 pcZero
  unfold VS.nextP
  generalize s.read = r at *
  obtain ⟨t, b, c⟩ := r
  simp only at *
  have HS := Lib.hid hS
  clear h hS
  obtain ⟨RR, hRR⟩ : ∃ RR, (if c ≠ 0 then (t, Pc.no, c) else if b.mark = true then (t, .no, 3) else (t, (parseL b.t.data.toList).1, ((parseL b.t.data.toList).2 : Int))) = RR := ⟨_, rfl⟩
  rw [hRR]
  have HRR := Lib.hid hRR
  clear hRR
  generalize hX : w.heap.size = X at *
  go_enter Tryd.func46, Tryd.ntmps46
  go_wp2_with fail
  refine hR0.mono ?_
  rintro e w1 ⟨rfl, h1, st1⟩
  have HX := Lib.hid hX
  clear hX
  have HA1 := Lib.hid (st1.toStay0.at_ hA0 (by decide) (by decide))
  have HST1 := Lib.hid (hst0.trans st1)
  have H1 : Hid (Vol w1 B g t) := Lib.hid h1
  clear hR0 hA0 h1 st1 hst0
  by_cases hc : c = 0
  · subst hc
    have hrr := HRR.out
    rw [if_neg (by simp)] at hrr
    by_cases hm : b.mark = true
    · rw [if_pos hm] at hrr
      subst hrr
      clear HRR
      simp only [hm]
      go_wp2_with (refine wpList_store_whole rfl 78 _ _ rfl X _ rfl rfl 78 _ HA1.out (by kernel_rfl) (by kernel_rfl) (by kernel_rfl) ?_; intro w9 hZ9 hG9; replace hZ9 := Lib.hid hZ9; replace hG9 := Lib.hid hG9)
      refine bodyPost_ret (res_row_tmp rfl _ _ _ _ _ _ rfl hZ9.out Tryd.underlying78 (by kernel_rfl)) rfl ?_
      obtain ⟨v9, st9⟩ := vol_new H1.out HST1.out (by rw [HX.out]; exact hbz) HA1.out (by rw [HX.out]; exact Nat.le_refl _) hG9.out (by decide) (by decide)
      exact ⟨rfl, v9, st9⟩
    · rw [if_neg hm] at hrr
      have hm' : b.mark = false := by simpa using hm
      simp only [hm']
      have hS1 := HS.out.below HST1.out.below hB
      have hPa := parse_any b.t hz w1 hS1
      generalize parseL b.t.data.toList = P at *
      subst hrr
      unfold ParseRet Pc.val at hPa
      have hP8 : P.1.cells.size = 8 := rfl
      have hP1 : P.1.cells.all (·.oneCell') = true := by simp [Value.oneCell']
      obtain ⟨C, hC⟩ : ∃ C, P.1.cells = C := ⟨_, rfl⟩
      rw [hC] at hPa hP8 hP1
      have HC : Hid (P.1.val = .agg C) := Lib.hid (congrArg Value.agg hC)
      clear hC
      have hI8 : (Tryd.prog.info? 78).map (·.size) = some C.size := by rw [hP8]; kernel_rfl
      have hI9 : pcZero.size = C.size := by rw [hP8]; rfl
      have HI8 := Lib.hid hI8
      have HI9 := Lib.hid hI9
      have HP1 := Lib.hid hP1
      have HPA := Lib.hid hPa
      have e9 : ∀ e : Ending, e = .returned (.tuple #[.agg C, .int .i64 (P.2 : Int)]) → e = .returned (.tuple #[P.1.val, .int .i64 (P.2 : Int)]) := fun e h => by rw [HC.out]; exact h
      have HE9 := Lib.hid e9
      clear HRR hS1 hPa hI8 hI9 hP1 hP8 hm hm' e9
      go_wp2_with fail
      refine HPA.out.mono ?_
      rintro e w2 ⟨rfl, hb2⟩
      have HA2 := Lib.hid (HA1.out.below hb2 HA1.out.lt)
      have HST2 := Lib.hid (HST1.out.trans (Stay.of_below hb2 H1.out.bz))
      have H2 := Lib.hid (H1.out.below hb2)
      clear HA1 HST1 H1 hb2 HPA
      go_wp2_with (refine wpList_store_whole rfl 78 _ _ rfl X C rfl rfl 78 _ HA2.out HI8.out HI9.out HP1.out ?_; intro w9 hZ9 hG9; replace hZ9 := Lib.hid hZ9; replace hG9 := Lib.hid hG9)
      refine bodyPost_ret (res_row_tmp rfl _ _ _ _ _ _ rfl hZ9.out Tryd.underlying78 HI8.out) rfl ?_
      obtain ⟨v9, st9⟩ := vol_new H2.out HST2.out (by rw [HX.out]; exact hbz) HA2.out (by rw [HX.out]; exact Nat.le_refl _) hG9.out (by decide) (by decide)
      exact ⟨HE9.out _ rfl, v9, st9⟩
  · have hrr := HRR.out
    rw [if_pos hc] at hrr
    subst hrr
    have hcb : (c != 0) = true := by rw [bne_iff_ne]; exact hc
    clear HRR
    go_wp2_with (refine wpList_store_whole rfl 78 _ _ rfl X _ rfl rfl 78 _ HA1.out (by kernel_rfl) (by kernel_rfl) (by kernel_rfl) ?_; intro w9 hZ9 hG9; replace hZ9 := Lib.hid hZ9; replace hG9 := Lib.hid hG9)
    refine bodyPost_ret (res_row_tmp rfl _ _ _ _ _ _ rfl hZ9.out Tryd.underlying78 (by kernel_rfl)) rfl ?_
    obtain ⟨v9, st9⟩ := vol_new H1.out HST1.out (by rw [HX.out]; exact hbz) HA1.out (by rw [HX.out]; exact Nat.le_refl _) hG9.out (by decide) (by decide)
    exact ⟨rfl, v9, st9⟩

/-- what whole returns -/
def wholeP (p : Pc) (d : List UInt8) : List UInt8 × Nat := if d.length ≠ p.size ∨ crc d ≠ p.sum then ([], 4) else (d, 0)

set_option maxRecDepth 100000 in
set_option maxHeartbeats 2000000 in
theorem whole_any (p : Pc) (d : ByteArray) (hd : d.size ≤ 1000000) (w : World) (hS : Steps w) :
    Calls Tryd.prog 49 #[p.val, .string d] w fun e w' => e = .returned (.tuple #[.string ⟨(wholeP p d.data.toList).1.toArray⟩, .int .i64 ((wholeP p d.data.toList).2 : Nat)]) ∧ Below w.heap.size w w' := by
  have hdl : d.data.toList.length = d.size := by simp
  have hSm := fun (W : World) (g : Nat) (h : Steps W) (hA : At W g 9 #[.string d]) => sum_any [d] (some ⟨g, 0, none⟩) 1 W h (Lies.of_at hA rfl hA.lt) (by simp) (by simp; omega)
  have hcat : cat [d] = d.data.toList := by simp [cat]
  rw [hcat] at hSm
  unfold wholeP
  rw [hdl]
  have hA := At.new w 78 p.cells
  have hb : Below w.heap.size w (w.alloc (.cells p.cells 78)) := (Below.refl _ w).alloc (Nat.le_refl _) _
  have hS1 := hS.alloc (.cells p.cells 78)
  generalize crc d.data.toList = c at *
  unfold Pc.val
  have hls : (⟨d.data.toList.toArray⟩ : ByteArray) = d := list_string d
  clear hdl hcat hS
  by_cases h1 : d.size = p.size
  · by_cases h2 : c = p.sum
    · rw [if_neg (by rintro (h | h); exact h h1; exact h h2)]
      simp only [hls]
      have q1 : ((d.size : Int) != (p.size : Int)) = false := by rw [h1]; simp
      have q2 : ((c : Int) != (p.sum : Int)) = false := by rw [h2]; simp
      have q3 : (d.size != p.size) = false := by rw [h1]; simp
      have q4 : (c != p.sum) = false := by rw [h2]; simp
      clear h1 h2 hls
      generalize hX : w.heap.size = X at *
      go_enter Tryd.func49, Tryd.ntmps49
      go_wp2_with fail
      generalize w.alloc (.cells p.cells 78) = w1 at *
      have x5 : w1.cell? ⟨X, 5, none⟩ = some (.int .i64 (p.size : Int)) := hA.cell 5
      have x6 : w1.cell? ⟨X, 6, none⟩ = some (.int .u32 (p.sum : Int)) := hA.cell 6
      have hsz := hb.size
      have hlt := hA.lt
      have HBX := Lib.hid hb
      have HX := Lib.hid hX
      clear hb hX
      go_region_with (go_at_call 56; refine (hSm _ _ (by exact hS1.alloc _) (by exact At.new _ _ _)).mono ?_; rintro e w2 ⟨rfl, rfl⟩)
      all_goals
        go_wp2
        go_ret2
        first
        | exact ⟨rfl, below_drewN ((HBX.out.alloc (by have := HBX.out.size; omega) _)) 1⟩
        | exact ⟨rfl, HBX.out.alloc (by have := HBX.out.size; omega) _⟩
        | exact ⟨rfl, HBX.out⟩
        | exact ⟨rfl, below_drewN HBX.out 1⟩
    · rw [if_pos (.inr h2)]
      have q1 : ((d.size : Int) != (p.size : Int)) = false := by rw [h1]; simp
      have q2 : ((c : Int) != (p.sum : Int)) = true := by rw [bne_iff_ne]; omega
      have q3 : (d.size != p.size) = false := by rw [h1]; simp
      have q4 : (c != p.sum) = true := by rw [bne_iff_ne]; exact h2
      clear h1 h2 hls
      generalize hX : w.heap.size = X at *
      go_enter Tryd.func49, Tryd.ntmps49
      go_wp2_with fail
      generalize w.alloc (.cells p.cells 78) = w1 at *
      have x5 : w1.cell? ⟨X, 5, none⟩ = some (.int .i64 (p.size : Int)) := hA.cell 5
      have x6 : w1.cell? ⟨X, 6, none⟩ = some (.int .u32 (p.sum : Int)) := hA.cell 6
      have hsz := hb.size
      have hlt := hA.lt
      have HBX := Lib.hid hb
      have HX := Lib.hid hX
      clear hb hX
      go_region_with (go_at_call 56; refine (hSm _ _ (by exact hS1.alloc _) (by exact At.new _ _ _)).mono ?_; rintro e w2 ⟨rfl, rfl⟩)
      all_goals
        go_wp2
        go_ret2
        first
        | exact ⟨rfl, below_drewN ((HBX.out.alloc (by have := HBX.out.size; omega) _)) 1⟩
        | exact ⟨rfl, HBX.out.alloc (by have := HBX.out.size; omega) _⟩
        | exact ⟨rfl, HBX.out⟩
        | exact ⟨rfl, below_drewN HBX.out 1⟩
  · skip
    all_goals
      rw [if_pos (.inl h1)]
      have q1 : ((d.size : Int) != (p.size : Int)) = true := by rw [bne_iff_ne]; omega
      have q3 : (d.size != p.size) = true := by rw [bne_iff_ne]; exact h1
      clear h1 hls
      generalize hX : w.heap.size = X at *
      go_enter Tryd.func49, Tryd.ntmps49
      go_wp2_with fail
      generalize w.alloc (.cells p.cells 78) = w1 at *
      have x5 : w1.cell? ⟨X, 5, none⟩ = some (.int .i64 (p.size : Int)) := hA.cell 5
      have x6 : w1.cell? ⟨X, 6, none⟩ = some (.int .u32 (p.sum : Int)) := hA.cell 6
      have hsz := hb.size
      have hlt := hA.lt
      have HBX := Lib.hid hb
      have HX := Lib.hid hX
      clear hb hX
      go_quiet (fail)
      go_wp2
      go_ret2
      exact ⟨rfl, below_drewN HBX.out _⟩
end Go.Proofs.YtniecodpdmjppaaDoor

/- tapefmt.Read: what its walk stands on. Written by gen_tr.py. -/
namespace Go.Proofs.YtniecodpdmjppaaDoor
open Go.RowKit
open Sm
set_option linter.unusedVariables false
set_option linter.unusedSimpArgs false

/-- what is known of a piece that was read -/
structure Pc.Got (p : Pc) : Prop where
  data : p.data.size ≤ 200
  size : p.size ≤ 4000
  parts : p.parts ≤ 1048576
  some_ : 1 ≤ p.parts
  part : p.part ≤ 1048576
  blk : p.blk ≤ 1073741824
  lab : p.lab.size ≤ 32
  id : p.id < 18446744073709551616
theorem Curs.facts {tx : List UInt8} {a : (List UInt8 × Nat) × List UInt8} {b c d f gg h : (List UInt8 × Nat) × Nat} {k : (List UInt8 × Nat) × List UInt8} (C : Curs tx a b c d f gg h k) : k.2.length ≤ 200 ∧ gg.2 ≤ 4000 ∧ f.2 ≤ 1048576 ∧ b.2 ≤ 1073741824 ∧ a.2.length ≤ 32 ∧ c.2 < 18446744073709551616 :=
  ⟨by rw [← C.ek]; exact curS_most _ _, by rw [← C.eg]; exact curI_most _ _, by rw [← C.ef]; exact curI_most _ _, by rw [← C.eb]; exact curI_most _ _, by rw [← C.ea]; exact curS_most _ _, by rw [← C.ec]; exact curU_bound _⟩
theorem took_facts (tx : List UInt8) : (took tx).k.2.length ≤ 200 ∧ (took tx).g.2 ≤ 4000 ∧ (took tx).f.2 ≤ 1048576 ∧ (took tx).b.2 ≤ 1073741824 ∧ (took tx).a.2.length ≤ 32 ∧ (took tx).c.2 < 18446744073709551616 := by
  have C : Curs tx _ _ _ _ _ _ _ _ := ⟨rfl, rfl, rfl, rfl, rfl, rfl, rfl, rfl⟩
  have hf := C.facts
  rw [C.took]
  exact hf
theorem took_got (t : Took) (h3 : t.err = 0) (a : t.k.2.length ≤ 200 ∧ t.g.2 ≤ 4000 ∧ t.f.2 ≤ 1048576 ∧ t.b.2 ≤ 1073741824 ∧ t.a.2.length ≤ 32 ∧ t.c.2 < 18446744073709551616) : t.pc.Got := by
  obtain ⟨⟨⟨a0, a1⟩, a2⟩, ⟨b0, b2⟩, ⟨c0, c2⟩, ⟨d0, d2⟩, ⟨f0, f2⟩, ⟨g0, g2⟩, ⟨h0, h2⟩, ⟨⟨k0, k1⟩, k2⟩⟩ := t
  simp only at a
  obtain ⟨x1, x2, x3, x4, x5, x6⟩ := a
  have hp : d2 < f2 := by
    unfold Took.err parseErr doneErr at h3
    simp only at h3
    rcases Nat.lt_or_ge d2 f2 with h | h
    · exact h
    · exfalso
      have hc : (4294967295 < h2 ∨ f2 ≤ d2) = True := eq_true (.inr h)
      simp only [hc, if_true] at h3
      have hx : (if k1 = 0 then 3 else k1) ≠ 0 := by split <;> omega
      generalize (if k1 = 0 then 3 else k1) = x at *
      split at h3 <;> first | exact hx h3 | (rw [if_neg hx] at h3; exact hx h3)
  exact ⟨by show (⟨k2.toArray⟩ : ByteArray).size ≤ _; rw [str_len]; exact x1, x2, x3, by show 1 ≤ f2; omega, by show d2 ≤ _; omega, x4, by show (⟨a2.toArray⟩ : ByteArray).size ≤ _; rw [str_len]; exact x5, x6⟩
theorem parseL_got {l : List UInt8} (h : (parseL l).2 = 0) : (parseL l).1.Got := by
  have hf := took_facts (onlyL l).1
  unfold parseL at h ⊢
  generalize took (onlyL l).1 = t at *
  by_cases h1 : (onlyL l).2 ≠ 0
  · rw [if_pos h1] at h; exact absurd h h1
  · rw [if_neg h1] at h ⊢
    by_cases h2 : t.err ≠ 0
    · rw [if_pos h2] at h; exact absurd h h2
    · rw [if_neg h2]
      exact took_got t (by omega) hf
theorem rdGo_cons (lab : ByteArray) (from_ id : Nat) (b : Blk) (r : List Blk) (part : Nat) (acc : List UInt8) : rdGo lab from_ id (b :: r) part acc =
    if b.torn = true then ([], 4) else
    if b.mark = true then ([], 3) else
    if (parseL b.t.data.toList).2 ≠ 0 then ([], (parseL b.t.data.toList).2) else
    if (parseL b.t.data.toList).1.lab ≠ lab ∨ (parseL b.t.data.toList).1.blk ≠ from_ + part ∨ (parseL b.t.data.toList).1.id ≠ id ∨ (parseL b.t.data.toList).1.part ≠ part ∨ (parseL b.t.data.toList).1.parts ≠ partsOf (parseL b.t.data.toList).1.size then ([], 3) else
    if part + 1 = (parseL b.t.data.toList).1.parts then wholeP (parseL b.t.data.toList).1 (acc ++ (parseL b.t.data.toList).1.data.data.toList)
    else rdGo lab from_ id r (part + 1) (acc ++ (parseL b.t.data.toList).1.data.data.toList) := rfl

theorem rd_next {s : VS} (hc : s.Calm) (hpos : s.pos ≤ s.l.length) (lab : ByteArray) (from_ id k : Nat) (acc : List UInt8) :
    (∃ (e : Nat) (p : Pc) (q : Nat), e ≠ 0 ∧ s.nextP = ({ s with pos := q }, p, (e : Int)) ∧ rdGo lab from_ id (s.l.drop s.pos) k acc = ([], e)) ∨
    (∃ p : Pc, s.pos < s.l.length ∧ p.Got ∧ s.nextP = ({ s with pos := s.pos + 1 }, p, 0) ∧ rdGo lab from_ id (s.l.drop s.pos) k acc =
      (if p.lab ≠ lab ∨ p.blk ≠ from_ + k ∨ p.id ≠ id ∨ p.part ≠ k ∨ p.parts ≠ partsOf p.size then ([], 3) else
       if k + 1 = p.parts then wholeP p (acc ++ p.data.data.toList) else rdGo lab from_ id (s.l.drop (s.pos + 1)) (k + 1) (acc ++ p.data.data.toList))) := by
  have hr := hc.read
  unfold VS.nextP
  rw [hr]
  by_cases hlt : s.pos < s.l.length
  · rw [List.getElem?_eq_getElem hlt, List.drop_eq_getElem_cons hlt]
    simp only
    generalize s.l[s.pos] = b
    rw [rdGo_cons]
    by_cases ht : b.torn = true
    · left
      rw [if_pos ht, if_pos ht]
      exact ⟨4, .no, s.pos, by decide, rfl, rfl⟩
    · rw [if_neg ht, if_neg ht]
      by_cases hm : b.mark = true
      · left
        rw [if_pos hm]
        simp only
        rw [if_neg (by simp), if_pos hm]
        exact ⟨3, .no, s.pos + 1, by decide, rfl, rfl⟩
      · rw [if_neg hm]
        simp only
        rw [if_neg (by simp), if_neg hm]
        by_cases he : (parseL b.t.data.toList).2 ≠ 0
        · left
          rw [if_pos he]
          exact ⟨(parseL b.t.data.toList).2, (parseL b.t.data.toList).1, s.pos + 1, he, rfl, rfl⟩
        · right
          have he0 : (parseL b.t.data.toList).2 = 0 := by omega
          refine ⟨(parseL b.t.data.toList).1, hlt, parseL_got he0, by rw [he0]; rfl, ?_⟩
          rw [if_neg he]
  · left
    rw [List.getElem?_eq_none (by omega), List.drop_of_length_le (by omega)]
    exact ⟨2, .no, s.pos, by decide, rfl, rfl⟩

theorem BdIs.stay {w w' : World} {b B : Nat} {acc : List UInt8} (h : BdIs w b acc) (hs : Stay0 B w w') : BdIs w' b acc :=
  h.same fun k o hk ho => hs.kept k o hk (by obtain ⟨cs, fz, rfl | rfl⟩ := ho <;> (rintro cs' fz' e; injection e with _ e _; revert e; decide)) (by obtain ⟨cs, fz, rfl | rfl⟩ := ho <;> (rintro cs' fz' e; injection e with _ e _; revert e; decide))
/-- what a call on the builder leaves of other things -/
theorem vol_others {w w' : World} {B g b : Nat} {t : VS} {acc : List UInt8} (h : Vol w B g t) (hb : BdIs w b acc) (ho : Lib.OthersKept 5 (some b) w w') : Vol w' B g t ∧ rowOf w' g = rowOf w g := by
  obtain ⟨ok, v, hv⟩ := h
  obtain ⟨cs, hcs⟩ := hb.at_
  have hgb : g ≠ b := hv.at_.differ hcs (by decide)
  have e1 : w'.heap[g]? = w.heap[g]? := (ho g _ hv.at_ (by simpa using hgb) (by rintro cs fz e; injection e with _ e _; revert e; decide)).trans hv.at_.symm
  refine ⟨⟨ok, v, hv.of_block e1 fun k hk => ?_⟩, ?_⟩
  · rcases hv.row.2 with ⟨rfl, _⟩ | ⟨k', cap, cur, rfl, _, h3, _⟩
    · cases hk
    · have e2 : k' = k := by simpa [Value.ownBlock] using hk
      subst e2
      have hkb : k' ≠ b := At.differ h3 hcs (by decide)
      exact (ho k' _ h3 (by simpa using hkb) (by rintro cs fz e; injection e with _ e _; revert e; decide)).trans h3.symm
  · unfold rowOf
    rw [World.cell?_of_block e1]

structure RdT (w : World) (B g : Nat) (t : VS) (b : Nat) (acc : List UInt8) (X : Nat) (C : Array Value) (w' : World) : Prop where
  vol : Vol w' B g t
  stay : Stay B g w w'
  steps : Steps w'
  bd : BdIs w' b acc
  at_ : At w' X 78 C
  low : w.heap.size ≤ b
section
variable {w w' w'' : World} {B g b X : Nat} {t : VS} {acc : List UInt8} {C : Array Value}
theorem RdT.after (h : RdT w B g t b acc X C w') (hb : Below w'.heap.size w' w'') : RdT w B g t b acc X C w'' :=
  ⟨h.vol.below hb, h.stay.trans (Stay.of_below hb h.vol.bz), h.steps.below hb h.steps.1, h.bd.below hb, h.at_.below hb h.at_.lt, h.low⟩
theorem RdT.drew (h : RdT w B g t b acc X C w') : RdT w B g t b acc X C w'.drew := h.after (Below.drew (Below.refl _ w'))
@[simp] theorem RdT.drew_iff : RdT w B g t b acc X C w'.drew ↔ RdT w B g t b acc X C w' := ⟨fun h => h.after (w'' := w') ⟨rfl, rfl, rfl, Nat.le_refl _, fun _ _ => rfl⟩, RdT.drew⟩
theorem RdT.others {acc' : List UInt8} (h : RdT w B g t b acc X C w') (hB : B ≤ w.heap.size) (h0 : 0 < w.heap.size) (hbd : BdIs w'' b acc') (hb : Below b w' w'') (ho : Lib.OthersKept 5 (some b) w' w'') : RdT w B g t b acc' X C w'' := by
  obtain ⟨v, hr⟩ := vol_others h.vol h.bd ho
  obtain ⟨cs, hcs⟩ := h.bd.at_
  have hXb : X ≠ b := h.at_.differ hcs (by decide)
  exact ⟨v, h.stay.low hB (hb.mono h.low) hr, h.steps.below hb (by have := h.low; omega), hbd, ho X _ h.at_ (by simpa using hXb) (by rintro cs fz e; injection e with _ e _; revert e; decide), h.low⟩
end

theorem eqs {a b : Nat} (h : a = b) : (a == b) = true ∧ ((a : Int) == (b : Int)) = true ∧ ((a : Int) != (b : Int)) = false ∧ (a != b) = false := by subst h; simp
theorem neqs {a b : Nat} (h : a ≠ b) : (a == b) = false ∧ ((a : Int) == (b : Int)) = false ∧ ((a : Int) != (b : Int)) = true ∧ (a != b) = true := by
  refine ⟨by simpa using h, by rw [beq_eq_false_iff_ne]; omega, by rw [bne_iff_ne]; omega, by simpa using h⟩

def ReadRet (w : World) (B g : Nat) (s : VS) (r : List UInt8 × Nat) (e : Ending) (w' : World) : Prop := e = .returned (.tuple #[.string ⟨r.1.toArray⟩, .int .i64 (r.2 : Nat)]) ∧ (∃ pos, Vol w' B g { s with pos := pos }) ∧ Stay B g w w'
end Go.Proofs.YtniecodpdmjppaaDoor
