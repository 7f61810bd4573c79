/- tapefmt.Parts, Weight, pieces: their walks. -/
import Derived.Test.YtcbeikiglccgaaaDoorTs
import Derived.Test.YtcbeikiglccgaaaDoorVz
import Derived.Test.YtcbeikiglccgaaaDoorVl
import Derived.Laws.MakeOwn
namespace Go.Proofs.YtcbeikiglccgaaaDoor
open Go.RowKit
open Sm
set_option linter.unusedVariables false

def weightOf (n : Nat) : Nat := n + 76 * partsOf n + 4

set_option maxHeartbeats 400000 in
theorem parts_any (n : Nat) (hn : n ≤ 1000000000) (w : World) : Calls Tryd.prog 23 #[.int .i64 (n : Int)] w fun e w' => e = .returned (.int .i64 (partsOf n : Nat)) ∧ w = w' := by
  have e1 : ((partsOf n : Nat) : Int) = (max (n : Int) 1 - 1) / 200 + 1 := by
    unfold partsOf
    omega
  rw [e1]
  go_enter Tryd.func23, Tryd.ntmps23
  go_wp2
  go_ret
  exact ⟨rfl, rfl⟩

set_option maxHeartbeats 400000 in
theorem weight_any (n : Nat) (hn : n ≤ 1000000) (w : World) : Calls Tryd.prog 25 #[.int .i64 (n : Int)] w fun e w' => e = .returned (.int .i64 (weightOf n : Nat)) ∧ w = w' := by
  have hP := fun W => parts_any n (by omega) W
  have hp1 : partsOf n ≤ 10000 := by unfold partsOf; omega
  have e1 : ((weightOf n : Nat) : Int) = (n : Int) + 76 * ((partsOf n : Nat) : Int) + 4 := by unfold weightOf; omega
  rw [e1]
  generalize partsOf n = k at *
  have h0 : ¬ (n : Int) < 0 := by omega
  go_enter Tryd.func25, Tryd.ntmps25
  go_wp2_with fail
  refine (hP _).mono ?_
  rintro e w1 ⟨rfl, rfl⟩
  go_wp2
  go_ret
  exact ⟨rfl, rfl⟩

abbrev pcZ : Array Value := #[.string ⟨#[]⟩, .int .i64 0, .int .u64 0, .int .i64 0, .int .i64 0, .int .i64 0, .int .u32 0, .string ⟨#[]⟩]
def blobPcs (lab : ByteArray) (first id : Nat) (d : List UInt8) : List Pc := (List.range (partsOf d.length)).map (pieceOf lab first id d)
theorem blobPcs_len (lab : ByteArray) (first id : Nat) (d : List UInt8) : (blobPcs lab first id d).length = partsOf d.length := by unfold blobPcs; simp
theorem blobPcs_get {lab : ByteArray} {first id : Nat} {d : List UInt8} {i : Nat} (h : i < (blobPcs lab first id d).length) : (blobPcs lab first id d)[i] = pieceOf lab first id d i := by
  simp only [blobPcs, List.getElem_map, List.getElem_range]
theorem blobPcs_take {lab : ByteArray} {first id : Nat} {d : List UInt8} {k : Nat} (h : k < (blobPcs lab first id d).length) : (blobPcs lab first id d).take (k + 1) = (blobPcs lab first id d).take k ++ [pieceOf lab first id d k] := by
  rw [List.take_succ_eq_append_getElem h, blobPcs_get h]
theorem blobBlks_pcs (lab : ByteArray) (first id : Nat) (d : List UInt8) : blobBlks lab first id d = (blobPcs lab first id d).map pieceBlk := by
  unfold blobBlks blobPcs
  rw [List.map_map]
  rfl
theorem setCells_grown (q : Nat) : ∀ (vs : List Value) (o : Nat) (w w0 : World), w0.grownBy w (some q) → w0.grownBy (w.setCells q o vs) (some q)
  | [], _, _, _, h => h
  | v :: r, o, w, w0, h => by
    rw [World.setCells]
    exact setCells_grown q r (o + 1) _ w0 (grownBy_set h o v)

/-- block q holds the pieces, with room for n -/
structure PcRow (w : World) (q : Nat) (l : List Pc) (n : Nat) : Prop where
  got : ∀ i (h : i < l.length), w.rangeAt q (i * 8) l[i].cells.toList
  room : w.there q 0 (n * 8)
  at_ : ∃ cs, At w q 90 cs
theorem PcRow.lt {w : World} {q n : Nat} {l : List Pc} (h : PcRow w q l n) : q < w.heap.size := by obtain ⟨cs, h⟩ := h.at_; exact h.lt
theorem PcRow.same {w w' : World} {q n : Nat} {l : List Pc} (h : PcRow w q l n) (hb : ∀ cs, At w q 90 cs → At w' q 90 cs) : PcRow w' q l n := by
  obtain ⟨cs, hc⟩ := h.at_
  have hc' := hb cs hc
  have e1 : ∀ o, w'.cell? ⟨q, o, none⟩ = w.cell? ⟨q, o, none⟩ := fun o => by rw [hc.cell, hc'.cell]
  have e2 : ∀ o, w'.frozen? ⟨q, o, none⟩ = w.frozen? ⟨q, o, none⟩ := fun o => by rw [hc.frozen, hc'.frozen]
  exact ⟨fun i hi j v hv => by rw [e1]; exact h.got i hi j v hv, fun j hj => by rw [e1, e2]; exact h.room j hj, ⟨cs, hc'⟩⟩
theorem PcRow.below {w w' : World} {q n : Nat} {l : List Pc} (h : PcRow w q l n) (hb : Below w.heap.size w w') : PcRow w' q l n := h.same fun cs hc => hc.below hb hc.lt
theorem PcRow.stay {w w' : World} {q n B : Nat} {l : List Pc} (h : PcRow w q l n) (hb : Stay0 B w w') : PcRow w' q l n := h.same fun cs hc => hb.at_ hc (by decide) (by decide)
theorem At.setCells {q : Nat} {t : TypeId} : ∀ (vs : List Value) (o : Nat) (w : World), (∃ cs, At w q t cs) → ∃ cs, At (w.setCells q o vs) q t cs
  | [], _, _, h => h
  | v :: r, o, w, ⟨cs, h⟩ => by
    rw [World.setCells]
    exact At.setCells r (o + 1) _ ⟨_, h.set o v⟩
theorem PcRow.step {w : World} {q n : Nat} {l : List Pc} (h : PcRow w q l n) (p : Pc) (hl : l.length < n) : PcRow (w.setCells q (l.length * 8) p.cells.toList) q (l ++ [p]) n := by
  have hth : w.there q (l.length * 8) p.cells.toList.length := fun j hj => by
    have hj' : j < 8 := hj
    have := h.room (l.length * 8 + j) (by omega)
    rwa [Nat.zero_add] at this
  refine ⟨fun i hi => ?_, World.there_setCells h.room _ _ _, At.setCells _ _ _ h.at_⟩
  rw [List.length_append] at hi
  simp at hi
  by_cases e : i = l.length
  · subst e
    rw [List.getElem_append_right (Nat.le_refl _)]
    simp only [Nat.sub_self, List.getElem_cons_zero]
    exact World.rangeAt_setCells_same _ _ _ _ hth
  · rw [List.getElem_append_left (by omega)]
    refine World.rangeAt_setCells_apart (h.got i (by omega)) _ _ _ (.inr (.inl ?_))
    show i * 8 + 8 ≤ l.length * 8
    omega

theorem info_pc : (Tryd.prog.info? 90).map (fun i => (i.zero, i.size, i.bytes)) = some (some (.agg #[.string ⟨#[]⟩, .int .i64 0, .int .u64 0, .int .i64 0, .int .i64 0, .int .i64 0, .int .u32 0, .string ⟨#[]⟩]), 8, 80) := by kernel_rfl

/-- what pieces returns -/
def PiecesRet (w : World) (l : List Pc) (e : Ending) (w' : World) : Prop := ∃ q, e = .returned (.slice (some ⟨q, 0, none⟩) l.length l.length) ∧ w.heap.size ≤ q ∧ PcRow w' q l l.length ∧ Below w.heap.size w w'

theorem extract_list (d : ByteArray) (a b : Nat) : (d.extract a b).data.toList = (d.data.toList.drop a).take (b - a) := by
  rw [ByteArray.data_extract, Array.toList_extract, List.extract_eq_take_drop]

set_option maxRecDepth 100000 in
set_option maxHeartbeats 4000000 in
theorem pieces_any (lab : ByteArray) (first id : Nat) (d : ByteArray) (hf : first ≤ 1000000) (hid : id < 18446744073709551616) (hd : d.size ≤ 4000) (w : World) (hS : Steps w) :
    Calls Tryd.prog 46 #[.string lab, .int .i64 (first : Int), .int .u64 (id : Int), .string d] w (PiecesRet w (blobPcs lab first id d.data.toList)) := by
  obtain ⟨i0, hie, hz0, hz1, hz2⟩ := info_parts info_pc
  have hdl : d.data.toList.length = d.size := by simp
  obtain ⟨n, hn⟩ : ∃ n, partsOf d.size = n := ⟨_, rfl⟩
  have hn20 : n ≤ 20 := by rw [← hn]; exact partsOf_le hd
  have hbd := partsOf_bd d.size
  rw [hn] at hbd
  have hP := fun W => parts_any d.size (by omega) W
  rw [hn] at hP
  have hSm := fun (V : World) (g : Nat) (hg : g = V.heap.size) (h : Steps V) => sum_new [d] #[.string d] 1 g V rfl rfl hg h (by simp) (by simp; omega)
  have hcat : cat [d] = d.data.toList := by simp [cat]
  rw [hcat] at hSm
  have hpl : (blobPcs lab first id d.data.toList).length = n := by rw [blobPcs_len, hdl, hn]
  have HTK : Hid (∀ k, k < n → (blobPcs lab first id d.data.toList).take (k + 1) = (blobPcs lab first id d.data.toList).take k ++ [pieceOf lab first id d.data.toList k]) := Lib.hid fun k hk => blobPcs_take (by rw [hpl]; exact hk)
  have HPC : Hid (∀ k (dk : ByteArray), dk.data.toList = d.data.toList.drop (200 * k) → pieceOf lab first id d.data.toList k = ⟨lab, first + k, id, k, n, d.size, crc d.data.toList, dk.extract 0 (min dk.size 200)⟩) := Lib.hid fun k dk h => by
    unfold pieceOf chunkOf
    rw [hdl, hn]
    congr 1
    apply ByteArray.ext
    apply Array.toList_inj.1
    rw [extract_list, h]
    have e1 : dk.size = (d.data.toList.drop (200 * k)).length := by rw [← h]; simp
    simp only [List.drop_zero, Nat.sub_zero]
    rw [e1]
    rw [List.take_eq_take_iff]
    omega
  have hcrc := crc_lt d.data.toList
  generalize crc d.data.toList = cr at *
  have hmk : ∀ W : World, (Instr.makeSlice 86 (.int .i64 (n : Int)) (.int .i64 (n : Int))).run Tryd.prog W = .ok (.slice (some ⟨W.heap.size, 0, none⟩) n n) (W.alloc (.cells (madeCells (Value.agg pcZ).cells (n * 8)) 90)) := fun W => by
    have h := run_make (P := Tryd.prog) W 86 90 i0 (.agg pcZ) Tryd.underlying86 hie hz0 .i64 .i64 (n : Int) (n : Int) (by omega) (by omega) (by rw [hz2]; omega) (by omega)
    rw [hz1] at h
    simpa using h
  have hms : (madeCells (Value.agg pcZ).cells (n * 8)).size = n * 8 := size_madeCells _ _
  generalize madeCells (Value.agg pcZ).cells (n * 8) = M at *
  have hb0 : d.data.toList.drop (200 * 0) = d.data.toList := by simp
  clear hie hz0 hz1 hz2 hcat hn hdl
  have HMS := Lib.hid hms; clear hms
  have HB0 := Lib.hid hb0; clear hb0
  have HBD := Lib.hid hbd; clear hbd
  obtain ⟨L, hL⟩ : ∃ L, blobPcs lab first id d.data.toList = L := ⟨_, rfl⟩
  have HL : Hid (blobPcs lab first id d.data.toList = L) := Lib.hid hL
  have HLn : Hid (L.length = n) := Lib.hid (by rw [← hL]; exact hpl)
  rw [hL]
  unfold PiecesRet
  rw [HLn.out]
  clear hL hpl
  go_enter Tryd.func46, Tryd.ntmps46
  go_wp2_with fail
  refine (hSm w _ rfl hS).mono ?_
  rintro e w1 ⟨rfl, rfl⟩
  have hs1 := hS.alloc (.cells #[.string d] 9)
  have hb1 : Below w.heap.size w (w.alloc (.cells #[.string d] 9)) := (Below.refl _ w).alloc (Nat.le_refl _) _
  clear hSm hS
  generalize w.alloc (.cells #[.string d] 9) = w1 at *
  go_wp2_with fail
  refine (hP w1).mono ?_
  rintro e w2 ⟨rfl, rfl⟩
  clear hP
  go_wp2_with fail
  have hat := At.new w1 90 M
  have hb2 := hb1.alloc hb1.size (.cells M 90)
  have hq := hb1.size
  have R0 : PcRow (w1.alloc (.cells M 90)) w1.heap.size [] n := ⟨fun i h => (by simp at h), fun j hj => (by
    rw [Nat.zero_add, hat.cell, Array.getElem?_eq_getElem (by rw [HMS.out]; exact hj)]
    exact ⟨rfl, hat.frozen j⟩), ⟨M, hat⟩⟩
  generalize w1.alloc (.cells M 90) = w2 at *
  generalize hQ : w1.heap.size = q at *
  have HR0 := Lib.hid R0
  have HB2 := Lib.hid hb2
  clear R0 hb2 hat hb1 hs1 hmk hQ
  go_wp2
  go_loopw [3, 24] (fun x i wr => ∃ (k : Nat) (dk : ByteArray), k ≤ n ∧ i = .int .i64 (k : Int) ∧ x = .string dk ∧ dk.size ≤ 4000 ∧ Hid (dk.data.toList = d.data.toList.drop (200 * k)) ∧ Hid (PcRow wr q (L.take k) n) ∧ Hid (Below w.heap.size w wr))
    (fun _ i _ => n - (intOf i).toNat)
  case atStart => exact ⟨0, d, by omega, rfl, rfl, hd, Lib.hid (by rw [HB0.out]), Lib.hid (by rw [List.take_zero]; exact HR0.out), HB2⟩
  case round =>
    clear HR0 HB2
    obtain ⟨k, dk, hk, rfl, rfl, hdk, HDK, HR, HB⟩ := hrel
    by_cases hlt : k < n
    · have hLk : (L.take k).length = k := by rw [List.length_take, HLn.out]; omega
      obtain ⟨m, hm⟩ : ∃ m, min dk.size 200 = m := ⟨_, rfl⟩
      have hp := HPC.out k dk HDK.out
      rw [hm] at hp
      have hmi : min (dk.size : Int) 200 = (m : Int) := by omega
      have hms : m ≤ dk.size := by omega
      have hdk2 : (dk.extract m dk.size).data.toList = d.data.toList.drop (200 * (k + 1)) := by
        rw [extract_list, HDK.out, List.drop_drop]
        have e1 : dk.size = d.data.toList.length - 200 * k := by
          have : dk.data.toList.length = dk.size := by simp
          rw [← this, HDK.out, List.length_drop]
        rw [List.take_of_length_le (by rw [List.length_drop]; omega)]
        by_cases h200 : 200 ≤ dk.size
        · rw [show 200 * k + m = 200 * (k + 1) by omega]
        · rw [List.drop_of_length_le (by omega), List.drop_of_length_le (by omega)]
      have hdk3 : (dk.extract m dk.size).size ≤ 4000 := by rw [ByteArray.size_extract]; omega
      have hR := HR.out.step (pieceOf lab first id d.data.toList k) (by rw [hLk]; exact hlt)
      rw [hLk, hp] at hR
      have hT := HTK.out k hlt
      rw [HL.out, hp] at hT
      rw [← hT] at hR
      have hth : wr.there q (k * 8) 8 := fun j hj => by
        have := HR.out.room (k * 8 + j) (by omega)
        rwa [Nat.zero_add] at this
      have hcs : (Pc.cells ⟨lab, first + k, id, k, n, d.size, cr, dk.extract 0 m⟩) = #[.string lab, .int .i64 ((first : Int) + (k : Int)), .int .u64 (id : Int), .int .i64 (k : Int), .int .i64 (n : Int), .int .i64 (d.size : Int), .int .u32 (cr : Int), .string (dk.extract 0 m)] := by
        unfold Pc.cells
        simp only [Int.natCast_add]
      rw [hcs] at hR
      have hgr := below_of_grownBy HB.out (setCells_grown q [.string lab, .int .i64 ((first : Int) + (k : Int)), .int .u64 (id : Int), .int .i64 (k : Int), .int .i64 (n : Int), .int .i64 (d.size : Int), .int .u32 (cr : Int), .string (dk.extract 0 m)] (k * 8) wr wr (grown_refl _ _)) HB.out.size hq
      have HR2 := Lib.hid hR
      have HB2 := Lib.hid hgr
      have HDK2 := Lib.hid hdk2
      have i0 : (0 : Int) ≤ (k : Int) := by omega
      have i1 : (k : Int) < (n : Int) := by omega
      clear hR hgr hdk2 hT hp hcs HR HB HDK hm hLk
      have hinf : (Tryd.prog.info? 90).map (·.size) = some 8 := by kernel_rfl
      have hone : (#[.string lab, .int .i64 ((first : Int) + (k : Int)), .int .u64 (id : Int), .int .i64 (k : Int), .int .i64 (n : Int), .int .i64 (d.size : Int), .int .u32 (cr : Int), .string (dk.extract 0 m)] : Array Value).all (·.oneCell') = true := by simp [Value.oneCell']
      have HIN := Lib.hid hinf
      have HON := Lib.hid hone
      clear hinf hone
      go_wp2_with (refine wpList_store_part rfl 90 _ _ rfl q (k * 8) #[.string lab, .int .i64 ((first : Int) + (k : Int)), .int .u64 (id : Int), .int .i64 (k : Int), .int .i64 (n : Int), .int .i64 (d.size : Int), .int .u32 (cr : Int), .string (dk.extract 0 m)] rfl rfl hth HIN.out HON.out ?_; intro w9 hw9; replace hw9 := Lib.hid hw9)
      go_roundw
      case rel => exact ⟨k + 1, dk.extract m dk.size, by omega, by go_num, rfl, hdk3, HDK2, Lib.hid (by rw [hw9.out]; exact HR2.out), Lib.hid (by rw [hw9.out]; exact HB2.out)⟩
      case measure => simp [intOf]; omega
    · obtain rfl : k = n := by omega
      have hLn : L.take k = L := List.take_of_length_le (by rw [HLn.out]; exact Nat.le_refl _)
      rw [hLn] at HR
      clear hLn
      go_wp2
      go_ret
      exact ⟨q, rfl, hq, HR.out, HB.out⟩
end Go.Proofs.YtcbeikiglccgaaaDoor
