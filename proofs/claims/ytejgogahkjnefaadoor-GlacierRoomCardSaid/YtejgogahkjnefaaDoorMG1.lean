/- Vz, Tq, Gra: merged (a claim holds few files). -/
import Derived.Test.YtejgogahkjnefaaDoorMem
import Derived.Test.YtejgogahkjnefaaDoorProg
import Derived.Test.YtejgogahkjnefaaDoorChecked
import Derived.WalkKit
import Derived.WalkSpells
import Derived.WalkLawsBesides
import Derived.Deep.MidRow
import Derived.Deep.CutBlock
import Derived.Lib.Hide
import Derived.Test.YtejgogahkjnefaaDoorTs
import Derived.Test.YtejgogahkjnefaaDoorVl
import Derived.Laws.MakeOwn
import Derived.Test.YtejgogahkjnefaaDoorEy
import Derived.Test.YtejgogahkjnefaaDoorSc
import Derived.Test.YtejgogahkjnefaaDoorJn
/- Laws of our own: a whole struct, by value, out of and into a block that is known whole. No program is named here. -/
namespace Go.Proofs.YtejgogahkjnefaaDoor
open Go.RowKit
set_option linter.unusedVariables false
section
variable {P : Program}
theorem unhid {p : Prop} (h : Hid p) : p := h

theorem setRow_at {w : World} {g : Nat} {t : TypeId} {old cells : Array Value} (h : At w g t old) : At (w.setRow g cells) g t cells ∧ w.grownBy (w.setRow g cells) (some g) := by
  unfold At at h
  refine ⟨?_, ⟨rfl, rfl, rfl, by simp [World.setRow], fun i hi hne => ?_⟩⟩
  · show (w.setRow g cells).heap[g]? = _
    simp only [World.setRow, Array.getElem?_modify, h]
    simp
  · have hne' : ¬ g = i := fun e => hne (by rw [e])
    simp only [World.setRow, Array.getElem?_modify, if_neg hne']

theorem wpList_store_whole {ops : Array Oper} {rest : List Oper} {o : Oper} {a : Act} {w : World} {Q : Exit → Act → World → Prop} (hgd : o.guard = none) (ty : TypeId) (x y : Operand) (ho : o.op = .store ty x y)
    (g : Nat) (cells : Array Value) (hx : a.eval x = .pointer (some ⟨g, 0, none⟩)) (hy : a.eval y = .agg cells)
    (t : TypeId) (old : Array Value) (hg : At w g t old) (hi : (P.info? ty).map (·.size) = some cells.size)
    (hold : old.size = cells.size) (h1 : cells.all (·.oneCell') = true)
    (h : ∀ w', At w' g t cells → w.grownBy w' (some g) → wpList P ops Q rest (a.put o.dst undef) w') : wpList P ops Q (o :: rest) a w :=
  wpList_store_row hgd ty x y ho g cells hx hy t old hg hi hold h1 (h _ (setRow_at hg).1 (setRow_at hg).2)

theorem wpList_load_whole {ops : Array Oper} {rest : List Oper} {o : Oper} {a : Act} {w : World} {Q : Exit → Act → World → Prop} (hgd : o.guard = none) (ty : TypeId) (x : Operand) (ho : o.op = .load ty x)
    (g : Nat) (hx : a.eval x = .pointer (some ⟨g, 0, none⟩)) (t : TypeId) (cs : Array Value) (d : TypeDesc) (hg : At w g t cs)
    (hu : P.underlying ty = some d) (hd : (match d with | .struct _ | .array _ _ => true | _ => false) = true) (hi : (P.info? ty).map (·.size) = some cs.size)
    (h : wpList P ops Q rest (a.put o.dst (.agg cs)) w) : wpList P ops Q (o :: rest) a w :=
  wpList_load_row hgd ty x ho g hx t cs (0, 0) d hg hu hd hi h
/-- a whole struct into the midst of a block; the world behind it is a letter -/
theorem wpList_store_part {ops : Array Oper} {rest : List Oper} {op : Oper} {a : Act} {w : World} {Q : Exit → Act → World → Prop} (hgd : op.guard = none) (ty : TypeId) (x y : Operand) (ho : op.op = .store ty x y)
    (b o : Nat) (cells : Array Value) (hx : a.eval x = .pointer (some ⟨b, o, none⟩)) (hy : a.eval y = .agg cells)
    (ht : w.there b o cells.size) (hi : (P.info? ty).map (·.size) = some cells.size) (h1 : cells.all (·.oneCell') = true)
    (h : ∀ w', w' = w.setCells b o cells.toList → wpList P ops Q rest (a.put op.dst undef) w') : wpList P ops Q (op :: rest) a w :=
  wpList_store_mid hgd ty x y ho b o cells hx hy ht hi h1 (h _ rfl)
/-- a whole struct out of the midst of a block -/
theorem wpList_load_part {ops : Array Oper} {rest : List Oper} {op : Oper} {a : Act} {w : World} {Q : Exit → Act → World → Prop} (hgd : op.guard = none) (ty : TypeId) (x : Operand) (ho : op.op = .load ty x)
    (b o : Nat) (hx : a.eval x = .pointer (some ⟨b, o, none⟩)) (cells : Array Value) (d : TypeDesc) (hc : w.rangeAt b o cells.toList)
    (hu : P.underlying ty = some d) (hd : d.isRow = true) (hi : (P.info? ty).map (·.size) = some cells.size)
    (h : wpList P ops Q rest (a.put op.dst (.agg cells)) w) : wpList P ops Q (op :: rest) a w := by
  refine wpList_load_mid hgd ty x ho b o hx cells.toList d hc hu hd (by simpa using hi) ?_
  simpa using h
end

theorem res_row_tmp {fn : Func} {p u : Tmp} {ty : TypeId} (h : fn.results = #[.cell p ty, .tmp u]) (tmps : Array Value) (w : World) (g : Nat) (t : TypeId) (cs : Array Value) (fs : Array Field)
    (hp : tmps.getD p undef = .pointer (some ⟨g, 0, none⟩)) (hg : At w g t cs)
    (hu : Tryd.prog.underlying ty = some (.struct fs)) (hi : (Tryd.prog.info? ty).map (·.size) = some cs.size) :
    (results fn tmps).run Tryd.prog w = .ok (.tuple #[.agg cs, tmps.getD u undef]) w := by
  have hp' : tmps[p]?.getD undef = .pointer (some ⟨g, 0, none⟩) := by simpa using hp
  rw [results_cell_tmp h]
  simp [hp', asAddr, run_loadVar_row (P := Tryd.prog) w g t ty cs (0, 0) (.struct fs) hg hu rfl hi, Result.andThen]

end Go.Proofs.YtejgogahkjnefaaDoor

/- tapefmt.Parts, Weight, pieces: their walks. -/
namespace Go.Proofs.YtejgogahkjnefaaDoor
open Go.RowKit
open Sm
set_option linter.unusedVariables false

def weightOf (n : Nat) : Nat := n + 76 * partsOf n + 4

set_option maxHeartbeats 400000 in
theorem parts_any (n : Nat) (hn : n ≤ 1000000000) (w : World) : Calls Tryd.prog 47 #[.int .i64 (n : Int)] w fun e w' => e = .returned (.int .i64 (partsOf n : Nat)) ∧ w = w' := by
  have e1 : ((partsOf n : Nat) : Int) = (max (n : Int) 1 - 1) / 200 + 1 := by
    unfold partsOf
    omega
  rw [e1]
  go_enter Tryd.func47, Tryd.ntmps47
  go_wp2
  go_ret
  exact ⟨rfl, rfl⟩

set_option maxHeartbeats 400000 in
theorem weight_any (n : Nat) (hn : n ≤ 1000000) (w : World) : Calls Tryd.prog 38 #[.int .i64 (n : Int)] w fun e w' => e = .returned (.int .i64 (weightOf n : Nat)) ∧ w = w' := by
  have hP := fun W => parts_any n (by omega) W
  have hp1 : partsOf n ≤ 10000 := by unfold partsOf; omega
  have e1 : ((weightOf n : Nat) : Int) = (n : Int) + 76 * ((partsOf n : Nat) : Int) + 4 := by unfold weightOf; omega
  rw [e1]
  generalize partsOf n = k at *
  have h0 : ¬ (n : Int) < 0 := by omega
  go_enter Tryd.func38, Tryd.ntmps38
  go_wp2_with fail
  refine (hP _).mono ?_
  rintro e w1 ⟨rfl, rfl⟩
  go_wp2
  go_ret
  exact ⟨rfl, rfl⟩

abbrev pcZ : Array Value := #[.string ⟨#[]⟩, .int .i64 0, .int .u64 0, .int .i64 0, .int .i64 0, .int .i64 0, .int .u32 0, .string ⟨#[]⟩]
def blobPcs (lab : ByteArray) (first id : Nat) (d : List UInt8) : List Pc := (List.range (partsOf d.length)).map (pieceOf lab first id d)
theorem blobPcs_len (lab : ByteArray) (first id : Nat) (d : List UInt8) : (blobPcs lab first id d).length = partsOf d.length := by unfold blobPcs; simp
theorem blobPcs_get {lab : ByteArray} {first id : Nat} {d : List UInt8} {i : Nat} (h : i < (blobPcs lab first id d).length) : (blobPcs lab first id d)[i] = pieceOf lab first id d i := by
  simp only [blobPcs, List.getElem_map, List.getElem_range]
theorem blobPcs_take {lab : ByteArray} {first id : Nat} {d : List UInt8} {k : Nat} (h : k < (blobPcs lab first id d).length) : (blobPcs lab first id d).take (k + 1) = (blobPcs lab first id d).take k ++ [pieceOf lab first id d k] := by
  rw [List.take_succ_eq_append_getElem h, blobPcs_get h]
theorem blobBlks_pcs (lab : ByteArray) (first id : Nat) (d : List UInt8) : blobBlks lab first id d = (blobPcs lab first id d).map pieceBlk := by
  unfold blobBlks blobPcs
  rw [List.map_map]
  rfl
theorem setCells_grown (q : Nat) : ∀ (vs : List Value) (o : Nat) (w w0 : World), w0.grownBy w (some q) → w0.grownBy (w.setCells q o vs) (some q)
  | [], _, _, _, h => h
  | v :: r, o, w, w0, h => by
    rw [World.setCells]
    exact setCells_grown q r (o + 1) _ w0 (grownBy_set h o v)

/-- block q holds the pieces, with room for n -/
structure PcRow (w : World) (q : Nat) (l : List Pc) (n : Nat) : Prop where
  got : ∀ i (h : i < l.length), w.rangeAt q (i * 8) l[i].cells.toList
  room : w.there q 0 (n * 8)
  at_ : ∃ cs, At w q 83 cs
theorem PcRow.lt {w : World} {q n : Nat} {l : List Pc} (h : PcRow w q l n) : q < w.heap.size := by obtain ⟨cs, h⟩ := h.at_; exact h.lt
theorem PcRow.same {w w' : World} {q n : Nat} {l : List Pc} (h : PcRow w q l n) (hb : ∀ cs, At w q 83 cs → At w' q 83 cs) : PcRow w' q l n := by
  obtain ⟨cs, hc⟩ := h.at_
  have hc' := hb cs hc
  have e1 : ∀ o, w'.cell? ⟨q, o, none⟩ = w.cell? ⟨q, o, none⟩ := fun o => by rw [hc.cell, hc'.cell]
  have e2 : ∀ o, w'.frozen? ⟨q, o, none⟩ = w.frozen? ⟨q, o, none⟩ := fun o => by rw [hc.frozen, hc'.frozen]
  exact ⟨fun i hi j v hv => by rw [e1]; exact h.got i hi j v hv, fun j hj => by rw [e1, e2]; exact h.room j hj, ⟨cs, hc'⟩⟩
theorem PcRow.below {w w' : World} {q n : Nat} {l : List Pc} (h : PcRow w q l n) (hb : Below w.heap.size w w') : PcRow w' q l n := h.same fun cs hc => hc.below hb hc.lt
theorem PcRow.stay {w w' : World} {q n B : Nat} {l : List Pc} (h : PcRow w q l n) (hb : Stay0 B w w') : PcRow w' q l n := h.same fun cs hc => hb.at_ hc (by decide) (by decide)
theorem At.setCells {q : Nat} {t : TypeId} : ∀ (vs : List Value) (o : Nat) (w : World), (∃ cs, At w q t cs) → ∃ cs, At (w.setCells q o vs) q t cs
  | [], _, _, h => h
  | v :: r, o, w, ⟨cs, h⟩ => by
    rw [World.setCells]
    exact At.setCells r (o + 1) _ ⟨_, h.set o v⟩
theorem PcRow.step {w : World} {q n : Nat} {l : List Pc} (h : PcRow w q l n) (p : Pc) (hl : l.length < n) : PcRow (w.setCells q (l.length * 8) p.cells.toList) q (l ++ [p]) n := by
  have hth : w.there q (l.length * 8) p.cells.toList.length := fun j hj => by
    have hj' : j < 8 := hj
    have := h.room (l.length * 8 + j) (by omega)
    rwa [Nat.zero_add] at this
  refine ⟨fun i hi => ?_, World.there_setCells h.room _ _ _, At.setCells _ _ _ h.at_⟩
  rw [List.length_append] at hi
  simp at hi
  by_cases e : i = l.length
  · subst e
    rw [List.getElem_append_right (Nat.le_refl _)]
    simp only [Nat.sub_self, List.getElem_cons_zero]
    exact World.rangeAt_setCells_same _ _ _ _ hth
  · rw [List.getElem_append_left (by omega)]
    refine World.rangeAt_setCells_apart (h.got i (by omega)) _ _ _ (.inr (.inl ?_))
    show i * 8 + 8 ≤ l.length * 8
    omega

theorem info_pc : (Tryd.prog.info? 83).map (fun i => (i.zero, i.size, i.bytes)) = some (some (.agg #[.string ⟨#[]⟩, .int .i64 0, .int .u64 0, .int .i64 0, .int .i64 0, .int .i64 0, .int .u32 0, .string ⟨#[]⟩]), 8, 80) := by kernel_rfl

/-- what pieces returns -/
def PiecesRet (w : World) (l : List Pc) (e : Ending) (w' : World) : Prop := ∃ q, e = .returned (.slice (some ⟨q, 0, none⟩) l.length l.length) ∧ w.heap.size ≤ q ∧ PcRow w' q l l.length ∧ Below w.heap.size w w'

theorem extract_list (d : ByteArray) (a b : Nat) : (d.extract a b).data.toList = (d.data.toList.drop a).take (b - a) := by
  rw [ByteArray.data_extract, Array.toList_extract, List.extract_eq_take_drop]

set_option maxRecDepth 100000 in
set_option maxHeartbeats 4000000 in
theorem pieces_any (lab : ByteArray) (first id : Nat) (d : ByteArray) (hf : first ≤ 1000000) (hid : id < 18446744073709551616) (hd : d.size ≤ 4000) (w : World) (hS : Steps w) :
    Calls Tryd.prog 39 #[.string lab, .int .i64 (first : Int), .int .u64 (id : Int), .string d] w (PiecesRet w (blobPcs lab first id d.data.toList)) := by
  obtain ⟨i0, hie, hz0, hz1, hz2⟩ := info_parts info_pc
  have hdl : d.data.toList.length = d.size := by simp
  obtain ⟨n, hn⟩ : ∃ n, partsOf d.size = n := ⟨_, rfl⟩
  have hn20 : n ≤ 20 := by rw [← hn]; exact partsOf_le hd
  have hbd := partsOf_bd d.size
  rw [hn] at hbd
  have hP := fun W => parts_any d.size (by omega) W
  rw [hn] at hP
  have hSm := fun (V : World) (g : Nat) (hg : g = V.heap.size) (h : Steps V) => sum_new [d] #[.string d] 1 g V rfl rfl hg h (by simp) (by simp; omega)
  have hcat : cat [d] = d.data.toList := by simp [cat]
  rw [hcat] at hSm
  have hpl : (blobPcs lab first id d.data.toList).length = n := by rw [blobPcs_len, hdl, hn]
  have HTK : Hid (∀ k, k < n → (blobPcs lab first id d.data.toList).take (k + 1) = (blobPcs lab first id d.data.toList).take k ++ [pieceOf lab first id d.data.toList k]) := Lib.hid fun k hk => blobPcs_take (by rw [hpl]; exact hk)
  have HPC : Hid (∀ k (dk : ByteArray), dk.data.toList = d.data.toList.drop (200 * k) → pieceOf lab first id d.data.toList k = ⟨lab, first + k, id, k, n, d.size, crc d.data.toList, dk.extract 0 (min dk.size 200)⟩) := Lib.hid fun k dk h => by
    unfold pieceOf chunkOf
    rw [hdl, hn]
    congr 1
    apply ByteArray.ext
    apply Array.toList_inj.1
    rw [extract_list, h]
    have e1 : dk.size = (d.data.toList.drop (200 * k)).length := by rw [← h]; simp
    simp only [List.drop_zero, Nat.sub_zero]
    rw [e1]
    rw [List.take_eq_take_iff]
    omega
  have hcrc := crc_lt d.data.toList
  generalize crc d.data.toList = cr at *
  have hmk : ∀ W : World, (Instr.makeSlice 79 (.int .i64 (n : Int)) (.int .i64 (n : Int))).run Tryd.prog W = .ok (.slice (some ⟨W.heap.size, 0, none⟩) n n) (W.alloc (.cells (madeCells (Value.agg pcZ).cells (n * 8)) 83)) := fun W => by
    have h := run_make (P := Tryd.prog) W 79 83 i0 (.agg pcZ) Tryd.underlying79 hie hz0 .i64 .i64 (n : Int) (n : Int) (by omega) (by omega) (by rw [hz2]; omega) (by omega)
    rw [hz1] at h
    simpa using h
  have hms : (madeCells (Value.agg pcZ).cells (n * 8)).size = n * 8 := size_madeCells _ _
  generalize madeCells (Value.agg pcZ).cells (n * 8) = M at *
  have hb0 : d.data.toList.drop (200 * 0) = d.data.toList := by simp
  clear hie hz0 hz1 hz2 hcat hn hdl
  have HMS := Lib.hid hms; clear hms
  have HB0 := Lib.hid hb0; clear hb0
  have HBD := Lib.hid hbd; clear hbd
  obtain ⟨L, hL⟩ : ∃ L, blobPcs lab first id d.data.toList = L := ⟨_, rfl⟩
  have HL : Hid (blobPcs lab first id d.data.toList = L) := Lib.hid hL
  have HLn : Hid (L.length = n) := Lib.hid (by rw [← hL]; exact hpl)
  rw [hL]
  unfold PiecesRet
  rw [HLn.out]
  clear hL hpl
  go_enter Tryd.func39, Tryd.ntmps39
  go_wp2_with fail
  refine (hSm w _ rfl hS).mono ?_
  rintro e w1 ⟨rfl, rfl⟩
  have hs1 := hS.alloc (.cells #[.string d] 9)
  have hb1 : Below w.heap.size w (w.alloc (.cells #[.string d] 9)) := (Below.refl _ w).alloc (Nat.le_refl _) _
  clear hSm hS
  generalize w.alloc (.cells #[.string d] 9) = w1 at *
  go_wp2_with fail
  refine (hP w1).mono ?_
  rintro e w2 ⟨rfl, rfl⟩
  clear hP
  go_wp2_with fail
  have hat := At.new w1 83 M
  have hb2 := hb1.alloc hb1.size (.cells M 83)
  have hq := hb1.size
  have R0 : PcRow (w1.alloc (.cells M 83)) w1.heap.size [] n := ⟨fun i h => (by simp at h), fun j hj => (by
    rw [Nat.zero_add, hat.cell, Array.getElem?_eq_getElem (by rw [HMS.out]; exact hj)]
    exact ⟨rfl, hat.frozen j⟩), ⟨M, hat⟩⟩
  generalize w1.alloc (.cells M 83) = w2 at *
  generalize hQ : w1.heap.size = q at *
  have HR0 := Lib.hid R0
  have HB2 := Lib.hid hb2
  clear R0 hb2 hat hb1 hs1 hmk hQ
  go_wp2
  go_loopw [3, 24] (fun x i wr => ∃ (k : Nat) (dk : ByteArray), k ≤ n ∧ i = .int .i64 (k : Int) ∧ x = .string dk ∧ dk.size ≤ 4000 ∧ Hid (dk.data.toList = d.data.toList.drop (200 * k)) ∧ Hid (PcRow wr q (L.take k) n) ∧ Hid (Below w.heap.size w wr))
    (fun _ i _ => n - (intOf i).toNat)
  case atStart => exact ⟨0, d, by omega, rfl, rfl, hd, Lib.hid (by rw [HB0.out]), Lib.hid (by rw [List.take_zero]; exact HR0.out), HB2⟩
  case round =>
    clear HR0 HB2
    obtain ⟨k, dk, hk, rfl, rfl, hdk, HDK, HR, HB⟩ := hrel
    by_cases hlt : k < n
    · have hLk : (L.take k).length = k := by rw [List.length_take, HLn.out]; omega
      obtain ⟨m, hm⟩ : ∃ m, min dk.size 200 = m := ⟨_, rfl⟩
      have hp := HPC.out k dk HDK.out
      rw [hm] at hp
      have hmi : min (dk.size : Int) 200 = (m : Int) := by omega
      have hms : m ≤ dk.size := by omega
      have hdk2 : (dk.extract m dk.size).data.toList = d.data.toList.drop (200 * (k + 1)) := by
        rw [extract_list, HDK.out, List.drop_drop]
        have e1 : dk.size = d.data.toList.length - 200 * k := by
          have : dk.data.toList.length = dk.size := by simp
          rw [← this, HDK.out, List.length_drop]
        rw [List.take_of_length_le (by rw [List.length_drop]; omega)]
        by_cases h200 : 200 ≤ dk.size
        · rw [show 200 * k + m = 200 * (k + 1) by omega]
        · rw [List.drop_of_length_le (by omega), List.drop_of_length_le (by omega)]
      have hdk3 : (dk.extract m dk.size).size ≤ 4000 := by rw [ByteArray.size_extract]; omega
      have hR := HR.out.step (pieceOf lab first id d.data.toList k) (by rw [hLk]; exact hlt)
      rw [hLk, hp] at hR
      have hT := HTK.out k hlt
      rw [HL.out, hp] at hT
      rw [← hT] at hR
      have hth : wr.there q (k * 8) 8 := fun j hj => by
        have := HR.out.room (k * 8 + j) (by omega)
        rwa [Nat.zero_add] at this
      have hcs : (Pc.cells ⟨lab, first + k, id, k, n, d.size, cr, dk.extract 0 m⟩) = #[.string lab, .int .i64 ((first : Int) + (k : Int)), .int .u64 (id : Int), .int .i64 (k : Int), .int .i64 (n : Int), .int .i64 (d.size : Int), .int .u32 (cr : Int), .string (dk.extract 0 m)] := by
        unfold Pc.cells
        simp only [Int.natCast_add]
      rw [hcs] at hR
      have hgr := below_of_grownBy HB.out (setCells_grown q [.string lab, .int .i64 ((first : Int) + (k : Int)), .int .u64 (id : Int), .int .i64 (k : Int), .int .i64 (n : Int), .int .i64 (d.size : Int), .int .u32 (cr : Int), .string (dk.extract 0 m)] (k * 8) wr wr (grown_refl _ _)) HB.out.size hq
      have HR2 := Lib.hid hR
      have HB2 := Lib.hid hgr
      have HDK2 := Lib.hid hdk2
      have i0 : (0 : Int) ≤ (k : Int) := by omega
      have i1 : (k : Int) < (n : Int) := by omega
      clear hR hgr hdk2 hT hp hcs HR HB HDK hm hLk
      have hinf : (Tryd.prog.info? 83).map (·.size) = some 8 := by kernel_rfl
      have hone : (#[.string lab, .int .i64 ((first : Int) + (k : Int)), .int .u64 (id : Int), .int .i64 (k : Int), .int .i64 (n : Int), .int .i64 (d.size : Int), .int .u32 (cr : Int), .string (dk.extract 0 m)] : Array Value).all (·.oneCell') = true := by simp [Value.oneCell']
      have HIN := Lib.hid hinf
      have HON := Lib.hid hone
      clear hinf hone
      go_wp2_with (refine wpList_store_part rfl 83 _ _ rfl q (k * 8) #[.string lab, .int .i64 ((first : Int) + (k : Int)), .int .u64 (id : Int), .int .i64 (k : Int), .int .i64 (n : Int), .int .i64 (d.size : Int), .int .u32 (cr : Int), .string (dk.extract 0 m)] rfl rfl hth HIN.out HON.out ?_; intro w9 hw9; replace hw9 := Lib.hid hw9)
      go_roundw
      case rel => exact ⟨k + 1, dk.extract m dk.size, by omega, by go_num, rfl, hdk3, HDK2, Lib.hid (by rw [hw9.out]; exact HR2.out), Lib.hid (by rw [hw9.out]; exact HB2.out)⟩
      case measure => simp [intOf]; omega
    · obtain rfl : k = n := by omega
      have hLn : L.take k = L := List.take_of_length_le (by rw [HLn.out]; exact Nat.le_refl _)
      rw [hLn] at HR
      clear hLn
      go_wp2
      go_ret
      exact ⟨q, rfl, hq, HR.out, HB.out⟩
end Go.Proofs.YtejgogahkjnefaaDoor

/- glaciertop.live, chunk.Name of 1: their walks. -/
namespace Go.Proofs.YtejgogahkjnefaaDoor
open Go.RowKit
open Sm
open Wm (num tk)
set_option linter.unusedVariables false
set_option linter.unusedSimpArgs false

theorem nums_300 : unums [300] = [130, 44] := by simp [unums, Wm.num, Wm.cont]
theorem crc_nine : crc [49, 50, 51, 52, 53, 54, 55, 56, 57] = 3421780262 := by decide +kernel
theorem itoa_one (w : World) : Calls Tryd.prog 86 #[.int .i64 1] w fun e w' => e = .returned (.string ⟨#[49]⟩) ∧ w' = w := by
  have h := Tryd.strconv_Itoa_small 1 (by decide) w
  have e : (⟨(Lib.decDigits 1).toArray⟩ : ByteArray) = ⟨#[49]⟩ := by unfold Lib.decDigits; rfl
  rw [e] at h
  exact h
theorem repeat_six (w : World) : Calls Tryd.prog 87 #[.string ⟨#[48]⟩, .int .i64 6] w fun e w' => e = .returned (.string ⟨#[48, 48, 48, 48, 48, 48]⟩) ∧ Below w.heap.size w w' :=
  Tryd.strings_Repeat ⟨#[48]⟩ 6 w (by decide) (by decide)

set_option maxRecDepth 100000 in
set_option maxHeartbeats 1000000 in
theorem name_one (w : World) : Calls Tryd.prog 67 #[.int .i64 1] w fun e w' => e = .returned (.string ⟨#[115, 101, 103, 45, 48, 48, 48, 48, 48, 48, 49]⟩) ∧ Below w.heap.size w w' := by
  have hI := itoa_one w
  have hz : (⟨#[49]⟩ : ByteArray).size = 1 := rfl
  have happ : (⟨#[115, 101, 103, 45]⟩ : ByteArray) ++ ⟨#[48, 48, 48, 48, 48, 48]⟩ ++ ⟨#[49]⟩ = ⟨#[115, 101, 103, 45, 48, 48, 48, 48, 48, 48, 49]⟩ := by decide +kernel
  have HA := Lib.hid happ
  have h4 : (⟨#[115, 101, 103, 45]⟩ : ByteArray).size = 4 := rfl
  have hz6 : (⟨#[48, 48, 48, 48, 48, 48]⟩ : ByteArray).size = 6 := rfl
  obtain ⟨s1, hs1⟩ : ∃ s, (⟨#[49]⟩ : ByteArray) = s := ⟨_, rfl⟩
  have hR := fun W => repeat_six W
  obtain ⟨s6, hs6⟩ : ∃ s, (⟨#[48, 48, 48, 48, 48, 48]⟩ : ByteArray) = s := ⟨_, rfl⟩
  obtain ⟨sN, hsN⟩ : ∃ s, (⟨#[115, 101, 103, 45, 48, 48, 48, 48, 48, 48, 49]⟩ : ByteArray) = s := ⟨_, rfl⟩
  rw [hs6] at hR hz6
  rw [hs1] at hI hz
  rw [hs1, hs6, hsN] at HA
  rw [hsN]
  clear happ hs1 hs6 hsN
  have HR := Lib.hid hR
  clear hR
  go_enter Tryd.func67, Tryd.ntmps67
  go_wp2_with fail
  refine hI.mono ?_
  rintro e w1 ⟨rfl, rfl⟩
  clear hI
  go_wp2_with fail
  refine (HR.out w1).mono ?_
  rintro e w2 ⟨rfl, hb2⟩
  have HB := Lib.hid hb2
  clear hb2 HR
  go_wp2
  go_ret
  exact ⟨by rw [HA.out]; rfl, HB.out⟩

set_option maxRecDepth 100000 in
set_option maxHeartbeats 2000000 in
theorem live_any (w : World) (hS : Steps w) : Calls Tryd.prog 26 #[] w fun e w' => e = .returned (.bool true) ∧ Below w.heap.size w w' := by
  have hS1 := fun W (h : Steps W) => sum_new [⟨#[49, 50, 51, 52, 53, 54, 55, 56, 57]⟩] #[.string ⟨#[49, 50, 51, 52, 53, 54, 55, 56, 57]⟩] 1 W.heap.size W rfl rfl rfl h (by simp) (by decide +kernel)
  have c1 : crc (cat [⟨#[49, 50, 51, 52, 53, 54, 55, 56, 57]⟩]) = 3421780262 := by
    have e : cat [⟨#[49, 50, 51, 52, 53, 54, 55, 56, 57]⟩] = [49, 50, 51, 52, 53, 54, 55, 56, 57] := by simp [cat]
    rw [e]; exact crc_nine
  have d1 : ((crc (cat [⟨#[49, 50, 51, 52, 53, 54, 55, 56, 57]⟩]) : Nat) : Int) = 3421780262 := by rw [c1]; rfl
  rw [d1] at hS1
  have hP := fun W => parts_any 401 (by decide) W
  have hp3 : ((partsOf 401 : Nat) : Int) = 3 := by decide
  rw [hp3] at hP
  have hN := fun W => name_one W
  have HS := Lib.hid hS
  have H1 := Lib.hid hS1
  have HP := Lib.hid hP
  have HN := Lib.hid hN
  clear hS1 c1 d1 hP hp3 hN hS
  go_enter Tryd.func26, Tryd.ntmps26
  go_wp2_with fail
  have hb0 : Below w.heap.size w (w.alloc (.cells #[.pointer none, .int .i64 0] 114)) := (Below.refl _ w).alloc (Nat.le_refl _) _
  have he0 := EncIs.new w
  have hz0 : (w.alloc (.cells #[.pointer none, .int .i64 0] 114)).heap.size = w.heap.size + 1 := by simp
  generalize w.alloc (.cells #[.pointer none, .int .i64 0] 114) = w0 at *
  have Z0 := Lib.hid hz0; clear hz0
  generalize hG : w.heap.size = G at *
  have HG := Lib.hid hG; clear hG
  have hea : EncIs (w0.alloc (.cells #[.int .u64 300] 23)) G [] := he0.same (World.grownBy_alloc _ _ _)
  refine (encU_any G [] [300] (by simp) _ _ _ hea (Lies.new w0 23 #[.int .u64 300] _ _ Z0.out.symm rfl) (by simp)).mono ?_
  rintro x w1 ⟨rfl, he1, hg1⟩
  rw [nums_300] at he1
  have hb1 : Below G w w1 := below_of_grownBy (hb0.alloc (by rw [Z0.out]; omega) _) hg1 (by simp; rw [Z0.out]; omega) (Nat.le_refl _)
  have hs1 : G ≤ w1.heap.size := by have := hg1.size; simp at this; rw [Z0.out] at this; omega
  clear hg1 he0 hb0 hea
  go_wp2_with fail
  refine (bytes_any G _ w1 he1 (by decide)).mono ?_
  rintro x w2 ⟨rfl, hb2⟩
  have HB2 := Lib.hid (hb1.trans (hb2.mono hs1))
  have S2 := Lib.hid (HS.out.below (by rw [HG.out]; exact HB2.out) HS.out.1)
  clear he1 hb1 hb2 hs1
  go_wp2_with fail
  refine (H1.out w2 S2.out).mono ?_
  rintro z w3 ⟨rfl, rfl⟩
  go_wp2_with fail
  refine (HP.out _).mono ?_
  rintro z w4 ⟨rfl, rfl⟩
  go_wp2_with fail
  refine (HN.out _).mono ?_
  rintro z w5 ⟨rfl, hb5⟩
  have hs2 := HB2.out.size
  have hg2 := HG.out
  have HB5 := Lib.hid ((HB2.out.alloc (by omega) _).trans (hb5.mono (by simp; omega)))
  clear hb5
  go_wp2
  go_ret
  exact ⟨rfl, by rw [HG.out]; exact HB5.out⟩
end Go.Proofs.YtejgogahkjnefaaDoor
