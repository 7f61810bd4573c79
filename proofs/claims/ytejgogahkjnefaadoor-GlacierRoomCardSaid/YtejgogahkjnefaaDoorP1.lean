/- A disk in memory: its block, its map of files, their texts. -/
import Derived.Test.YtejgogahkjnefaaDoorP0
import Derived.Test.YtejgogahkjnefaaDoorMd
import Derived.Maps.OwnSet
import Derived.Lib.BufferWrite
import Derived.Lib.Hide
import Derived.Sort.Grow
import Derived.Shelf.SlSortCmp.QuietGrown
namespace Go.Proofs.YtejgogahkjnefaaDoor
open Go.RowKit Go.Maps
open Pm (Key Fi St Files)
set_option linter.unusedVariables false

/-- a text as the program holds it: nil, or the first n of c bytes of block g -/
structure Tx where
  g : Option Nat
  n : Nat
  c : Nat
def Tx.val (x : Tx) : Value := .slice (x.g.map fun g => ⟨g, 0, none⟩) x.n x.c
def Tx.no : Tx := ⟨none, 0, 0⟩
/-- a file as the program holds it -/
structure FV where
  a : Tx
  ea : Bool
  b : Tx
  eb : Bool
def FV.no : FV := ⟨.no, false, .no, false⟩
def FV.val (f : FV) : Value := .agg #[f.a.val, .bool f.ea, f.b.val, .bool f.eb]
theorem Tx.val_inj {x y : Tx} (h : x.val = y.val) : x = y := by
  obtain ⟨g, n, c⟩ := x
  obtain ⟨g', n', c'⟩ := y
  simp only [Tx.val, Value.slice.injEq] at h
  obtain ⟨h1, rfl, rfl⟩ := h
  cases g <;> cases g' <;> simp_all
theorem FV.val_inj {x y : FV} (h : x.val = y.val) : x = y := by
  obtain ⟨a, ea, b, eb⟩ := x
  obtain ⟨a', ea', b', eb'⟩ := y
  simp [FV.val] at h
  obtain ⟨h1, rfl, h2, rfl⟩ := h
  rw [Tx.val_inj h1, Tx.val_inj h2]

/-- what stands for a file in the map's reading -/
def Tx.code (x : Tx) : DataW Unit := .agg [.lit (.int .i64 (match x.g with | some g => (g : Int) + 1 | none => 0)), .lit (.int .i64 x.n), .lit (.int .i64 x.c)]
def FV.code (f : FV) : DataW Unit := .agg [f.a.code, .lit (.bool f.ea), f.b.code, .lit (.bool f.eb)]
theorem Tx.code_inj {x y : Tx} (h : x.code = y.code) : x = y := by
  obtain ⟨g, n, c⟩ := x
  obtain ⟨g', n', c'⟩ := y
  simp [Tx.code] at h
  obtain ⟨h1, h2, h3⟩ := h
  obtain rfl : n = n' := by omega
  obtain rfl : c = c' := by omega
  cases g <;> cases g' <;> simp_all <;> omega
theorem FV.code_inj {x y : FV} (h : x.code = y.code) : x = y := by
  obtain ⟨a, ea, b, eb⟩ := x
  obtain ⟨a', ea', b', eb'⟩ := y
  simp [FV.code] at h
  obtain ⟨h1, rfl, h2, rfl⟩ := h
  rw [Tx.code_inj h1, Tx.code_inj h2]
open Classical in
noncomputable def fileR (v : Value) : Option (DataW Unit × List MemPlace) := if h : ∃ f : FV, v = f.val then some ((Classical.choose h).code, []) else none
theorem fileR_val (f : FV) : fileR f.val = some (f.code, []) := by
  have h : ∃ f' : FV, f.val = f'.val := ⟨f, rfl⟩
  unfold fileR
  rw [dif_pos h, ← FV.val_inj (Classical.choose_spec h)]
theorem fileR_inv {v : Value} {f : FV} {ps : List MemPlace} (h : fileR v = some (f.code, ps)) : v = f.val := by
  unfold fileR at h
  split at h
  · rename_i h1
    have h2 := Classical.choose_spec h1
    simp at h
    rw [FV.code_inj h.1] at h2
    exact h2
  · cases h

/-- the files of a disk: as the program holds them, and what they are -/
abbrev Held := List (Key × FV × Fi)
def dat (G : Held) : List (Lit × DataW Unit) := G.map fun p => (.string p.1, p.2.1.code)
def fvAt (G : Held) (k : Key) : FV := ((Pm.get k G).map (·.1)).getD .no
def abs (G : Held) : Files := Pm.vmap (·.2) G

theorem insert_dat (k : Key) (v : FV × Fi) : ∀ G : Held, DataW.insert (.string k, v.1.code) (dat G) = dat (Pm.ins (k, v) G)
  | [] => rfl
  | y :: r => by
    unfold Pm.ins dat
    rw [List.map_cons]
    unfold DataW.insert
    simp only [Lit.before]
    have := insert_dat k v r
    unfold dat at this
    rw [this]
    by_cases hb : bytesBefore k y.1 = true
    · simp [hb]
    · simp [hb]
theorem filter_dat (k : Key) (G : Held) : ((dat G).filter fun p => !p.1.sameKey (.string k)) = dat (Pm.del k G) := by
  unfold dat Pm.del
  rw [List.filter_map]
  rfl
theorem put_dat (k : Key) (v : FV × Fi) (G : Held) : (DataW.map (dat G)).put (.string k) v.1.code = .map (dat (Pm.put k v G)) := by
  unfold DataW.put Pm.put
  simp only [filter_dat, insert_dat]
theorem del_dat (k : Key) (G : Held) : (DataW.map (dat G)).del (.string k) = .map (dat (Pm.del k G)) := by
  unfold DataW.del
  simp only [filter_dat]
theorem atKey_dat (k : Key) (G : Held) : (DataW.map (dat G)).atKey (.string k) FV.no.code = (fvAt G k).code := by
  unfold DataW.atKey dat fvAt Pm.get
  simp only [List.find?_map]
  have e : ((fun p : Lit × DataW Unit => p.1.sameKey (.string k)) ∘ fun p : Key × FV × Fi => (Lit.string p.1, p.2.1.code)) = fun p => p.1 == k := rfl
  rw [e]
  cases G.find? fun p => p.1 == k with
  | none => rfl
  | some p => rfl

theorem str_law : Keyed Tryd.prog 9 := string_keyed Tryd.underlying9
theorem file_zero (w : World) : (zeroValue 123).run Tryd.prog w = .ok FV.no.val w := by kernel_rfl
theorem str_key {s : ByteArray} (h : s.size ≤ maxLen) : keyOf Tryd.prog 9 (.string s) = some (.string s.data.toList) := Go.WideMaps.keyOf_string_mk Tryd.underlying9 h

/-- block m is the map of the files G -/
def MapIs (w : World) (m : Nat) (G : Held) : Prop := w.ownsMap Tryd.prog 9 fileR m G.length (.map (dat G))

theorem own_length {w : World} {m n : Nat} {l : List (Lit × DataW Unit)} {k : TypeId} {R : Value → Option (DataW Unit × List MemPlace)} (h : w.ownsMap Tryd.prog k R m n (.map l)) : w.ownsMap Tryd.prog k R m l.length (.map l) := by
  obtain ⟨es, clock, hb, F, hs, hD⟩ := h
  refine ⟨es, clock, hb, F, ?_, hD⟩
  have : l = (es.toList.map (Go.WideElems.rg Tryd.prog k R)).foldr DataW.insert [] := by simpa using hD
  rw [this, length_sorted]
  simp

section
variable {w w' : World} {m : Nat} {G : Held}
theorem MapIs.made (w : World) : MapIs (w.alloc (.map #[] 0)) w.heap.size [] := World.ownsMap_made w _ _ _
theorem MapIs.of_block (h : MapIs w m G) (he : w'.heap[m]? = w.heap[m]?) : MapIs w' m G := by
  obtain ⟨es, clock, hb, r⟩ := h
  exact ⟨es, clock, he.trans hb, r⟩
theorem MapIs.lt (h : MapIs w m G) : m < w.heap.size := World.ownsMap.lt h

/-- what the map says of a name -/
theorem MapIs.look (h : MapIs w m G) {s : ByteArray} (hs : s.size ≤ maxLen) : (Instr.lookup 67 (.map (some m)) (.string s) false).run Tryd.prog w = .ok (fvAt G s.data.toList).val w := by
  obtain ⟨v, ps, hrun, hv⟩ := World.ownsMap.lookup h str_law Tryd.underlying67 (file_zero w) (fileR_val FV.no) (str_key hs)
  rw [atKey_dat] at hv
  rw [hrun, fileR_inv hv]

/-- a file is laid in the map -/
theorem MapIs.store (h : MapIs w m G) {s : ByteArray} (hs : s.size ≤ maxLen) (hn : G.length < maxLen) (f : FV) (x : Fi) :
    ∃ w', (Instr.mapUpdate 67 (.map (some m)) (.string s) f.val).run Tryd.prog w = .ok () w' ∧ MapIs w' m (Pm.put s.data.toList (f, x) G) ∧ w.grownBy w' (some m) := by
  obtain ⟨w', hrun, ho, hg⟩ := World.ownsMap.update h str_law Tryd.underlying67 hn (str_key hs) (fileR_val f)
  rw [put_dat s.data.toList (f, x)] at ho
  have h2 := own_length ho
  rw [show (dat (Pm.put s.data.toList (f, x) G)).length = (Pm.put s.data.toList (f, x) G).length from by unfold dat; simp] at h2
  exact ⟨w', hrun, h2, hg⟩
end
/-- a file is struck from the map -/
theorem MapIs.drop {w : World} {m : Nat} {G : Held} (h : MapIs w m G) {s : ByteArray} (hs : s.size ≤ maxLen) (ty : TypeId) :
    ∃ w', (Builtin.delete_ #[67, 9] ty #[.map (some m), .string s]).run Tryd.prog w = .ok (.tuple #[]) w' ∧ MapIs w' m (Pm.del s.data.toList G) ∧ w.grownBy w' (some m) := by
  obtain ⟨w', hrun, ho, hg⟩ := World.ownsMap.drop h str_law Tryd.underlying67 (str_key hs) ty
  rw [del_dat] at ho
  have h2 := own_length ho
  rw [show (dat (Pm.del s.data.toList G)).length = (Pm.del s.data.toList G).length from by unfold dat; simp] at h2
  exact ⟨w', hrun, h2, hg.grown⟩

/-- the text reads as these bytes; it lies at block B or behind -/
def TxIs (w : World) (B : Nat) (x : Tx) (bs : List UInt8) : Prop := x.n = bs.length ∧ w.ownsRow B 5 1 x.val x.n (Lib.byteCells bs)

/-- which blocks a file's texts lie in -/
def FV.in (f : FV) (b : Nat) : Prop := f.a.g = some b ∨ f.b.g = some b

structure FileIs (w : World) (B : Nat) (f : FV) (x : Fi) : Prop where
  a : TxIs w B f.a x.now.t
  b : TxIs w B f.b x.sure.t
  ea : f.ea = x.now.ex
  eb : f.eb = x.sure.ex
  ok : x.ok
  share : f.a.g = f.b.g → f.a.g ≠ none → f.b.n ≤ f.a.n

section
variable {w w' : World} {B : Nat} {x : Tx} {bs : List UInt8} {f : FV} {y : Fi}
theorem TxIs.no (w : World) (B : Nat) : TxIs w B .no [] := ⟨rfl, by simp [Lib.byteCells, Tx.no], .inl ⟨rfl, rfl⟩⟩
theorem FileIs.no (w : World) (B : Nat) : FileIs w B .no .no := ⟨.no w B, .no w B, rfl, rfl, Pm.Fi.no_ok, fun _ h => absurd rfl h⟩
theorem TxIs.block (h : TxIs w B x bs) : (x.g = none ∧ x.n = 0 ∧ x.c = 0) ∨ ∃ g cur, x.g = some g ∧ B ≤ g ∧ w.heap[g]? = some (.cells cur 5 (0, 0)) ∧ x.n ≤ x.c ∧ x.c ≤ maxLen ∧ cur.size = x.c ∧ cur.toList.take x.n = Lib.byteCells bs := by
  rcases h.2.2 with ⟨h1, h2⟩ | ⟨g, cap, cur, h1, h2, h3, h4, h5, h6, h7⟩
  · left
    have := Tx.val_inj (x := x) (y := ⟨none, 0, 0⟩) h1
    subst this
    exact ⟨rfl, rfl, rfl⟩
  · right
    have := Tx.val_inj (x := x) (y := ⟨some g, x.n, cap⟩) h1
    have hg : x.g = some g := by rw [this]
    have hc : x.c = cap := by rw [this]
    refine ⟨g, cur, hg, h2, h3, by omega, by omega, by omega, ?_⟩
    rw [Nat.mul_one] at h7
    exact h7
theorem TxIs.of_block {g : Nat} (h : TxIs w B x bs) (he : ∀ g, x.g = some g → w'.heap[g]? = w.heap[g]?) : TxIs w' B x bs := by
  refine ⟨h.1, h.2.1, ?_⟩
  rcases h.2.2 with h1 | ⟨g, cap, cur, h1, h2, h3, h4⟩
  · exact .inl h1
  · have := Tx.val_inj (x := x) (y := ⟨some g, x.n, cap⟩) h1
    exact .inr ⟨g, cap, cur, h1, h2, (he g (by rw [this])).trans h3, h4⟩
theorem TxIs.len (h : TxIs w B x bs) : x.n = bs.length := h.1
theorem TxIs.lt (h : TxIs w B x bs) {g : Nat} (hg : x.g = some g) : B ≤ g ∧ g < w.heap.size := by
  rcases h.block with ⟨h1, _⟩ | ⟨g', cur, h1, h2, h3, _⟩
  · rw [h1] at hg; cases hg
  · rw [h1] at hg
    cases hg
    exact ⟨h2, (Array.getElem?_eq_some_iff.1 h3).1⟩
theorem FileIs.keep (h : FileIs w B f y) (he : ∀ g, f.in g → w'.heap[g]? = w.heap[g]?) : FileIs w' B f y :=
  ⟨h.a.of_block (g := 0) fun g hg => he g (.inl hg), h.b.of_block (g := 0) fun g hg => he g (.inr hg), h.ea, h.eb, h.ok, h.share⟩
theorem FileIs.lt (h : FileIs w B f y) {g : Nat} (hg : f.in g) : B ≤ g ∧ g < w.heap.size := by
  rcases hg with hg | hg
  · exact h.a.lt hg
  · exact h.b.lt hg
theorem FileIs.bytes (h : FileIs w B f y) {g : Nat} (hg : f.in g) : ∃ cur, w.heap[g]? = some (.cells cur 5 (0, 0)) := by
  rcases hg with hg | hg
  · rcases h.a.block with ⟨h1, _⟩ | ⟨g', cur, h1, h2, h3, _⟩
    · rw [h1] at hg; cases hg
    · rw [h1] at hg; cases hg; exact ⟨cur, h3⟩
  · rcases h.b.block with ⟨h1, _⟩ | ⟨g', cur, h1, h2, h3, _⟩
    · rw [h1] at hg; cases hg
    · rw [h1] at hg; cases hg; exact ⟨cur, h3⟩
end

/-- w' is w but for new blocks, and for blocks of F -/
structure Moved (w w' : World) (F : Nat → Prop) : Prop where
  os : w'.os = w.os
  tape : w'.tape = w.tape
  output : w'.output = w.output
  size : w.heap.size ≤ w'.heap.size
  block : ∀ k, k < w.heap.size → ¬F k → w'.heap[k]? = w.heap[k]?
section
variable {w w' w'' : World} {F F' : Nat → Prop} {B : Nat}
theorem Moved.refl (w : World) (F : Nat → Prop) : Moved w w F := ⟨rfl, rfl, rfl, Nat.le_refl _, fun _ _ _ => rfl⟩
theorem Moved.trans (h : Moved w w' F) (h' : Moved w' w'' F') (hF : ∀ k, k < w.heap.size → F' k → F k) : Moved w w'' F :=
  ⟨h'.os.trans h.os, h'.tape.trans h.tape, h'.output.trans h.output, Nat.le_trans h.size h'.size, fun k hk hn => (h'.block k (Nat.lt_of_lt_of_le hk h.size) (fun hf => hn (hF k hk hf))).trans (h.block k hk hn)⟩
theorem Moved.mono (h : Moved w w' F) (hF : ∀ k, F k → F' k) : Moved w w' F' := ⟨h.os, h.tape, h.output, h.size, fun k hk hn => h.block k hk (fun hf => hn (hF k hf))⟩
theorem Moved.of_grown {row : Option Nat} (h : w.grownBy w' row) (hF : ∀ k, row = some k → F k) : Moved w w' F := ⟨h.os, h.tape, h.output, h.size, fun k hk hn => h.block k hk (fun e => hn (hF k e.symm))⟩
theorem Moved.of_below (h : Below w.heap.size w w') : Moved w w' F := ⟨h.os, h.tape, h.output, h.size, fun k hk _ => h.block k hk⟩
theorem Moved.below (h : Moved w w' F) (hB : B ≤ w.heap.size) (hF : ∀ k, F k → B ≤ k) : Below B w w' := ⟨h.os, h.tape, h.output, h.size, fun k hk => h.block k (by omega) (fun hf => by have := hF k hf; omega)⟩
theorem Moved.grow (w : World) (n : Nat) (os : Array Obj) (F : Nat → Prop) : Moved w (Go.Sort.grow (w.drewN n) os) F := by
  refine Moved.of_below ?_
  exact ⟨rfl, rfl, rfl, by simp [Go.Sort.grow], fun k hk => by simp [Go.Sort.grow, Array.getElem?_append_left hk]⟩
end

/-- block g is a disk: its meter and luck, its map m of the files G; all lies at block B or behind -/
structure Dsk (w : World) (B g m : Nat) (rm us : Int) (lo : Bool) (lf : Int) (G : Held) : Prop where
  at_ : At w g 69 #[.int .i64 rm, .int .i64 us, .bool lo, .int .i64 lf, .map (some m)]
  map : MapIs w m G
  files : ∀ p ∈ G, FileIs w B p.2.1 p.2.2 ∧ p.2.2.there = true ∧ p.1.length ≤ maxLen
  apart : G.Pairwise fun p q => ∀ b, p.2.1.in b → ¬q.2.1.in b
  sorted : Pm.Sorted G
  sum : us = (Pm.used (abs G) : Nat)
  le : us ≤ rm
  top : rm ≤ 9223372036854775807
  lpos : 0 ≤ lf
  ltop : lf ≤ 1073741825
  gB : B ≤ g
  mB : B ≤ m

/-- the blocks of a disk -/
def DFoot (g m : Nat) (G : Held) (b : Nat) : Prop := b = g ∨ b = m ∨ ∃ p ∈ G, p.2.1.in b

section
variable {w w' : World} {B g m : Nat} {rm us : Int} {lo : Bool} {lf : Int} {G : Held}
theorem Dsk.dev (h : Dsk w B g m rm us lo lf G) : Dev w g rm us lo lf := Dev.of_at h.at_ rfl rfl rfl rfl h.le (by rw [h.sum]; omega) h.top h.lpos h.ltop
theorem Dsk.c4 (h : Dsk w B g m rm us lo lf G) : w.cell? ⟨g, 4, none⟩ = some (.map (some m)) := h.at_.cell 4
theorem Dsk.keep (h : Dsk w B g m rm us lo lf G) (he : ∀ b, DFoot g m G b → w'.heap[b]? = w.heap[b]?) : Dsk w' B g m rm us lo lf G :=
  { h with
    at_ := (he g (.inl rfl)).trans h.at_
    map := h.map.of_block (he m (.inr (.inl rfl)))
    files := fun p hp => ⟨(h.files p hp).1.keep fun b hb => he b (.inr (.inr ⟨p, hp, hb⟩)), (h.files p hp).2⟩ }
theorem Dsk.foot_lt (h : Dsk w B g m rm us lo lf G) {b : Nat} (hb : DFoot g m G b) : B ≤ b ∧ b < w.heap.size := by
  rcases hb with rfl | rfl | ⟨p, hp, hb⟩
  · exact ⟨h.gB, h.at_.lt⟩
  · exact ⟨h.mB, h.map.lt⟩
  · exact (h.files p hp).1.lt hb
theorem Dsk.moved {F : Nat → Prop} (h : Dsk w B g m rm us lo lf G) (hm : Moved w w' F) (hF : ∀ b, DFoot g m G b → ¬F b) : Dsk w' B g m rm us lo lf G :=
  h.keep fun b hb => hm.block b (h.foot_lt hb).2 (hF b hb)
theorem Dsk.below (h : Dsk w B g m rm us lo lf G) (hb : Below w.heap.size w w') : Dsk w' B g m rm us lo lf G := h.keep fun b hf => hb.block b (h.foot_lt hf).2
theorem Dsk.fv (h : Dsk w B g m rm us lo lf G) (k : Key) : FileIs w B (fvAt G k) (Pm.fi (abs G) k) := by
  unfold fvAt Pm.fi abs
  rw [Pm.get_vmap]
  cases hg : Pm.get k G with
  | none => exact FileIs.no w B
  | some p => exact (h.files _ (Pm.get_mem hg)).1
end
end Go.Proofs.YtejgogahkjnefaaDoor
