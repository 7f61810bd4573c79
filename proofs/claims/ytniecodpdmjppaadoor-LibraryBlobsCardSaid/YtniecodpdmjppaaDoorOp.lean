/- Slices that came in, opened to the cells of their elements (of one cell each). -/
import Derived.Test.YtniecodpdmjppaaDoorMem
import Derived.ProofKit
import Derived.OpenShut
import Derived.Deep.Slices
import Derived.Deep.Fields
namespace Go.Proofs.YtniecodpdmjppaaDoor
open Go.ChangeShapes Go.WideShapes Go.ChangeAt Go.RowKit

theorem Lies.take {w : World} {B : Nat} {A : Option Addr} {xs : List Value} (h : Lies w B A xs) (k : Nat) : Lies w B A (xs.take k) := fun j u hj => by
  rw [List.getElem?_take] at hj
  split at hj
  · exact h j u hj
  · cases hj

section
variable {H : Type} {enc : TypeId × Value → H} {P : Program} {W : World} {base : Nat} {spare : Nat → Bool} {held : Bool} {t e : TypeId} {v : Value} {d : DataW H} {p : List MemPlace} {r : Reach} {b0 : Nat}

/-- the cells of a slice's elements of one cell each, each with its own reading -/
theorem read_cells {fuel : Nat} {x : DataW H × List MemPlace} (ht : P.underlying t = some (.slice e)) (hC : P.cellsOf e = 1) (hf : DataW.trod enc P W base spare held fuel t [v] = some x) :
    ∃ (A : Option Addr) (len cap : Nat) (c : Nat → Value), v = .slice A len cap ∧ len ≤ cap ∧ ∀ i, i < len → ∃ ad, A = some ad ∧ ad.block < W.heap.size ∧ W.cell? (ad.add i) = some (c i) ∧ ∃ n x, DataW.trod enc P W base spare held n e [c i] = some x := by
  rcases Go.Deep.open_slice ht hf with ⟨hcs, hx⟩ | ⟨a, len, cap, m, n, D, Pl, hcs, hb, hl, hm, hmm, hx, hi⟩
  · simp at hcs
    subst hcs
    exact ⟨none, 0, 0, fun _ => undef, rfl, by omega, fun i h => absurd h (by omega)⟩
  · simp at hcs
    subst hcs
    refine ⟨some a, len, cap, fun i => (W.cell? (a.add i)).getD undef, rfl, hl, fun i hil => ⟨a, rfl, ?_⟩⟩
    obtain ⟨cs', hc, htr⟩ := hi i (by rw [hmm]; split <;> omega)
    rw [hC, Nat.mul_one] at hc
    obtain ⟨_, hcl, hat⟩ := World.cells?_some hc
    match cs', hcl with
    | [u], _ =>
      have h1 : W.cell? (a.add i) = some u := by
        have h1 := hat 0 (by omega)
        have e0 : (a.add i).add 0 = a.add i := by rw [Addr.add]; simp
        rw [e0] at h1
        exact h1
      have h2 := World.block_lt_of_cell? W _ h1
      rw [add_block] at h2
      have h3 : (fun i => (W.cell? (a.add i)).getD undef) i = u := by show (W.cell? (a.add i)).getD undef = u; rw [h1]; rfl
      rw [h3]
      exact ⟨h2, h1, n, _, htr⟩

theorem open_cells (ht : P.underlying t = some (.slice e)) (hC : P.cellsOf e = 1) (hv : Value.okWide P W r b0 t v) (h : DataW.Trod enc P W base spare held t v d p) :
    ∃ (A : Option Addr) (len cap : Nat) (c : Nat → Value), v = .slice A len cap ∧ len ≤ cap ∧ ∀ i, i < len → ∃ ad, A = some ad ∧ ad.block < W.heap.size ∧ W.cell? (ad.add i) = some (c i) ∧ ∃ n x, DataW.trod enc P W base spare held n e [c i] = some x := by
  obtain ⟨a0, len, cap, rfl⟩ := okWide_slice ht hv
  obtain ⟨fuel, hf⟩ := h
  exact read_cells ht hC (by simpa [Value.cells] using hf)

theorem slice_max {A : Option Addr} {len cap : Nat} (ht : P.underlying t = some (.slice e)) (h : DataW.Trod enc P W base spare held t (.slice A len cap) d p) : len ≤ 9223372036854775807 := by
  obtain ⟨fuel, hf⟩ := h
  rcases Go.Deep.open_slice ht hf with ⟨hcs, hx⟩ | ⟨a, len', cap', m, n, D, Pl, hcs, hb, hl, hm, hmm, hx, hi⟩
  · simp [Value.cells] at hcs
    omega
  · simp [Value.cells] at hcs
    unfold maxLen at hm
    omega

/-- the cells of a slice's elements, structs of fields of one cell each, each cell with its own reading -/
theorem open_structs {fs : Array Field} (ht : P.underlying t = some (.slice e)) (he : P.underlying e = some (.struct fs)) (hone : Go.Deep.oneCellFields P fs = true) (hC : P.cellsOf e = fs.size) (h0 : 0 < fs.size)
    (hv : Value.okWide P W r b0 t v) (h : DataW.Trod enc P W base spare held t v d p) :
    ∃ (A : Option Addr) (len cap : Nat), v = .slice A len cap ∧ len ≤ cap ∧ ∀ i, i < len → ∃ (ad : Addr) (cs : List Value), A = some ad ∧ ad.block < W.heap.size ∧ cs.length = fs.size ∧
      (∀ j u, cs[j]? = some u → W.cell? (ad.add (i * fs.size + j)) = some u) ∧ ∀ (j : Nat) (f : Field) (u : Value), fs[j]? = some f → cs[j]? = some u → ∃ n x, DataW.trod enc P W base spare held n f.type [u] = some x := by
  obtain ⟨a0, len, cap, rfl⟩ := okWide_slice ht hv
  obtain ⟨fuel, hf⟩ := h
  rcases Go.Deep.open_slice ht hf with ⟨hcs, hx⟩ | ⟨a, len', cap', m, n, D, Pl, hcs, hb, hl, hm, hmm, hx, hi⟩
  · simp [Value.cells] at hcs
    obtain ⟨rfl, rfl, rfl⟩ := hcs
    exact ⟨none, 0, 0, rfl, by omega, fun i h => absurd h (by omega)⟩
  · simp [Value.cells] at hcs
    obtain ⟨rfl, rfl, rfl⟩ := hcs
    refine ⟨some a, len, cap, rfl, hl, fun i hil => ?_⟩
    obtain ⟨cs, hc, htr⟩ := hi i (by rw [hmm]; split <;> omega)
    rw [hC] at hc
    obtain ⟨_, hcl, hat⟩ := World.cells?_some hc
    obtain ⟨ys, n', _, _, hlen, hyl, hfd⟩ := DataW.trod_struct he htr
    have hcell : ∀ j u, cs[j]? = some u → W.cell? (a.add (i * fs.size + j)) = some u := fun j u hj => by
      have hjl : j < fs.size := by rw [← hcl]; exact (List.getElem?_eq_some_iff.1 hj).1
      have h1 := hat j hjl
      have e0 : (a.add (i * fs.size)).add j = a.add (i * fs.size + j) := by
        unfold Addr.add
        by_cases h1 : i * fs.size = 0 <;> by_cases h2 : j = 0 <;> simp [h1, h2, Nat.add_assoc]
      rw [e0] at h1
      rw [h1, hj]
    have hblk : a.block < W.heap.size := by
      have h1 := hcell 0 (cs[0]'(by omega)) (List.getElem?_eq_getElem (by omega))
      have h2 := World.block_lt_of_cell? W _ h1
      rwa [add_block] at h2
    refine ⟨a, cs, rfl, hblk, hcl, hcell, fun j f u hj hu => ?_⟩
    obtain ⟨ho, hk⟩ := Go.Deep.hone_of hone j f hj
    have hjl : j < fs.size := (Array.getElem?_eq_some_iff.1 hj).1
    have h1 := hfd j f hj
    rw [ho, hk] at h1
    have h2 : (cs.drop j).take 1 = [u] := by
      rw [List.drop_eq_getElem_cons (by omega)]
      rw [List.getElem?_eq_getElem (by omega)] at hu
      simp at hu
      simp [hu]
    rw [h2, List.getElem?_eq_getElem (by omega)] at h1
    exact ⟨n', _, h1⟩

theorem lies_of {A : Option Addr} {len : Nat} {c : Nat → Value} {α : Type} (mk : α → Value) (xs : List α) (hl : xs.length = len) (hx : ∀ i (h : i < len), c i = mk (xs[i]'(by omega)))
    (h : ∀ i, i < len → ∃ ad, A = some ad ∧ ad.block < W.heap.size ∧ W.cell? (ad.add i) = some (c i)) : Lies W W.heap.size A (xs.map mk) := fun j u hj => by
  rw [List.getElem?_map] at hj
  have hjl : j < len := by
    rcases Nat.lt_or_ge j len with h' | h'
    · exact h'
    · rw [List.getElem?_eq_none (by omega)] at hj; cases hj
  rw [List.getElem?_eq_getElem (by omega)] at hj
  simp at hj
  obtain ⟨ad, h1, h2, h3⟩ := h j hjl
  exact ⟨ad, h1, h2, by rw [h3, hx j hjl, hj]⟩

def intIn : Value → Int | .int _ n => n | _ => 0
def boolIn : Value → Bool | .bool b => b | _ => false
def strIn : Value → ByteArray | .string s => s | _ => ⟨#[]⟩

theorem open_list_ints (ht : P.underlying t = some (.slice e)) (he : P.underlying e = some (.int .i64)) (hC : P.cellsOf e = 1) (hv : Value.okWide P W r b0 t v) (h : DataW.Trod enc P W base spare held t v d p) :
    ∃ (A : Option Addr) (cap : Nat) (l : List Int), v = .slice A l.length cap ∧ l.length ≤ cap ∧ Lies W W.heap.size A (l.map (Value.int .i64)) ∧ ∀ x ∈ l, -9223372036854775808 ≤ x ∧ x ≤ 9223372036854775807 := by
  obtain ⟨A, len, cap, c, rfl, hlc, hi⟩ := open_cells ht hC hv h
  have key : ∀ i, i < len → c i = .int .i64 (intIn (c i)) ∧ (Lit.int .i64 (intIn (c i))).wf = true := fun i hil => by
    obtain ⟨_, _, _, _, n, x, htr⟩ := hi i hil
    obtain ⟨a, h1, _, h2⟩ := DataW.trod_int he htr
    simp at h1
    rw [h1]
    exact ⟨rfl, h2⟩
  refine ⟨A, cap, (List.range len).map (fun i => intIn (c i)), by simp, by simpa using hlc, ?_, ?_⟩
  · refine lies_of (len := len) (c := c) _ _ (by simp) (fun i hil => by simpa using (key i hil).1) (fun i hil => ?_)
    obtain ⟨ad, h1, h2, h3, _⟩ := hi i hil
    exact ⟨ad, h1, h2, h3⟩
  · intro x hx
    simp at hx
    obtain ⟨i, hil, rfl⟩ := hx
    exact bounds_i64 (key i hil).2

theorem open_nats (ht : P.underlying t = some (.slice e)) (he : P.underlying e = some (.int .u64)) (hC : P.cellsOf e = 1) (hv : Value.okWide P W r b0 t v) (h : DataW.Trod enc P W base spare held t v d p) :
    ∃ (A : Option Addr) (cap : Nat) (l : List Nat), v = .slice A l.length cap ∧ l.length ≤ cap ∧ Lies W W.heap.size A (l.map fun v => Value.int .u64 (v : Nat)) ∧ ∀ x ∈ l, x < 18446744073709551616 := by
  obtain ⟨A, len, cap, c, rfl, hlc, hi⟩ := open_cells ht hC hv h
  have key : ∀ i, i < len → c i = .int .u64 ((intIn (c i)).toNat : Nat) ∧ (intIn (c i)).toNat < 18446744073709551616 := fun i hil => by
    obtain ⟨_, _, _, _, n, x, htr⟩ := hi i hil
    obtain ⟨a, h1, _, h2⟩ := DataW.trod_int he htr
    simp at h1
    have hb := bounds_u64 h2
    rw [h1]
    unfold intIn
    exact ⟨by rw [Int.toNat_of_nonneg hb.1], by simp only; omega⟩
  refine ⟨A, cap, (List.range len).map (fun i => (intIn (c i)).toNat), by simp, by simpa using hlc, ?_, ?_⟩
  · refine lies_of (len := len) (c := c) (fun v : Nat => Value.int .u64 (v : Nat)) _ (by simp) (fun i hil => by simpa using (key i hil).1) (fun i hil => ?_)
    obtain ⟨ad, h1, h2, h3, _⟩ := hi i hil
    exact ⟨ad, h1, h2, h3⟩
  · intro x hx
    simp at hx
    obtain ⟨i, hil, rfl⟩ := hx
    exact (key i hil).2

theorem open_bools (ht : P.underlying t = some (.slice e)) (he : P.underlying e = some .bool) (hC : P.cellsOf e = 1) (hv : Value.okWide P W r b0 t v) (h : DataW.Trod enc P W base spare held t v d p) :
    ∃ (A : Option Addr) (cap : Nat) (l : List Bool), v = .slice A l.length cap ∧ l.length ≤ cap ∧ Lies W W.heap.size A (l.map Value.bool) := by
  obtain ⟨A, len, cap, c, rfl, hlc, hi⟩ := open_cells ht hC hv h
  have key : ∀ i, i < len → c i = .bool (boolIn (c i)) := fun i hil => by
    obtain ⟨_, _, _, _, n, x, htr⟩ := hi i hil
    obtain ⟨a, h1, _⟩ := DataW.trod_bool he htr
    simp at h1
    rw [h1]
    rfl
  refine ⟨A, cap, (List.range len).map (fun i => boolIn (c i)), by simp, by simpa using hlc, ?_⟩
  refine lies_of (len := len) (c := c) _ _ (by simp) (fun i hil => by simpa using key i hil) (fun i hil => ?_)
  obtain ⟨ad, h1, h2, h3, _⟩ := hi i hil
  exact ⟨ad, h1, h2, h3⟩

theorem open_texts (ht : P.underlying t = some (.slice e)) (he : P.underlying e = some .string) (hC : P.cellsOf e = 1) (hv : Value.okWide P W r b0 t v) (h : DataW.Trod enc P W base spare held t v d p) :
    ∃ (A : Option Addr) (cap : Nat) (l : List ByteArray), v = .slice A l.length cap ∧ l.length ≤ cap ∧ Lies W W.heap.size A (l.map Value.string) := by
  obtain ⟨A, len, cap, c, rfl, hlc, hi⟩ := open_cells ht hC hv h
  have key : ∀ i, i < len → c i = .string (strIn (c i)) := fun i hil => by
    obtain ⟨_, _, _, _, n, x, htr⟩ := hi i hil
    obtain ⟨a, h1, _⟩ := DataW.trod_string he htr
    simp at h1
    rw [h1]
    rfl
  refine ⟨A, cap, (List.range len).map (fun i => strIn (c i)), by simp, by simpa using hlc, ?_⟩
  refine lies_of (len := len) (c := c) _ _ (by simp) (fun i hil => by simpa using key i hil) (fun i hil => ?_)
  obtain ⟨ad, h1, h2, h3, _⟩ := hi i hil
  exact ⟨ad, h1, h2, h3⟩
end
end Go.Proofs.YtniecodpdmjppaaDoor
