/- Yq: merged (a claim holds few files). -/
import Derived.Test.YtplmflagffloeaaDoorM11
/- The laws of layer 9: entries that are made of texts, in a loop. -/
namespace Go.Proofs.YtplmflagffloeaaDoor
open Go.RowKit
open Sm
open Wm (num)
open Pm (Key St)
set_option linter.unusedVariables false
set_option linter.unusedSimpArgs false

/-- entries 1, 2, .. of these texts, cut to z bytes, of terms f 0, f 1, .. -/
def entsOf (f : Nat → Nat) (z : Nat) (l : List ByteArray) : List En := l.mapIdx fun i s => ⟨i + 1, f i, cutTo s z⟩
theorem entsOf_len (f : Nat → Nat) (z : Nat) (l : List ByteArray) : (entsOf f z l).length = l.length := by unfold entsOf; simp
theorem entsOf_get (f : Nat → Nat) (z : Nat) (l : List ByteArray) {i : Nat} (h : i < l.length) : (entsOf f z l)[i]'(by rw [entsOf_len]; exact h) = ⟨i + 1, f i, cutTo l[i] z⟩ := by unfold entsOf; simp
theorem entsOf_more (f : Nat → Nat) (z : Nat) {l : List ByteArray} {k : Nat} (h : k < l.length) : entsOf f z (l.take (k + 1)) = entsOf f z (l.take k) ++ [⟨k + 1, f k, cutTo l[k] z⟩] := by
  rw [List.take_succ_eq_append_getElem h]
  unfold entsOf
  rw [List.mapIdx_append]
  have hk : min k l.length = k := by omega
  simp [hk]
theorem entsOf_ok (f : Nat → Nat) (z : Nat) {l : List ByteArray} (hl : l.length ≤ 1000) (hf : ∀ i, f i ≤ 1099511627776) (hz : z ≤ 100000) : ∀ x ∈ entsOf f z l, x.ok := by
  intro x hx
  obtain ⟨i, hi, rfl⟩ := List.getElem_of_mem hx
  rw [entsOf_len] at hi
  rw [entsOf_get f z l hi]
  exact ⟨by show i + 1 ≤ _; omega, hf i, by show (cutTo _ _).size ≤ _; have := cutTo_le l[i] z; omega⟩
theorem entsOf_log (f : Nat → Nat) (z : Nat) {l : List ByteArray} (hl : l.length ≤ 10) (hf : ∀ i, f i ≤ 1099511627776) (hz : z ≤ 30) : (logOf (entsOf f z l)).length ≤ 680 := by
  have := logOf_len 30 (l := entsOf f z l) (entsOf_ok f z (by omega) hf (by omega)) (fun x hx => by
    obtain ⟨i, hi, rfl⟩ := List.getElem_of_mem hx
    rw [entsOf_len] at hi
    rw [entsOf_get f z l hi]
    show (cutTo _ _).size ≤ _
    have := cutTo_le l[i] z
    omega)
  rw [entsOf_len] at this
  omega
theorem entsOf_row (f : Nat → Nat) (z : Nat) (l : List ByteArray) (n : Nat) : behind (entsOf f z l) n = (entsOf f z l).drop n := by
  have := behind_row (l := entsOf f z l) (a := 0) (n := n) (fun i hi => by
    rw [entsOf_len] at hi
    rw [entsOf_get f z l hi]
    show i + 1 = _
    omega) (Nat.zero_le _)
  rwa [Nat.sub_zero] at this
theorem entsOf_take (f : Nat → Nat) (z : Nat) (l : List ByteArray) (n : Nat) : (entsOf f z l).take n = entsOf f z (l.take n) := by
  apply List.ext_getElem
  · rw [List.length_take, entsOf_len, entsOf_len, List.length_take]
  · intro i h1 h2
    rw [entsOf_len, List.length_take] at h2
    rw [List.getElem_take, entsOf_get f z l (by omega), entsOf_get f z (l.take n) (by rw [List.length_take]; omega), List.getElem_take]

theorem TX.row_grown {w w' : World} {B g m : Nat} {rm : Int} {tl sl ll : List UInt8} {B' n : Nat} {v : Value} {xs : List Value} (h : TX w B g m rm tl sl ll) (hr : w.ownsRow B' 30 3 v n xs) (hg : w.grownBy w' v.ownBlock) : TX w' B g m rm tl sl ll := by
  rcases hr.2 with ⟨rfl, _⟩ | ⟨k, cap, cur, rfl, hk, hat, _⟩
  · exact h.below ⟨hg.os, hg.tape, hg.output, hg.size, fun k hk => hg.block k hk (by simp [Value.ownBlock])⟩
  · exact h.grown (X := k) hat (by decide) (by decide) hg
theorem below_rowG {w w' : World} {B n z : Nat} {e : TypeId} {v : Value} {xs : List Value} (hr : w.ownsRow B e z v n xs) (hg : w.grownBy w' v.ownBlock) (hB : B ≤ w.heap.size) : Below B w w' :=
  ⟨hg.os, hg.tape, hg.output, hg.size, fun k hk => hg.block k (by omega) (fun e => by have := (hr.lt k e.symm).1; omega)⟩

/-- while the entries are made -/
structure LM (w : World) (B g m : Nat) (rm : Int) (es : List En) (v : Value) (wr : World) : Prop where
  tx : TX wr B g m rm [] [] []
  row : wr.ownsRow B 30 3 v es.length (enCells es)
  low : Below B w wr
theorem LM.alloc {w : World} {B g m : Nat} {rm : Int} {es : List En} {v : Value} {wr : World} (h : LM w B g m rm es v wr) (hB : B ≤ wr.heap.size) (o : Obj) : LM w B g m rm es v (wr.alloc o) := ⟨h.tx.alloc o, h.row.alloc o, h.low.alloc hB o⟩
end Go.Proofs.YtplmflagffloeaaDoor
