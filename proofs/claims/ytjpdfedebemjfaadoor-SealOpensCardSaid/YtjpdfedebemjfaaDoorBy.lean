/- A block of bytes, as '[]byte(s)' makes it: the cells that are known, none of them frozen. -/
import Derived.Test.YtjpdfedebemjfaaDoorMem
import Derived.Test.YtjpdfedebemjfaaDoorProg
import Derived.Test.YtjpdfedebemjfaaDoorChecked
import Derived.WalkKit
import Derived.Laws.IdiomStrings
namespace Go.Proofs.YtjpdfedebemjfaaDoor
open Go.RowKit

/-- block g begins with the bytes B; those cells are not frozen -/
def BytesAt (w : World) (g : Nat) (t : TypeId) (B : List UInt8) : Prop :=
  ∃ cs lo hi, w.heap[g]? = some (.cells cs t (lo, hi)) ∧ B.length ≤ lo ∧ ∀ i (h : i < B.length), cs[i]? = some (.int .u8 ((B[i]).toNat : Int))

section
variable {w w' : World} {g : Nat} {t : TypeId} {B : List UInt8}
theorem BytesAt.lt (h : BytesAt w g t B) : g < w.heap.size := by
  obtain ⟨cs, lo, hi, h, -, -⟩ := h
  exact (Array.getElem?_eq_some_iff.1 h).1
theorem BytesAt.cell (h : BytesAt w g t B) {i : Nat} (hi : i < B.length) : w.cell? ⟨g, i, none⟩ = some (.int .u8 ((B[i]).toNat : Int)) := by
  obtain ⟨cs, lo, hh, h, -, hc⟩ := h
  simp [World.cell?, h, hc i hi]
theorem BytesAt.frozen (h : BytesAt w g t B) {i : Nat} (hi : i < B.length) : w.frozen? ⟨g, i, none⟩ = false := by
  obtain ⟨cs, lo, hh, h, hl, -⟩ := h
  have : ¬ lo ≤ i := by omega
  simp [World.frozen?, h, this]
theorem BytesAt.set (h : BytesAt w g t B) {i : Nat} (_hi : i < B.length) (b : UInt8) : BytesAt (w.setCell ⟨g, i, none⟩ (.int .u8 (b.toNat : Int))) g t (B.set i b) := by
  obtain ⟨cs, lo, hh, h, hl, hc⟩ := h
  refine ⟨cs.setIfInBounds i (.int .u8 (b.toNat : Int)), lo, hh, by simp [World.setCell, Array.getElem?_modify, h], by simpa using hl, fun j hj => ?_⟩
  rw [List.length_set] at hj
  rw [Array.getElem?_setIfInBounds, List.getElem_set]
  by_cases hij : i = j
  · subst hij
    have : i < cs.size := by
      have := hc i hj
      exact (Array.getElem?_eq_some_iff.1 this).1
    simp [this]
  · simp [hij, hc j hj]
theorem BytesAt.drewN (h : BytesAt w g t B) (n : Nat) : BytesAt (w.drewN n) g t B := h
theorem BytesAt.new (w : World) (s : ByteArray) (cap : Nat) (g : Nat) (hg : g = w.heap.size) : BytesAt (w.drew.alloc (.cells (bytesRow s cap) t ((bytesRow s cap).size, (bytesRow s cap).size + 1))) g t s.data.toList := by
  subst hg
  refine ⟨bytesRow s cap, _, _, heap_alloc_new w.drew _, by simp [bytesRow], fun i hi => ?_⟩
  rw [bytesRow_at s cap i (by simpa using hi)]
  simp
end
end Go.Proofs.YtjpdfedebemjfaaDoor
