/- Sync of one file by its name. -/
import Derived.Test.YtokepandiigjlaaPo
namespace Go.Proofs.Ytokepandiigjlaa
open Go.RowKit Go.Sort
open Pm (Key Fi St Files)
set_option linter.unusedVariables false

/-- Sync of one name, in a slice made for it -/
theorem sync_new {w : World} {B g m : Nat} {rm : Int} {L : Files} (h : Has w B g m rm false 0 L) (hB : B ≤ w.heap.size) (n : ByteArray) (hn : n.size ≤ 140737488355328) (hLen : L.length ≤ 1000000) :
    Calls Try.prog 27 #[.pointer (some ⟨g, 0, none⟩), .slice (some ⟨w.heap.size, 0, none⟩) 1 1] (w.alloc (.cells #[.string n] 9)) fun e w' => e = .returned (.int .i64 0) ∧ Has w' B g m rm false 0 (Pm.syncs [n.data.toList] L) ∧ Below B w w' := by
  have hz : n.data.toList.length = n.size := by simp
  refine (sync_ok (h.alloc (.cells #[.string n] 9)) (by simp; omega) (some ⟨w.heap.size, 0, none⟩) 1 [n.data.toList] (by simp) (by simp) (w.heap.size + 1) (by simp) (Lies.of_at (At.new w 9 #[.string n]) rfl (by omega)) (by simp [hz]; omega) hLen).mono ?_
  rintro e w' ⟨rfl, hh, hb⟩
  exact ⟨rfl, hh, ((Below.refl B w).alloc hB _).trans hb⟩
end Go.Proofs.Ytokepandiigjlaa
