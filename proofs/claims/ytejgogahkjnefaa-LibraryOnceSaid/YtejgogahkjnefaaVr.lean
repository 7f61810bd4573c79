/- (*reel.Volume).Read: its walk. -/
import Derived.Test.YtejgogahkjnefaaVb
namespace Go.Proofs.Ytejgogahkjnefaa
open Go.RowKit
set_option linter.unusedVariables false

def ReadEnds (w : World) (B g : Nat) (r : VS × Blk × Int) (e : Ending) (w' : World) : Prop :=
  e = .returned (.tuple #[.string r.2.1.t, .bool r.2.1.mark, .int .i64 r.2.2]) ∧ Vol w' B g r.1 ∧ Stay B g w w'

section
variable {w : World} {B g : Nat} {s s' : VS} {v : Value}

/-- the block at the position, in memory -/
theorem VolAt.next (h : VolAt w B g s v) {k : Nat} (hk : k < s.l.length) : ∃ q c, v = .slice (some ⟨q, 0, none⟩) s.l.length c ∧ s.l.length ≤ c ∧ q < w.heap.size ∧ q ≠ g ∧ B ≤ q ∧ w.cell? ⟨q, k * 3, none⟩ = some (.string s.l[k].t) ∧ w.cell? ⟨q, k * 3 + 1, none⟩ = some (.bool s.l[k].mark) ∧ w.cell? ⟨q, k * 3 + 2, none⟩ = some (.bool s.l[k].torn) := by
  obtain ⟨A, c, rfl, hc, _, hnil, hsome⟩ := h.form
  cases A with
  | none => rw [(hnil rfl).1] at hk; simp at hk
  | some a =>
    obtain ⟨q, rfl, hq, hB, hne, hcell, _, _⟩ := hsome _ rfl
    obtain ⟨g0, g1, g2⟩ := cells3_get hk
    exact ⟨q, c, rfl, hc, hq, hne, hB, (hcell _ (by omega)).trans g0, (hcell _ (by omega)).trans g1, (hcell _ (by omega)).trans g2⟩

theorem VolAt.of_size {o : Obj} (h : VolAt w B g s v) : g < (w.alloc o).heap.size := by have := h.lt; simp; omega

end
end Go.Proofs.Ytejgogahkjnefaa
