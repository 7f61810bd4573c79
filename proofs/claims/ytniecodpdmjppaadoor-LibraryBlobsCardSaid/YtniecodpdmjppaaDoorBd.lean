/- A strings.Builder in memory. -/
import Derived.Test.YtniecodpdmjppaaDoorMem
import Derived.Test.YtniecodpdmjppaaDoorJn
import Derived.Lib.OthersKept
namespace Go.Proofs.YtniecodpdmjppaaDoor
open Go.RowKit
set_option linter.unusedVariables false

abbrev BdIs (w : World) (b : Nat) (acc : List UInt8) : Prop := Lib.IsBuilderF 84 5 b b (Lib.byteCells acc) w
theorem bdF_same {w w' : World} {b : Nat} {p : Value} {bs : List Value} (h : Lib.BuilderAtF 84 5 b b p bs w) (hk : ∀ (k : Nat) (o : Obj), w.heap[k]? = some o → (∃ cs fz, o = .cells cs 84 fz ∨ o = .cells cs 5 fz) → w'.heap[k]? = some o) : Lib.BuilderAtF 84 5 b b p bs w' := by
  obtain ⟨hB, v, hb, hown, hne⟩ := h
  refine ⟨hB, v, hk b _ hb ⟨_, _, .inl rfl⟩, ⟨hown.1, ?_⟩, hne⟩
  rcases hown.2 with h1 | ⟨g, cap, cur, fz, h1, h2, h3, h4⟩
  · exact .inl h1
  · exact .inr ⟨g, cap, cur, fz, h1, h2, hk g _ h3 ⟨_, _, .inr rfl⟩, h4⟩
theorem BdIs.same {w w' : World} {b : Nat} {acc : List UInt8} (h : BdIs w b acc) (hk : ∀ (k : Nat) (o : Obj), w.heap[k]? = some o → (∃ cs fz, o = .cells cs 84 fz ∨ o = .cells cs 5 fz) → w'.heap[k]? = some o) : BdIs w' b acc :=
  h.elim (fun x => .inl (bdF_same x hk)) (fun x => .inr (bdF_same x hk))
theorem BdIs.below {w w' : World} {b : Nat} {acc : List UInt8} (h : BdIs w b acc) (hb : Below w.heap.size w w') : BdIs w' b acc := h.same fun k o hk _ => (hb.block k (Array.getElem?_eq_some_iff.1 hk).1).trans hk
theorem BdIs.lt {w : World} {b : Nat} {acc : List UInt8} (h : BdIs w b acc) : b < w.heap.size := by
  rcases h with ⟨_, v, hb, _⟩ | ⟨_, v, hb, _⟩
  all_goals exact (Array.getElem?_eq_some_iff.1 hb).1
theorem BdIs.at_ {w : World} {b : Nat} {acc : List UInt8} (h : BdIs w b acc) : ∃ cs, At w b 84 cs := by
  rcases h with ⟨_, v, hb, _⟩ | ⟨_, v, hb, _⟩
  all_goals exact ⟨_, hb⟩
theorem BdIs.new (w : World) : BdIs (w.alloc (.cells #[.pointer none, .slice none 0 0] 84)) w.heap.size [] :=
  .inl ⟨Nat.le_refl _, .slice none 0 0, heap_alloc_new w _, World.ownsRowF_nil _ _ _ _, by simp [Value.ownBlock]⟩

theorem BdIs.drew {w : World} {b : Nat} {acc : List UInt8} (h : BdIs w b acc) : BdIs w.drew b acc := h.below (Below.drew (Below.refl _ w))
theorem BdIs.alloc {w : World} {b : Nat} {acc : List UInt8} (h : BdIs w b acc) (o : Obj) : BdIs (w.alloc o) b acc := h.below ((Below.refl _ w).alloc (Nat.le_refl _) o)
/-- another block of another type has turned -/
theorem BdIs.grown {w w' : World} {b g : Nat} {acc : List UInt8} {t : TypeId} {cs : Array Value} (h : BdIs w b acc) (hg : At w g t cs) (h1 : t ≠ 84) (h2 : t ≠ 5) (hb : w.grownBy w' (some g)) : BdIs w' b acc :=
  h.same fun k o hk ho => (hb.block k (Array.getElem?_eq_some_iff.1 hk).1 (by
    rintro e
    obtain rfl : k = g := by simpa using e
    unfold At at hg
    rw [hg] at hk
    obtain ⟨cs', fz, rfl | rfl⟩ := ho
    · injection hk with hk; injection hk with _ hk _; exact h1 hk
    · injection hk with hk; injection hk with _ hk _; exact h2 hk)).trans hk
end Go.Proofs.YtniecodpdmjppaaDoor
