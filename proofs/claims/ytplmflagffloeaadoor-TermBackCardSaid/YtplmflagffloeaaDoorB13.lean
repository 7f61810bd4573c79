/- Rm: merged (a claim holds few files). -/
import Derived.Test.YtplmflagffloeaaDoorB1
/- A region that draws its order and calls functions whose values hang on the world: the invariant. No program is named here. -/
namespace Go.Proofs.YtplmflagffloeaaDoor
open Go.RowKit
set_option linter.unusedVariables false
set_option linter.unusedSimpArgs false

/-- a region's table: operation i leaves its value in slot slots[i]: cv i, if that is known; or one of which R holds (rl i), until operation c has come up -/
structure Tm where
  slots : List Nat
  size : Nat
  base : Array Value
  cv : Nat → Option Value
  rl : Nat → Option ((Value → World → Prop) × Nat)
structure Tm.Inv (T : Tm) (H : World → Prop) (f : Nat → Bool) (a : Act) (W : World) : Prop where
  size : a.tmps.size = T.size
  defers : a.defers = []
  base : ∀ s, T.slots.contains s = false → a.tmps[s]?.getD undef = T.base[s]?.getD undef
  val : ∀ i d v, T.slots[i]? = some d → T.cv i = some v → f i = true → a.tmps[d]?.getD undef = v
  rels : ∀ b d R c, T.slots[b]? = some d → T.rl b = some (R, c) → f b = true → f c = false → R (a.tmps[d]?.getD undef) W
  held : H W
section
variable {T : Tm} {H : World → Prop} {f : Nat → Bool} {a : Act} {W W' : World} {i d : Nat}
theorem Tm.Inv.slot (h : T.Inv H f a W) (v : Value) (hd : T.slots[i]? = some d) (hn : T.slots.Nodup) (hs : d < T.size) (hv : T.cv i = some v ∨ T.cv i = none)
    (hb : ∀ R c, T.rl i = some (R, c) → R v W')
    (hk : ∀ b R c u, T.rl b = some (R, c) → R u W → R u W') (hH : H W') : T.Inv H (hit f i) (a.put (some d) v) W' := by
  have hlt : d < a.tmps.size := by rw [h.size]; exact hs
  refine ⟨?_, h.defers, fun s hs' => ?_, fun j d' u hj hu hf => ?_, fun b d' R c hj hbt hf hc => ?_, hH⟩
  · show (a.tmps.setIfInBounds _ _).size = _
    rw [Array.size_setIfInBounds, h.size]
  · have hne : s ≠ d := by
      rintro rfl
      have : T.slots.contains s = true := by
        rw [List.contains_iff_mem]
        exact List.mem_of_getElem? hd
      rw [this] at hs'
      cases hs'
    rw [put_get' _ _ _ _ hlt, if_neg hne, h.base s hs']
  · rw [put_get' _ _ _ _ hlt]
    by_cases e : j = i
    · subst e
      obtain rfl : d = d' := Option.some.inj (hd.symm.trans hj)
      rw [if_pos rfl]
      rcases hv with hv | hv
      · rw [hv] at hu; exact Option.some.inj hu
      · rw [hv] at hu; cases hu
    · rw [if_neg (slots_ne hn hd hj e)]
      exact h.val j d' u hj hu (by rw [hit_of f i j e] at hf; exact hf)
  · rw [put_get' _ _ _ _ hlt]
    by_cases e : b = i
    · subst e
      obtain rfl : d = d' := Option.some.inj (hd.symm.trans hj)
      rw [if_pos rfl]
      exact hb R c hbt
    · rw [if_neg (slots_ne hn hd hj e)]
      exact hk b R c _ hbt (h.rels b d' R c hj hbt (by rw [hit_of f i b e] at hf; exact hf) (hit_no hc))
/-- an operation that leaves a known value -/
theorem Tm.Inv.step (h : T.Inv H f a W) {v : Value} (hd : T.slots[i]? = some d) (hn : T.slots.Nodup) (hs : d < T.size) (hv : T.cv i = some v) (hb : T.rl i = none)
    (hk : ∀ b R c u, T.rl b = some (R, c) → R u W → R u W') (hH : H W') : T.Inv H (hit f i) (a.put (some d) v) W' :=
  h.slot v hd hn hs (.inl hv) (fun R c hbt => by rw [hb] at hbt; cases hbt) hk hH
/-- behind the region -/
theorem Tm.Inv.fin (h : T.Inv H f a W) (hall : ∀ i, i < T.slots.length → f i = true) (hb : T.base.size = T.size) (hn : T.slots.Nodup) (hs : T.slots.all (fun d => decide (d < T.size)) = true) :
    ∃ v : Nat → Value, a = ⟨finGo T.slots 0 (fun i => (T.cv i).getD (v i)) T.base, []⟩ := by
  refine ⟨fun i => a.tmps[T.slots[i]?.getD 0]?.getD undef, ?_⟩
  have hI : (Tf.mk T.slots T.size T.base (fun i => (T.cv i).getD (a.tmps[T.slots[i]?.getD 0]?.getD undef))).Inv (fun _ W => H W) f a W := by
    refine ⟨h.size, h.defers, h.base, fun i d hd hf => ?_, h.held⟩
    show _ = (T.cv i).getD _
    cases hc : T.cv i with
    | some v => exact h.val i d v hd hc hf
    | none => have hd' : T.slots[i]? = some d := hd; rw [hd']; rfl
  exact hI.fin hall hb hn hs
end
end Go.Proofs.YtplmflagffloeaaDoor
