/- An encoder's chain ('e.S(..).I(..).U(..)') in a region that draws its order: the invariant, and what keeps it. -/
import Derived.Test.YtniecodpdmjppaaDoorRv
import Derived.Test.YtniecodpdmjppaaDoorEs
namespace Go.Proofs.YtniecodpdmjppaaDoor
open Go.RowKit
set_option linter.unusedVariables false

/-- a region's table: its operations leave their values in the slots from s0 on -/
structure Tb where
  s0 : Nat
  n : Nat
  size : Nat
  base : Array Value
  val : Nat → Option Value
  bt : Nat → Option (TypeId × Array Value × Nat)
  cc : List Nat
  es : Nat → List UInt8
  g : Nat

/-- what the Enc holds behind k calls -/
def Tb.bs (T : Tb) : Nat → List UInt8
  | 0 => []
  | k + 1 => T.bs k ++ T.es k

structure Tb.Inv (T : Tb) (H : World → Prop) (f : Nat → Bool) (a : Act) (W : World) : Prop where
  size : a.tmps.size = T.size
  defers : a.defers = []
  base : ∀ s, (s < T.s0 ∨ T.s0 + T.n ≤ s) → a.tmps[s]?.getD undef = T.base[s]?.getD undef
  val : ∀ i v, T.val i = some v → f i = true → a.tmps[T.s0 + i]?.getD undef = v
  built : ∀ b t cs c, T.bt b = some (t, cs, c) → f b = true → f c = false → ∃ G, a.tmps[T.s0 + b]?.getD undef = .slice (some ⟨G, 0, none⟩) cs.size cs.size ∧ At W G t cs
  cnt : ∃ m, m ≤ T.cc.length ∧ (∀ k, k < T.cc.length → f (T.cc[k]?.getD 0) = decide (k < m)) ∧ EncIs W T.g (T.bs m)
  held : H W

section
variable {T : Tb} {H : World → Prop} {f : Nat → Bool} {a : Act} {W W' : World} {i : Nat}

theorem put_get (a : Act) (d s : Nat) (v : Value) (h : d < a.tmps.size) : (a.put (some d) v).tmps[s]?.getD undef = if s = d then v else a.tmps[s]?.getD undef := by
  show (a.tmps.setIfInBounds d v)[s]?.getD undef = _
  rw [Array.getElem?_setIfInBounds]
  by_cases e : d = s
  · subst e
    rw [if_pos rfl, if_pos h, if_pos rfl]
    rfl
  · rw [if_neg e, if_neg (Ne.symm e)]
theorem hit_false {f : Nat → Bool} {i c : Nat} (h : hit f i c = false) : f c = false ∧ c ≠ i := by
  unfold hit at h
  split at h
  · cases h
  · exact ⟨h, by assumption⟩

/-- an operation that only computes, or reads -/
theorem Tb.Inv.pureStep (h : T.Inv H f a W) {v : Value} (hi : i < T.n) (hs : T.s0 + T.n ≤ T.size) (hv : T.val i = some v) (hb : T.bt i = none) (hnc : i ∉ T.cc) :
    T.Inv H (hit f i) (a.put (some (T.s0 + i)) v) W := by
  have hlt : T.s0 + i < a.tmps.size := by rw [h.size]; omega
  refine ⟨?_, h.defers, fun s hs' => ?_, fun j u hu hf => ?_, fun b t cs c hbt hf hc => ?_, ?_, h.held⟩
  · show (a.tmps.setIfInBounds _ _).size = _
    rw [Array.size_setIfInBounds, h.size]
  · rw [put_get _ _ _ _ hlt, if_neg (by omega), h.base s hs']
  · rw [put_get _ _ _ _ hlt]
    by_cases e : j = i
    · subst e
      rw [if_pos rfl]
      rw [hv] at hu
      exact Option.some.inj hu
    · rw [if_neg (by omega)]
      exact h.val j u hu (by rw [hit_of f i j e] at hf; exact hf)
  · have hbi : b ≠ i := by rintro rfl; rw [hb] at hbt; cases hbt
    rw [put_get _ _ _ _ hlt, if_neg (by omega)]
    exact h.built b t cs c hbt (by rw [hit_of f i b hbi] at hf; exact hf) (hit_false hc).1
  · obtain ⟨m, hm, hk, he⟩ := h.cnt
    refine ⟨m, hm, fun k hkl => ?_, he⟩
    rw [hit_of f i _ (by
      intro e
      rw [List.getElem?_eq_getElem hkl] at e
      exact hnc (by rw [← e]; exact List.getElem_mem hkl)), hk k hkl]

/-- a slice of the region's own is laid -/
theorem Tb.Inv.buildStep (h : T.Inv H f a W) {t : TypeId} {cs : Array Value} {c : Nat} {k : Nat} (hi : i < T.n) (hs : T.s0 + T.n ≤ T.size) (hb : T.bt i = some (t, cs, c)) (hv : T.val i = none) (hnc : i ∉ T.cc) (hcs : cs.size = k) (hH : H (W.alloc (.cells cs t))) :
    T.Inv H (hit f i) (a.put (some (T.s0 + i)) (.slice (some ⟨W.heap.size, 0, none⟩) k k)) (W.alloc (.cells cs t)) := by
  subst hcs
  have hlt : T.s0 + i < a.tmps.size := by rw [h.size]; omega
  refine ⟨?_, h.defers, fun s hs' => ?_, fun j u hu hf => ?_, fun b t' cs' c' hbt hf hc => ?_, ?_, hH⟩
  · show (a.tmps.setIfInBounds _ _).size = _
    rw [Array.size_setIfInBounds, h.size]
  · rw [put_get _ _ _ _ hlt, if_neg (by omega), h.base s hs']
  · have e : j ≠ i := by rintro rfl; rw [hv] at hu; cases hu
    rw [put_get _ _ _ _ hlt, if_neg (by omega)]
    exact h.val j u hu (by rw [hit_of f i j e] at hf; exact hf)
  · rw [put_get _ _ _ _ hlt]
    by_cases e : b = i
    · subst e
      rw [hb] at hbt
      cases hbt
      rw [if_pos rfl]
      exact ⟨_, rfl, At.new W t cs⟩
    · rw [if_neg (by omega)]
      obtain ⟨G, h1, h2⟩ := h.built b t' cs' c' hbt (by rw [hit_of f i b e] at hf; exact hf) (hit_false hc).1
      exact ⟨G, h1, h2.alloc _⟩
  · obtain ⟨m, hm, hk, he⟩ := h.cnt
    refine ⟨m, hm, fun k hkl => ?_, he.same (World.grownBy_alloc W _ _)⟩
    rw [hit_of f i _ (by
      intro e
      rw [List.getElem?_eq_getElem hkl] at e
      exact hnc (by rw [← e]; exact List.getElem_mem hkl)), hk k hkl]

/-- how many calls there were, ahead of the k-th -/
theorem Tb.Inv.count (h : T.Inv H f a W) {k : Nat} (hk : k < T.cc.length) (hf : f (T.cc[k]?.getD 0) = false) (hp : k = 0 ∨ f (T.cc[k - 1]?.getD 0) = true) : EncIs W T.g (T.bs k) ∧ ∀ j, j < T.cc.length → f (T.cc[j]?.getD 0) = decide (j < k) := by
  obtain ⟨m, hm, hc, he⟩ := h.cnt
  have h1 := hc k hk
  rw [hf] at h1
  have h1' : ¬ k < m := by simpa using h1.symm
  have h2 : m = k := by
    rcases hp with rfl | hp
    · omega
    · have h3 := hc (k - 1) (by omega)
      rw [hp] at h3
      have h3' : k - 1 < m := by simpa using h3.symm
      omega
  subst h2
  exact ⟨he, hc⟩

/-- a call adds to the Enc -/
theorem Tb.Inv.callStep (h : T.Inv H f a W) {k : Nat} {v : Value} (hi : i < T.n) (hs : T.s0 + T.n ≤ T.size) (hk : k < T.cc.length) (hik : T.cc[k]?.getD 0 = i) (hall : ∀ j, j < T.cc.length → f (T.cc[j]?.getD 0) = decide (j < k)) (hinj : ∀ j, j < T.cc.length → T.cc[j]?.getD 0 = i → j = k)
    (hv : T.val i = some v) (hb : T.bt i = none) (hE : EncIs W' T.g (T.bs k ++ T.es k)) (hg : W.grownBy W' (some T.g)) (hH : H W') (hne : ∀ b t cs c, T.bt b = some (t, cs, c) → t ≠ 104) :
    T.Inv H (hit f i) (a.put (some (T.s0 + i)) v) W' := by
  have hlt : T.s0 + i < a.tmps.size := by rw [h.size]; omega
  obtain ⟨m0, _, _, he0⟩ := h.cnt
  refine ⟨?_, h.defers, fun s hs' => ?_, fun j u hu hf => ?_, fun b t cs c hbt hf hc => ?_, ?_, hH⟩
  · show (a.tmps.setIfInBounds _ _).size = _
    rw [Array.size_setIfInBounds, h.size]
  · rw [put_get _ _ _ _ hlt, if_neg (by omega), h.base s hs']
  · rw [put_get _ _ _ _ hlt]
    by_cases e : j = i
    · subst e
      rw [if_pos rfl]
      rw [hv] at hu
      exact Option.some.inj hu
    · rw [if_neg (by omega)]
      exact h.val j u hu (by rw [hit_of f i j e] at hf; exact hf)
  · have hbi : b ≠ i := by rintro rfl; rw [hb] at hbt; cases hbt
    rw [put_get _ _ _ _ hlt, if_neg (by omega)]
    obtain ⟨G, h1, h2⟩ := h.built b t cs c hbt (by rw [hit_of f i b hbi] at hf; exact hf) (hit_false hc).1
    obtain ⟨p, he, _⟩ := he0
    have := h2.differ he (hne b t cs c hbt)
    exact ⟨G, h1, h2.grown hg (by simpa using this)⟩
  · refine ⟨k + 1, by omega, fun j hj => ?_, hE⟩
    by_cases e : j = k
    · subst e
      rw [hik, hit_at]
      simp
    · have e' : T.cc[j]?.getD 0 ≠ i := fun h' => e (hinj j hj h')
      rw [hit_of f i _ e', hall j hj]
      have : (j < k) = (j < k + 1) := by apply propext; omega
      simp only [this]
end
end Go.Proofs.YtniecodpdmjppaaDoor
