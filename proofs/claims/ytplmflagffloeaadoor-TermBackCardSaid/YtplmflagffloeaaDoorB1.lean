/- Rv, Rg, Rf, Rl: merged (a claim holds few files). -/
import Derived.RegionTactic
import Derived.Orders
import Derived.Test.YtplmflagffloeaaDoorMem
/- A region that draws its order, by ONE invariant: it speaks of which operations have come up; each operation that may come up keeps it. No program is named here. -/
namespace Go.Proofs.YtplmflagffloeaaDoor
open Go

/-- operation i has come up, too -/
def hit (f : Nat → Bool) (i : Nat) : Nat → Bool := fun j => if j = i then true else f j
theorem hit_at (f : Nat → Bool) (i : Nat) : hit f i i = true := by simp [hit]
theorem hit_of (f : Nat → Bool) (i j : Nat) (h : j ≠ i) : hit f i j = f j := by simp [hit, h]

/-- each operation waits for earlier ones alone -/
def rises (ops : Array Oper) : Bool := (List.range ops.size).all fun i => ((ops[i]?).map (·.after.all fun e => !Region.binds .any e || decide (e.on < i))).getD true

section
variable {P : Program} {ops : Array Oper} {Q : Exit → Act → World → Prop}

theorem rises_spec (h : rises ops = true) {i : Nat} {o : Oper} (ho : ops[i]? = some o) : ∀ e ∈ o.after, Region.binds .any e = true → e.on < i := by
  intro e he hb
  have hi : i < ops.size := (Array.getElem?_eq_some_iff.1 ho).1
  have h1 := List.all_eq_true.1 h i (List.mem_range.2 hi)
  rw [ho] at h1
  simp only [Option.map_some, Option.getD_some] at h1
  have h2 := Array.all_eq_true_iff_forall_mem.1 h1 e he
  simp [hb] at h2
  exact h2

theorem count_hit (f : Nat → Bool) (i : Nat) (hf : f i = false) : ∀ n, (List.range n).countP (fun j => !hit f i j) + (if i < n then 1 else 0) = (List.range n).countP (fun j => !f j) := by
  intro n
  induction n with
  | zero => simp
  | succ n ih =>
    rw [List.range_succ, List.countP_append, List.countP_append, List.countP_singleton, List.countP_singleton]
    by_cases h : n = i
    · subst h
      have e1 : hit f n n = true := hit_at f n
      have e2 : ¬ n < n := by omega
      have e3 : n < n + 1 := by omega
      simp only [e2, if_false] at ih
      simp only [e1, hf, e3, if_true]
      simp
      omega
    · rw [hit_of f i n h]
      have e4 : (if i < n then 1 else 0) = (if i < n + 1 then 1 else 0) := by
        by_cases hi : i < n
        · rw [if_pos hi, if_pos (by omega)]
        · rw [if_neg hi, if_neg (by omega)]
      rw [e4] at ih
      omega

theorem wpAny_inv (hac : rises ops = true) (Inv : (Nat → Bool) → Act → World → Prop)
    (hstep : ∀ f a W i o, ops[i]? = some o → f i = false → (∀ e ∈ o.after, Region.binds .any e = true → f e.on = true) → Inv f a W → wpOp P ops Q i (fun a' W' => Inv (hit f i) a' W') a W)
    (hend : ∀ f a W, (∀ i, i < ops.size → f i = true) → Inv f a W → Q .normal a W) :
    ∀ (fuel : Nat) (f : Nat → Bool) (listed : Array Bool) (a : Act) (W : World), listed.size = ops.size → (∀ i, i < ops.size → listed[i]? = some (f i)) → Inv f a W →
      (List.range ops.size).countP (fun j => !f j) ≤ fuel → wpAny P .any ops Q fuel listed a W := by
  intro fuel
  induction fuel with
  | zero =>
    intro f listed a W hsz hl hI hc
    have hall : ∀ i, i < ops.size → f i = true := by
      intro i hi
      have h0 : (List.range ops.size).countP (fun j => !f j) = 0 := by omega
      have := List.countP_eq_zero.1 h0 i (List.mem_range.2 hi)
      simpa using this
    refine ⟨?_, hend f a W hall hI⟩
    apply List.eq_nil_iff_forall_not_mem.2
    intro i hi
    obtain ⟨h1, o, ho, _⟩ := mem_ready.1 hi
    have hio := (Array.getElem?_eq_some_iff.1 ho).1
    have h2 := hl i hio
    rw [Array.getD_eq_getD_getElem?, h2, hall i hio] at h1
    simp at h1
  | succ fuel ih =>
    intro f listed a W hsz hl hI hc
    refine ⟨fun hr => hend f a W ?_ hI, fun i hi => ?_⟩
    · intro i
      induction i using Nat.strongRecOn with
      | ind i ihi =>
        intro hi
        cases hf : f i with
        | true => rfl
        | false =>
          exfalso
          have ho : ops[i]? = some ops[i] := Array.getElem?_eq_getElem hi
          have hm : i ∈ Region.ready .any ops listed := by
            refine mem_ready.2 ⟨by rw [Array.getD_eq_getD_getElem?, hl i hi, hf]; rfl, ops[i], ho, fun e he hb => ?_⟩
            have hlt := rises_spec hac ho e he hb
            rw [Array.getD_eq_getD_getElem?, hl e.on (by omega), ihi e.on hlt (by omega)]
            rfl
          rw [hr] at hm
          cases hm
    · obtain ⟨h1, o, ho, hall⟩ := mem_ready.1 hi
      have hio := (Array.getElem?_eq_some_iff.1 ho).1
      have hf : f i = false := by
        rw [Array.getD_eq_getD_getElem?, hl i hio] at h1
        simpa using h1
      have hed : ∀ e ∈ o.after, Region.binds .any e = true → f e.on = true := by
        intro e he hb
        have h2 := hall e he hb
        have hlt := rises_spec hac ho e he hb
        rw [Array.getD_eq_getD_getElem?, hl e.on (by omega)] at h2
        simpa using h2
      refine wpOp_mono (fun a' W' hI' => ih (hit f i) (listed.setIfInBounds i true) a' W' (by simpa using hsz) ?_ hI' ?_) (hstep f a W i o ho hf hed hI)
      · intro j hj
        rw [Array.getElem?_setIfInBounds]
        by_cases hji : i = j
        · subst hji
          rw [if_pos rfl, if_pos (by omega), hit_at]
        · rw [if_neg hji, hl j hj, hit_of f i j (Ne.symm hji)]
      · have := count_hit f i hf ops.size
        rw [if_pos hio] at this
        omega

/-- THE WHOLE -/
theorem wp_region_inv {id : Nat} {a : Act} {w : World} (hm : P.follows .mixedOrders = true) (hac : rises ops = true) (Inv : (Nat → Bool) → Act → World → Prop)
    (h0 : Inv (fun _ => false) a w.drew)
    (hstep : ∀ f a W i o, ops[i]? = some o → f i = false → (∀ e ∈ o.after, Region.binds .any e = true → f e.on = true) → Inv f a W → wpOp P ops Q i (fun a' W' => Inv (hit f i) a' W') a W)
    (hend : ∀ f a W, (∀ i, i < ops.size → f i = true) → Inv f a W → Q .normal a W) : (Code.region id ops true).wp P Q a w :=
  wp_region_any hm (wpAny_inv hac Inv hstep hend ops.size (fun _ => false) _ a _ (by simp) (fun i hi => by rw [Array.getElem?_replicate, if_pos hi]) h0 (by
    have := List.countP_le_length (p := fun j => !(fun _ => false : Nat → Bool) j) (l := List.range ops.size)
    rw [List.length_range] at this
    exact this))
end
end Go.Proofs.YtplmflagffloeaaDoor

/- A region that draws its order, with guards: the invariant of values, and what keeps it. No program is named here. -/
namespace Go.Proofs.YtplmflagffloeaaDoor
open Go.RowKit
set_option linter.unusedVariables false

/-- a region's table: operation i leaves val i in slot s0 + i -/
structure Tg where
  s0 : Nat
  n : Nat
  size : Nat
  base : Array Value
  val : Nat → Value
structure Tg.Inv (T : Tg) (H : World → Prop) (f : Nat → Bool) (a : Act) (W : World) : Prop where
  size : a.tmps.size = T.size
  defers : a.defers = []
  base : ∀ s, (s < T.s0 ∨ T.s0 + T.n ≤ s) → a.tmps[s]?.getD undef = T.base[s]?.getD undef
  val : ∀ i, i < T.n → f i = true → a.tmps[T.s0 + i]?.getD undef = T.val i
  held : H W
theorem put_get' (a : Act) (d s : Nat) (v : Value) (h : d < a.tmps.size) : (a.put (some d) v).tmps[s]?.getD undef = if s = d then v else a.tmps[s]?.getD undef := by
  show (a.tmps.setIfInBounds d v)[s]?.getD undef = _
  rw [Array.getElem?_setIfInBounds]
  by_cases e : d = s
  · subst e
    rw [if_pos rfl, if_pos h, if_pos rfl]
    rfl
  · rw [if_neg e, if_neg (Ne.symm e)]
theorem Tg.Inv.step {T : Tg} {H : World → Prop} {f : Nat → Bool} {a : Act} {W W' : World} {i : Nat} (h : T.Inv H f a W) {v : Value} (hi : i < T.n) (hs : T.s0 + T.n ≤ T.size) (hv : T.val i = v) (hH : H W') :
    T.Inv H (hit f i) (a.put (some (T.s0 + i)) v) W' := by
  have hlt : T.s0 + i < a.tmps.size := by rw [h.size]; omega
  refine ⟨?_, h.defers, fun s hs' => ?_, fun j hj hf => ?_, hH⟩
  · show (a.tmps.setIfInBounds _ _).size = _
    rw [Array.size_setIfInBounds, h.size]
  · rw [put_get' _ _ _ _ hlt, if_neg (by omega), h.base s hs']
  · rw [put_get' _ _ _ _ hlt]
    by_cases e : j = i
    · subst e
      rw [if_pos rfl, hv]
    · rw [if_neg (by omega)]
      exact h.val j hj (by rw [hit_of f i j e] at hf; exact hf)
theorem yielded_of {ops : Array Oper} {tmps : Array Value} {j d : Nat} {b : Bool} (ho : (ops[j]?).bind (·.dst) = some d) (hsz : d < tmps.size) (hv : tmps[d]?.getD undef = .bool b) : yielded ops tmps j = some b := by
  unfold yielded
  rw [ho]
  have : tmps[d]? = some (.bool b) := by
    rw [Array.getElem?_eq_getElem hsz] at hv ⊢
    exact congrArg some hv
  simp [this]
/-- behind the region: the frame as a list -/
theorem Tg.Inv.list {T : Tg} {H : World → Prop} {f : Nat → Bool} {a : Act} {W : World} (h : T.Inv H f a W) (hsz : T.base.size = T.size) {m : Nat} (hm : T.n = m + 1) (hs : T.s0 + T.n ≤ T.size) (hl : f m = true) :
    ∃ xs : List Value, xs.length = m ∧ a.tmps.toList = T.base.toList.take T.s0 ++ (xs ++ T.val m :: T.base.toList.drop (T.s0 + T.n)) := by
  have hla : a.tmps.toList.length = T.size := by rw [Array.length_toList]; exact h.size
  have hlb : T.base.toList.length = T.size := by rw [Array.length_toList]; exact hsz
  have key : ∀ s, s < T.size → (s < T.s0 ∨ T.s0 + T.n ≤ s) → a.tmps.toList[s]? = T.base.toList[s]? := fun s h1 h2 => by
    have := h.base s h2
    rw [Array.getElem?_eq_getElem (by rw [h.size]; exact h1), Array.getElem?_eq_getElem (by rw [hsz]; exact h1)] at this
    rw [Array.getElem?_toList, Array.getElem?_toList, Array.getElem?_eq_getElem (by rw [h.size]; exact h1), Array.getElem?_eq_getElem (by rw [hsz]; exact h1)]
    exact congrArg some this
  refine ⟨(a.tmps.toList.drop T.s0).take m, by rw [List.length_take, List.length_drop]; omega, ?_⟩
  have hx : ((a.tmps.toList.drop T.s0).take m).length = m := by rw [List.length_take, List.length_drop]; omega
  have ht : (T.base.toList.take T.s0).length = T.s0 := by rw [List.length_take]; omega
  apply List.ext_getElem?
  intro s
  by_cases h1 : s < T.s0
  · rw [List.getElem?_append_left (by omega), List.getElem?_take_of_lt h1]
    exact key s (by omega) (.inl h1)
  · rw [List.getElem?_append_right (by omega), ht]
    by_cases h2 : s - T.s0 < m
    · rw [List.getElem?_append_left (by omega), List.getElem?_take_of_lt h2, List.getElem?_drop]
      congr 1
      omega
    · rw [List.getElem?_append_right (by omega), hx]
      by_cases h3 : s = T.s0 + m
      · subst h3
        have hv := h.val m (by omega) hl
        rw [Array.getElem?_eq_getElem (by rw [h.size]; omega)] at hv
        rw [show T.s0 + m - T.s0 - m = 0 by omega, List.getElem?_cons_zero, Array.getElem?_toList, Array.getElem?_eq_getElem (by rw [h.size]; omega)]
        exact congrArg some hv
      · obtain ⟨j, hj⟩ : ∃ j, s - T.s0 - m = j + 1 := ⟨s - T.s0 - m - 1, by omega⟩
        rw [hj, List.getElem?_cons_succ, List.getElem?_drop]
        by_cases h4 : s < T.size
        · rw [key s h4 (.inr (by omega))]
          congr 1
          omega
        · rw [List.getElem?_eq_none (by omega), List.getElem?_eq_none (by omega)]
end Go.Proofs.YtplmflagffloeaaDoor

/- A region that draws its order, whatever slots it writes: the invariant of values; what holds of the world may hang on which operations have come up. No program is named here. -/
namespace Go.Proofs.YtplmflagffloeaaDoor
open Go.RowKit
set_option linter.unusedVariables false
set_option linter.unusedSimpArgs false

/-- a region's table: operation i leaves val i in slot slots[i] -/
structure Tf where
  slots : List Nat
  size : Nat
  base : Array Value
  val : Nat → Value
structure Tf.Inv (T : Tf) (H : (Nat → Bool) → World → Prop) (f : Nat → Bool) (a : Act) (W : World) : Prop where
  size : a.tmps.size = T.size
  defers : a.defers = []
  base : ∀ s, T.slots.contains s = false → a.tmps[s]?.getD undef = T.base[s]?.getD undef
  val : ∀ i d, T.slots[i]? = some d → f i = true → a.tmps[d]?.getD undef = T.val i
  held : H f W
theorem Tf.Inv.step {T : Tf} {H : (Nat → Bool) → World → Prop} {f : Nat → Bool} {a : Act} {W W' : World} {i d : Nat} (h : T.Inv H f a W) {v : Value} (hd : T.slots[i]? = some d) (hn : T.slots.Nodup) (hs : d < T.size) (hv : T.val i = v) (hH : H (hit f i) W') :
    T.Inv H (hit f i) (a.put (some d) v) W' := by
  have hlt : d < a.tmps.size := by rw [h.size]; exact hs
  refine ⟨?_, h.defers, fun s hs' => ?_, fun j d' hj hf => ?_, hH⟩
  · show (a.tmps.setIfInBounds _ _).size = _
    rw [Array.size_setIfInBounds, h.size]
  · have hne : s ≠ d := by
      rintro rfl
      have : T.slots.contains s = true := by
        rw [List.contains_iff_mem]
        exact List.mem_of_getElem? hd
      rw [this] at hs'
      cases hs'
    rw [put_get' _ _ _ _ hlt, if_neg hne, h.base s hs']
  · rw [put_get' _ _ _ _ hlt]
    by_cases e : j = i
    · subst e
      obtain rfl : d = d' := Option.some.inj (hd.symm.trans hj)
      rw [if_pos rfl, hv]
    · have hne : d' ≠ d := by
        rintro rfl
        obtain ⟨h1, h2⟩ := List.getElem?_eq_some_iff.1 hd
        obtain ⟨h3, h4⟩ := List.getElem?_eq_some_iff.1 hj
        have hp := List.pairwise_iff_getElem.1 hn
        rcases Nat.lt_or_gt_of_ne e with h | h
        · exact hp j i h3 h1 h (h4.trans h2.symm)
        · exact hp i j h1 h3 h (h2.trans h4.symm)
      rw [if_neg hne]
      exact h.val j d' hj (by rw [hit_of f i j e] at hf; exact hf)
/-- the frame behind the region -/
def finGo : List Nat → Nat → (Nat → Value) → Array Value → Array Value
  | [], _, _, t => t
  | d :: r, k, val, t => finGo r (k + 1) val (t.setIfInBounds d (val k))
theorem fin_size : ∀ (l : List Nat) (k : Nat) (val : Nat → Value) (t : Array Value), (finGo l k val t).size = t.size := by
  intro l
  induction l with
  | nil => intro k val t; rfl
  | cons d r ih => intro k val t; rw [finGo, ih, Array.size_setIfInBounds]
theorem fin_other : ∀ (l : List Nat) (k : Nat) (val : Nat → Value) (t : Array Value) (s : Nat), s ∉ l → (finGo l k val t)[s]? = t[s]? := by
  intro l
  induction l with
  | nil => intro k val t s _; rfl
  | cons d r ih =>
    intro k val t s hs
    rw [finGo, ih _ _ _ _ (fun h => hs (by simp [h])), Array.getElem?_setIfInBounds, if_neg (fun e => hs (by simp [e]))]
theorem fin_at : ∀ (l : List Nat) (k : Nat) (val : Nat → Value) (t : Array Value) (i d : Nat), l.Nodup → l[i]? = some d → d < t.size → (finGo l k val t)[d]? = some (val (k + i)) := by
  intro l
  induction l with
  | nil => intro k val t i d _ h; simp at h
  | cons x r ih =>
    intro k val t i d hn hi hd
    rw [List.nodup_cons] at hn
    cases i with
    | zero =>
      have e : x = d := by simpa using hi
      subst e
      rw [finGo, fin_other r _ _ _ _ hn.1, Array.getElem?_setIfInBounds, if_pos rfl, if_pos hd]
      rfl
    | succ i =>
      have hi' : r[i]? = some d := by simpa using hi
      rw [finGo, ih (k + 1) val _ i d hn.2 hi' (by rw [Array.size_setIfInBounds]; exact hd)]
      congr 2
      omega
theorem Tf.Inv.fin {T : Tf} {H : (Nat → Bool) → World → Prop} {f : Nat → Bool} {a : Act} {W : World} (h : T.Inv H f a W) (hall : ∀ i, i < T.slots.length → f i = true) (hb : T.base.size = T.size) (hn : T.slots.Nodup) (hs : T.slots.all (fun d => decide (d < T.size)) = true) :
    a = ⟨finGo T.slots 0 T.val T.base, []⟩ := by
  obtain ⟨tms, df⟩ := a
  have hd : df = [] := h.defers
  subst hd
  have hsz : tms.size = T.size := h.size
  congr 1
  apply Array.ext_getElem?
  intro s
  by_cases hm : s ∈ T.slots
  · obtain ⟨i, hi⟩ := List.getElem?_of_mem hm
    have hlt : s < T.size := by simpa using List.all_eq_true.1 hs s hm
    rw [fin_at _ _ _ _ i s hn hi (by rw [hb]; exact hlt)]
    have hv := h.val i s hi (hall i (List.getElem?_eq_some_iff.1 hi).1)
    simp only at hv
    rw [Array.getElem?_eq_getElem (by rw [hsz]; exact hlt)] at hv ⊢
    rw [Nat.zero_add]
    exact congrArg some hv
  · rw [fin_other _ _ _ _ _ hm]
    have hv := h.base s (by simpa using hm)
    simp only at hv
    by_cases hlt : s < T.size
    · rw [Array.getElem?_eq_getElem (by rw [hsz]; exact hlt), Array.getElem?_eq_getElem (by rw [hb]; exact hlt)] at hv ⊢
      exact congrArg some hv
    · rw [Array.getElem?_eq_none (by rw [hsz]; omega), Array.getElem?_eq_none (by rw [hb]; omega)]
end Go.Proofs.YtplmflagffloeaaDoor

/- A region that draws its order and lays slices of its own: the invariant; what holds of the world hangs on which operations have come up. No program is named here. -/
namespace Go.Proofs.YtplmflagffloeaaDoor
open Go.RowKit
set_option linter.unusedVariables false
set_option linter.unusedSimpArgs false

/-- a region's table: operation i leaves its value in slot slots[i]: cv i, if that is known; a laid slice of the cells bt i, until operation c has come up -/
structure Tl where
  slots : List Nat
  size : Nat
  base : Array Value
  cv : Nat → Option Value
  bt : Nat → Option (TypeId × Array Value × Nat)
structure Tl.Inv (T : Tl) (H : (Nat → Bool) → World → Prop) (f : Nat → Bool) (a : Act) (W : World) : Prop where
  size : a.tmps.size = T.size
  defers : a.defers = []
  base : ∀ s, T.slots.contains s = false → a.tmps[s]?.getD undef = T.base[s]?.getD undef
  val : ∀ i d v, T.slots[i]? = some d → T.cv i = some v → f i = true → a.tmps[d]?.getD undef = v
  built : ∀ b d t cs c, T.slots[b]? = some d → T.bt b = some (t, cs, c) → f b = true → f c = false → ∃ G, a.tmps[d]?.getD undef = .slice (some ⟨G, 0, none⟩) cs.size cs.size ∧ At W G t cs
  held : H f W
theorem hit_no {f : Nat → Bool} {i c : Nat} (h : hit f i c = false) : f c = false := by
  unfold hit at h
  split at h
  · cases h
  · exact h
theorem slots_ne {l : List Nat} (hn : l.Nodup) {i j d d' : Nat} (h1 : l[i]? = some d) (h2 : l[j]? = some d') (e : j ≠ i) : d' ≠ d := by
  intro he
  obtain ⟨a1, a2⟩ := List.getElem?_eq_some_iff.1 h1
  obtain ⟨b1, b2⟩ := List.getElem?_eq_some_iff.1 h2
  have hp := List.pairwise_iff_getElem.1 hn
  rcases Nat.lt_or_gt_of_ne e with h | h
  · exact hp j i b1 a1 h (b2.trans (he.trans a2.symm))
  · exact hp i j a1 b1 h (a2.trans (he.symm.trans b2.symm))
section
variable {T : Tl} {H : (Nat → Bool) → World → Prop} {f : Nat → Bool} {a : Act} {W W' : World} {i d : Nat}
theorem Tl.Inv.slot (h : T.Inv H f a W) (v : Value) (hd : T.slots[i]? = some d) (hn : T.slots.Nodup) (hs : d < T.size) (hv : T.cv i = some v ∨ T.cv i = none)
    (hb : ∀ t cs c, T.bt i = some (t, cs, c) → ∃ G, v = .slice (some ⟨G, 0, none⟩) cs.size cs.size ∧ At W' G t cs)
    (hk : ∀ b t cs c G, T.bt b = some (t, cs, c) → At W G t cs → At W' G t cs) (hH : H (hit f i) W') : T.Inv H (hit f i) (a.put (some d) v) W' := by
  have hlt : d < a.tmps.size := by rw [h.size]; exact hs
  refine ⟨?_, h.defers, fun s hs' => ?_, fun j d' u hj hu hf => ?_, fun b d' t cs c hj hbt hf hc => ?_, hH⟩
  · show (a.tmps.setIfInBounds _ _).size = _
    rw [Array.size_setIfInBounds, h.size]
  · have hne : s ≠ d := by
      rintro rfl
      have : T.slots.contains s = true := by
        rw [List.contains_iff_mem]
        exact List.mem_of_getElem? hd
      rw [this] at hs'
      cases hs'
    rw [put_get' _ _ _ _ hlt, if_neg hne, h.base s hs']
  · rw [put_get' _ _ _ _ hlt]
    by_cases e : j = i
    · subst e
      obtain rfl : d = d' := Option.some.inj (hd.symm.trans hj)
      rw [if_pos rfl]
      rcases hv with hv | hv
      · rw [hv] at hu; exact Option.some.inj hu
      · rw [hv] at hu; cases hu
    · rw [if_neg (slots_ne hn hd hj e)]
      exact h.val j d' u hj hu (by rw [hit_of f i j e] at hf; exact hf)
  · rw [put_get' _ _ _ _ hlt]
    by_cases e : b = i
    · subst e
      obtain rfl : d = d' := Option.some.inj (hd.symm.trans hj)
      rw [if_pos rfl]
      exact hb t cs c hbt
    · rw [if_neg (slots_ne hn hd hj e)]
      obtain ⟨G, h1, h2⟩ := h.built b d' t cs c hj hbt (by rw [hit_of f i b e] at hf; exact hf) (hit_no hc)
      exact ⟨G, h1, hk b t cs c G hbt h2⟩
/-- an operation that leaves a known value -/
theorem Tl.Inv.step (h : T.Inv H f a W) {v : Value} (hd : T.slots[i]? = some d) (hn : T.slots.Nodup) (hs : d < T.size) (hv : T.cv i = some v) (hb : T.bt i = none)
    (hk : ∀ b t cs c G, T.bt b = some (t, cs, c) → At W G t cs → At W' G t cs) (hH : H (hit f i) W') : T.Inv H (hit f i) (a.put (some d) v) W' :=
  h.slot v hd hn hs (.inl hv) (fun t cs c hbt => by rw [hb] at hbt; cases hbt) hk hH
/-- an operation that lays a slice -/
theorem Tl.Inv.lay (h : T.Inv H f a W) {t : TypeId} {cs : Array Value} {c k : Nat} (hd : T.slots[i]? = some d) (hn : T.slots.Nodup) (hs : d < T.size) (hv : T.cv i = none) (hb : T.bt i = some (t, cs, c)) (hcs : cs.size = k) (hH : H (hit f i) (W.alloc (.cells cs t))) :
    T.Inv H (hit f i) (a.put (some d) (.slice (some ⟨W.heap.size, 0, none⟩) k k)) (W.alloc (.cells cs t)) := by
  subst hcs
  exact h.slot _ hd hn hs (.inr hv) (fun t' cs' c' hbt => by rw [hb] at hbt; cases hbt; exact ⟨_, rfl, At.new W t cs⟩) (fun _ _ _ _ _ _ h => h.alloc _) hH
/-- behind the region -/
theorem Tl.Inv.fin (h : T.Inv H f a W) (hall : ∀ i, i < T.slots.length → f i = true) (hb : T.base.size = T.size) (hn : T.slots.Nodup) (hs : T.slots.all (fun d => decide (d < T.size)) = true) :
    ∃ v : Nat → Value, a = ⟨finGo T.slots 0 (fun i => (T.cv i).getD (v i)) T.base, []⟩ := by
  refine ⟨fun i => a.tmps[T.slots[i]?.getD 0]?.getD undef, ?_⟩
  have hI : (Tf.mk T.slots T.size T.base (fun i => (T.cv i).getD (a.tmps[T.slots[i]?.getD 0]?.getD undef))).Inv H f a W := by
    refine ⟨h.size, h.defers, h.base, fun i d hd hf => ?_, h.held⟩
    show _ = (T.cv i).getD _
    cases hc : T.cv i with
    | some v => exact h.val i d v hd hc hf
    | none => have hd' : T.slots[i]? = some d := hd; rw [hd']; rfl
  exact hI.fin hall hb hn hs
end
end Go.Proofs.YtplmflagffloeaaDoor
