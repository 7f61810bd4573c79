/- A region that draws its order, by ONE invariant: it speaks of which operations have come up; each operation that may come up keeps it. No program is named here. -/
import Derived.RegionTactic
import Derived.Orders
namespace Go.Proofs.YtniecodpdmjppaaDoor
open Go

/-- operation i has come up, too -/
def hit (f : Nat → Bool) (i : Nat) : Nat → Bool := fun j => if j = i then true else f j
theorem hit_at (f : Nat → Bool) (i : Nat) : hit f i i = true := by simp [hit]
theorem hit_of (f : Nat → Bool) (i j : Nat) (h : j ≠ i) : hit f i j = f j := by simp [hit, h]

/-- each operation waits for earlier ones alone -/
def rises (ops : Array Oper) : Bool := (List.range ops.size).all fun i => ((ops[i]?).map (·.after.all fun e => !Region.binds .any e || decide (e.on < i))).getD true

section
variable {P : Program} {ops : Array Oper} {Q : Exit → Act → World → Prop}

theorem rises_spec (h : rises ops = true) {i : Nat} {o : Oper} (ho : ops[i]? = some o) : ∀ e ∈ o.after, Region.binds .any e = true → e.on < i := by
  intro e he hb
  have hi : i < ops.size := (Array.getElem?_eq_some_iff.1 ho).1
  have h1 := List.all_eq_true.1 h i (List.mem_range.2 hi)
  rw [ho] at h1
  simp only [Option.map_some, Option.getD_some] at h1
  have h2 := Array.all_eq_true_iff_forall_mem.1 h1 e he
  simp [hb] at h2
  exact h2

theorem count_hit (f : Nat → Bool) (i : Nat) (hf : f i = false) : ∀ n, (List.range n).countP (fun j => !hit f i j) + (if i < n then 1 else 0) = (List.range n).countP (fun j => !f j) := by
  intro n
  induction n with
  | zero => simp
  | succ n ih =>
    rw [List.range_succ, List.countP_append, List.countP_append, List.countP_singleton, List.countP_singleton]
    by_cases h : n = i
    · subst h
      have e1 : hit f n n = true := hit_at f n
      have e2 : ¬ n < n := by omega
      have e3 : n < n + 1 := by omega
      simp only [e2, if_false] at ih
      simp only [e1, hf, e3, if_true]
      simp
      omega
    · rw [hit_of f i n h]
      have e4 : (if i < n then 1 else 0) = (if i < n + 1 then 1 else 0) := by
        by_cases hi : i < n
        · rw [if_pos hi, if_pos (by omega)]
        · rw [if_neg hi, if_neg (by omega)]
      rw [e4] at ih
      omega

theorem wpAny_inv (hac : rises ops = true) (Inv : (Nat → Bool) → Act → World → Prop)
    (hstep : ∀ f a W i o, ops[i]? = some o → f i = false → (∀ e ∈ o.after, Region.binds .any e = true → f e.on = true) → Inv f a W → wpOp P ops Q i (fun a' W' => Inv (hit f i) a' W') a W)
    (hend : ∀ f a W, (∀ i, i < ops.size → f i = true) → Inv f a W → Q .normal a W) :
    ∀ (fuel : Nat) (f : Nat → Bool) (listed : Array Bool) (a : Act) (W : World), listed.size = ops.size → (∀ i, i < ops.size → listed[i]? = some (f i)) → Inv f a W →
      (List.range ops.size).countP (fun j => !f j) ≤ fuel → wpAny P .any ops Q fuel listed a W := by
  intro fuel
  induction fuel with
  | zero =>
    intro f listed a W hsz hl hI hc
    have hall : ∀ i, i < ops.size → f i = true := by
      intro i hi
      have h0 : (List.range ops.size).countP (fun j => !f j) = 0 := by omega
      have := List.countP_eq_zero.1 h0 i (List.mem_range.2 hi)
      simpa using this
    refine ⟨?_, hend f a W hall hI⟩
    apply List.eq_nil_iff_forall_not_mem.2
    intro i hi
    obtain ⟨h1, o, ho, _⟩ := mem_ready.1 hi
    have hio := (Array.getElem?_eq_some_iff.1 ho).1
    have h2 := hl i hio
    rw [Array.getD_eq_getD_getElem?, h2, hall i hio] at h1
    simp at h1
  | succ fuel ih =>
    intro f listed a W hsz hl hI hc
    refine ⟨fun hr => hend f a W ?_ hI, fun i hi => ?_⟩
    · intro i
      induction i using Nat.strongRecOn with
      | ind i ihi =>
        intro hi
        cases hf : f i with
        | true => rfl
        | false =>
          exfalso
          have ho : ops[i]? = some ops[i] := Array.getElem?_eq_getElem hi
          have hm : i ∈ Region.ready .any ops listed := by
            refine mem_ready.2 ⟨by rw [Array.getD_eq_getD_getElem?, hl i hi, hf]; rfl, ops[i], ho, fun e he hb => ?_⟩
            have hlt := rises_spec hac ho e he hb
            rw [Array.getD_eq_getD_getElem?, hl e.on (by omega), ihi e.on hlt (by omega)]
            rfl
          rw [hr] at hm
          cases hm
    · obtain ⟨h1, o, ho, hall⟩ := mem_ready.1 hi
      have hio := (Array.getElem?_eq_some_iff.1 ho).1
      have hf : f i = false := by
        rw [Array.getD_eq_getD_getElem?, hl i hio] at h1
        simpa using h1
      have hed : ∀ e ∈ o.after, Region.binds .any e = true → f e.on = true := by
        intro e he hb
        have h2 := hall e he hb
        have hlt := rises_spec hac ho e he hb
        rw [Array.getD_eq_getD_getElem?, hl e.on (by omega)] at h2
        simpa using h2
      refine wpOp_mono (fun a' W' hI' => ih (hit f i) (listed.setIfInBounds i true) a' W' (by simpa using hsz) ?_ hI' ?_) (hstep f a W i o ho hf hed hI)
      · intro j hj
        rw [Array.getElem?_setIfInBounds]
        by_cases hji : i = j
        · subst hji
          rw [if_pos rfl, if_pos (by omega), hit_at]
        · rw [if_neg hji, hl j hj, hit_of f i j (Ne.symm hji)]
      · have := count_hit f i hf ops.size
        rw [if_pos hio] at this
        omega

/-- THE WHOLE -/
theorem wp_region_inv {id : Nat} {a : Act} {w : World} (hm : P.follows .mixedOrders = true) (hac : rises ops = true) (Inv : (Nat → Bool) → Act → World → Prop)
    (h0 : Inv (fun _ => false) a w.drew)
    (hstep : ∀ f a W i o, ops[i]? = some o → f i = false → (∀ e ∈ o.after, Region.binds .any e = true → f e.on = true) → Inv f a W → wpOp P ops Q i (fun a' W' => Inv (hit f i) a' W') a W)
    (hend : ∀ f a W, (∀ i, i < ops.size → f i = true) → Inv f a W → Q .normal a W) : (Code.region id ops true).wp P Q a w :=
  wp_region_any hm (wpAny_inv hac Inv hstep hend ops.size (fun _ => false) _ a _ (by simp) (fun i hi => by rw [Array.getElem?_replicate, if_pos hi]) h0 (by
    have := List.countP_le_length (p := fun j => !(fun _ => false : Nat → Bool) j) (l := List.range ops.size)
    rw [List.length_range] at this
    exact this))
end
end Go.Proofs.YtniecodpdmjppaaDoor
