/- A region that draws its order, with guards: the invariant of values, and what keeps it. No program is named here. -/
import Derived.Test.YtniecodpdmjppaaDoorRv
import Derived.Test.YtniecodpdmjppaaDoorMem
namespace Go.Proofs.YtniecodpdmjppaaDoor
open Go.RowKit
set_option linter.unusedVariables false

/-- a region's table: operation i leaves val i in slot s0 + i -/
structure Tg where
  s0 : Nat
  n : Nat
  size : Nat
  base : Array Value
  val : Nat → Value
structure Tg.Inv (T : Tg) (H : World → Prop) (f : Nat → Bool) (a : Act) (W : World) : Prop where
  size : a.tmps.size = T.size
  defers : a.defers = []
  base : ∀ s, (s < T.s0 ∨ T.s0 + T.n ≤ s) → a.tmps[s]?.getD undef = T.base[s]?.getD undef
  val : ∀ i, i < T.n → f i = true → a.tmps[T.s0 + i]?.getD undef = T.val i
  held : H W
theorem put_get' (a : Act) (d s : Nat) (v : Value) (h : d < a.tmps.size) : (a.put (some d) v).tmps[s]?.getD undef = if s = d then v else a.tmps[s]?.getD undef := by
  show (a.tmps.setIfInBounds d v)[s]?.getD undef = _
  rw [Array.getElem?_setIfInBounds]
  by_cases e : d = s
  · subst e
    rw [if_pos rfl, if_pos h, if_pos rfl]
    rfl
  · rw [if_neg e, if_neg (Ne.symm e)]
theorem Tg.Inv.step {T : Tg} {H : World → Prop} {f : Nat → Bool} {a : Act} {W W' : World} {i : Nat} (h : T.Inv H f a W) {v : Value} (hi : i < T.n) (hs : T.s0 + T.n ≤ T.size) (hv : T.val i = v) (hH : H W') :
    T.Inv H (hit f i) (a.put (some (T.s0 + i)) v) W' := by
  have hlt : T.s0 + i < a.tmps.size := by rw [h.size]; omega
  refine ⟨?_, h.defers, fun s hs' => ?_, fun j hj hf => ?_, hH⟩
  · show (a.tmps.setIfInBounds _ _).size = _
    rw [Array.size_setIfInBounds, h.size]
  · rw [put_get' _ _ _ _ hlt, if_neg (by omega), h.base s hs']
  · rw [put_get' _ _ _ _ hlt]
    by_cases e : j = i
    · subst e
      rw [if_pos rfl, hv]
    · rw [if_neg (by omega)]
      exact h.val j hj (by rw [hit_of f i j e] at hf; exact hf)
theorem yielded_of {ops : Array Oper} {tmps : Array Value} {j d : Nat} {b : Bool} (ho : (ops[j]?).bind (·.dst) = some d) (hsz : d < tmps.size) (hv : tmps[d]?.getD undef = .bool b) : yielded ops tmps j = some b := by
  unfold yielded
  rw [ho]
  have : tmps[d]? = some (.bool b) := by
    rw [Array.getElem?_eq_getElem hsz] at hv ⊢
    exact congrArg some hv
  simp [this]
/-- behind the region: the frame as a list -/
theorem Tg.Inv.list {T : Tg} {H : World → Prop} {f : Nat → Bool} {a : Act} {W : World} (h : T.Inv H f a W) (hsz : T.base.size = T.size) {m : Nat} (hm : T.n = m + 1) (hs : T.s0 + T.n ≤ T.size) (hl : f m = true) :
    ∃ xs : List Value, xs.length = m ∧ a.tmps.toList = T.base.toList.take T.s0 ++ (xs ++ T.val m :: T.base.toList.drop (T.s0 + T.n)) := by
  have hla : a.tmps.toList.length = T.size := by rw [Array.length_toList]; exact h.size
  have hlb : T.base.toList.length = T.size := by rw [Array.length_toList]; exact hsz
  have key : ∀ s, s < T.size → (s < T.s0 ∨ T.s0 + T.n ≤ s) → a.tmps.toList[s]? = T.base.toList[s]? := fun s h1 h2 => by
    have := h.base s h2
    rw [Array.getElem?_eq_getElem (by rw [h.size]; exact h1), Array.getElem?_eq_getElem (by rw [hsz]; exact h1)] at this
    rw [Array.getElem?_toList, Array.getElem?_toList, Array.getElem?_eq_getElem (by rw [h.size]; exact h1), Array.getElem?_eq_getElem (by rw [hsz]; exact h1)]
    exact congrArg some this
  refine ⟨(a.tmps.toList.drop T.s0).take m, by rw [List.length_take, List.length_drop]; omega, ?_⟩
  have hx : ((a.tmps.toList.drop T.s0).take m).length = m := by rw [List.length_take, List.length_drop]; omega
  have ht : (T.base.toList.take T.s0).length = T.s0 := by rw [List.length_take]; omega
  apply List.ext_getElem?
  intro s
  by_cases h1 : s < T.s0
  · rw [List.getElem?_append_left (by omega), List.getElem?_take_of_lt h1]
    exact key s (by omega) (.inl h1)
  · rw [List.getElem?_append_right (by omega), ht]
    by_cases h2 : s - T.s0 < m
    · rw [List.getElem?_append_left (by omega), List.getElem?_take_of_lt h2, List.getElem?_drop]
      congr 1
      omega
    · rw [List.getElem?_append_right (by omega), hx]
      by_cases h3 : s = T.s0 + m
      · subst h3
        have hv := h.val m (by omega) hl
        rw [Array.getElem?_eq_getElem (by rw [h.size]; omega)] at hv
        rw [show T.s0 + m - T.s0 - m = 0 by omega, List.getElem?_cons_zero, Array.getElem?_toList, Array.getElem?_eq_getElem (by rw [h.size]; omega)]
        exact congrArg some hv
      · obtain ⟨j, hj⟩ : ∃ j, s - T.s0 - m = j + 1 := ⟨s - T.s0 - m - 1, by omega⟩
        rw [hj, List.getElem?_cons_succ, List.getElem?_drop]
        by_cases h4 : s < T.size
        · rw [key s h4 (.inr (by omega))]
          congr 1
          omega
        · rw [List.getElem?_eq_none (by omega), List.getElem?_eq_none (by omega)]
end Go.Proofs.YtniecodpdmjppaaDoor
