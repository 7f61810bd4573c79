/- Yf: merged (a claim holds few files). -/
import Derived.Test.YtplmflagffloeaaDoorB1
import Derived.Test.YtplmflagffloeaaDoorB3
import Derived.Test.YtplmflagffloeaaDoorBd
import Derived.Test.YtplmflagffloeaaDoorEu
import Derived.Test.YtplmflagffloeaaDoorEy
import Derived.Test.YtplmflagffloeaaDoorSf
import Derived.Test.YtplmflagffloeaaDoorEn
import Derived.Test.YtplmflagffloeaaDoorEs
/- term.frames: region 6: an entry is written as a frame. Written by gen_rl.py. -/
namespace Go.Proofs.YtplmflagffloeaaDoor
open Go.RowKit
open Sm
set_option linter.unusedVariables false
set_option linter.unusedSimpArgs false


theorem enc_eq (x : En) : nums [(x.idx : Int), (x.tm : Int)] ++ texts [x.cmd] = x.enc := by simp [nums, texts, En.enc]
/-- what an Enc that was handed out holds -/
def frBs (x : En) (f : Nat → Bool) : List UInt8 := if f 9 = true then nums [(x.idx : Int), (x.tm : Int)] ++ texts [x.cmd] else if f 5 = true then nums [(x.idx : Int), (x.tm : Int)] else []
structure FrE (w0 : World) (X g b : Nat) (x : En) (acc : List UInt8) (se sf : ByteArray) : Prop where
  steps : Steps w0
  ok : x.ok
  lb : w0.heap.size ≤ b
  lg : w0.heap.size ≤ g
  acc : acc.length ≤ 10000000
  se : se = ⟨x.enc.toArray⟩
  sf : sf = ⟨(frameL x.enc).toArray⟩
structure FrH (w0 : World) (X g b : Nat) (x : En) (acc : List UInt8) (f : Nat → Bool) (W : World) : Prop where
  o9 : f 9 = true → f 5 = true
  o10 : f 10 = true → f 9 = true
  o12 : f 12 = true → f 10 = true
  o13 : f 13 = true → f 12 = true
  low : Below w0.heap.size w0 W
  at_ : At W X 30 #[.int .i64 (x.idx : Int), .int .i64 (x.tm : Int), .string x.cmd]
  enc : f 13 = false → EncIs W g (frBs x f)
  bd : BdIs W b (if f 13 = true then acc ++ frameL x.enc else acc)
section
variable {w0 W W1 : World} {X g b : Nat} {x : En} {acc : List UInt8} {se sf : ByteArray} {f : Nat → Bool}
theorem FrH.no13 (h : FrH w0 X g b x acc f W) {k : Nat} (hk : k = 5 ∨ k = 9 ∨ k = 10 ∨ k = 12 ∨ k = 13) (hf : f k = false) : f 13 = false := by
  have h1 := h.o9
  have h2 := h.o10
  have h3 := h.o12
  have h4 := h.o13
  cases h13 : f 13 with
  | false => rfl
  | true =>
    have a := h4 h13
    have b := h3 a
    have c := h2 b
    have d := h1 c
    rcases hk with rfl | rfl | rfl | rfl | rfl <;> simp_all
theorem FrH.pure (h : FrH w0 X g b x acc f W) (i : Nat) (hi : i ≠ 5 ∧ i ≠ 9 ∧ i ≠ 10 ∧ i ≠ 12 ∧ i ≠ 13) : FrH w0 X g b x acc (hit f i) W := by
  obtain ⟨a1, a2, a3, a4, a5⟩ := hi
  have e5 := hit_of f i 5 (Ne.symm a1)
  have e9 := hit_of f i 9 (Ne.symm a2)
  have e10 := hit_of f i 10 (Ne.symm a3)
  have e12 := hit_of f i 12 (Ne.symm a4)
  have e13 := hit_of f i 13 (Ne.symm a5)
  have eb : frBs x (hit f i) = frBs x f := by unfold frBs; rw [e5, e9]
  refine ⟨?_, ?_, ?_, ?_, h.low, h.at_, ?_, ?_⟩
  · rw [e9, e5]; exact h.o9
  · rw [e10, e9]; exact h.o10
  · rw [e12, e10]; exact h.o12
  · rw [e13, e12]; exact h.o13
  · rw [e13, eb]; exact h.enc
  · rw [e13]; exact h.bd
theorem FrH.alloc (h : FrH w0 X g b x acc f W) (o : Obj) : FrH w0 X g b x acc f (W.alloc o) :=
  ⟨h.o9, h.o10, h.o12, h.o13, h.low.alloc h.low.size o, h.at_.alloc o, fun hf => (h.enc hf).same (World.grownBy_alloc W _ _), h.bd.alloc o⟩
theorem FrH.drew (h : FrH w0 X g b x acc f W) : FrH w0 X g b x acc f W.drew :=
  ⟨h.o9, h.o10, h.o12, h.o13, Below.drew h.low, h.at_, fun hf => (h.enc hf).below (Below.drew (Below.refl _ W)) rfl, h.bd.drew⟩
theorem FrH.low' (h : FrH w0 X g b x acc f W) (E : FrE w0 X g b x acc se sf) : Steps W := E.steps.below h.low E.steps.1
/-- a call on the Enc -/
theorem FrH.grew (h : FrH w0 X g b x acc f W) (E : FrE w0 X g b x acc se sf) {i : Nat} {bs : List UInt8} (h13 : f 13 = false) (hg : W.grownBy W1 (some g)) (he : EncIs W1 g bs)
    (o9 : hit f i 9 = true → hit f i 5 = true) (o10 : hit f i 10 = true → hit f i 9 = true) (o12 : hit f i 12 = true → hit f i 10 = true) (o13 : hit f i 13 = true → hit f i 12 = true) (hi : i ≠ 13) (hb : bs = frBs x (hit f i)) : FrH w0 X g b x acc (hit f i) W1 := by
  obtain ⟨cs, hcs⟩ := (h.enc h13).at_
  have e13 := hit_of f i 13 (Ne.symm hi)
  have hX : X ≠ g := h.at_.differ hcs (by decide)
  refine ⟨o9, o10, o12, o13, below_of_grownBy h.low hg h.low.size E.lg, h.at_.grown hg (by simpa using hX), fun _ => by rw [← hb]; exact he, ?_⟩
  rw [e13]
  exact h.bd.grown hcs (by decide) (by decide) hg
/-- a call that makes new blocks alone -/
theorem FrH.after (h : FrH w0 X g b x acc f W) {i : Nat} (hb : Below W.heap.size W W1) (o9 : hit f i 9 = true → hit f i 5 = true) (o10 : hit f i 10 = true → hit f i 9 = true) (o12 : hit f i 12 = true → hit f i 10 = true) (o13 : hit f i 13 = true → hit f i 12 = true) (hi : i ≠ 13 ∧ i ≠ 9 ∧ i ≠ 5) : FrH w0 X g b x acc (hit f i) W1 := by
  have e13 := hit_of f i 13 (Ne.symm hi.1)
  have e9 := hit_of f i 9 (Ne.symm hi.2.1)
  have e5 := hit_of f i 5 (Ne.symm hi.2.2)
  have eb : frBs x (hit f i) = frBs x f := by unfold frBs; rw [e5, e9]
  refine ⟨o9, o10, o12, o13, h.low.trans (hb.mono h.low.size), h.at_.below hb h.at_.lt, ?_, ?_⟩
  · rw [e13, eb]; exact fun hf => (h.enc hf).below hb rfl
  · rw [e13]; exact h.bd.below hb
end
section
variable {w0 W W1 : World} {X g b : Nat} {x : En} {acc : List UInt8} {se sf : ByteArray} {f : Nat → Bool}
theorem fr_I (E : FrE w0 X g b x acc se sf) (f : Nat → Bool) (W : World) (hf : f 5 = false) (h4 : f 4 = true) (G : Nat) (hG : At W G 3 #[.int .i64 (x.idx : Int), .int .i64 (x.tm : Int)]) (h : FrH w0 X g b x acc f W) :
    Calls Tryd.prog 26 #[.pointer (some ⟨g, 0, none⟩), .slice (some ⟨G, 0, none⟩) 2 2] W fun e w' => e = .returned (.pointer (some ⟨g, 0, none⟩)) ∧ EncIs w' g (nums [(x.idx : Int), (x.tm : Int)]) ∧ W.grownBy w' (some g) := by
  have h13 := h.no13 (.inl rfl) hf
  have he := h.enc h13
  have h9 : f 9 = false := by
    cases h9 : f 9 with
    | false => rfl
    | true => have := h.o9 h9; rw [hf] at this; cases this
  have e0 : frBs x f = [] := by unfold frBs; rw [h9, hf]; rfl
  rw [e0] at he
  have h1 := E.ok.idx
  have h2 := E.ok.tm
  exact encI_any g [] [(x.idx : Int), (x.tm : Int)] (by simp; omega) (some ⟨G, 0, none⟩) 2 W he (Lies.of_at hG rfl hG.lt) (by simp)
theorem fr_S (E : FrE w0 X g b x acc se sf) (f : Nat → Bool) (W : World) (hf : f 9 = false) (h5 : f 5 = true) (h8 : f 8 = true) (G : Nat) (hG : At W G 9 #[.string x.cmd]) (h : FrH w0 X g b x acc f W) :
    Calls Tryd.prog 28 #[.pointer (some ⟨g, 0, none⟩), .slice (some ⟨G, 0, none⟩) 1 1] W fun e w' => e = .returned (.pointer (some ⟨g, 0, none⟩)) ∧ EncIs w' g (nums [(x.idx : Int), (x.tm : Int)] ++ texts [x.cmd]) ∧ W.grownBy w' (some g) := by
  have he := h.enc (h.no13 (.inr (.inl rfl)) hf)
  have e0 : frBs x f = nums [(x.idx : Int), (x.tm : Int)] := by unfold frBs; rw [hf, h5]; rfl
  rw [e0] at he
  have h3 := enc_max E.ok
  have h4 := E.ok.cmd
  have e1 : (nums [(x.idx : Int), (x.tm : Int)]).length + (texts [x.cmd]).length = x.enc.length := by rw [← enc_eq, List.length_append]
  exact encS_any g _ [x.cmd] (some ⟨G, 0, none⟩) 1 W he (Lies.of_at hG rfl hG.lt) (by omega)
theorem fr_B (E : FrE w0 X g b x acc se sf) (f : Nat → Bool) (W : World) (hf : f 10 = false) (h9 : f 9 = true) (h : FrH w0 X g b x acc f W) :
    Calls Tryd.prog 27 #[.pointer (some ⟨g, 0, none⟩)] W fun e w' => e = .returned (.string se) ∧ Below W.heap.size W w' := by
  have he := h.enc (h.no13 (.inr (.inr (.inl rfl))) hf)
  have e0 : frBs x f = x.enc := by unfold frBs; rw [h9, if_pos rfl, enc_eq]
  rw [e0] at he
  have h3 := enc_max E.ok
  have h4 := E.ok.cmd
  rw [E.se]
  exact bytes_any g x.enc W he (by omega)
theorem fr_F (E : FrE w0 X g b x acc se sf) (f : Nat → Bool) (W : World) (hf : f 12 = false) (h10 : f 10 = true) (h11 : f 11 = true) (G : Nat) (hG : At W G 9 #[.string se]) (h : FrH w0 X g b x acc f W) :
    Calls Tryd.prog 25 #[.slice (some ⟨G, 0, none⟩) 1 1] W fun e w' => e = .returned (.string sf) ∧ Below W.heap.size W w' := by
  have h3 := enc_max E.ok
  have h4 := E.ok.cmd
  have hd : se.data.toList = x.enc := by rw [E.se]
  have hc : cat [se] = x.enc := by simp [cat, hd]
  have := frame_any [se] G 1 W (h.low' E) (by simp) hG.lt (fun j y hj => by
    have hj0 : j = 0 := by
      rcases Nat.eq_zero_or_pos j with h | h
      · exact h
      · rw [List.getElem?_eq_none (by simp; omega)] at hj; cases hj
    subst hj0
    simp at hj
    subst hj
    exact hG.cell 0) (by rw [hc]; omega) (by simp)
  rw [hc] at this
  rw [E.sf]
  exact this
theorem fr_W (E : FrE w0 X g b x acc se sf) (f : Nat → Bool) (W : World) (hf : f 13 = false) (h12 : f 12 = true) (h : FrH w0 X g b x acc f W) :
    Calls Tryd.prog 41 #[.pointer (some ⟨b, 0, none⟩), .string sf] W fun e w' => e = .returned (.tuple #[.int .i64 sf.size, .nilIface]) ∧ (BdIs w' b (acc ++ frameL x.enc) ∧ Below b W w' ∧ Lib.OthersKept 5 (some b) W w') := by
  have hb := h.bd
  rw [hf, if_neg (by simp)] at hb
  have h3 := enc_max E.ok
  have h4 := E.ok.cmd
  have h5 := E.acc
  have hz : sf.size = 8 + x.enc.length := by rw [E.sf, str_len, frameL_len]
  refine (Tryd.Builder_WriteString_k b b (Lib.byteCells acc) sf W hb (by simp only [Lib.byteCells, List.length_map]; omega) (by have := hb.lt; omega)).mono ?_
  rintro e w' ⟨rfl, h1, h2, h3⟩
  refine ⟨rfl, .inr ?_, h2, h3⟩
  have e : Lib.byteCells (acc ++ frameL x.enc) = Lib.byteCells acc ++ Lib.strCells sf := by rw [E.sf]; simp [Lib.byteCells, Lib.strCells]
  rw [e]
  exact h1
end
def frTb (w0 : World) (X g b : Nat) (x : En) (acc : List UInt8) (se sf : ByteArray) (base : Array Value) : Tl where
  slots := [13, 14, 15, 16, 17, 18, 19, 20, 21, 22, 23, 24, 25, 26]
  size := 29
  base := base
  cv := fun
    | 0 => some (.pointer (some ⟨X, 0, none⟩))
    | 1 => some (.int .i64 (x.idx : Int))
    | 2 => some (.pointer (some ⟨X, 1, none⟩))
    | 3 => some (.int .i64 (x.tm : Int))
    | 5 => some (.pointer (some ⟨g, 0, none⟩))
    | 6 => some (.pointer (some ⟨X, 2, none⟩))
    | 7 => some (.string x.cmd)
    | 9 => some (.pointer (some ⟨g, 0, none⟩))
    | 10 => some (.string se)
    | 12 => some (.string sf)
    | 13 => some (.tuple #[.int .i64 (sf.size : Int), .nilIface])
    | _ => none
  bt := fun
    | 4 => some (3, #[.int .i64 (x.idx : Int), .int .i64 (x.tm : Int)], 5)
    | 8 => some (9, #[.string x.cmd], 9)
    | 11 => some (9, #[.string se], 12)
    | _ => none

theorem frTb_ne {w0 : World} {X g b : Nat} {x : En} {acc : List UInt8} {se sf : ByteArray} {base : Array Value} {i : Nat} {t : TypeId} {cs : Array Value} {c : Nat} (h : (frTb w0 X g b x acc se sf base).bt i = some (t, cs, c)) : t = 3 ∨ t = 9 := by
  unfold frTb at h
  simp only at h
  split at h
  all_goals first | (cases h; done) | (injection h with h; injection h with h _; subst h; first | exact .inl rfl | exact .inr rfl)
section
variable {w0 : World} {X g b : Nat} {x : En} {acc : List UInt8} {se sf : ByteArray} {base : Array Value}
theorem fr_grown (E : FrE w0 X g b x acc se sf) {f : Nat → Bool} {W W1 : World} (h : FrH w0 X g b x acc f W) (h13 : f 13 = false) (hg : W.grownBy W1 (some g)) : ∀ i t cs c G, (frTb w0 X g b x acc se sf base).bt i = some (t, cs, c) → At W G t cs → At W1 G t cs := fun i t cs c G hb ha => by
  obtain ⟨ce, hce⟩ := (h.enc h13).at_
  have hG : G ≠ g := ha.differ hce (by rcases frTb_ne hb with rfl | rfl <;> decide)
  exact ha.grown hg (by simpa using hG)
theorem fr_Ik (E : FrE w0 X g b x acc se sf) (f : Nat → Bool) (W W1 : World) (hf : f 5 = false) (h4 : f 4 = true) (h : FrH w0 X g b x acc f W) (hq : EncIs W1 g (nums [(x.idx : Int), (x.tm : Int)]) ∧ W.grownBy W1 (some g)) :
    (∀ i t cs c G, (frTb w0 X g b x acc se sf base).bt i = some (t, cs, c) → At W G t cs → At W1 G t cs) ∧ FrH w0 X g b x acc (hit f 5) W1 := by
  have h13 := h.no13 (.inl rfl) hf
  have h9 : f 9 = false := by
    cases h9 : f 9 with
    | false => rfl
    | true => have := h.o9 h9; rw [hf] at this; cases this
  refine ⟨fr_grown E h h13 hq.2, h.grew E h13 hq.2 hq.1 ?_ ?_ ?_ ?_ (by decide) ?_⟩
  · intro _; exact hit_at f 5
  · rw [hit_of f 5 10 (by decide), hit_of f 5 9 (by decide)]; exact h.o10
  · rw [hit_of f 5 12 (by decide), hit_of f 5 10 (by decide)]; exact h.o12
  · rw [hit_of f 5 13 (by decide), hit_of f 5 12 (by decide)]; exact h.o13
  · unfold frBs; rw [hit_at, hit_of f 5 9 (by decide), h9]; rfl
theorem fr_Sk (E : FrE w0 X g b x acc se sf) (f : Nat → Bool) (W W1 : World) (hf : f 9 = false) (h5 : f 5 = true) (h8 : f 8 = true) (h : FrH w0 X g b x acc f W) (hq : EncIs W1 g (nums [(x.idx : Int), (x.tm : Int)] ++ texts [x.cmd]) ∧ W.grownBy W1 (some g)) :
    (∀ i t cs c G, (frTb w0 X g b x acc se sf base).bt i = some (t, cs, c) → At W G t cs → At W1 G t cs) ∧ FrH w0 X g b x acc (hit f 9) W1 := by
  have h13 := h.no13 (.inr (.inl rfl)) hf
  refine ⟨fr_grown E h h13 hq.2, h.grew E h13 hq.2 hq.1 ?_ ?_ ?_ ?_ (by decide) ?_⟩
  · intro _; rw [hit_of f 9 5 (by decide)]; exact h5
  · intro _; exact hit_at f 9
  · rw [hit_of f 9 12 (by decide), hit_of f 9 10 (by decide)]; exact h.o12
  · rw [hit_of f 9 13 (by decide), hit_of f 9 12 (by decide)]; exact h.o13
  · unfold frBs; rw [hit_at]; rfl
theorem fr_Bk (E : FrE w0 X g b x acc se sf) (f : Nat → Bool) (W W1 : World) (hf : f 10 = false) (h9 : f 9 = true) (h : FrH w0 X g b x acc f W) (hq : Below W.heap.size W W1) :
    (∀ i t cs c G, (frTb w0 X g b x acc se sf base).bt i = some (t, cs, c) → At W G t cs → At W1 G t cs) ∧ FrH w0 X g b x acc (hit f 10) W1 := by
  refine ⟨fun i t cs c G _ ha => ha.below hq ha.lt, h.after hq ?_ ?_ ?_ ?_ (by decide)⟩
  · rw [hit_of f 10 9 (by decide), hit_of f 10 5 (by decide)]; exact h.o9
  · intro _; rw [hit_of f 10 9 (by decide)]; exact h9
  · intro _; exact hit_at f 10
  · rw [hit_of f 10 13 (by decide), hit_of f 10 12 (by decide)]; exact h.o13
theorem fr_Fk (E : FrE w0 X g b x acc se sf) (f : Nat → Bool) (W W1 : World) (hf : f 12 = false) (h10 : f 10 = true) (h11 : f 11 = true) (h : FrH w0 X g b x acc f W) (hq : Below W.heap.size W W1) :
    (∀ i t cs c G, (frTb w0 X g b x acc se sf base).bt i = some (t, cs, c) → At W G t cs → At W1 G t cs) ∧ FrH w0 X g b x acc (hit f 12) W1 := by
  refine ⟨fun i t cs c G _ ha => ha.below hq ha.lt, h.after hq ?_ ?_ ?_ ?_ (by decide)⟩
  · rw [hit_of f 12 9 (by decide), hit_of f 12 5 (by decide)]; exact h.o9
  · rw [hit_of f 12 10 (by decide), hit_of f 12 9 (by decide)]; exact h.o10
  · intro _; rw [hit_of f 12 10 (by decide)]; exact h10
  · intro _; exact hit_at f 12
theorem fr_Wk (E : FrE w0 X g b x acc se sf) (f : Nat → Bool) (W W1 : World) (hf : f 13 = false) (h12 : f 12 = true) (h : FrH w0 X g b x acc f W) (hq : BdIs W1 b (acc ++ frameL x.enc) ∧ Below b W W1 ∧ Lib.OthersKept 5 (some b) W W1) :
    (∀ i t cs c G, (frTb w0 X g b x acc se sf base).bt i = some (t, cs, c) → At W G t cs → At W1 G t cs) ∧ FrH w0 X g b x acc (hit f 13) W1 := by
  obtain ⟨cb, hcb⟩ := h.bd.at_
  refine ⟨fun i t cs c G hb ha => ?_, ?_, ?_, ?_, ?_, h.low.trans (hq.2.1.mono E.lb), ?_, ?_, ?_⟩
  · have hG : G ≠ b := ha.differ hcb (by rcases frTb_ne hb with rfl | rfl <;> decide)
    exact hq.2.2 G _ ha (by simpa using hG) (by rintro cs fz e; injection e with _ e _; subst e; revert hb; intro hb; rcases frTb_ne hb with e | e <;> (revert e; decide))
  · rw [hit_of f 13 9 (by decide), hit_of f 13 5 (by decide)]; exact h.o9
  · rw [hit_of f 13 10 (by decide), hit_of f 13 9 (by decide)]; exact h.o10
  · rw [hit_of f 13 12 (by decide), hit_of f 13 10 (by decide)]; exact h.o12
  · intro _; rw [hit_of f 13 12 (by decide)]; exact h12
  · have hX : X ≠ b := h.at_.differ hcb (by decide)
    exact hq.2.2 X _ h.at_ (by simpa using hX) (by rintro cs fz e; injection e with _ e _; revert e; decide)
  · rw [hit_at]; intro h; cases h
  · rw [hit_at, if_pos rfl]; exact hq.1
end
structure frEnv (w0 : World) (X g b : Nat) (x : En) (acc : List UInt8) (se sf : ByteArray) (base : Array Value) : Prop where
  b5 : base[5]?.getD undef = .pointer (some ⟨X, 0, none⟩)
  b6 : base[6]?.getD undef = .pointer (some ⟨g, 0, none⟩)
  b3 : base[3]?.getD undef = .pointer (some ⟨b, 0, none⟩)
  e : FrE w0 X g b x acc se sf
theorem fr_nodup : [13, 14, 15, 16, 17, 18, 19, 20, 21, 22, 23, 24, 25, 26].Nodup := by decide
set_option maxRecDepth 100000 in
theorem fr_0 {w0 : World} {X g b : Nat} {x : En} {acc : List UInt8} {se sf : ByteArray} {base : Array Value} {f : Nat → Bool} {a : Act} {W : World} {K : Act → World → Prop} {Q : Exit → Act → World → Prop} {ops : Array Oper} (E : frEnv w0 X g b x acc se sf base) (hI : (frTb w0 X g b x acc se sf base).Inv (FrH w0 X g b x acc) f a W) (hf : f 0 = false) (pos : String) (hK : ∀ a' W', (frTb w0 X g b x acc se sf base).Inv (FrH w0 X g b x acc) (hit f 0) a' W' → K a' W') : if Region.wanted { dst := some 13, op := Go.Op.fieldAddr 30 (Go.Operand.tmp 5) 0, type := 0, pos := pos, after := #[], guard := none } (yielded ops a.tmps) = true then Oper.wp Tryd.prog { dst := some 13, op := Go.Op.fieldAddr 30 (Go.Operand.tmp 5) 0, type := 0, pos := pos, after := #[], guard := none } a W K Q else K (a.put (some 13) undef) W := by
  have q : a.tmps[5]?.getD undef = .pointer (some ⟨X, 0, none⟩) := (hI.base 5 rfl).trans E.b5
  have R := Lib.hid (hI.step (i := 0) (d := 13) (v := .pointer (some ⟨X, 0, none⟩)) rfl fr_nodup (show 13 < 29 by decide) rfl rfl (fun _ _ _ _ _ _ h => h) (hI.held.pure 0 (by decide)))
  clear hI E hf
  go_simp
  exact hK _ _ R.out

set_option maxRecDepth 100000 in
theorem fr_1 {w0 : World} {X g b : Nat} {x : En} {acc : List UInt8} {se sf : ByteArray} {base : Array Value} {f : Nat → Bool} {a : Act} {W : World} {K : Act → World → Prop} {Q : Exit → Act → World → Prop} {ops : Array Oper} (E : frEnv w0 X g b x acc se sf base) (hI : (frTb w0 X g b x acc se sf base).Inv (FrH w0 X g b x acc) f a W) (hf : f 1 = false) (h0 : f 0 = true) (pos : String) (hK : ∀ a' W', (frTb w0 X g b x acc se sf base).Inv (FrH w0 X g b x acc) (hit f 1) a' W' → K a' W') : if Region.wanted { dst := some 14, op := Go.Op.load 3 (Go.Operand.tmp 13), type := 3, pos := pos, after := #[{ on := 0, ground := Go.Ground.data }], guard := none } (yielded ops a.tmps) = true then Oper.wp Tryd.prog { dst := some 14, op := Go.Op.load 3 (Go.Operand.tmp 13), type := 3, pos := pos, after := #[{ on := 0, ground := Go.Ground.data }], guard := none } a W K Q else K (a.put (some 14) undef) W := by
  have q : a.tmps[13]?.getD undef = .pointer (some ⟨X, 0, none⟩) := hI.val 0 13 _ rfl rfl h0
  have c : W.cell? ⟨X, 0, none⟩ = some (.int .i64 (x.idx : Int)) := hI.held.at_.cell 0
  have R := Lib.hid (hI.step (i := 1) (d := 14) (v := .int .i64 (x.idx : Int)) rfl fr_nodup (show 14 < 29 by decide) rfl rfl (fun _ _ _ _ _ _ h => h) (hI.held.pure 1 (by decide)))
  clear hI E hf
  go_simp
  exact hK _ _ R.out

set_option maxRecDepth 100000 in
theorem fr_2 {w0 : World} {X g b : Nat} {x : En} {acc : List UInt8} {se sf : ByteArray} {base : Array Value} {f : Nat → Bool} {a : Act} {W : World} {K : Act → World → Prop} {Q : Exit → Act → World → Prop} {ops : Array Oper} (E : frEnv w0 X g b x acc se sf base) (hI : (frTb w0 X g b x acc se sf base).Inv (FrH w0 X g b x acc) f a W) (hf : f 2 = false) (pos : String) (hK : ∀ a' W', (frTb w0 X g b x acc se sf base).Inv (FrH w0 X g b x acc) (hit f 2) a' W' → K a' W') : if Region.wanted { dst := some 15, op := Go.Op.fieldAddr 30 (Go.Operand.tmp 5) 1, type := 0, pos := pos, after := #[], guard := none } (yielded ops a.tmps) = true then Oper.wp Tryd.prog { dst := some 15, op := Go.Op.fieldAddr 30 (Go.Operand.tmp 5) 1, type := 0, pos := pos, after := #[], guard := none } a W K Q else K (a.put (some 15) undef) W := by
  have q : a.tmps[5]?.getD undef = .pointer (some ⟨X, 0, none⟩) := (hI.base 5 rfl).trans E.b5
  have R := Lib.hid (hI.step (i := 2) (d := 15) (v := .pointer (some ⟨X, 1, none⟩)) rfl fr_nodup (show 15 < 29 by decide) rfl rfl (fun _ _ _ _ _ _ h => h) (hI.held.pure 2 (by decide)))
  clear hI E hf
  go_simp
  exact hK _ _ R.out

set_option maxRecDepth 100000 in
theorem fr_3 {w0 : World} {X g b : Nat} {x : En} {acc : List UInt8} {se sf : ByteArray} {base : Array Value} {f : Nat → Bool} {a : Act} {W : World} {K : Act → World → Prop} {Q : Exit → Act → World → Prop} {ops : Array Oper} (E : frEnv w0 X g b x acc se sf base) (hI : (frTb w0 X g b x acc se sf base).Inv (FrH w0 X g b x acc) f a W) (hf : f 3 = false) (h2 : f 2 = true) (pos : String) (hK : ∀ a' W', (frTb w0 X g b x acc se sf base).Inv (FrH w0 X g b x acc) (hit f 3) a' W' → K a' W') : if Region.wanted { dst := some 16, op := Go.Op.load 3 (Go.Operand.tmp 15), type := 3, pos := pos, after := #[{ on := 2, ground := Go.Ground.data }], guard := none } (yielded ops a.tmps) = true then Oper.wp Tryd.prog { dst := some 16, op := Go.Op.load 3 (Go.Operand.tmp 15), type := 3, pos := pos, after := #[{ on := 2, ground := Go.Ground.data }], guard := none } a W K Q else K (a.put (some 16) undef) W := by
  have q : a.tmps[15]?.getD undef = .pointer (some ⟨X, 1, none⟩) := hI.val 2 15 _ rfl rfl h2
  have c : W.cell? ⟨X, 1, none⟩ = some (.int .i64 (x.tm : Int)) := hI.held.at_.cell 1
  have R := Lib.hid (hI.step (i := 3) (d := 16) (v := .int .i64 (x.tm : Int)) rfl fr_nodup (show 16 < 29 by decide) rfl rfl (fun _ _ _ _ _ _ h => h) (hI.held.pure 3 (by decide)))
  clear hI E hf
  go_simp
  exact hK _ _ R.out

set_option maxRecDepth 100000 in
theorem fr_4 {w0 : World} {X g b : Nat} {x : En} {acc : List UInt8} {se sf : ByteArray} {base : Array Value} {f : Nat → Bool} {a : Act} {W : World} {K : Act → World → Prop} {Q : Exit → Act → World → Prop} {ops : Array Oper} (E : frEnv w0 X g b x acc se sf base) (hI : (frTb w0 X g b x acc se sf base).Inv (FrH w0 X g b x acc) f a W) (hf : f 4 = false) (h1 : f 1 = true) (h3 : f 3 = true) (pos : String) (hK : ∀ a' W', (frTb w0 X g b x acc se sf base).Inv (FrH w0 X g b x acc) (hit f 4) a' W' → K a' W') : if Region.wanted { dst := some 17, op := Go.Op.buildSlice 23 2 #[(0, Go.Operand.tmp 14), (1, Go.Operand.tmp 16)], type := 23, pos := pos, after := #[{ on := 1, ground := Go.Ground.data }, { on := 3, ground := Go.Ground.data }], guard := none } (yielded ops a.tmps) = true then Oper.wp Tryd.prog { dst := some 17, op := Go.Op.buildSlice 23 2 #[(0, Go.Operand.tmp 14), (1, Go.Operand.tmp 16)], type := 23, pos := pos, after := #[{ on := 1, ground := Go.Ground.data }, { on := 3, ground := Go.Ground.data }], guard := none } a W K Q else K (a.put (some 17) undef) W := by
  have y0 : a.tmps[14]?.getD undef = .int .i64 (x.idx : Int) := hI.val 1 14 _ rfl rfl h1
  have y1 : a.tmps[16]?.getD undef = .int .i64 (x.tm : Int) := hI.val 3 16 _ rfl rfl h3
  have R := Lib.hid (hI.lay (i := 4) (d := 17) (t := 3) (cs := #[.int .i64 (x.idx : Int), .int .i64 (x.tm : Int)]) (c := 5) (k := 2) rfl fr_nodup (show 17 < 29 by decide) rfl rfl rfl ((hI.held.pure 4 (by decide)).alloc _))
  clear hI E hf
  go_simp
  exact hK _ _ R.out

set_option maxRecDepth 100000 in
theorem fr_5 {w0 : World} {X g b : Nat} {x : En} {acc : List UInt8} {se sf : ByteArray} {base : Array Value} {f : Nat → Bool} {a : Act} {W : World} {K : Act → World → Prop} {Q : Exit → Act → World → Prop} {ops : Array Oper} (E : frEnv w0 X g b x acc se sf base) (hI : (frTb w0 X g b x acc se sf base).Inv (FrH w0 X g b x acc) f a W) (hf : f 5 = false) (h4 : f 4 = true) (pos : String) (hK : ∀ a' W', (frTb w0 X g b x acc se sf base).Inv (FrH w0 X g b x acc) (hit f 5) a' W' → K a' W') : if Region.wanted { dst := some 18, op := Go.Op.call { callee := Go.Callee.value (Go.Operand.func 26), args := #[Go.Operand.tmp 6, Go.Operand.tmp 17], argTypes := #[67, 23] }, type := 70, pos := pos, after := #[{ on := 4, ground := Go.Ground.data }], guard := none } (yielded ops a.tmps) = true then Oper.wp Tryd.prog { dst := some 18, op := Go.Op.call { callee := Go.Callee.value (Go.Operand.func 26), args := #[Go.Operand.tmp 6, Go.Operand.tmp 17], argTypes := #[67, 23] }, type := 70, pos := pos, after := #[{ on := 4, ground := Go.Ground.data }], guard := none } a W K Q else K (a.put (some 18) undef) W := by
  have y0 : a.tmps[6]?.getD undef = .pointer (some ⟨g, 0, none⟩) := (hI.base 6 rfl).trans E.b6
  obtain ⟨G4, y1, hG4⟩ := hI.built 4 17 _ _ 5 rfl rfl h4 hf
  have y1 : a.tmps[17]?.getD undef = .slice (some ⟨G4, 0, none⟩) 2 2 := y1
  have hC := fr_I E.e f W hf h4 G4 hG4 hI.held
  have HR := Lib.hid (fun W1 hq => hI.step (i := 5) (d := 18) (v := .pointer (some ⟨g, 0, none⟩)) (W' := W1) rfl fr_nodup (show 18 < 29 by decide) rfl rfl (fr_Ik (base := base) E.e f W W1 hf h4 hI.held hq).1 (fr_Ik (base := base) E.e f W W1 hf h4 hI.held hq).2)
  clear hI E hf
  go_simp
  refine hC.mono ?_
  rintro e W1 ⟨rfl, hb⟩
  exact hK _ _ (HR.out W1 hb)

set_option maxRecDepth 100000 in
theorem fr_6 {w0 : World} {X g b : Nat} {x : En} {acc : List UInt8} {se sf : ByteArray} {base : Array Value} {f : Nat → Bool} {a : Act} {W : World} {K : Act → World → Prop} {Q : Exit → Act → World → Prop} {ops : Array Oper} (E : frEnv w0 X g b x acc se sf base) (hI : (frTb w0 X g b x acc se sf base).Inv (FrH w0 X g b x acc) f a W) (hf : f 6 = false) (pos : String) (hK : ∀ a' W', (frTb w0 X g b x acc se sf base).Inv (FrH w0 X g b x acc) (hit f 6) a' W' → K a' W') : if Region.wanted { dst := some 19, op := Go.Op.fieldAddr 30 (Go.Operand.tmp 5) 2, type := 0, pos := pos, after := #[], guard := none } (yielded ops a.tmps) = true then Oper.wp Tryd.prog { dst := some 19, op := Go.Op.fieldAddr 30 (Go.Operand.tmp 5) 2, type := 0, pos := pos, after := #[], guard := none } a W K Q else K (a.put (some 19) undef) W := by
  have q : a.tmps[5]?.getD undef = .pointer (some ⟨X, 0, none⟩) := (hI.base 5 rfl).trans E.b5
  have R := Lib.hid (hI.step (i := 6) (d := 19) (v := .pointer (some ⟨X, 2, none⟩)) rfl fr_nodup (show 19 < 29 by decide) rfl rfl (fun _ _ _ _ _ _ h => h) (hI.held.pure 6 (by decide)))
  clear hI E hf
  go_simp
  exact hK _ _ R.out

set_option maxRecDepth 100000 in
theorem fr_7 {w0 : World} {X g b : Nat} {x : En} {acc : List UInt8} {se sf : ByteArray} {base : Array Value} {f : Nat → Bool} {a : Act} {W : World} {K : Act → World → Prop} {Q : Exit → Act → World → Prop} {ops : Array Oper} (E : frEnv w0 X g b x acc se sf base) (hI : (frTb w0 X g b x acc se sf base).Inv (FrH w0 X g b x acc) f a W) (hf : f 7 = false) (h6 : f 6 = true) (pos : String) (hK : ∀ a' W', (frTb w0 X g b x acc se sf base).Inv (FrH w0 X g b x acc) (hit f 7) a' W' → K a' W') : if Region.wanted { dst := some 20, op := Go.Op.load 9 (Go.Operand.tmp 19), type := 9, pos := pos, after := #[{ on := 6, ground := Go.Ground.data }], guard := none } (yielded ops a.tmps) = true then Oper.wp Tryd.prog { dst := some 20, op := Go.Op.load 9 (Go.Operand.tmp 19), type := 9, pos := pos, after := #[{ on := 6, ground := Go.Ground.data }], guard := none } a W K Q else K (a.put (some 20) undef) W := by
  have q : a.tmps[19]?.getD undef = .pointer (some ⟨X, 2, none⟩) := hI.val 6 19 _ rfl rfl h6
  have c : W.cell? ⟨X, 2, none⟩ = some (.string x.cmd) := hI.held.at_.cell 2
  have R := Lib.hid (hI.step (i := 7) (d := 20) (v := .string x.cmd) rfl fr_nodup (show 20 < 29 by decide) rfl rfl (fun _ _ _ _ _ _ h => h) (hI.held.pure 7 (by decide)))
  clear hI E hf
  go_simp
  exact hK _ _ R.out

set_option maxRecDepth 100000 in
theorem fr_8 {w0 : World} {X g b : Nat} {x : En} {acc : List UInt8} {se sf : ByteArray} {base : Array Value} {f : Nat → Bool} {a : Act} {W : World} {K : Act → World → Prop} {Q : Exit → Act → World → Prop} {ops : Array Oper} (E : frEnv w0 X g b x acc se sf base) (hI : (frTb w0 X g b x acc se sf base).Inv (FrH w0 X g b x acc) f a W) (hf : f 8 = false) (h7 : f 7 = true) (pos : String) (hK : ∀ a' W', (frTb w0 X g b x acc se sf base).Inv (FrH w0 X g b x acc) (hit f 8) a' W' → K a' W') : if Region.wanted { dst := some 21, op := Go.Op.buildSlice 22 1 #[(0, Go.Operand.tmp 20)], type := 22, pos := pos, after := #[{ on := 7, ground := Go.Ground.data }], guard := none } (yielded ops a.tmps) = true then Oper.wp Tryd.prog { dst := some 21, op := Go.Op.buildSlice 22 1 #[(0, Go.Operand.tmp 20)], type := 22, pos := pos, after := #[{ on := 7, ground := Go.Ground.data }], guard := none } a W K Q else K (a.put (some 21) undef) W := by
  have y0 : a.tmps[20]?.getD undef = .string x.cmd := hI.val 7 20 _ rfl rfl h7
  have R := Lib.hid (hI.lay (i := 8) (d := 21) (t := 9) (cs := #[.string x.cmd]) (c := 9) (k := 1) rfl fr_nodup (show 21 < 29 by decide) rfl rfl rfl ((hI.held.pure 8 (by decide)).alloc _))
  clear hI E hf
  go_simp
  exact hK _ _ R.out

set_option maxRecDepth 100000 in
theorem fr_9 {w0 : World} {X g b : Nat} {x : En} {acc : List UInt8} {se sf : ByteArray} {base : Array Value} {f : Nat → Bool} {a : Act} {W : World} {K : Act → World → Prop} {Q : Exit → Act → World → Prop} {ops : Array Oper} (E : frEnv w0 X g b x acc se sf base) (hI : (frTb w0 X g b x acc se sf base).Inv (FrH w0 X g b x acc) f a W) (hf : f 9 = false) (h5 : f 5 = true) (h8 : f 8 = true) (pos : String) (hK : ∀ a' W', (frTb w0 X g b x acc se sf base).Inv (FrH w0 X g b x acc) (hit f 9) a' W' → K a' W') : if Region.wanted { dst := some 22, op := Go.Op.call { callee := Go.Callee.value (Go.Operand.func 28), args := #[Go.Operand.tmp 18, Go.Operand.tmp 21], argTypes := #[70, 22] }, type := 70, pos := pos, after := #[{ on := 5, ground := Go.Ground.data }, { on := 8, ground := Go.Ground.data }, { on := 5, ground := Go.Ground.chain }], guard := none } (yielded ops a.tmps) = true then Oper.wp Tryd.prog { dst := some 22, op := Go.Op.call { callee := Go.Callee.value (Go.Operand.func 28), args := #[Go.Operand.tmp 18, Go.Operand.tmp 21], argTypes := #[70, 22] }, type := 70, pos := pos, after := #[{ on := 5, ground := Go.Ground.data }, { on := 8, ground := Go.Ground.data }, { on := 5, ground := Go.Ground.chain }], guard := none } a W K Q else K (a.put (some 22) undef) W := by
  have y0 : a.tmps[18]?.getD undef = .pointer (some ⟨g, 0, none⟩) := hI.val 5 18 _ rfl rfl h5
  obtain ⟨G8, y1, hG8⟩ := hI.built 8 21 _ _ 9 rfl rfl h8 hf
  have y1 : a.tmps[21]?.getD undef = .slice (some ⟨G8, 0, none⟩) 1 1 := y1
  have hC := fr_S E.e f W hf h5 h8 G8 hG8 hI.held
  have HR := Lib.hid (fun W1 hq => hI.step (i := 9) (d := 22) (v := .pointer (some ⟨g, 0, none⟩)) (W' := W1) rfl fr_nodup (show 22 < 29 by decide) rfl rfl (fr_Sk (base := base) E.e f W W1 hf h5 h8 hI.held hq).1 (fr_Sk (base := base) E.e f W W1 hf h5 h8 hI.held hq).2)
  clear hI E hf
  go_simp
  refine hC.mono ?_
  rintro e W1 ⟨rfl, hb⟩
  exact hK _ _ (HR.out W1 hb)

set_option maxRecDepth 100000 in
theorem fr_10 {w0 : World} {X g b : Nat} {x : En} {acc : List UInt8} {se sf : ByteArray} {base : Array Value} {f : Nat → Bool} {a : Act} {W : World} {K : Act → World → Prop} {Q : Exit → Act → World → Prop} {ops : Array Oper} (E : frEnv w0 X g b x acc se sf base) (hI : (frTb w0 X g b x acc se sf base).Inv (FrH w0 X g b x acc) f a W) (hf : f 10 = false) (h9 : f 9 = true) (pos : String) (hK : ∀ a' W', (frTb w0 X g b x acc se sf base).Inv (FrH w0 X g b x acc) (hit f 10) a' W' → K a' W') : if Region.wanted { dst := some 23, op := Go.Op.call { callee := Go.Callee.value (Go.Operand.func 27), args := #[Go.Operand.tmp 22], argTypes := #[70] }, type := 9, pos := pos, after := #[{ on := 9, ground := Go.Ground.data }, { on := 9, ground := Go.Ground.chain }], guard := none } (yielded ops a.tmps) = true then Oper.wp Tryd.prog { dst := some 23, op := Go.Op.call { callee := Go.Callee.value (Go.Operand.func 27), args := #[Go.Operand.tmp 22], argTypes := #[70] }, type := 9, pos := pos, after := #[{ on := 9, ground := Go.Ground.data }, { on := 9, ground := Go.Ground.chain }], guard := none } a W K Q else K (a.put (some 23) undef) W := by
  have y0 : a.tmps[22]?.getD undef = .pointer (some ⟨g, 0, none⟩) := hI.val 9 22 _ rfl rfl h9
  have hC := fr_B E.e f W hf h9 hI.held
  have HR := Lib.hid (fun W1 hq => hI.step (i := 10) (d := 23) (v := .string se) (W' := W1) rfl fr_nodup (show 23 < 29 by decide) rfl rfl (fr_Bk (base := base) E.e f W W1 hf h9 hI.held hq).1 (fr_Bk (base := base) E.e f W W1 hf h9 hI.held hq).2)
  clear hI E hf
  go_simp
  refine hC.mono ?_
  rintro e W1 ⟨rfl, hb⟩
  exact hK _ _ (HR.out W1 hb)

set_option maxRecDepth 100000 in
theorem fr_11 {w0 : World} {X g b : Nat} {x : En} {acc : List UInt8} {se sf : ByteArray} {base : Array Value} {f : Nat → Bool} {a : Act} {W : World} {K : Act → World → Prop} {Q : Exit → Act → World → Prop} {ops : Array Oper} (E : frEnv w0 X g b x acc se sf base) (hI : (frTb w0 X g b x acc se sf base).Inv (FrH w0 X g b x acc) f a W) (hf : f 11 = false) (h10 : f 10 = true) (pos : String) (hK : ∀ a' W', (frTb w0 X g b x acc se sf base).Inv (FrH w0 X g b x acc) (hit f 11) a' W' → K a' W') : if Region.wanted { dst := some 24, op := Go.Op.buildSlice 22 1 #[(0, Go.Operand.tmp 23)], type := 22, pos := pos, after := #[{ on := 10, ground := Go.Ground.data }], guard := none } (yielded ops a.tmps) = true then Oper.wp Tryd.prog { dst := some 24, op := Go.Op.buildSlice 22 1 #[(0, Go.Operand.tmp 23)], type := 22, pos := pos, after := #[{ on := 10, ground := Go.Ground.data }], guard := none } a W K Q else K (a.put (some 24) undef) W := by
  have y0 : a.tmps[23]?.getD undef = .string se := hI.val 10 23 _ rfl rfl h10
  have R := Lib.hid (hI.lay (i := 11) (d := 24) (t := 9) (cs := #[.string se]) (c := 12) (k := 1) rfl fr_nodup (show 24 < 29 by decide) rfl rfl rfl ((hI.held.pure 11 (by decide)).alloc _))
  clear hI E hf
  go_simp
  exact hK _ _ R.out

set_option maxRecDepth 100000 in
theorem fr_12 {w0 : World} {X g b : Nat} {x : En} {acc : List UInt8} {se sf : ByteArray} {base : Array Value} {f : Nat → Bool} {a : Act} {W : World} {K : Act → World → Prop} {Q : Exit → Act → World → Prop} {ops : Array Oper} (E : frEnv w0 X g b x acc se sf base) (hI : (frTb w0 X g b x acc se sf base).Inv (FrH w0 X g b x acc) f a W) (hf : f 12 = false) (h10 : f 10 = true) (h11 : f 11 = true) (pos : String) (hK : ∀ a' W', (frTb w0 X g b x acc se sf base).Inv (FrH w0 X g b x acc) (hit f 12) a' W' → K a' W') : if Region.wanted { dst := some 25, op := Go.Op.call { callee := Go.Callee.value (Go.Operand.func 25), args := #[Go.Operand.tmp 24], argTypes := #[22] }, type := 9, pos := pos, after := #[{ on := 11, ground := Go.Ground.data }, { on := 10, ground := Go.Ground.chain }], guard := none } (yielded ops a.tmps) = true then Oper.wp Tryd.prog { dst := some 25, op := Go.Op.call { callee := Go.Callee.value (Go.Operand.func 25), args := #[Go.Operand.tmp 24], argTypes := #[22] }, type := 9, pos := pos, after := #[{ on := 11, ground := Go.Ground.data }, { on := 10, ground := Go.Ground.chain }], guard := none } a W K Q else K (a.put (some 25) undef) W := by
  obtain ⟨G11, y0, hG11⟩ := hI.built 11 24 _ _ 12 rfl rfl h11 hf
  have y0 : a.tmps[24]?.getD undef = .slice (some ⟨G11, 0, none⟩) 1 1 := y0
  have hC := fr_F E.e f W hf h10 h11 G11 hG11 hI.held
  have HR := Lib.hid (fun W1 hq => hI.step (i := 12) (d := 25) (v := .string sf) (W' := W1) rfl fr_nodup (show 25 < 29 by decide) rfl rfl (fr_Fk (base := base) E.e f W W1 hf h10 h11 hI.held hq).1 (fr_Fk (base := base) E.e f W W1 hf h10 h11 hI.held hq).2)
  clear hI E hf
  go_simp
  refine hC.mono ?_
  rintro e W1 ⟨rfl, hb⟩
  exact hK _ _ (HR.out W1 hb)

set_option maxRecDepth 100000 in
theorem fr_13 {w0 : World} {X g b : Nat} {x : En} {acc : List UInt8} {se sf : ByteArray} {base : Array Value} {f : Nat → Bool} {a : Act} {W : World} {K : Act → World → Prop} {Q : Exit → Act → World → Prop} {ops : Array Oper} (E : frEnv w0 X g b x acc se sf base) (hI : (frTb w0 X g b x acc se sf base).Inv (FrH w0 X g b x acc) f a W) (hf : f 13 = false) (h12 : f 12 = true) (pos : String) (hK : ∀ a' W', (frTb w0 X g b x acc se sf base).Inv (FrH w0 X g b x acc) (hit f 13) a' W' → K a' W') : if Region.wanted { dst := some 26, op := Go.Op.call { callee := Go.Callee.value (Go.Operand.func 41), args := #[Go.Operand.tmp 3, Go.Operand.tmp 25], argTypes := #[93, 9] }, type := 96, pos := pos, after := #[{ on := 12, ground := Go.Ground.data }, { on := 12, ground := Go.Ground.chain }], guard := none } (yielded ops a.tmps) = true then Oper.wp Tryd.prog { dst := some 26, op := Go.Op.call { callee := Go.Callee.value (Go.Operand.func 41), args := #[Go.Operand.tmp 3, Go.Operand.tmp 25], argTypes := #[93, 9] }, type := 96, pos := pos, after := #[{ on := 12, ground := Go.Ground.data }, { on := 12, ground := Go.Ground.chain }], guard := none } a W K Q else K (a.put (some 26) undef) W := by
  have y0 : a.tmps[3]?.getD undef = .pointer (some ⟨b, 0, none⟩) := (hI.base 3 rfl).trans E.b3
  have y1 : a.tmps[25]?.getD undef = .string sf := hI.val 12 25 _ rfl rfl h12
  have hC := fr_W E.e f W hf h12 hI.held
  have HR := Lib.hid (fun W1 hq => hI.step (i := 13) (d := 26) (v := .tuple #[.int .i64 (sf.size : Int), .nilIface]) (W' := W1) rfl fr_nodup (show 26 < 29 by decide) rfl rfl (fr_Wk (base := base) E.e f W W1 hf h12 hI.held hq).1 (fr_Wk (base := base) E.e f W W1 hf h12 hI.held hq).2)
  clear hI E hf
  go_simp
  refine hC.mono ?_
  rintro e W1 ⟨rfl, hb⟩
  exact hK _ _ (HR.out W1 hb)

abbrev frOps : Array Oper := #[{ dst := some 13, op := Go.Op.fieldAddr 30 (Go.Operand.tmp 5) 0, type := 0, pos := "term.go:121", after := #[], guard := none }, { dst := some 14, op := Go.Op.load 3 (Go.Operand.tmp 13), type := 3, pos := "term.go:121", after := #[{ on := 0, ground := Go.Ground.data }], guard := none }, { dst := some 15, op := Go.Op.fieldAddr 30 (Go.Operand.tmp 5) 1, type := 0, pos := "term.go:121", after := #[], guard := none }, { dst := some 16, op := Go.Op.load 3 (Go.Operand.tmp 15), type := 3, pos := "term.go:121", after := #[{ on := 2, ground := Go.Ground.data }], guard := none }, { dst := some 17, op := Go.Op.buildSlice 23 2 #[(0, Go.Operand.tmp 14), (1, Go.Operand.tmp 16)], type := 23, pos := "term.go:121", after := #[{ on := 1, ground := Go.Ground.data }, { on := 3, ground := Go.Ground.data }], guard := none }, { dst := some 18, op := Go.Op.call { callee := Go.Callee.value (Go.Operand.func 26), args := #[Go.Operand.tmp 6, Go.Operand.tmp 17], argTypes := #[67, 23] }, type := 70, pos := "term.go:121", after := #[{ on := 4, ground := Go.Ground.data }], guard := none }, { dst := some 19, op := Go.Op.fieldAddr 30 (Go.Operand.tmp 5) 2, type := 0, pos := "term.go:121", after := #[], guard := none }, { dst := some 20, op := Go.Op.load 9 (Go.Operand.tmp 19), type := 9, pos := "term.go:121", after := #[{ on := 6, ground := Go.Ground.data }], guard := none }, { dst := some 21, op := Go.Op.buildSlice 22 1 #[(0, Go.Operand.tmp 20)], type := 22, pos := "term.go:121", after := #[{ on := 7, ground := Go.Ground.data }], guard := none }, { dst := some 22, op := Go.Op.call { callee := Go.Callee.value (Go.Operand.func 28), args := #[Go.Operand.tmp 18, Go.Operand.tmp 21], argTypes := #[70, 22] }, type := 70, pos := "term.go:121", after := #[{ on := 5, ground := Go.Ground.data }, { on := 8, ground := Go.Ground.data }, { on := 5, ground := Go.Ground.chain }], guard := none }, { dst := some 23, op := Go.Op.call { callee := Go.Callee.value (Go.Operand.func 27), args := #[Go.Operand.tmp 22], argTypes := #[70] }, type := 9, pos := "term.go:121", after := #[{ on := 9, ground := Go.Ground.data }, { on := 9, ground := Go.Ground.chain }], guard := none }, { dst := some 24, op := Go.Op.buildSlice 22 1 #[(0, Go.Operand.tmp 23)], type := 22, pos := "term.go:121", after := #[{ on := 10, ground := Go.Ground.data }], guard := none }, { dst := some 25, op := Go.Op.call { callee := Go.Callee.value (Go.Operand.func 25), args := #[Go.Operand.tmp 24], argTypes := #[22] }, type := 9, pos := "term.go:121", after := #[{ on := 11, ground := Go.Ground.data }, { on := 10, ground := Go.Ground.chain }], guard := none }, { dst := some 26, op := Go.Op.call { callee := Go.Callee.value (Go.Operand.func 41), args := #[Go.Operand.tmp 3, Go.Operand.tmp 25], argTypes := #[93, 9] }, type := 96, pos := "term.go:121", after := #[{ on := 12, ground := Go.Ground.data }, { on := 12, ground := Go.Ground.chain }], guard := none }]
set_option maxRecDepth 100000 in
set_option maxHeartbeats 4000000 in
theorem fr_step {w0 : World} {X g b : Nat} {x : En} {acc : List UInt8} {se sf : ByteArray} {base : Array Value} {Q : Exit → Act → World → Prop} (E : frEnv w0 X g b x acc se sf base) :
    ∀ f a W i o, frOps[i]? = some o → f i = false → (∀ e ∈ o.after, Region.binds .any e = true → f e.on = true) → (frTb w0 X g b x acc se sf base).Inv (FrH w0 X g b x acc) f a W → wpOp Tryd.prog frOps Q i (fun a' W' => (frTb w0 X g b x acc se sf base).Inv (FrH w0 X g b x acc) (hit f i) a' W') a W := by
  intro f a W i o ho hf hed hI
  have hi : i < 14 := (Array.getElem?_eq_some_iff.1 ho).1
  have hc : i = 0 ∨ i = 1 ∨ i = 2 ∨ i = 3 ∨ i = 4 ∨ i = 5 ∨ i = 6 ∨ i = 7 ∨ i = 8 ∨ i = 9 ∨ i = 10 ∨ i = 11 ∨ i = 12 ∨ i = 13 := by omega
  rcases hc with rfl | rfl | rfl | rfl | rfl | rfl | rfl | rfl | rfl | rfl | rfl | rfl | rfl | rfl
  · cases ho
    exact wpOp_step (o := { dst := some 13, op := Go.Op.fieldAddr 30 (Go.Operand.tmp 5) 0, type := 0, pos := "term.go:121", after := #[], guard := none }) rfl fun K hK => fr_0 E hI hf "term.go:121" (fun a' W' h => hK a' W' h)
  · cases ho
    exact wpOp_step (o := { dst := some 14, op := Go.Op.load 3 (Go.Operand.tmp 13), type := 3, pos := "term.go:121", after := #[{ on := 0, ground := Go.Ground.data }], guard := none }) rfl fun K hK => fr_1 E hI hf (hed ⟨0, Go.Ground.data⟩ (Array.mem_of_getElem? (i := 0) rfl) rfl) "term.go:121" (fun a' W' h => hK a' W' h)
  · cases ho
    exact wpOp_step (o := { dst := some 15, op := Go.Op.fieldAddr 30 (Go.Operand.tmp 5) 1, type := 0, pos := "term.go:121", after := #[], guard := none }) rfl fun K hK => fr_2 E hI hf "term.go:121" (fun a' W' h => hK a' W' h)
  · cases ho
    exact wpOp_step (o := { dst := some 16, op := Go.Op.load 3 (Go.Operand.tmp 15), type := 3, pos := "term.go:121", after := #[{ on := 2, ground := Go.Ground.data }], guard := none }) rfl fun K hK => fr_3 E hI hf (hed ⟨2, Go.Ground.data⟩ (Array.mem_of_getElem? (i := 0) rfl) rfl) "term.go:121" (fun a' W' h => hK a' W' h)
  · cases ho
    exact wpOp_step (o := { dst := some 17, op := Go.Op.buildSlice 23 2 #[(0, Go.Operand.tmp 14), (1, Go.Operand.tmp 16)], type := 23, pos := "term.go:121", after := #[{ on := 1, ground := Go.Ground.data }, { on := 3, ground := Go.Ground.data }], guard := none }) rfl fun K hK => fr_4 E hI hf (hed ⟨1, Go.Ground.data⟩ (Array.mem_of_getElem? (i := 0) rfl) rfl) (hed ⟨3, Go.Ground.data⟩ (Array.mem_of_getElem? (i := 1) rfl) rfl) "term.go:121" (fun a' W' h => hK a' W' h)
  · cases ho
    exact wpOp_step (o := { dst := some 18, op := Go.Op.call { callee := Go.Callee.value (Go.Operand.func 26), args := #[Go.Operand.tmp 6, Go.Operand.tmp 17], argTypes := #[67, 23] }, type := 70, pos := "term.go:121", after := #[{ on := 4, ground := Go.Ground.data }], guard := none }) rfl fun K hK => fr_5 E hI hf (hed ⟨4, Go.Ground.data⟩ (Array.mem_of_getElem? (i := 0) rfl) rfl) "term.go:121" (fun a' W' h => hK a' W' h)
  · cases ho
    exact wpOp_step (o := { dst := some 19, op := Go.Op.fieldAddr 30 (Go.Operand.tmp 5) 2, type := 0, pos := "term.go:121", after := #[], guard := none }) rfl fun K hK => fr_6 E hI hf "term.go:121" (fun a' W' h => hK a' W' h)
  · cases ho
    exact wpOp_step (o := { dst := some 20, op := Go.Op.load 9 (Go.Operand.tmp 19), type := 9, pos := "term.go:121", after := #[{ on := 6, ground := Go.Ground.data }], guard := none }) rfl fun K hK => fr_7 E hI hf (hed ⟨6, Go.Ground.data⟩ (Array.mem_of_getElem? (i := 0) rfl) rfl) "term.go:121" (fun a' W' h => hK a' W' h)
  · cases ho
    exact wpOp_step (o := { dst := some 21, op := Go.Op.buildSlice 22 1 #[(0, Go.Operand.tmp 20)], type := 22, pos := "term.go:121", after := #[{ on := 7, ground := Go.Ground.data }], guard := none }) rfl fun K hK => fr_8 E hI hf (hed ⟨7, Go.Ground.data⟩ (Array.mem_of_getElem? (i := 0) rfl) rfl) "term.go:121" (fun a' W' h => hK a' W' h)
  · cases ho
    exact wpOp_step (o := { dst := some 22, op := Go.Op.call { callee := Go.Callee.value (Go.Operand.func 28), args := #[Go.Operand.tmp 18, Go.Operand.tmp 21], argTypes := #[70, 22] }, type := 70, pos := "term.go:121", after := #[{ on := 5, ground := Go.Ground.data }, { on := 8, ground := Go.Ground.data }, { on := 5, ground := Go.Ground.chain }], guard := none }) rfl fun K hK => fr_9 E hI hf (hed ⟨5, Go.Ground.data⟩ (Array.mem_of_getElem? (i := 0) rfl) rfl) (hed ⟨8, Go.Ground.data⟩ (Array.mem_of_getElem? (i := 1) rfl) rfl) "term.go:121" (fun a' W' h => hK a' W' h)
  · cases ho
    exact wpOp_step (o := { dst := some 23, op := Go.Op.call { callee := Go.Callee.value (Go.Operand.func 27), args := #[Go.Operand.tmp 22], argTypes := #[70] }, type := 9, pos := "term.go:121", after := #[{ on := 9, ground := Go.Ground.data }, { on := 9, ground := Go.Ground.chain }], guard := none }) rfl fun K hK => fr_10 E hI hf (hed ⟨9, Go.Ground.data⟩ (Array.mem_of_getElem? (i := 0) rfl) rfl) "term.go:121" (fun a' W' h => hK a' W' h)
  · cases ho
    exact wpOp_step (o := { dst := some 24, op := Go.Op.buildSlice 22 1 #[(0, Go.Operand.tmp 23)], type := 22, pos := "term.go:121", after := #[{ on := 10, ground := Go.Ground.data }], guard := none }) rfl fun K hK => fr_11 E hI hf (hed ⟨10, Go.Ground.data⟩ (Array.mem_of_getElem? (i := 0) rfl) rfl) "term.go:121" (fun a' W' h => hK a' W' h)
  · cases ho
    exact wpOp_step (o := { dst := some 25, op := Go.Op.call { callee := Go.Callee.value (Go.Operand.func 25), args := #[Go.Operand.tmp 24], argTypes := #[22] }, type := 9, pos := "term.go:121", after := #[{ on := 11, ground := Go.Ground.data }, { on := 10, ground := Go.Ground.chain }], guard := none }) rfl fun K hK => fr_12 E hI hf (hed ⟨10, Go.Ground.chain⟩ (Array.mem_of_getElem? (i := 1) rfl) rfl) (hed ⟨11, Go.Ground.data⟩ (Array.mem_of_getElem? (i := 0) rfl) rfl) "term.go:121" (fun a' W' h => hK a' W' h)
  · cases ho
    exact wpOp_step (o := { dst := some 26, op := Go.Op.call { callee := Go.Callee.value (Go.Operand.func 41), args := #[Go.Operand.tmp 3, Go.Operand.tmp 25], argTypes := #[93, 9] }, type := 96, pos := "term.go:121", after := #[{ on := 12, ground := Go.Ground.data }, { on := 12, ground := Go.Ground.chain }], guard := none }) rfl fun K hK => fr_13 E hI hf (hed ⟨12, Go.Ground.data⟩ (Array.mem_of_getElem? (i := 0) rfl) rfl) "term.go:121" (fun a' W' h => hK a' W' h)

/-- THE REGION -/
theorem fr_region {w0 : World} {X g b : Nat} {x : En} {acc : List UInt8} {se sf : ByteArray} {tm : Array Value} {Q : Exit → Act → World → Prop} {w : World} (hsz : tm.size = 29) (E : frEnv w0 X g b x acc se sf tm) (hT : FrH w0 X g b x acc (fun _ => false) w.drew)
    (hend : ∀ (v : Nat → Value) W, Below w0.heap.size w0 W → BdIs W b (acc ++ frameL x.enc) → Q .normal ⟨((((((((((((((tm.setIfInBounds 13 (.pointer (some ⟨X, 0, none⟩))).setIfInBounds 14 (.int .i64 (x.idx : Int))).setIfInBounds 15 (.pointer (some ⟨X, 1, none⟩))).setIfInBounds 16 (.int .i64 (x.tm : Int))).setIfInBounds 17 (v 4)).setIfInBounds 18 (.pointer (some ⟨g, 0, none⟩))).setIfInBounds 19 (.pointer (some ⟨X, 2, none⟩))).setIfInBounds 20 (.string x.cmd)).setIfInBounds 21 (v 8)).setIfInBounds 22 (.pointer (some ⟨g, 0, none⟩))).setIfInBounds 23 (.string se)).setIfInBounds 24 (v 11)).setIfInBounds 25 (.string sf)).setIfInBounds 26 (.tuple #[.int .i64 (sf.size : Int), .nilIface])), []⟩ W) : (Code.region 6 frOps true).wp Tryd.prog Q ⟨tm, []⟩ w := by
  refine wp_region_inv (by kernel_rfl) (by kernel_rfl) ((frTb w0 X g b x acc se sf tm).Inv (FrH w0 X g b x acc)) ⟨hsz, rfl, fun s _ => rfl, fun i d v _ _ hf => (by cases hf), fun b d t cs c _ _ hf => (by cases hf), hT⟩ (fr_step E) ?_
  intro f a W hall hI
  obtain ⟨v, ha⟩ := hI.fin hall hsz fr_nodup rfl
  rw [ha]
  exact hend v W (hI.held.low) (by have h := hI.held.bd; rwa [if_pos (hall 13 (by decide))] at h)
end Go.Proofs.YtplmflagffloeaaDoor
