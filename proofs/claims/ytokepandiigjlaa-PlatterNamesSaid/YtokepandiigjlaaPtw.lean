/- Two disks beside each other, and a slice of names that grows. -/
import Derived.Test.YtokepandiigjlaaPoc
namespace Pm
/-- Append of a text -/
def appended (L : Files) (k : Key) (t : List UInt8) : Files := set L k ⟨⟨true, (fi L k).now.t ++ t⟩, (fi L k).sure⟩
end Pm
namespace Go.Proofs.Ytokepandiigjlaa
open Go.RowKit Go.Sort
open Pm (Key Fi St Files)
set_option linter.unusedVariables false

/-- two disks, apart; all that is theirs lies at block B or behind -/
def Two (w : World) (B ga ma gb mb : Nat) (rm : Int) (La Lb : Files) : Prop :=
  ∃ ua Ga ub Gb, Dsk w B ga ma rm ua false 0 Ga ∧ Dsk w B gb mb rm ub false 0 Gb ∧ (∀ b, Foot ga ma Ga b → ¬Foot gb mb Gb b) ∧ abs Ga = La ∧ abs Gb = Lb

/-- the blocks of a disk are no cells of strings -/
theorem Dsk.no_strs {w : World} {B g m gl : Nat} {rm us : Int} {lo : Bool} {lf : Int} {G : Held} {cur : Array Value} (h : Dsk w B g m rm us lo lf G) (hl : w.heap[gl]? = some (.cells cur 9 (0, 0))) : ¬Foot g m G gl := by
  rintro (rfl | rfl | ⟨p, hp, hb⟩)
  · have hat := h.at_
    unfold At at hat
    rw [hl] at hat
    simp at hat
  · obtain ⟨es, clock, hmm, _⟩ := h.map
    rw [hl] at hmm
    cases hmm
  · obtain ⟨cur', hc⟩ := (h.files p hp).1.bytes hb
    rw [hl] at hc
    simp at hc

section
variable {w w' : World} {B ga ma gb mb : Nat} {rm : Int} {La Lb : Files}
theorem Two.symm (h : Two w B ga ma gb mb rm La Lb) : Two w B gb mb ga ma rm Lb La := by
  obtain ⟨ua, Ga, ub, Gb, hA, hB, hap, h1, h2⟩ := h
  exact ⟨ub, Gb, ua, Ga, hB, hA, fun b h h' => hap b h' h, h2, h1⟩
theorem Two.below (h : Two w B ga ma gb mb rm La Lb) (hb : Below w.heap.size w w') : Two w' B ga ma gb mb rm La Lb := by
  obtain ⟨ua, Ga, ub, Gb, hA, hB, hap, h1, h2⟩ := h
  exact ⟨ua, Ga, ub, Gb, hA.below hb, hB.below hb, hap, h1, h2⟩
/-- another block was written, of strings -/
theorem Two.strs {gl : Nat} {cur : Array Value} (h : Two w B ga ma gb mb rm La Lb) (hl : w.heap[gl]? = some (.cells cur 9 (0, 0))) (hg : w.grownBy w' (some gl)) : Two w' B ga ma gb mb rm La Lb := by
  obtain ⟨ua, Ga, ub, Gb, hA, hB, hap, h1, h2⟩ := h
  have hm : Moved w w' fun b => b = gl := Moved.of_grown hg fun k hk => by simpa using hk.symm
  exact ⟨ua, Ga, ub, Gb, hA.moved hm (fun b hb e => hA.no_strs hl (e ▸ hb)), hB.moved hm (fun b hb e => hB.no_strs hl (e ▸ hb)), hap, h1, h2⟩
theorem Two.rows {B' n : Nat} {v : Value} {xs : List Value} (h : Two w B ga ma gb mb rm La Lb) (hr : w.ownsRow B' 9 1 v n xs) (hg : w.grownBy w' v.ownBlock) : Two w' B ga ma gb mb rm La Lb := by
  rcases hr.2 with ⟨rfl, _⟩ | ⟨g, cap, cur, rfl, _, h3, _⟩
  · exact h.below ⟨hg.os, hg.tape, hg.output, hg.size, fun k hk => hg.block k hk (by simp [Value.ownBlock])⟩
  · exact h.strs h3 hg
theorem Two.a (h : Two w B ga ma gb mb rm La Lb) : Has w B ga ma rm false 0 La := by
  obtain ⟨ua, Ga, ub, Gb, hA, hB, hap, h1, h2⟩ := h
  exact ⟨ua, Ga, hA, h1⟩
theorem Two.b (h : Two w B ga ma gb mb rm La Lb) : Has w B gb mb rm false 0 Lb := h.symm.a
theorem Two.lt (h : Two w B ga ma gb mb rm La Lb) : B ≤ w.heap.size := Nat.le_trans h.a.lt.2.2.1 (Nat.le_of_lt h.a.lt.1)

/-- blocks of strings stay -/
def StrsStay (w w' : World) : Prop := ∀ (gl : Nat) (cur : Array Value), w.heap[gl]? = some (Obj.cells cur 9 (0, 0)) → w'.heap[gl]? = some (Obj.cells cur 9 (0, 0))
theorem StrsStay.of_below (h : Below w.heap.size w w') : StrsStay w w' := fun gl cur hl => (h.block gl (Array.getElem?_eq_some_iff.1 hl).1).trans hl
theorem StrsStay.row {v : Value} {n : Nat} {xs : List Value} {B' : Nat} (h : StrsStay w w') (hr : w.ownsRow B' 9 1 v n xs) : w'.ownsRow B' 9 1 v n xs := by
  refine ⟨hr.1, ?_⟩
  rcases hr.2 with h1 | ⟨g, cap, cur, h1, h2, h3, h4⟩
  · exact .inl h1
  · exact .inr ⟨g, cap, cur, h1, h2, h g cur h3, h4⟩

/-- what a call on the one disk comes to that makes T of its files -/
def TwoEnds (w : World) (B ga ma gb mb : Nat) (rm : Int) (T Lb : Files) (e : Ending) (w' : World) : Prop :=
  e = .returned (.int .i64 0) ∧ Two w' B ga ma gb mb rm T Lb ∧ Below B w w' ∧ StrsStay w w'

theorem append_two (h : Two w B ga ma gb mb rm La Lb) (n s : ByteArray) (hn : n.size ≤ 140737488355328) (hne : n.data.toList ≠ [])
    (hs : (Pm.used La : Int) + s.size ≤ 140737488355328) (hL : La.length ≤ 1000000) (hfit : ((Pm.fi La n.data.toList).now.t.length : Int) + s.size - ((Pm.fi La n.data.toList).weight : Nat) ≤ rm - Pm.used La) :
    Calls Try.prog 28 #[.pointer (some ⟨ga, 0, none⟩), .string n, .string s] w (TwoEnds w B ga ma gb mb rm (Pm.appended La n.data.toList s.data.toList) Lb) := by
  have hB := h.lt
  obtain ⟨ua, Ga, ub, Gb, hA, hb, hap, rfl, rfl⟩ := h
  have hsum := hA.sum
  refine (append_own hA hB n s hn hne (by omega) hL (by omega)).mono ?_
  rintro e w' ⟨rfl, us', G', hd', he, hm, hf⟩
  refine ⟨rfl, ⟨us', G', ub, Gb, hd', hb.moved hm (fun b h1 h2 => hap b h2 h1), fun b h1 h2 => ?_, he, rfl⟩, hm.below hB hA.footB, fun gl cur hl => (hm.block gl (Array.getElem?_eq_some_iff.1 hl).1 (hA.no_strs hl)).trans hl⟩
  rcases hf b h1 with h3 | h3
  · exact hap b h3 h2
  · have := (hb.foot_lt h2).2
    omega

theorem own_two {T : Files} {ua ub : Int} {Ga Gb : Held} {e : Ending} (hA : Dsk w B ga ma rm ua false 0 Ga) (hb : Dsk w B gb mb rm ub false 0 Gb) (hap : ∀ b, Foot ga ma Ga b → ¬Foot gb mb Gb b) (hB : B ≤ w.heap.size) (h : OwnEnds w B ga ma rm Ga T e w') : TwoEnds w B ga ma gb mb rm T (abs Gb) e w' := by
  obtain ⟨he, us', G', hd', ha, hm, hf⟩ := h
  have hsub : ∀ b, b = ga ∨ b = ma → Foot ga ma Ga b := fun b hb => by rcases hb with h | h; exact .inl h; exact .inr (.inl h)
  refine ⟨he, ⟨us', G', ub, Gb, hd', hb.moved hm (fun b h1 h2 => hap b (hsub b h2) h1), fun b h1 h2 => hap b (hf b h1) h2, ha, rfl⟩, hm.below hB (fun b h => hA.footB b (hsub b h)), fun gl cur hl => (hm.block gl (Array.getElem?_eq_some_iff.1 hl).1 (fun h => hA.no_strs hl (hsub gl h))).trans hl⟩

theorem syncall_two (h : Two w B ga ma gb mb rm La Lb) (hks : ∀ k ∈ Pm.keys La, k.length ≤ 140737488355328) (hLen : La.length ≤ 1000000) :
    Calls Try.prog 27 #[.pointer (some ⟨ga, 0, none⟩), .slice none 0 0] w (TwoEnds w B ga ma gb mb rm (Pm.syncs (Pm.keys La) La) Lb) := by
  have hB := h.lt
  obtain ⟨ua, Ga, ub, Gb, hA, hb, hap, rfl, rfl⟩ := h
  exact (syncall_own hA hB hks hLen).mono fun e w' he => own_two hA hb hap hB he

theorem sync_two (h : Two w B ga ma gb mb rm La Lb) (A : Option Addr) (c : Nat) (ks : List Key) (hk1 : 1 ≤ ks.length) (hkm : ks.length ≤ 1000000) (hL : Lies w w.heap.size A (strk ks)) (hks : ∀ k ∈ ks, k.length ≤ 140737488355328) (hLen : La.length ≤ 1000000) :
    Calls Try.prog 27 #[.pointer (some ⟨ga, 0, none⟩), .slice A ks.length c] w (TwoEnds w B ga ma gb mb rm (Pm.syncs ks La) Lb) := by
  have hB := h.lt
  obtain ⟨ua, Ga, ub, Gb, hA, hb, hap, rfl, rfl⟩ := h
  exact (sync_own hA hB A c ks hk1 hkm w.heap.size (Nat.le_refl _) hL hks hLen).mono fun e w' he => own_two hA hb hap hB he

theorem crash_two (h : Two w B ga ma gb mb rm La Lb) (hks : ∀ k ∈ Pm.keys La, k.length ≤ 140737488355328) (hLen : La.length ≤ 1000000) (hsafe : ∀ k, (Pm.fi La k).safe = true) (A : Option Addr) (n c : Nat) :
    Calls Try.prog 30 #[.pointer (some ⟨ga, 0, none⟩), .slice A n c] w fun e w' => e = .returned (.tuple #[]) ∧ Below w.heap.size w w' := by
  obtain ⟨ua, Ga, ub, Gb, hA, hb, hap, rfl, rfl⟩ := h
  exact crash_safe hA hks hLen hsafe A n c

theorem read_two (h : Two w B ga ma gb mb rm La Lb) (n : ByteArray) (hn : n.size ≤ 140737488355328) (hex : (Pm.fi La n.data.toList).now.ex = true) :
    Calls Try.prog 23 #[.pointer (some ⟨ga, 0, none⟩), .string n] w fun e w' => e = .returned (.tuple #[.string ⟨(Pm.fi La n.data.toList).now.t.toArray⟩, .int .i64 0]) ∧ Below w.heap.size w w' := by
  obtain ⟨ua, Ga, ub, Gb, hA, hb, hap, rfl, rfl⟩ := h
  refine (read_low hA n hn).mono ?_
  rw [if_pos hex]
  exact fun _ _ h => h
end
end Go.Proofs.Ytokepandiigjlaa
