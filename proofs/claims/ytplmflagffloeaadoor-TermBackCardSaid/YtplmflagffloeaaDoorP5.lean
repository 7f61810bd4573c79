/- A disk's meter and luck; (*platter.Disk).settle: their walks. -/
import Derived.Test.YtplmflagffloeaaDoorP3
import Derived.Test.YtplmflagffloeaaDoorP4
namespace Go.Proofs.YtplmflagffloeaaDoor
open Go.RowKit Go.Sort
open Pm (Key Fi St Files)
set_option linter.unusedVariables false

section
variable {w w' : World} {B g m : Nat} {rm us : Int} {lo lo' : Bool} {lf lf' : Int} {G : Held}

theorem Dsk.ne (h : Dsk w B g m rm us lo lf G) : g ≠ m := by
  rintro rfl
  obtain ⟨es, clock, hm, _⟩ := h.map
  have := h.at_
  unfold At at this
  rw [hm] at this
  cases this
theorem Dsk.file_ne (h : Dsk w B g m rm us lo lf G) {p : Key × FV × Fi} (hp : p ∈ G) {b : Nat} (hb : p.2.1.in b) : b ≠ g ∧ b ≠ m := by
  obtain ⟨cur, hc⟩ := (h.files p hp).1.bytes hb
  refine ⟨?_, ?_⟩
  · rintro rfl
    exact absurd rfl (At.differ hc h.at_ (by decide))
  · rintro rfl
    obtain ⟨es, clock, hm, _⟩ := h.map
    rw [hm] at hc
    cases hc
/-- only the disk's own block has turned -/
theorem Dsk.own (h : Dsk w B g m rm us lo lf G) (hm : Moved w w' fun b => b = g) (hat : At w' g 61 (five rm us lo' lf' (.map (some m)))) (h0 : 0 ≤ lf') (h1 : lf' ≤ 1073741825) : Dsk w' B g m rm us lo' lf' G :=
  { h with
    at_ := hat
    map := h.map.of_block (hm.block m h.map.lt (Ne.symm h.ne))
    files := fun p hp => ⟨(h.files p hp).1.keep fun b hb => hm.block b ((h.files p hp).1.lt hb).2 (h.file_ne hp hb).1, (h.files p hp).2⟩
    lpos := h0
    ltop := h1 }
theorem moved_set (w : World) (g i : Nat) (v : Value) : Moved w (w.setCell ⟨g, i, none⟩ v) fun b => b = g := Moved.of_grown (grown_set w g i v) fun k hk => by simpa using hk.symm

theorem try_dsk (h : Dsk w B g m rm us lo lf G) : Calls Tryd.prog 43 #[.pointer (some ⟨g, 2, none⟩)] w fun e w' =>
    e = .returned (.int .i64 (tryR lo lf).2) ∧ Dsk w' B g m rm us lo (tryR lo lf).1 G ∧ Moved w w' fun b => b = g := by
  refine (try_any h.dev.luck).mono ?_
  have h0 := h.lpos
  have h9 := h.ltop
  rintro e w' (⟨rfl, rfl, rfl⟩ | ⟨rfl, rfl, rfl, rfl⟩ | ⟨rfl, rfl, rfl, rfl⟩ | ⟨rfl, h1, rfl, rfl⟩)
  · exact ⟨rfl, h, Moved.refl _ _⟩
  · exact ⟨rfl, h, Moved.refl _ _⟩
  · exact ⟨rfl, h.own (moved_set _ _ _ _) (h.at_.set 3 _) (by decide) (by decide), moved_set _ _ _ _⟩
  · have h2 : ¬lf = 0 := by omega
    have h3 : ¬lf = 1 := by omega
    rw [show tryR false lf = (lf - 1, 0) by unfold tryR; rw [if_neg (by decide), if_neg h2, if_neg h3]]
    exact ⟨rfl, h.own (moved_set _ _ _ _) (h.at_.set 3 _) (by omega) (by omega), moved_set _ _ _ _⟩
theorem used_dsk (h : Dsk w B g m rm us lo lf G) : Calls Tryd.prog 81 #[.pointer (some ⟨g, 0, none⟩)] w fun e w' => e = .returned (.int .i64 us) ∧ w' = w := used_any h.dev.meter
theorem Dsk.alloc (h : Dsk w B g m rm us lo lf G) (o : Obj) : Dsk (w.alloc o) B g m rm us lo lf G := h.below ((Below.refl _ w).alloc (Nat.le_refl _) o)
theorem Dsk.drewN (h : Dsk w B g m rm us lo lf G) (n : Nat) : Dsk (w.drewN n) B g m rm us lo lf G := h.keep fun _ _ => rfl
theorem Dsk.drew' (h : Dsk w B g m rm us lo lf G) : Dsk w.drew B g m rm us lo lf G := h.keep fun _ _ => rfl
theorem Dsk.grow (h : Dsk w B g m rm us lo lf G) (n : Nat) (os : Array Obj) : Dsk (Go.Sort.grow (w.drewN n) os) B g m rm us lo lf G := h.keep fun b hb => by simp [Go.Sort.grow, Array.getElem?_append_left (h.foot_lt hb).2]
end

set_option maxRecDepth 100000 in
set_option maxHeartbeats 1000000 in
theorem settle_any {w : World} {B g m : Nat} {rm us : Int} {lo : Bool} {lf : Int} {G : Held} (h : Dsk w B g m rm us lo lf G) (s : ByteArray) (hs : s.size ≤ 140737488355328) {t : Tx} {ex : Bool} {x : St} (ht : StIs w B t ex x)
    (hd : ∀ p ∈ G, p.1 ≠ s.data.toList → ∀ b, t.g = some b → ¬p.2.1.in b) (hfit : us - ((Pm.fi (abs G) s.data.toList).weight : Nat) + (x.t.length : Nat) ≤ rm) (hG : G.length < maxLen) :
    Calls Tryd.prog 36 #[.pointer (some ⟨g, 0, none⟩), .string s, .agg #[t.val, .bool ex]] w fun e w' => e = .returned (.tuple #[]) ∧
      ∃ us', Dsk w' B g m rm us' lo lf (setG G s.data.toList (⟨t, ex, t, ex⟩, ⟨x, x⟩)) ∧ Moved w w' fun b => b = g ∨ b = m := by
  have hf : FileIs (w.alloc (.cells #[t.val, .bool ex] 81)) B ⟨t, ex, t, ex⟩ ⟨x, x⟩ := ⟨ht.t.alloc _, ht.t.alloc _, ht.ex, ht.ex, ⟨ht.ok, ht.ok⟩, fun _ _ => Nat.le_refl _⟩
  have hw : (Fi.weight ⟨x, x⟩) = x.t.length := by unfold Pm.Fi.weight; exact Nat.max_self _
  have hP := put_any (h.alloc (.cells #[t.val, .bool ex] 81)) s hs hf (fun p hp hne b hb => hd p hp hne b (by rcases hb with hb | hb <;> exact hb)) (by rw [hw]; exact hfit) hG
  have hM : Moved w (w.alloc (.cells #[t.val, .bool ex] 81)) fun b => b = g ∨ b = m := Moved.of_below ((Below.refl _ w).alloc (Nat.le_refl _) _)
  have HP := Lib.hid hP; clear hP
  have HM := Lib.hid hM; clear hM
  clear hf h hd ht
  have hv : (FV.val ⟨t, ex, t, ex⟩) = .agg #[t.val, .bool ex, t.val, .bool ex] := rfl
  rw [hv] at HP
  generalize t.val = v at *
  go_enter Tryd.func36, Tryd.ntmps36
  go_wp2_with fail
  refine HP.out.mono ?_
  rintro e w1 ⟨rfl, us', hD, hM1⟩
  have HD := Lib.hid hD; clear hD
  have HM1 := Lib.hid hM1; clear hM1
  go_wp2
  go_end0
  exact ⟨rfl, us', HD.out, HM.out.trans HM1.out (fun k _ h => h)⟩
end Go.Proofs.YtplmflagffloeaaDoor
