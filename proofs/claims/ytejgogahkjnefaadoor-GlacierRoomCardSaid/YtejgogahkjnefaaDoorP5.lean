/- A disk's meter and luck; (*platter.Disk).settle: their walks. -/
import Derived.Test.YtejgogahkjnefaaDoorP3
import Derived.Test.YtejgogahkjnefaaDoorP4
namespace Go.Proofs.YtejgogahkjnefaaDoor
open Go.RowKit Go.Sort
open Pm (Key Fi St Files)
set_option linter.unusedVariables false

section
variable {w w' : World} {B g m : Nat} {rm us : Int} {lo lo' : Bool} {lf lf' : Int} {G : Held}

theorem Dsk.ne (h : Dsk w B g m rm us lo lf G) : g ≠ m := by
  rintro rfl
  obtain ⟨es, clock, hm, _⟩ := h.map
  have := h.at_
  unfold At at this
  rw [hm] at this
  cases this
theorem Dsk.file_ne (h : Dsk w B g m rm us lo lf G) {p : Key × FV × Fi} (hp : p ∈ G) {b : Nat} (hb : p.2.1.in b) : b ≠ g ∧ b ≠ m := by
  obtain ⟨cur, hc⟩ := (h.files p hp).1.bytes hb
  refine ⟨?_, ?_⟩
  · rintro rfl
    exact absurd rfl (At.differ hc h.at_ (by decide))
  · rintro rfl
    obtain ⟨es, clock, hm, _⟩ := h.map
    rw [hm] at hc
    cases hc
/-- only the disk's own block has turned -/
theorem Dsk.own (h : Dsk w B g m rm us lo lf G) (hm : Moved w w' fun b => b = g) (hat : At w' g 69 (five rm us lo' lf' (.map (some m)))) (h0 : 0 ≤ lf') (h1 : lf' ≤ 1073741825) : Dsk w' B g m rm us lo' lf' G :=
  { h with
    at_ := hat
    map := h.map.of_block (hm.block m h.map.lt (Ne.symm h.ne))
    files := fun p hp => ⟨(h.files p hp).1.keep fun b hb => hm.block b ((h.files p hp).1.lt hb).2 (h.file_ne hp hb).1, (h.files p hp).2⟩
    lpos := h0
    ltop := h1 }
theorem moved_set (w : World) (g i : Nat) (v : Value) : Moved w (w.setCell ⟨g, i, none⟩ v) fun b => b = g := Moved.of_grown (grown_set w g i v) fun k hk => by simpa using hk.symm

theorem try_dsk (h : Dsk w B g m rm us lo lf G) : Calls Tryd.prog 32 #[.pointer (some ⟨g, 2, none⟩)] w fun e w' =>
    e = .returned (.int .i64 (tryR lo lf).2) ∧ Dsk w' B g m rm us lo (tryR lo lf).1 G ∧ Moved w w' fun b => b = g := by
  refine (try_any h.dev.luck).mono ?_
  have h0 := h.lpos
  have h9 := h.ltop
  rintro e w' (⟨rfl, rfl, rfl⟩ | ⟨rfl, rfl, rfl, rfl⟩ | ⟨rfl, rfl, rfl, rfl⟩ | ⟨rfl, h1, rfl, rfl⟩)
  · exact ⟨rfl, h, Moved.refl _ _⟩
  · exact ⟨rfl, h, Moved.refl _ _⟩
  · exact ⟨rfl, h.own (moved_set _ _ _ _) (h.at_.set 3 _) (by decide) (by decide), moved_set _ _ _ _⟩
  · have h2 : ¬lf = 0 := by omega
    have h3 : ¬lf = 1 := by omega
    rw [show tryR false lf = (lf - 1, 0) by unfold tryR; rw [if_neg (by decide), if_neg h2, if_neg h3]]
    exact ⟨rfl, h.own (moved_set _ _ _ _) (h.at_.set 3 _) (by omega) (by omega), moved_set _ _ _ _⟩
theorem fail_dsk (h : Dsk w B g m rm us lo lf G) (n : Int) (hn : -9223372036854775808 ≤ n) : Calls Tryd.prog 12 #[.pointer (some ⟨g, 2, none⟩), .int .i64 n] w fun e w' =>
    e = .returned (.tuple #[]) ∧ Dsk w' B g m rm us lo (armed n) G ∧ Moved w w' fun b => b = g :=
  (fail_any h.dev.luck n hn).mono fun _ _ ⟨he, hw⟩ => ⟨he, hw ▸ h.own (moved_set _ _ _ _) (h.at_.set 3 _) (armed_range n).1 (armed_range n).2, hw ▸ moved_set _ _ _ _⟩
theorem used_dsk (h : Dsk w B g m rm us lo lf G) : Calls Tryd.prog 25 #[.pointer (some ⟨g, 0, none⟩)] w fun e w' => e = .returned (.int .i64 us) ∧ w' = w := used_any h.dev.meter
theorem Dsk.alloc (h : Dsk w B g m rm us lo lf G) (o : Obj) : Dsk (w.alloc o) B g m rm us lo lf G := h.below ((Below.refl _ w).alloc (Nat.le_refl _) o)
theorem Dsk.drewN (h : Dsk w B g m rm us lo lf G) (n : Nat) : Dsk (w.drewN n) B g m rm us lo lf G := h.keep fun _ _ => rfl
theorem Dsk.drew' (h : Dsk w B g m rm us lo lf G) : Dsk w.drew B g m rm us lo lf G := h.keep fun _ _ => rfl
theorem Dsk.grow (h : Dsk w B g m rm us lo lf G) (n : Nat) (os : Array Obj) : Dsk (Go.Sort.grow (w.drewN n) os) B g m rm us lo lf G := h.keep fun b hb => by simp [Go.Sort.grow, Array.getElem?_append_left (h.foot_lt hb).2]
end

end Go.Proofs.YtejgogahkjnefaaDoor
