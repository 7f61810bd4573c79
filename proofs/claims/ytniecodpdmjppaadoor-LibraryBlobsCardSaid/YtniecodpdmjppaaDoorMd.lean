/- A device: a block whose first four cells are a meter and a luck; what the methods make of it, as functions of numbers. -/
import Derived.Test.YtniecodpdmjppaaDoorMt
namespace Go.Proofs.YtniecodpdmjppaaDoor
open Go.RowKit

/-- how many are used then, and the error's number -/
def takeR (rm us n : Int) : Int × Int := if n < 0 then (us, 1) else if rm - us < n then (us, 7) else (us + n, 0)
def giveR (us n : Int) : Int × Int := if n < 0 ∨ us < n then (us, 1) else (us - n, 0)
/-- how many calls there are then up to the one that fails, and the error's number -/
def tryR (lost : Bool) (left : Int) : Int × Int := if lost then (left, 14) else if left = 0 then (left, 0) else if left = 1 then (0, 8) else (left - 1, 0)

/-- block g begins with a meter (room, used) and a luck (lost, left) -/
structure Dev (w : World) (g : Nat) (rm us : Int) (lo : Bool) (lf : Int) : Prop where
  lt : g < w.heap.size
  c0 : w.cell? ⟨g, 0, none⟩ = some (.int .i64 rm)
  c1 : w.cell? ⟨g, 1, none⟩ = some (.int .i64 us)
  c2 : w.cell? ⟨g, 2, none⟩ = some (.bool lo)
  c3 : w.cell? ⟨g, 3, none⟩ = some (.int .i64 lf)
  fz : ∀ i, w.frozen? ⟨g, i, none⟩ = false
  le : us ≤ rm
  pos : 0 ≤ us
  top : rm ≤ 9223372036854775807
  lpos : 0 ≤ lf
  ltop : lf ≤ 1073741825

section
variable {w w' : World} {g : Nat} {rm us : Int} {lo : Bool} {lf : Int}

theorem Dev.meter (h : Dev w g rm us lo lf) : MeterAt w g rm us := ⟨h.c0, h.c1, h.fz 1, h.le, h.pos, h.top⟩
theorem Dev.luck (h : Dev w g rm us lo lf) : LuckAt w g 2 lo lf := ⟨h.c2, h.c3, h.fz 2, h.fz 3, h.lpos, h.ltop⟩

theorem frozen_of_block {p : Addr} (h : w'.heap[p.block]? = w.heap[p.block]?) : w'.frozen? p = w.frozen? p := by
  unfold World.frozen?; rw [h]

theorem Dev.of_block (h : Dev w g rm us lo lf) (hs : w.heap.size ≤ w'.heap.size) (he : w'.heap[g]? = w.heap[g]?) : Dev w' g rm us lo lf :=
  ⟨Nat.lt_of_lt_of_le h.lt hs, (World.cell?_of_block he).trans h.c0, (World.cell?_of_block he).trans h.c1, (World.cell?_of_block he).trans h.c2, (World.cell?_of_block he).trans h.c3,
   fun i => (frozen_of_block (p := ⟨g, i, none⟩) he).trans (h.fz i), h.le, h.pos, h.top, h.lpos, h.ltop⟩
theorem Dev.below {B : Nat} (h : Dev w g rm us lo lf) (hb : Below B w w') (hg : g < B) : Dev w' g rm us lo lf := h.of_block hb.size (hb.block g hg)
theorem Dev.grown {row : Option Nat} (h : Dev w g rm us lo lf) (hb : w.grownBy w' row) (hg : some g ≠ row) : Dev w' g rm us lo lf := h.of_block hb.size (hb.block g h.lt hg)
theorem Dev.alloc (h : Dev w g rm us lo lf) (o : Obj) : Dev (w.alloc o) g rm us lo lf := h.below (B := w.heap.size) ((Below.refl _ w).alloc (Nat.le_refl _) o) h.lt
theorem Dev.drewN (h : Dev w g rm us lo lf) (n : Nat) : Dev (w.drewN n) g rm us lo lf := ⟨h.lt, h.c0, h.c1, h.c2, h.c3, h.fz, h.le, h.pos, h.top, h.lpos, h.ltop⟩
theorem Dev.of_at {t : TypeId} {cs : Array Value} (h : At w g t cs) (h0 : cs[0]? = some (.int .i64 rm)) (h1 : cs[1]? = some (.int .i64 us)) (h2 : cs[2]? = some (.bool lo)) (h3 : cs[3]? = some (.int .i64 lf))
    (le : us ≤ rm) (pos : 0 ≤ us) (top : rm ≤ 9223372036854775807) (lpos : 0 ≤ lf) (ltop : lf ≤ 1073741825) : Dev w g rm us lo lf :=
  ⟨h.lt, (h.cell 0).trans h0, (h.cell 1).trans h1, (h.cell 2).trans h2, (h.cell 3).trans h3, h.frozen, le, pos, top, lpos, ltop⟩

theorem frozen_set (p a : Addr) (v : Value) : (w.setCell p v).frozen? a = w.frozen? a := by
  unfold World.frozen? World.setCell
  simp only [Array.getElem?_modify]
  by_cases h : p.block = a.block
  · rw [if_pos h]
    cases hg : w.heap[a.block]? with
    | none => rfl
    | some o => cases o <;> rfl
  · rw [if_neg h]

theorem cell_set_same {a : Addr} {u v : Value} (h : w.cell? a = some u) : (w.setCell a v).cell? a = some v := World.cell?_setCell_same _ _ _ h
theorem cell_set_other {g i j : Nat} {v : Value} (h : i ≠ j) : (w.setCell ⟨g, i, none⟩ v).cell? ⟨g, j, none⟩ = w.cell? ⟨g, j, none⟩ := World.cell?_setCell_other _ _ _ _ (fun e => h (congrArg Addr.off e))

theorem Dev.setUsed {u : Int} (h : Dev w g rm us lo lf) (h0 : 0 ≤ u) (h1 : u ≤ rm) : Dev (w.setCell ⟨g, 1, none⟩ (.int .i64 u)) g rm u lo lf :=
  ⟨by simpa [World.setCell] using h.lt, (cell_set_other (by omega)).trans h.c0, cell_set_same h.c1, (cell_set_other (by omega)).trans h.c2, (cell_set_other (by omega)).trans h.c3, fun i => (frozen_set _ _ _).trans (h.fz i), h1, h0, h.top, h.lpos, h.ltop⟩
theorem Dev.setLost (h : Dev w g rm us lo lf) (b : Bool) : Dev (w.setCell ⟨g, 2, none⟩ (.bool b)) g rm us b lf :=
  ⟨by simpa [World.setCell] using h.lt, (cell_set_other (by omega)).trans h.c0, (cell_set_other (by omega)).trans h.c1, cell_set_same h.c2, (cell_set_other (by omega)).trans h.c3, fun i => (frozen_set _ _ _).trans (h.fz i), h.le, h.pos, h.top, h.lpos, h.ltop⟩
theorem Dev.setLeft {u : Int} (h : Dev w g rm us lo lf) (h0 : 0 ≤ u) (h1 : u ≤ 1073741825) : Dev (w.setCell ⟨g, 2 + 1, none⟩ (.int .i64 u)) g rm us lo u :=
  ⟨by simpa [World.setCell] using h.lt, (cell_set_other (by omega)).trans h.c0, (cell_set_other (by omega)).trans h.c1, (cell_set_other (by omega)).trans h.c2, cell_set_same h.c3, fun i => (frozen_set _ _ _).trans (h.fz i), h.le, h.pos, h.top, h0, h1⟩

theorem grown_drew_set (w : World) (g i m : Nat) (v : Value) : w.grownBy ((w.drewN m).setCell ⟨g, i, none⟩ v) (some g) :=
  grownBy_set (grownBy_drewN ⟨rfl, rfl, rfl, Nat.le_refl _, fun _ _ _ => rfl⟩ m) i v
theorem grown_set (w : World) (g i : Nat) (v : Value) : w.grownBy (w.setCell ⟨g, i, none⟩ v) (some g) :=
  grownBy_set ⟨rfl, rfl, rfl, Nat.le_refl _, fun _ _ _ => rfl⟩ i v
theorem grown_refl (w : World) (row : Option Nat) : w.grownBy w row := ⟨rfl, rfl, rfl, Nat.le_refl _, fun _ _ _ => rfl⟩

theorem used_dev (h : Dev w g rm us lo lf) : Calls Tryd.prog 14 #[.pointer (some ⟨g, 0, none⟩)] w fun e w' => e = .returned (.int .i64 us) ∧ w' = w := used_any h.meter
theorem lost_dev (h : Dev w g rm us lo lf) : Calls Tryd.prog 34 #[.pointer (some ⟨g, 2, none⟩)] w fun e w' => e = .returned (.bool lo) ∧ w' = w := lost_any h.luck

theorem take_dev (h : Dev w g rm us lo lf) (n : Int) : Calls Tryd.prog 83 #[.pointer (some ⟨g, 0, none⟩), .int .i64 n] w fun e w' =>
    e = .returned (.int .i64 (takeR rm us n).2) ∧ Dev w' g rm (takeR rm us n).1 lo lf ∧ w.grownBy w' (some g) := by
  refine (take_any h.meter n).mono ?_
  have h0 := h.pos
  rintro e w' (⟨h1, rfl, rfl⟩ | ⟨h1, h2, rfl, m, rfl⟩ | ⟨h1, h2, rfl, m, rfl⟩)
  · rw [show takeR rm us n = (us, 1) by unfold takeR; rw [if_pos h1]]
    exact ⟨rfl, h, grown_refl _ _⟩
  · rw [show takeR rm us n = (us, 7) by unfold takeR; rw [if_neg (Int.not_lt.2 h1), if_pos h2]]
    exact ⟨rfl, h.drewN m, grownBy_drewN (grown_refl _ _) m⟩
  · rw [show takeR rm us n = (us + n, 0) by unfold takeR; rw [if_neg (Int.not_lt.2 h1), if_neg (Int.not_lt.2 h2)]]
    exact ⟨rfl, (h.drewN m).setUsed (by omega) (by omega), grown_drew_set _ _ _ _ _⟩

theorem give_dev (h : Dev w g rm us lo lf) (n : Int) : Calls Tryd.prog 66 #[.pointer (some ⟨g, 0, none⟩), .int .i64 n] w fun e w' =>
    e = .returned (.int .i64 (giveR us n).2) ∧ Dev w' g rm (giveR us n).1 lo lf ∧ w.grownBy w' (some g) := by
  refine (give_any h.meter n).mono ?_
  have h0 := h.pos
  have h3 := h.le
  rintro e w' (⟨h1, rfl, rfl⟩ | ⟨h1, h2, rfl, rfl⟩)
  · rw [show giveR us n = (us, 1) by unfold giveR; rw [if_pos h1]]
    exact ⟨rfl, h, grown_refl _ _⟩
  · have h4 : ¬(n < 0 ∨ us < n) := by omega
    rw [show giveR us n = (us - n, 0) by unfold giveR; rw [if_neg h4]]
    exact ⟨rfl, h.setUsed (by omega) (by omega), grown_set _ _ _ _⟩


theorem armed_range (n : Int) : 0 ≤ armed n ∧ armed n ≤ 1073741825 := by
  unfold armed
  split
  · omega
  · split <;> omega

theorem try_dev (h : Dev w g rm us lo lf) : Calls Tryd.prog 52 #[.pointer (some ⟨g, 2, none⟩)] w fun e w' =>
    e = .returned (.int .i64 (tryR lo lf).2) ∧ Dev w' g rm us lo (tryR lo lf).1 ∧ w.grownBy w' (some g) := by
  refine (try_any h.luck).mono ?_
  have h0 := h.lpos
  have h9 := h.ltop
  rintro e w' (⟨rfl, rfl, rfl⟩ | ⟨rfl, rfl, rfl, rfl⟩ | ⟨rfl, rfl, rfl, rfl⟩ | ⟨rfl, h1, rfl, rfl⟩)
  · exact ⟨rfl, h, grown_refl _ _⟩
  · exact ⟨rfl, h, grown_refl _ _⟩
  · exact ⟨rfl, h.setLeft (by omega) (by omega), grown_set _ _ _ _⟩
  · have h2 : ¬lf = 0 := by omega
    have h3 : ¬lf = 1 := by omega
    rw [show tryR false lf = (lf - 1, 0) by unfold tryR; rw [if_neg (by decide), if_neg h2, if_neg h3]]
    exact ⟨rfl, h.setLeft (by omega) (by omega), grown_set _ _ _ _⟩
end
end Go.Proofs.YtniecodpdmjppaaDoor
