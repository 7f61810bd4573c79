/- glacier/meter: the methods of Meter and Luck: their walks, over a block of which the meter is the first two cells, and the luck two cells somewhere. -/
import Derived.Test.YtniecodpdmjppaaDoorProg
import Derived.Test.YtniecodpdmjppaaDoorChecked
import Derived.Test.YtniecodpdmjppaaDoorMem
import Derived.WalkKit
import Derived.WalkSpells
import Derived.WalkLawsBesides
import Derived.Handy
import Derived.Lib.Hide
import Derived.Deep.QuietTactic
import Derived.BigQuiet
import Derived.IntWalk
import Derived.Laws.ResultCell
import Derived.Laws.Rows
namespace Go.Proofs.YtniecodpdmjppaaDoor
open Go.RowKit

/-- block g begins with a meter: the room, and how many are used -/
structure MeterAt (w : World) (g : Nat) (room used : Int) : Prop where
  croom : w.cell? ⟨g, 0, none⟩ = some (.int .i64 room)
  cused : w.cell? ⟨g, 1, none⟩ = some (.int .i64 used)
  free : w.frozen? ⟨g, 1, none⟩ = false
  le : used ≤ room
  pos : 0 ≤ used
  top : room ≤ 9223372036854775807

/-- cells o, o + 1 of block g are a luck -/
structure LuckAt (w : World) (g o : Nat) (lost : Bool) (left : Int) : Prop where
  clost : w.cell? ⟨g, o, none⟩ = some (.bool lost)
  cleft : w.cell? ⟨g, o + 1, none⟩ = some (.int .i64 left)
  free0 : w.frozen? ⟨g, o, none⟩ = false
  free1 : w.frozen? ⟨g, o + 1, none⟩ = false
  pos : 0 ≤ left
  top : left ≤ 1073741825

set_option maxHeartbeats 400000 in
theorem made_any (room : Int) (w : World) :
    Calls Tryd.prog 36 #[.int .i64 room] w fun e w' => e = .returned (.agg #[.int .i64 (max room 0), .int .i64 0]) ∧ ∃ o, w' = w.alloc o := by
  go_enter Tryd.func36, Tryd.ntmps36
  go_wp2
  · refine bodyPost_ret (results_cell_row rfl _ _ _ _ _ _ _ rfl (heap_alloc_new w _) Tryd.underlying46 rfl (by kernel_rfl)) rfl ?_
    exact ⟨by rw [Int.max_eq_right (by omega)], _, rfl⟩
  · refine bodyPost_ret (results_cell_row rfl _ _ _ _ _ _ _ rfl (heap_alloc_new w _) Tryd.underlying46 rfl (by kernel_rfl)) rfl ?_
    exact ⟨by rw [Int.max_eq_left (by omega)], _, rfl⟩

set_option maxHeartbeats 400000 in
theorem used_any {g : Nat} {room used : Int} {w : World} (h : MeterAt w g room used) :
    Calls Tryd.prog 14 #[.pointer (some ⟨g, 0, none⟩)] w fun e w' => e = .returned (.int .i64 used) ∧ w' = w := by
  obtain ⟨h1, h2, h3, h4, h5, h6⟩ := h
  go_enter Tryd.func14, Tryd.ntmps14
  go_wp2
  go_ret
  exact ⟨rfl, rfl⟩

set_option maxHeartbeats 400000 in
theorem free_any {g : Nat} {room used : Int} {w : World} (h : MeterAt w g room used) :
    Calls Tryd.prog 55 #[.pointer (some ⟨g, 0, none⟩)] w fun e w' => e = .returned (.int .i64 (room - used)) ∧ ∃ n, w' = w.drewN n := by
  obtain ⟨h1, h2, h3, h4, h5, h6⟩ := h
  have h7 : IntKind.i64.wrap (room - used) = room - used := IntWalk.i64_in _ ⟨by omega, by omega⟩
  go_enter Tryd.func55, Tryd.ntmps55
  go_wp2
  go_quiet (fail)
  go_wp2
  go_ret
  exact ⟨rfl, nq, rfl⟩

set_option maxHeartbeats 400000 in
theorem fits_any {g : Nat} {room used : Int} {w : World} (h : MeterAt w g room used) (n : Int) :
    Calls Tryd.prog 39 #[.pointer (some ⟨g, 0, none⟩), .int .i64 n] w fun e w' => e = .returned (.bool (decide (n ≤ room - used))) ∧ ∃ n, w' = w.drewN n := by
  go_enter Tryd.func39, Tryd.ntmps39
  go_wp2_with fail
  refine (free_any h).mono ?_
  rintro e w1 ⟨rfl, m, rfl⟩
  go_wp2
  go_ret
  exact ⟨rfl, m, rfl⟩

def TakeEnds (g : Nat) (room used n : Int) (w : World) (e : Ending) (w' : World) : Prop :=
  (n < 0 ∧ e = .returned (.int .i64 1) ∧ w' = w) ∨ (0 ≤ n ∧ room - used < n ∧ e = .returned (.int .i64 7) ∧ ∃ m, w' = w.drewN m) ∨
  (0 ≤ n ∧ n ≤ room - used ∧ e = .returned (.int .i64 0) ∧ ∃ m, w' = (w.drewN m).setCell ⟨g, 1, none⟩ (.int .i64 (used + n)))

set_option maxHeartbeats 400000 in
theorem take_any {g : Nat} {room used : Int} {w : World} (h : MeterAt w g room used) (n : Int) :
    Calls Tryd.prog 83 #[.pointer (some ⟨g, 0, none⟩), .int .i64 n] w (TakeEnds g room used n w) := by
  have hf := fits_any h n (w := w)
  obtain ⟨h1, h2, h3, h4, h5, h6⟩ := h
  by_cases hn : n < 0
  · go_enter Tryd.func83, Tryd.ntmps83
    go_wp2
    go_ret
    exact .inl ⟨hn, rfl, rfl⟩
  · by_cases hm : n ≤ room - used
    · have hd : decide (n ≤ room - used) = true := by simpa using hm
      go_enter Tryd.func83, Tryd.ntmps83
      go_wp2_with fail
      refine hf.mono ?_
      rintro e w1 ⟨he, m, rfl⟩
      rw [hd] at he
      subst he
      clear hf
      go_wp2
      go_ret
      exact .inr (.inr ⟨by omega, hm, rfl, m, rfl⟩)
    · have hd : decide (n ≤ room - used) = false := by simpa using hm
      go_enter Tryd.func83, Tryd.ntmps83
      go_wp2_with fail
      refine hf.mono ?_
      rintro e w1 ⟨he, m, rfl⟩
      rw [hd] at he
      subst he
      clear hf
      go_wp2
      go_ret
      exact .inr (.inl ⟨by omega, by omega, rfl, m, rfl⟩)

def GiveEnds (g : Nat) (used n : Int) (w : World) (e : Ending) (w' : World) : Prop :=
  ((n < 0 ∨ used < n) ∧ e = .returned (.int .i64 1) ∧ w' = w) ∨
  (0 ≤ n ∧ n ≤ used ∧ e = .returned (.int .i64 0) ∧ w' = w.setCell ⟨g, 1, none⟩ (.int .i64 (used - n)))

set_option maxHeartbeats 400000 in
theorem give_any {g : Nat} {room used : Int} {w : World} (h : MeterAt w g room used) (n : Int) :
    Calls Tryd.prog 66 #[.pointer (some ⟨g, 0, none⟩), .int .i64 n] w (GiveEnds g used n w) := by
  obtain ⟨h1, h2, h3, h4, h5, h6⟩ := h
  by_cases hn : n < 0
  · go_enter Tryd.func66, Tryd.ntmps66
    go_wp2
    go_ret
    exact .inl ⟨.inl hn, rfl, rfl⟩
  · by_cases hm : used < n
    · go_enter Tryd.func66, Tryd.ntmps66
      go_wp2
      go_ret
      exact .inl ⟨.inr hm, rfl, rfl⟩
    · go_enter Tryd.func66, Tryd.ntmps66
      go_wp2
      go_ret
      exact .inr ⟨by omega, by omega, rfl, rfl⟩


set_option maxHeartbeats 400000 in
theorem lost_any {g o : Nat} {lost : Bool} {left : Int} {w : World} (h : LuckAt w g o lost left) :
    Calls Tryd.prog 34 #[.pointer (some ⟨g, o, none⟩)] w fun e w' => e = .returned (.bool lost) ∧ w' = w := by
  obtain ⟨h1, h2, h3, h4, h5, h6⟩ := h
  go_enter Tryd.func34, Tryd.ntmps34
  go_wp2
  go_ret
  exact ⟨rfl, rfl⟩

/-- how many calls there are up to the one that fails, armed with n -/
def armed (n : Int) : Int := if n < 0 then 0 else if 1073741824 < n then 1073741825 else n + 1

def TryEnds (g o : Nat) (lost : Bool) (left : Int) (w : World) (e : Ending) (w' : World) : Prop :=
  (lost = true ∧ e = .returned (.int .i64 14) ∧ w' = w) ∨ (lost = false ∧ left = 0 ∧ e = .returned (.int .i64 0) ∧ w' = w) ∨
  (lost = false ∧ left = 1 ∧ e = .returned (.int .i64 8) ∧ w' = w.setCell ⟨g, o + 1, none⟩ (.int .i64 0)) ∨
  (lost = false ∧ 1 < left ∧ e = .returned (.int .i64 0) ∧ w' = w.setCell ⟨g, o + 1, none⟩ (.int .i64 (left - 1)))

set_option maxHeartbeats 400000 in
theorem try_any {g o : Nat} {lost : Bool} {left : Int} {w : World} (h : LuckAt w g o lost left) :
    Calls Tryd.prog 52 #[.pointer (some ⟨g, o, none⟩)] w (TryEnds g o lost left w) := by
  obtain ⟨h1, h2, h3, h4, h5, h6⟩ := h
  cases lost with
  | true =>
    go_enter Tryd.func52, Tryd.ntmps52
    go_wp2
    go_ret
    exact .inl ⟨rfl, rfl, rfl⟩
  | false =>
    by_cases h0 : left = 0
    · subst h0
      go_enter Tryd.func52, Tryd.ntmps52
      go_wp2
      go_ret
      exact .inr (.inl ⟨rfl, rfl, rfl, rfl⟩)
    · by_cases h1 : left = 1
      · subst h1
        go_enter Tryd.func52, Tryd.ntmps52
        go_wp2
        go_ret
        exact .inr (.inr (.inl ⟨rfl, rfl, rfl, rfl⟩))
      · go_enter Tryd.func52, Tryd.ntmps52
        go_wp2
        go_ret
        exact .inr (.inr (.inr ⟨rfl, by omega, rfl, rfl⟩))
end Go.Proofs.YtniecodpdmjppaaDoor
