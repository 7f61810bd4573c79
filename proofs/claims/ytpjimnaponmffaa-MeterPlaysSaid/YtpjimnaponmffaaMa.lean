/- glacierlaw03.awake: its walk. -/
import Derived.Test.YtpjimnaponmffaaMd
namespace Go.Proofs.Ytpjimnaponmffaa
open Go.RowKit

theorem made_new (room : Int) (w : World) :
    Calls Try.prog 9 #[.int .i64 room] w fun e w' => e = .returned (.agg #[.int .i64 (max room 0), .int .i64 0]) ∧ Below w.heap.size w w' := by
  refine (made_any room w).mono ?_
  rintro e w' ⟨rfl, o, rfl⟩
  exact ⟨rfl, (Below.refl _ w).alloc (Nat.le_refl _) _⟩

/-- what a device's block leaves, seen from the start -/
theorem below_dev {w0 w w' : World} {B g : Nat} (hb : Below B w0 w) (hB : B ≤ w.heap.size) (hg : B ≤ g) (h : w.grownBy w' (some g)) : Below B w0 w' ∧ B ≤ w'.heap.size :=
  ⟨below_of_grownBy hb h hB hg, by have := h.size; omega⟩

set_option maxHeartbeats 1000000 in
theorem dev_awake_any (w : World) : Calls Try.prog 10 #[] w fun e w' => e = .returned (.bool true) ∧ Below w.heap.size w w' := by
  go_enter Try.func10, Try.ntmps10
  go_wp2_with fail
  refine (made_new 10 w).mono ?_
  rintro e w1 ⟨he, hb1⟩
  rw [show max (10 : Int) 0 = 10 from rfl] at he
  subst he
  have hs1 := hb1.size
  go_wp2_with fail
  have hb2 : Below w.heap.size w (w1.alloc (.cells #[.int .i64 10, .int .i64 0, .bool false, .int .i64 0] 29)) := hb1.alloc hs1 _
  have hd2 : Dev (w1.alloc (.cells #[.int .i64 10, .int .i64 0, .bool false, .int .i64 0] 29)) w1.heap.size 10 0 false 0 := Dev.of_at (At.new _ _ _) rfl rfl rfl rfl (by omega) (by omega) (by omega) (by omega) (by omega)
  have hs2 : w.heap.size ≤ (w1.alloc (.cells #[.int .i64 10, .int .i64 0, .bool false, .int .i64 0] 29)).heap.size := by simp; omega
  generalize w1.alloc (.cells #[.int .i64 10, .int .i64 0, .bool false, .int .i64 0] 29) = w2 at *
  generalize w1.heap.size = g at *
  generalize hB : w.heap.size = B at *
  have HB := Lib.hid hB; clear hB
  clear hb1
  have c3 := take_dev hd2 7
  rw [show takeR 10 0 7 = (7, 0) from rfl] at c3
  refine c3.mono ?_
  rintro e w3 ⟨rfl, hd3, hg⟩
  obtain ⟨hb3, hs3⟩ := below_dev hb2 hs2 hs1 hg
  clear c3 hg hd2 hb2
  go_wp2_with fail
  have c4 := take_dev hd3 4
  rw [show takeR 10 7 4 = (7, 7) from rfl] at c4
  refine c4.mono ?_
  rintro e w4 ⟨rfl, hd4, hg⟩
  obtain ⟨hb4, hs4⟩ := below_dev hb3 hs3 hs1 hg
  clear c4 hg hd3 hb3
  go_wp2_with fail
  have c5 := give_dev hd4 8
  rw [show giveR 7 8 = (7, 1) from rfl] at c5
  refine c5.mono ?_
  rintro e w5 ⟨rfl, hd5, hg⟩
  obtain ⟨hb5, hs5⟩ := below_dev hb4 hs4 hs1 hg
  clear c5 hg hd4 hb4
  go_wp2_with fail
  have c6 := fail_dev hd5 1 (by omega)
  rw [show armed 1 = 2 from rfl] at c6
  refine c6.mono ?_
  rintro e w6 ⟨rfl, hd6, hg⟩
  obtain ⟨hb6, hs6⟩ := below_dev hb5 hs5 hs1 hg
  clear c6 hg hd5 hb5
  go_wp2_with fail
  have c7 := try_dev hd6
  rw [show tryR false 2 = (1, 0) from rfl] at c7
  refine c7.mono ?_
  rintro e w7 ⟨rfl, hd7, hg⟩
  obtain ⟨hb7, hs7⟩ := below_dev hb6 hs6 hs1 hg
  clear c7 hg hd6 hb6
  go_wp2_with fail
  have c8 := try_dev hd7
  rw [show tryR false 1 = (0, 8) from rfl] at c8
  refine c8.mono ?_
  rintro e w8 ⟨rfl, hd8, hg⟩
  obtain ⟨hb8, hs8⟩ := below_dev hb7 hs7 hs1 hg
  clear c8 hg hd7 hb7
  go_wp2_with fail
  have c9 := try_dev hd8
  rw [show tryR false 0 = (0, 0) from rfl] at c9
  refine c9.mono ?_
  rintro e w9 ⟨rfl, hd9, hg⟩
  obtain ⟨hb9, hs9⟩ := below_dev hb8 hs8 hs1 hg
  clear c9 hg hd8 hb8
  go_wp2_with fail
  refine (free_any hd9.meter).mono ?_
  rintro e w10 ⟨rfl, m, rfl⟩
  go_wp2
  go_ret
  exact ⟨rfl, by rw [HB.out]; exact below_drewN hb9 m⟩
end Go.Proofs.Ytpjimnaponmffaa
