/- glacierlaw01.awake, Cut: their walks. -/
import Derived.Test.YtfapnblajcfjfaaEy
import Derived.Test.YtfapnblajcfjfaaDs
namespace Go.Proofs.Ytfapnblajcfjfaa
open Go.RowKit
open Wm (num tk)

theorem num_300 : num 300 = [130, 44] := by simp [Wm.num, Wm.cont]

theorem EncIs.new (w : World) : EncIs (w.alloc (.cells #[.pointer none, .int .i64 0] 26)) w.heap.size [] := ⟨none, At.new _ _ _, .nil⟩
theorem EncIs.alloc {w : World} {g : Nat} {bs : List UInt8} (h : EncIs w g bs) (o : Obj) : EncIs (w.alloc o) g bs := h.same (World.grownBy_alloc _ _ _)
theorem EncIs.below {w w' : World} {g B : Nat} {bs : List UInt8} (h : EncIs w g bs) (hb : Below B w w') (hB : B = w.heap.size) : EncIs w' g bs := h.same (grownBy_of_below hb hB)
theorem EncIs.lt {w : World} {g : Nat} {bs : List UInt8} (h : EncIs w g bs) : g < w.heap.size := by obtain ⟨p, ha, _⟩ := h; exact ha.lt
/-- a new block that holds xs: a slice over it -/
theorem Lies.new (w : World) (t : TypeId) (cs : Array Value) (xs : List Value) (g : Nat) (hg : g = w.heap.size) (h : cs.toList = xs) : Lies (w.alloc (.cells cs t)) (w.alloc (.cells cs t)).heap.size (some ⟨g, 0, none⟩) xs := by
  subst hg
  exact Lies.of_at (At.new w t cs) h (by simp)
/-- what a call on the Enc leaves, as seen from the start -/
theorem EncRet.then {w0 w w' : World} {o : Obj} {B g : Nat} (hb : Below B w0 w) (hB : B ≤ w.heap.size) (hg : B ≤ g) (h : (w.alloc o).grownBy w' (some g)) : Below B w0 w' ∧ B ≤ w'.heap.size :=
  ⟨below_of_grownBy (hb.alloc hB o) h (by simp; omega) hg, by have := h.size; simp at this; omega⟩

theorem awake_bytes : unums [5, 300] ++ texts [⟨#[97, 98]⟩] ++ (num 2 ++ nums [1, 2]) = [5, 130, 44, 2, 97, 98, 2, 1, 2] := by
  simp [unums, texts, text, nums, num_300, Wm.num_small, ByteArray.size]

set_option maxHeartbeats 1000000 in
theorem awake_any (w : World) : Calls Try.prog 14 #[] w fun e w' => e = .returned (.bool true) ∧ Below w.heap.size w w' := by
  go_enter Try.func14, Try.ntmps14
  go_wp2_with fail
  have hb0 : Below w.heap.size w (w.alloc (.cells #[.pointer none, .int .i64 0] 26)) := (Below.refl _ w).alloc (Nat.le_refl _) _
  have he0 := EncIs.new w
  have hz0 : (w.alloc (.cells #[.pointer none, .int .i64 0] 26)).heap.size = w.heap.size + 1 := by simp
  generalize w.alloc (.cells #[.pointer none, .int .i64 0] 26) = w0 at *
  have Z0 := Lib.hid hz0; clear hz0
  generalize hG : w.heap.size = G at *
  have HG := Lib.hid hG; clear hG
  refine (encU_any G [] [5, 300] (by simp) _ _ _ (he0.alloc _) (Lies.new w0 23 #[.int .u64 5, .int .u64 300] _ _ Z0.out.symm rfl) (by simp)).mono ?_
  rintro x w1 ⟨rfl, he1, hg1⟩
  obtain ⟨hb1, hs1⟩ := EncRet.then hb0 (by rw [Z0.out]; omega) (Nat.le_refl _) hg1
  clear hg1 he0 hb0
  go_wp2_with fail
  refine (encS_any G _ [⟨#[97, 98]⟩] _ _ _ (he1.alloc _) (Lies.new w1 9 #[.string ⟨#[97, 98]⟩] _ _ rfl rfl) (by simp [unums, texts, text, num_300, Wm.num_small, ByteArray.size])).mono ?_
  rintro x w2 ⟨rfl, he2, hg2⟩
  obtain ⟨hb2, hs2⟩ := EncRet.then hb1 hs1 (Nat.le_refl _) hg2
  clear hg2 he1 hb1
  go_wp2_with fail
  refine (encList_any G _ [1, 2] (by simp) _ _ _ (he2.alloc _) (Lies.new w2 3 #[.int .i64 1, .int .i64 2] _ _ rfl rfl) (by simp [unums, texts, text, num_300, Wm.num_small, ByteArray.size])).mono ?_
  rintro x w3 ⟨rfl, he3, hg3⟩
  obtain ⟨hb3, hs3⟩ := EncRet.then hb2 hs2 (Nat.le_refl _) hg3
  clear hg3 he2 hb2
  have e9 : [] ++ unums [5, 300] ++ texts [⟨#[97, 98]⟩] ++ (num ([1, 2] : List Int).length ++ nums [1, 2]) = [5, 130, 44, 2, 97, 98, 2, 1, 2] := awake_bytes
  rw [e9] at he3
  have E9 := Lib.hid e9; clear e9
  go_wp2_with fail
  refine (from_any ⟨#[128, 5]⟩ w3 (by simp [ByteArray.size])).mono ?_
  rintro x w4 ⟨g, rfl, hg4, hd4, hb4⟩
  have he4 := he3.below hb4 rfl
  have hne : G ≠ g := by have := he3.lt; omega
  have hb5 := hb3.trans (hb4.mono hs3)
  have hs5 : G ≤ w4.heap.size := by have := hb4.size; omega
  clear hb4 he3 hb3
  go_wp2_with fail
  refine (decU_any g [128, 5] w4 hd4).mono ?_
  rintro x w5 ⟨rfl, hd5, hg5⟩
  have e5 : tk [128, 5] 0 true = ([5], 3, 0) := rfl
  rw [e5] at hd5
  have E5 := Lib.hid e5; clear e5
  have he5 := he4.grown hd4 (by decide) hne hg5
  have hb6 := below_of_grownBy hb5 hg5 hs5 (by omega)
  have hs6 : G ≤ w5.heap.size := by have := hg5.size; omega
  clear hg5 hd4 he4 hb5
  go_wp2_with fail
  refine (bytes_any G _ w5 he5 (by simp)).mono ?_
  rintro x w6 ⟨rfl, hb7⟩
  have hd6 : DecIs w6 g [5] 3 := At.below hd5 hb7 (At.lt hd5)
  have hb8 := hb6.trans (hb7.mono (by omega))
  clear hb7 hd5 he5 hb6
  go_wp2_with fail
  refine (err_any g _ _ w6 hd6).mono ?_
  rintro x w7 ⟨rfl, rfl⟩
  go_wp2
  go_ret
  exact ⟨rfl, by rw [HG.out]; exact hb8⟩
end Go.Proofs.Ytfapnblajcfjfaa
