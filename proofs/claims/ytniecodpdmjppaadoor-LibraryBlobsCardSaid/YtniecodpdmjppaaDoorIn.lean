/- glacier/wire.integers: its walk. -/
import Derived.Test.YtniecodpdmjppaaDoorNu
import Derived.Test.YtniecodpdmjppaaDoorMem
namespace Go.Proofs.YtniecodpdmjppaaDoor
open Go.RowKit
open Wm (num)

/-- the bytes of whole numbers, one behind the other; one below 0 counts as 0 -/
def nums (l : List Int) : List UInt8 := l.flatMap fun n => num n.toNat

theorem nums_take {l : List Int} {k : Nat} (h : k < l.length) : nums (l.take (k + 1)) = nums (l.take k) ++ num (l[k]).toNat := by
  unfold nums
  rw [List.take_succ_eq_append_getElem h, List.flatMap_append]
  simp

theorem nums_len : ∀ (l : List Int), (∀ n ∈ l, n ≤ 9223372036854775807) → (nums l).length ≤ 10 * l.length := by
  intro l
  induction l with
  | nil => intro _; simp [nums]
  | cons a l ih =>
    intro h
    have h1 := ih (fun n hn => h n (by simp [hn]))
    have h2 := Wm.num_len a.toNat (by have := h a (by simp); omega)
    unfold nums at h1 ⊢
    rw [List.flatMap_cons, List.length_append, List.length_cons]
    omega


theorem max_u64 (n : Int) (h : n ≤ 9223372036854775807) : (if n < 0 then 0 else n) = (n.toNat : Int) := by split <;> omega

set_option maxHeartbeats 400000 in
theorem integers_any (l : List Int) (hl : ∀ n ∈ l, n ≤ 9223372036854775807) (bs : List UInt8) (sv : Value) (A : Option Addr) (c : Nat) (B : Nat) (w : World) (hB : B ≤ w.heap.size)
    (hown : w.ownsRow B 5 1 sv bs.length (Lib.byteCells bs)) (hL : Lies w B A (ints l)) (hlen : bs.length + 10 * l.length + 10 ≤ 140737488355328) :
    Calls Tryd.prog 70 #[sv, .slice A l.length c] w (Grew B (bs ++ nums l) w) := by
  go_enter Tryd.func70, Tryd.ntmps70
  go_wp2
  go_loopw [0, 9] (fun b i wr => ∃ (k : Nat), k ≤ l.length ∧ i = .int .i64 (k : Int) ∧ wr.ownsRow B 5 1 b (bs ++ nums (l.take k)).length (Lib.byteCells (bs ++ nums (l.take k))) ∧ Below B w wr)
    (fun _ i _ => l.length - (intOf i).toNat)
  case atStart => exact ⟨0, by omega, rfl, by simpa [nums] using hown, Below.refl _ _⟩
  case round =>
    obtain ⟨k, hk, rfl, hown1, hb1⟩ := hrel
    by_cases hlt : k < l.length
    · obtain ⟨ad, rfl, hadB, hc⟩ := (hL.below hb1).round (k := k) (by simpa [ints] using hlt)
      have hval : ((ints l)[k]'(by simpa [ints] using hlt)) = .int .i64 l[k] := by simp [ints]
      rw [hval] at hc
      clear hval
      have hle := hl _ (List.getElem_mem hlt)
      generalize hx : l[k] = x at *
      have HX := Lib.hid hx; clear hx
      clear hL
      have hlen1 : (bs ++ nums (l.take k)).length + 10 ≤ 140737488355328 := by
        have := nums_len (l.take k) (fun n hn => hl n (List.mem_of_mem_take hn))
        rw [List.length_take] at this
        rw [List.length_append]
        omega
      have HT := Lib.hid (nums_take hlt)
      by_cases hneg : x < 0
      · have e0 : num 0 = num x.toNat := by congr 1; omega
        have E0 := Lib.hid e0; clear e0
        go_wp2_with fail
        refine (number_int 0 (by omega) (by omega) _ _ B _ (by have := hb1.size; omega) hown1 hlen1).mono ?_
        rintro e w1 ⟨v', rfl, hown', hb'⟩
        have R : w1.ownsRow B 5 1 v' (bs ++ nums (l.take (k + 1))).length (Lib.byteCells (bs ++ nums (l.take (k + 1)))) := by
          rw [HT.out, HX.out, ← E0.out, ← List.append_assoc]; exact hown'
        have hb2 := hb1.trans hb'
        clear hown' hb' hown1 hb1 hc hlen1
        go_wp2
        go_roundw
        case rel => exact ⟨k + 1, by omega, by go_num, R, hb2⟩
        case measure => simp [intOf]; omega
      · go_wp2_with fail
        refine (number_int x (by omega) (by omega) _ _ B _ (by have := hb1.size; omega) hown1 hlen1).mono ?_
        rintro e w1 ⟨v', rfl, hown', hb'⟩
        have R : w1.ownsRow B 5 1 v' (bs ++ nums (l.take (k + 1))).length (Lib.byteCells (bs ++ nums (l.take (k + 1)))) := by
          rw [HT.out, HX.out, ← List.append_assoc]; exact hown'
        have hb2 := hb1.trans hb'
        clear hown' hb' hown1 hb1 hc hlen1
        go_wp2
        go_roundw
        case rel => exact ⟨k + 1, by omega, by go_num, R, hb2⟩
        case measure => simp [intOf]; omega
    · obtain rfl : k = l.length := by omega
      rw [List.take_length] at hown1
      go_wp2
      go_ret
      exact ⟨u0, rfl, hown1, hb1⟩

set_option maxHeartbeats 400000 in
/-- of one number alone, wherever it lies -/
theorem integers_one (n : Int) (h0 : 0 ≤ n) (hn : n ≤ 9223372036854775807) (bs : List UInt8) (sv : Value) (g c : Nat) (B : Nat) (w : World) (hB : B ≤ w.heap.size)
    (hown : w.ownsRow B 5 1 sv bs.length (Lib.byteCells bs)) (hc : w.cell? ⟨g, 0, none⟩ = some (.int .i64 n)) (hlen : bs.length + 10 ≤ 140737488355328) :
    Calls Tryd.prog 70 #[sv, .slice (some ⟨g, 0, none⟩) 1 c] w (Grew B (bs ++ num n.toNat) w) := by
  go_enter Tryd.func70, Tryd.ntmps70
  go_wp2
  go_loopw [0, 9] (fun b i wr => (i = .int .i64 0 ∧ b = sv ∧ wr = w) ∨ (i = .int .i64 1 ∧ wr.ownsRow B 5 1 b (bs ++ num n.toNat).length (Lib.byteCells (bs ++ num n.toNat)) ∧ Below B w wr))
    (fun _ i _ => 1 - (intOf i).toNat)
  case atStart => exact .inl ⟨rfl, rfl, rfl⟩
  case round =>
    rcases hrel with ⟨rfl, rfl, rfl⟩ | ⟨rfl, hown1, hb1⟩
    · have hneg : ¬ n < 0 := by omega
      go_wp2_with fail
      refine (number_int n (by omega) (by omega) _ _ B _ hB hown hlen).mono ?_
      rintro e w1 ⟨v', rfl, hown', hb'⟩
      clear hc hown
      go_wp2
      go_roundw
      case rel => exact .inr ⟨rfl, hown', hb'⟩
      case measure => simp [intOf]
    · clear hc hown
      go_wp2
      go_ret
      exact ⟨u0, rfl, hown1, hb1⟩
end Go.Proofs.YtniecodpdmjppaaDoor
