/- (*Enc).U, I, List: their walks. -/
import Derived.Test.YtniecodpdmjppaaDoorEn
namespace Go.Proofs.YtniecodpdmjppaaDoor
open Go.RowKit
open Wm (num)

def u64s (l : List Nat) : List Value := l.map fun v => Value.int .u64 (v : Nat)
def unums (l : List Nat) : List UInt8 := l.flatMap num

theorem unums_take {l : List Nat} {k : Nat} (h : k < l.length) : unums (l.take (k + 1)) = unums (l.take k) ++ num l[k] := by
  unfold unums
  rw [List.take_succ_eq_append_getElem h, List.flatMap_append]
  simp

theorem unums_len : ∀ (l : List Nat), (∀ v ∈ l, v < 18446744073709551616) → (unums l).length ≤ 10 * l.length := by
  intro l
  induction l with
  | nil => intro _; simp [unums]
  | cons a l ih =>
    intro h
    have h1 := ih (fun n hn => h n (by simp [hn]))
    have h2 := Wm.num_len a (h a (by simp))
    unfold unums at h1 ⊢
    rw [List.flatMap_cons, List.length_append, List.length_cons]
    omega

/-- 'add' behind what has only made memory -/
theorem add_after (g : Nat) (bs ls : List UInt8) (v : Value) (w wr : World) (hb : Below w.heap.size w wr) (he : EncIs w g bs) (hown : wr.ownsRow w.heap.size 5 1 v ls.length (Lib.byteCells ls)) (hlen : bs.length + ls.length ≤ 140737488355328) :
    Calls Tryd.prog 71 #[.pointer (some ⟨g, 0, none⟩), v] wr (EncRet g (bs ++ ls) w) := by
  have hn : w.grownBy wr none := grownBy_of_below hb rfl
  refine (add_any g bs ls v w.heap.size wr (he.same hn) hown hlen).mono ?_
  rintro e w' ⟨he', hi, hg⟩
  exact ⟨he', hi, grownBy_trans (grownBy_of_below hb rfl) hg⟩

set_option maxHeartbeats 400000 in
theorem encU_any (g : Nat) (bs : List UInt8) (l : List Nat) (hl : ∀ v ∈ l, v < 18446744073709551616) (A : Option Addr) (c : Nat) (w : World) (he : EncIs w g bs) (hL : Lies w w.heap.size A (u64s l)) (hlen : bs.length + 10 * l.length + 10 ≤ 140737488355328) :
    Calls Tryd.prog 60 #[.pointer (some ⟨g, 0, none⟩), .slice A l.length c] w (EncRet g (bs ++ unums l) w) := by
  have HE := Lib.hid he; clear he
  go_enter Tryd.func60, Tryd.ntmps60
  go_wp2
  go_loopw [5, 10] (fun b i wr => ∃ (k : Nat), k ≤ l.length ∧ i = .int .i64 (k : Int) ∧ wr.ownsRow w.heap.size 5 1 b (unums (l.take k)).length (Lib.byteCells (unums (l.take k))) ∧ Below w.heap.size w wr)
    (fun _ i _ => l.length - (intOf i).toNat)
  case atStart => exact ⟨0, by omega, rfl, World.ownsRow_nil _ _ _ _, Below.refl _ _⟩
  case round =>
    obtain ⟨k, hk, rfl, hown1, hb1⟩ := hrel
    by_cases hlt : k < l.length
    · obtain ⟨ad, rfl, hadB, hc⟩ := (hL.below hb1).round (k := k) (by simpa [u64s] using hlt)
      have hval : ((u64s l)[k]'(by simpa [u64s] using hlt)) = .int .u64 (l[k] : Nat) := by simp [u64s]
      rw [hval] at hc
      clear hval
      have hle := hl _ (List.getElem_mem hlt)
      have hlen1 : (unums (l.take k)).length + 10 ≤ 140737488355328 := by
        have := unums_len (l.take k) (fun n hn => hl n (List.mem_of_mem_take hn))
        rw [List.length_take] at this
        omega
      have HT := Lib.hid (unums_take hlt)
      generalize hx : l[k] = x at *
      have HX := Lib.hid hx; clear hx
      clear hL
      go_wp2_with fail
      refine (number_any x hle _ _ w.heap.size _ (by have := hb1.size; omega) hown1 hlen1).mono ?_
      rintro e w1 ⟨v', rfl, hown', hb'⟩
      have R : w1.ownsRow w.heap.size 5 1 v' (unums (l.take (k + 1))).length (Lib.byteCells (unums (l.take (k + 1)))) := by
        rw [HT.out]; exact hown'
      have hb2 := hb1.trans hb'
      clear hown' hb' hown1 hb1 hc hlen1
      go_wp2
      go_roundw
      case rel => exact ⟨k + 1, by omega, by go_num, R, hb2⟩
      case measure => simp [intOf]; omega
    · obtain rfl : k = l.length := by omega
      rw [List.take_length] at hown1
      have hlen1 : bs.length + (unums l).length ≤ 140737488355328 := by have := unums_len l hl; omega
      go_wp2_with fail
      refine (add_after g bs (unums l) _ w wr hb1 HE.out hown1 hlen1).mono ?_
      rintro e w1 ⟨rfl, hi, hg⟩
      clear hown1 hb1 hL
      go_wp2
      go_ret
      exact ⟨rfl, hi, hg⟩

set_option maxHeartbeats 400000 in
theorem encI_any (g : Nat) (bs : List UInt8) (l : List Int) (hl : ∀ n ∈ l, n ≤ 9223372036854775807) (A : Option Addr) (c : Nat) (w : World) (he : EncIs w g bs) (hL : Lies w w.heap.size A (ints l)) (hlen : bs.length + 10 * l.length + 10 ≤ 140737488355328) :
    Calls Tryd.prog 59 #[.pointer (some ⟨g, 0, none⟩), .slice A l.length c] w (EncRet g (bs ++ nums l) w) := by
  have HE := Lib.hid he; clear he
  go_enter Tryd.func59, Tryd.ntmps59
  go_wp2_with fail
  refine (integers_any l hl [] _ _ _ w.heap.size _ (Nat.le_refl _) (World.ownsRow_nil _ _ _ _) hL (by simp; omega)).mono ?_
  rintro e w1 ⟨v', rfl, hown', hb'⟩
  rw [List.nil_append] at hown'
  have hlen1 : bs.length + (nums l).length ≤ 140737488355328 := by have := nums_len l hl; omega
  go_wp2_with fail
  refine (add_after g bs (nums l) _ w w1 hb' HE.out hown' hlen1).mono ?_
  rintro e w2 ⟨rfl, hi, hg⟩
  clear hown' hb' hL
  go_wp2
  go_ret
  exact ⟨rfl, hi, hg⟩

end Go.Proofs.YtniecodpdmjppaaDoor
