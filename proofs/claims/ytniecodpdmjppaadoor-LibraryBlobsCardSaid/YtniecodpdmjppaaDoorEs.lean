/- (*Enc).S, B: their walks. -/
import Derived.Test.YtniecodpdmjppaaDoorEu
import Derived.Lib.AppendStr
namespace Go.Proofs.YtniecodpdmjppaaDoor
open Go.RowKit
open Wm (num)

/-- a text's bytes: its length, then itself -/
def text (s : ByteArray) : List UInt8 := num s.size ++ s.data.toList
def texts (l : List ByteArray) : List UInt8 := l.flatMap text


theorem texts_take {l : List ByteArray} {k : Nat} (h : k < l.length) : texts (l.take (k + 1)) = texts (l.take k) ++ text l[k] := by
  unfold texts
  rw [List.take_succ_eq_append_getElem h, List.flatMap_append]
  simp

theorem texts_take_len (l : List ByteArray) (k : Nat) : (texts (l.take k)).length ≤ (texts l).length := by
  conv => rhs; rw [← List.take_append_drop k l]
  unfold texts
  rw [List.flatMap_append, List.length_append]
  omega

theorem texts_many : ∀ (l : List ByteArray), l.length ≤ (texts l).length := by
  intro l
  induction l with
  | nil => simp
  | cons a l ih =>
    have h1 : 0 < (text a).length := by unfold text; rw [List.length_append]; have := List.length_pos_iff.2 (Wm.num_ne a.size); omega
    unfold texts at ih ⊢
    rw [List.flatMap_cons, List.length_append, List.length_cons]
    omega

def bools (l : List Bool) : List Value := l.map Value.bool
def flag (b : Bool) : UInt8 := if b then 1 else 0
def flags (l : List Bool) : List UInt8 := l.map flag

theorem flags_take {l : List Bool} {k : Nat} (h : k < l.length) : flags (l.take (k + 1)) = flags (l.take k) ++ [flag l[k]] := by
  unfold flags
  rw [List.take_succ_eq_append_getElem h, List.map_append]
  simp

set_option maxHeartbeats 400000 in
theorem encS_any (g : Nat) (bs : List UInt8) (l : List ByteArray) (A : Option Addr) (c : Nat) (w : World) (he : EncIs w g bs) (hL : Lies w w.heap.size A (strs l)) (hlen : bs.length + (texts l).length + 20 ≤ 140737488355328) :
    Calls Tryd.prog 58 #[.pointer (some ⟨g, 0, none⟩), .slice A l.length c] w (EncRet g (bs ++ texts l) w) := by
  have HE := Lib.hid he; clear he
  by_cases hbig : 9223372036854775807 < l.length
  · exfalso
    have := texts_many l
    omega
  obtain ⟨i0, hie, hz0, hz1, hz2⟩ := info_parts info_u8
  go_enter Tryd.func58, Tryd.ntmps58
  go_wp2
  go_loopw [5, 10] (fun b i wr => ∃ (k : Nat), k ≤ l.length ∧ i = .int .i64 (k : Int) ∧ wr.ownsRow w.heap.size 5 1 b (texts (l.take k)).length (Lib.byteCells (texts (l.take k))) ∧ Below w.heap.size w wr)
    (fun _ i _ => l.length - (intOf i).toNat)
  case atStart => exact ⟨0, by omega, rfl, World.ownsRow_nil _ _ _ _, Below.refl _ _⟩
  case round =>
    obtain ⟨k, hk, rfl, hown1, hb1⟩ := hrel
    by_cases hlt : k < l.length
    · obtain ⟨ad, rfl, hadB, hc⟩ := (hL.below hb1).round (k := k) (by simpa [strs] using hlt)
      have hval : ((strs l)[k]'(by simpa [strs] using hlt)) = .string l[k] := by simp [strs]
      rw [hval] at hc
      clear hval
      have HT := Lib.hid (texts_take hlt)
      have hlen2 : (texts (l.take k)).length + (text l[k]).length ≤ (texts l).length := by
        have := texts_take_len l (k + 1)
        rw [HT.out, List.length_append] at this
        exact this
      generalize hx : l[k] = x at *
      clear hx
      have hlen3 : (texts (l.take k)).length + (num x.size).length + x.size ≤ (texts l).length := by
        unfold text at hlen2; rw [List.length_append, size_list] at hlen2; omega
      clear hL hlen2
      go_wp2_with fail
      have hs1 := hb1.size
      refine (integers_one x.size (by omega) (by omega) _ _ wr.heap.size 1 w.heap.size _ (by simp; omega) (hown1.alloc _) (by simp) (by omega)).mono ?_
      rintro e w1 ⟨v', rfl, hown', hb'⟩
      rw [Int.toNat_natCast] at hown'
      have hb2 := (hb1.alloc hs1 _).trans hb'
      have hs2 := hb2.size
      clear hb' hown1 hb1 hc
      go_wp2_with (at_builtin; refine Lib.wpList_append_own_string _ rfl _ _ 82 9 rfl w.heap.size 5 i0 Tryd.underlying82 Tryd.underlying9 hie hz0 hz1 hz2 _ _ _ rfl hown' x rfl ?c3 ?c4 ?c5 ?_)
      case c3 => rw [List.length_append]; unfold maxLen; omega
      case c4 => rw [List.length_append]; omega
      case c5 => exact hs2
      intro v2 w2 hown2 hg2 _
      have R : w2.ownsRow w.heap.size 5 1 v2 (texts (l.take (k + 1))).length (Lib.byteCells (texts (l.take (k + 1)))) := by
        rw [HT.out]
        unfold text
        rw [← List.append_assoc, byteCells_append, List.length_append, List.length_append, size_list]
        exact hown2
      have hb3 : Below w.heap.size w w2 := hb2.grown hg2 hs2 (fun k hk => (hown'.lt k hk).1)
      clear hown2 hg2 hown' hb2
      go_wp2
      go_roundw
      case rel => exact ⟨k + 1, by omega, by go_num, R, hb3⟩
      case measure => simp [intOf]; omega
    · obtain rfl : k = l.length := by omega
      rw [List.take_length] at hown1
      go_wp2_with fail
      refine (add_after g bs (texts l) _ w wr hb1 HE.out hown1 (by omega)).mono ?_
      rintro e w1 ⟨rfl, hi, hg⟩
      clear hown1 hb1 hL
      go_wp2
      go_ret
      exact ⟨rfl, hi, hg⟩

end Go.Proofs.YtniecodpdmjppaaDoor
