/- glacier/wire.number: its walk. It appends a number's bytes to a slice of the call's own. -/
import Derived.Test.YtniecodpdmjppaaDoorProg
import Derived.Test.YtniecodpdmjppaaDoorChecked
import Derived.Test.YtniecodpdmjppaaDoorWm
import Derived.WalkKit
import Derived.WalkSpells
import Derived.WalkLawsBesides
import Derived.Handy
import Derived.Lib.UnsafeStr
import Derived.Lib.Hide
namespace Go.Proofs.YtniecodpdmjppaaDoor
open Go.RowKit
open Wm (num)

theorem info_u8 : (Tryd.prog.info? 5).map (fun i => (i.zero, i.size, i.bytes)) = some (some (.int .u8 0), 1, 1) := by kernel_rfl

/-- what is handed back is a row of bytes of the call's own; nothing below block B has turned -/
def Grew (B : Nat) (bs : List UInt8) (w : World) (e : Ending) (w' : World) : Prop :=
  ∃ v, e = .returned v ∧ w'.ownsRow B 5 1 v bs.length (Lib.byteCells bs) ∧ Below B w w'

theorem byteCells_append (a b : List UInt8) : Lib.byteCells (a ++ b) = Lib.byteCells a ++ Lib.byteCells b := by simp [Lib.byteCells]

theorem int_i64 {a b : Int} (h : a = b) : Value.int .i64 a = Value.int .i64 b := by rw [h]

theorem or128 (x : Int) (h0 : 0 ≤ x) (h1 : x < 256) : bits .or .u8 x 128 = x % 128 + 128 := by
  have key : ∀ k : Fin 256, bits .or .u8 ((k.val : Nat) : Int) 128 = ((k.val : Nat) : Int) % 128 + 128 := by decide +kernel
  obtain ⟨n, rfl⟩ := Int.eq_ofNat_of_zero_le h0
  exact key ⟨n, by omega⟩
theorem and127 (x : Int) (h0 : 0 ≤ x) (h1 : x < 256) : bits .and .u8 x 127 = x % 128 := by
  have key : ∀ k : Fin 256, bits .and .u8 ((k.val : Nat) : Int) 127 = ((k.val : Nat) : Int) % 128 := by decide +kernel
  obtain ⟨n, rfl⟩ := Int.eq_ofNat_of_zero_le h0
  exact key ⟨n, by omega⟩

theorem pow7 (v k : Nat) : (v : Int) / 2 ^ (7 * k) = ((v / 128 ^ k : Nat) : Int) := by
  rw [Int.natCast_ediv, Int.natCast_pow, Nat.pow_mul' 2 7 k |> fun _ => show (2 : Int) ^ (7 * k) = ((128 : Nat) : Int) ^ k by rw [Int.pow_mul]; rfl]

theorem group_of (v k : Nat) : bits .or .u8 ((v : Int) / 2 ^ (7 * k) % 256) 128 = ((UInt8.ofNat (v / 128 ^ k % 128 + 128)).toNat : Int) := by
  rw [or128 _ (by omega) (by omega), pow7]
  simp; omega

theorem last_of (v : Nat) : bits .and .u8 ((v : Int) % 256) 127 = ((UInt8.ofNat (v % 128)).toNat : Int) := by
  rw [and127 _ (by omega) (by omega)]
  simp; omega

theorem test_of {v k : Nat} (h : v / 128 ^ k ≠ 0) : ((v : Int) / 2 ^ (7 * k) != 0) = true := by rw [pow7, bne_iff_ne]; intro e; exact h (by generalize v / 128 ^ k = q at e; omega)
theorem test_not {v k : Nat} (h : v / 128 ^ k = 0) : ((v : Int) / 2 ^ (7 * k) != 0) = false := by rw [pow7, h]; rfl

theorem grown_row {B n n' : Nat} {wr w1 w : World} {o : Obj} {u0 v' : Value} {xs : List UInt8} {c : UInt8} {x : Int} (hx : x = (c.toNat : Int)) (hb1 : Below B w wr) (hB : B ≤ w.heap.size) (hn : n = xs.length) (hn' : n' = xs.length + 1)
    (hown1 : wr.ownsRow B 5 1 u0 n (Lib.byteCells xs)) (hown' : w1.ownsRow B 5 1 v' n' (Lib.byteCells xs ++ [Value.int .u8 x])) (hg : (wr.alloc o).grownBy w1 u0.ownBlock) :
    w1.ownsRow B 5 1 v' (xs ++ [c]).length (Lib.byteCells (xs ++ [c])) ∧ Below B w w1 := by
  subst hx; subst hn; subst hn'
  refine ⟨?_, ?_⟩
  · rw [byteCells_append, List.length_append]; exact hown'
  · have hs := hb1.size
    exact (hb1.alloc (by omega) o).grown hg (by simp; omega) (fun k hk => (hown1.lt k hk).1)

set_option maxRecDepth 100000 in
set_option maxHeartbeats 400000 in
theorem number_any (v : Nat) (hv : v < 18446744073709551616) (bs : List UInt8) (sv : Value) (B : Nat) (w : World) (hB : B ≤ w.heap.size)
    (hown : w.ownsRow B 5 1 sv bs.length (Lib.byteCells bs)) (hlen : bs.length + 10 ≤ 140737488355328) :
    Calls Tryd.prog 72 #[sv, .int .u64 v] w (Grew B (bs ++ num v) w) := by
  obtain ⟨i0, hie, hz0, hz1, hz2⟩ := info_parts info_u8
  have HN := Lib.hid (Wm.num_hi v hv)
  have HL : Hid ((Wm.hi v 9).length ≤ 9) := Lib.hid (Wm.hi_len v 9)
  go_enter Tryd.func72, Tryd.ntmps72
  go_wp2
  go_loopw [0, 5] (fun b i wr => ∃ (k : Nat) (pre : List UInt8), k ≤ 9 ∧ i = .int .i64 (7 * (k : Int)) ∧ wr.ownsRow B 5 1 b (bs ++ pre).length (Lib.byteCells (bs ++ pre)) ∧ Below B w wr ∧ Hid (pre ++ Wm.hi v k = Wm.hi v 9))
    (fun _ i _ => (intOf i).toNat)
  case atStart => exact ⟨9, [], by omega, rfl, by simpa using hown, Below.refl _ _, Lib.hid rfl⟩
  case round =>
    obtain ⟨k, pre, hk, rfl, hown1, hb1, HP⟩ := hrel
    have hpl : pre.length ≤ 9 := by have := congrArg List.length HP.out; rw [List.length_append] at this; have := HL.out; omega
    rcases k with _ | j
    · go_wp2_with (at_builtin; refine wpList_append_own _ rfl _ _ 82 rfl B 5 i0 (.int .u8 0) 1 1 Tryd.underlying82 hie hz0 hz1 hz2 rfl (by decide) _ _ _ rfl (hown1.alloc _) ⟨wr.heap.size, 0, none⟩ 1 1 [.int .u8 (bits BinOp.and IntKind.u8 ((v : Int) % 256) 127)] rfl rfl ?c1 ?c2 ?c3 ?c4 ?c5 ?_)
      case c1 => exact cell_one_new _ _ _
      case c2 => intro u hu; simp at hu; subst hu; rfl
      case c3 => rw [List.length_append]; unfold maxLen; omega
      case c4 => rw [List.length_append]; omega
      case c5 => have := hb1.size; simp; omega
      intro v' w1 hown' hgrow _
      have R := grown_row (last_of v) hb1 hB rfl (by rw [List.length_append]) hown1 hown' hgrow
      clear hown' hgrow hown1 hb1
      go_wp2
      go_ret
      have e : bs ++ num v = bs ++ pre ++ [UInt8.ofNat (v % 128)] := by
        rw [← HN.out, ← HP.out, Wm.hi]; simp
      exact ⟨v', rfl, by rw [e]; exact R.1, R.2⟩
    · by_cases hq : v / 128 ^ (j + 1) = 0
      · have hT := test_not hq
        have HP' : Hid (pre ++ Wm.hi v j = Wm.hi v 9) := by have h := HP.out; rw [Wm.hi, if_pos hq, List.nil_append] at h; exact Lib.hid h
        clear hq HP
        go_wp2
        go_roundw
        case rel => exact ⟨j, pre, by omega, int_i64 (by omega), hown1, hb1, HP'⟩
        case measure => simp [intOf]; omega
      · have hT := test_of hq
        have HP' : Hid ((pre ++ [UInt8.ofNat (v / 128 ^ (j + 1) % 128 + 128)]) ++ Wm.hi v j = Wm.hi v 9) := by have h := HP.out; rw [Wm.hi, if_neg hq] at h; rw [List.append_assoc]; exact Lib.hid h
        clear hq HP
        go_wp2_with (at_builtin; refine wpList_append_own _ rfl _ _ 82 rfl B 5 i0 (.int .u8 0) 1 1 Tryd.underlying82 hie hz0 hz1 hz2 rfl (by decide) _ _ _ rfl (hown1.alloc _) ⟨wr.heap.size, 0, none⟩ 1 1 [.int .u8 (bits BinOp.or IntKind.u8 ((v : Int) / 2 ^ (7 * (j + 1)) % 256) 128)] rfl rfl ?c1 ?c2 ?c3 ?c4 ?c5 ?_)
        case c1 => exact cell_one_new _ _ _
        case c2 => intro u hu; simp at hu; subst hu; rfl
        case c3 => rw [List.length_append]; unfold maxLen; omega
        case c4 => rw [List.length_append]; omega
        case c5 => have := hb1.size; simp; omega
        intro v' w1 hown' hgrow _
        have R := grown_row (group_of v (j + 1)) hb1 hB rfl (by rw [List.length_append]) hown1 hown' hgrow
        rw [List.append_assoc] at R
        clear hown' hgrow hown1 hb1
        go_wp2
        go_roundw
        case rel => exact ⟨j, pre ++ [UInt8.ofNat (v / 128 ^ (j + 1) % 128 + 128)], by omega, int_i64 (by omega), R.1, R.2, HP'⟩
        case measure => simp [intOf]; omega

/-- the same, of an argument that is spelled as an integer -/
theorem number_int (x : Int) (h0 : 0 ≤ x) (h1 : x ≤ 18446744073709551615) (bs : List UInt8) (sv : Value) (B : Nat) (w : World) (hB : B ≤ w.heap.size)
    (hown : w.ownsRow B 5 1 sv bs.length (Lib.byteCells bs)) (hlen : bs.length + 10 ≤ 140737488355328) :
    Calls Tryd.prog 72 #[sv, .int .u64 x] w (Grew B (bs ++ num x.toNat) w) := by
  have h := number_any x.toNat (by omega) bs sv B w hB hown hlen
  rwa [Int.toNat_of_nonneg h0] at h
end Go.Proofs.YtniecodpdmjppaaDoor
