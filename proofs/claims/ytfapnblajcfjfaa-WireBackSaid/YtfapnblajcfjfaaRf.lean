/- The reference's U, I, B, S, List (package glacierref01): their walks. -/
import Derived.Test.YtfapnblajcfjfaaIn
import Derived.Test.YtfapnblajcfjfaaEs
import Derived.Laws.IdiomStrings
namespace Go.Proofs.Ytfapnblajcfjfaa
open Go.RowKit
open Wm (num cont)

theorem str_append (a b : List UInt8) : (⟨a.toArray⟩ ++ ⟨b.toArray⟩ : ByteArray) = ⟨(a ++ b).toArray⟩ := by
  apply ByteArray.ext
  apply Array.toList_inj.1
  simp
theorem str_len (l : List UInt8) : (⟨l.toArray⟩ : ByteArray).size = l.length := by simp [ByteArray.size]

/-- one byte in a new slice, as a text -/
theorem one_byte (W : World) (c : UInt8) (X : Int) (hX : X = (c.toNat : Int)) : (convert 59 9 (.slice (some ⟨W.heap.size, 0, none⟩) 1 1)).run Try.prog (W.alloc (.cells #[.int .u8 X] 5)) = .ok (.string ⟨[c].toArray⟩) (W.alloc (.cells #[.int .u8 X] 5)) := by
  subst hX
  refine run_convert_bytes_back _ _ _ _ _ 1 [c] Try.underlying59 Try.underlying5 Try.underlying9 (fun j hj => ?_)
  obtain rfl : j = 0 := by simpa using hj
  exact (At.new W 5 #[.int .u8 (c.toNat : Int)]).cell 0

set_option maxRecDepth 100000 in
set_option maxHeartbeats 1000000 in
theorem refU_any (v : Nat) (hv : v ≤ 18446744073709551615) (w : World) :
    Calls Try.prog 16 #[.int .u64 v] w fun e w' => e = .returned (.string ⟨(num v).toArray⟩) ∧ Below w.heap.size w w' := by
  have hcv := fun W => one_byte W (UInt8.ofNat (v % 128)) ((v : Int) % 128) (by simp; omega)
  go_enter Try.func16, Try.ntmps16
  go_wp2
  go_loopw [0, 3, 4] (fun qq ss ii wr => ∃ (i q : Nat) (l : List UInt8), i ≤ 9 ∧ qq = .int .u64 (q : Nat) ∧ ss = .string ⟨l.toArray⟩ ∧ ii = .int .i64 (i : Nat) ∧ l.length ≤ i + 1 ∧ Hid (cont q ++ l = num v) ∧ Hid (q * 128 ^ i ≤ 144115188075855871) ∧ q ≤ 18446744073709551615 ∧ Below w.heap.size w wr)
    (fun _ _ ii _ => 9 - (intOf ii).toNat)
  case atStart => exact ⟨0, v / 128, [UInt8.ofNat (v % 128)], by omega, by simp, rfl, rfl, by simp, Lib.hid rfl, Lib.hid (by simp; omega), by omega, (Below.refl _ _).alloc (Nat.le_refl _) _⟩
  case round =>
    obtain ⟨i, q, l, hi, rfl, rfl, rfl, hl, HC, HQ, hq, hb⟩ := hrel
    clear hcv
    by_cases h0 : 0 < q
    · have h9 : i < 9 := by
        rcases Nat.lt_or_ge i 9 with h | h
        · exact h
        · exfalso
          obtain rfl : i = 9 := by omega
          have := HQ.out
          omega
      obtain ⟨c, hc⟩ : ∃ c, UInt8.ofNat (q % 128 + 128) = c := ⟨_, rfl⟩
      have hcv := one_byte wr c (128 + (q : Int) % 128) (by rw [← hc]; simp; omega)
      have hs := hb.size
      have HC2 : Hid (cont (q / 128) ++ ([c] ++ l) = num v) := Lib.hid (by rw [← HC.out, Wm.cont_pos (by omega : q ≠ 0), hc, List.append_assoc])
      have HQ2 : Hid (q / 128 * 128 ^ (i + 1) ≤ 144115188075855871) := Lib.hid (by
        have h1 := HQ.out
        have h2 : q / 128 * 128 ^ (i + 1) = (q / 128 * 128) * 128 ^ i := by rw [Nat.pow_succ, Nat.mul_comm (128 ^ i) 128, ← Nat.mul_assoc]
        rw [h2]
        exact Nat.le_trans (Nat.mul_le_mul_right _ (Nat.div_mul_le_self q 128)) h1)
      clear hc HC HQ
      obtain ⟨s, hs1⟩ : ∃ s, (⟨l.toArray⟩ : ByteArray) = s := ⟨_, rfl⟩
      have hsz : s.size ≤ i + 1 := by rw [← hs1, str_len]; exact hl
      rw [hs1]
      have HS := Lib.hid hs1; clear hs1
      go_wp2
      go_roundw
      case rel => exact ⟨i + 1, q / 128, [c] ++ l, by omega, by rw [Int.natCast_ediv]; rfl, by rw [← HS.out]; exact congrArg Value.string (str_append [c] l), by go_num, by simp; omega, HC2, HQ2, by omega, hb.alloc hs _⟩
      case measure => simp [intOf]; omega
    · obtain rfl : q = 0 := by omega
      rw [Wm.cont_zero, List.nil_append] at HC
      by_cases h9 : i < 9
      all_goals
        go_wp2
        go_ret
        exact ⟨by rw [HC.out]; rfl, hb⟩

set_option maxHeartbeats 400000 in
theorem refI_any (n : Int) (hn : n ≤ 9223372036854775807) (w : World) :
    Calls Try.prog 26 #[.int .i64 n] w fun e w' => e = .returned (.string ⟨(num n.toNat).toArray⟩) ∧ Below w.heap.size w w' := by
  by_cases h0 : n < 0
  · have hU := refU_any 0 (by omega) w
    have e0 : n.toNat = 0 := by omega
    rw [e0]
    clear e0
    go_enter Try.func26, Try.ntmps26
    go_wp2_with fail
    refine hU.mono ?_
    rintro x w1 ⟨rfl, hb⟩
    go_wp2
    go_ret
    exact ⟨rfl, hb⟩
  · obtain ⟨k, rfl⟩ := Int.eq_ofNat_of_zero_le (by omega : 0 ≤ n)
    rw [Int.toNat_natCast]
    have hU := refU_any k (by omega) w
    go_enter Try.func26, Try.ntmps26
    go_wp2_with fail
    refine hU.mono ?_
    rintro x w1 ⟨rfl, hb⟩
    go_wp2
    go_ret
    exact ⟨rfl, hb⟩

set_option maxHeartbeats 400000 in
theorem refB_any (b : Bool) (w : World) : Calls Try.prog 27 #[.bool b] w fun e w' => e = .returned (.string ⟨[flag b].toArray⟩) ∧ w = w' := by
  cases b
  all_goals
    go_enter Try.func27, Try.ntmps27
    go_wp2
    go_ret
    exact ⟨rfl, rfl⟩

set_option maxHeartbeats 400000 in
theorem refS_any (s : ByteArray) (hs : s.size ≤ 1000) (w : World) :
    Calls Try.prog 17 #[.string s] w fun e w' => e = .returned (.string ⟨(text s).toArray⟩) ∧ Below w.heap.size w w' := by
  have hI := refI_any s.size (by omega) w
  rw [Int.toNat_natCast] at hI
  have hl := Wm.num_len s.size (by omega)
  obtain ⟨t, ht⟩ : ∃ t, (⟨(num s.size).toArray⟩ : ByteArray) = t := ⟨_, rfl⟩
  have htz : t.size ≤ 10 := by rw [← ht, str_len]; exact hl
  have he : (t ++ s : ByteArray) = ⟨(text s).toArray⟩ := by
    rw [← ht]
    apply ByteArray.ext
    apply Array.toList_inj.1
    simp [text]
  rw [ht] at hI
  have HE := Lib.hid he; clear he ht
  go_enter Try.func17, Try.ntmps17
  go_wp2_with fail
  refine hI.mono ?_
  rintro x w1 ⟨rfl, hb⟩
  clear hI
  go_wp2
  go_ret
  exact ⟨by rw [← HE.out]; rfl, hb⟩

set_option maxRecDepth 100000 in
set_option maxHeartbeats 1000000 in
theorem refList_any (l : List Int) (hl : ∀ n ∈ l, n ≤ 9223372036854775807) (hlen : l.length ≤ 1000) (A : Option Addr) (c : Nat) (w : World) (hL : Lies w w.heap.size A (ints l)) :
    Calls Try.prog 29 #[.slice A l.length c] w fun e w' => e = .returned (.string ⟨(num l.length ++ nums l).toArray⟩) ∧ Below w.heap.size w w' := by
  have hI := refI_any l.length (by omega) w
  rw [Int.toNat_natCast] at hI
  have hnl := Wm.num_len l.length (by omega)
  go_enter Try.func29, Try.ntmps29
  go_wp2_with fail
  refine hI.mono ?_
  rintro x w1 ⟨rfl, hb1⟩
  clear hI
  go_wp2
  go_loopw [3, 11] (fun ss i wr => ∃ (k : Nat), k ≤ l.length ∧ i = .int .i64 (k : Int) ∧ ss = .string ⟨(num l.length ++ nums (l.take k)).toArray⟩ ∧ Below w.heap.size w wr)
    (fun _ i _ => l.length - (intOf i).toNat)
  case atStart => exact ⟨0, by omega, rfl, by simp [nums], hb1⟩
  case round =>
    obtain ⟨k, hk, rfl, rfl, hb⟩ := hrel
    by_cases hlt : k < l.length
    · obtain ⟨ad, rfl, hadB, hc⟩ := (hL.below hb).round (k := k) (by simpa [ints] using hlt)
      have hval : ((ints l)[k]'(by simpa [ints] using hlt)) = .int .i64 l[k] := by simp [ints]
      rw [hval] at hc
      clear hval
      have hle := hl _ (List.getElem_mem hlt)
      have HT : Hid ((num l.length ++ nums (l.take (k + 1))) = (num l.length ++ nums (l.take k)) ++ num (l[k]).toNat) := Lib.hid (by rw [nums_take hlt, List.append_assoc])
      have hll : (num l.length ++ nums (l.take k)).length ≤ 10 + 10 * k := by
        have := nums_len (l.take k) (fun n hn => hl n (List.mem_of_mem_take hn))
        rw [List.length_take] at this
        rw [List.length_append]
        omega
      generalize l[k] = x at *
      generalize num l.length ++ nums (l.take k) = pre at *
      have hI := refI_any x hle wr
      have hxn := Wm.num_len x.toNat (by omega)
      obtain ⟨s, hs⟩ : ∃ s, (⟨pre.toArray⟩ : ByteArray) = s := ⟨_, rfl⟩
      obtain ⟨t, ht⟩ : ∃ t, (⟨(num x.toNat).toArray⟩ : ByteArray) = t := ⟨_, rfl⟩
      have hsz : s.size ≤ 10 + 10 * k := by rw [← hs, str_len]; exact hll
      have htz : t.size ≤ 10 := by rw [← ht, str_len]; exact hxn
      have he : (s ++ t : ByteArray) = ⟨(pre ++ num x.toNat).toArray⟩ := by rw [← hs, ← ht]; exact str_append _ _
      rw [ht] at hI
      rw [hs]
      have HE := Lib.hid he; clear he hs ht
      clear hL
      go_wp2_with fail
      refine hI.mono ?_
      rintro y w2 ⟨rfl, hb2⟩
      have hb3 := hb.trans (hb2.mono hb.size)
      clear hI hc hb2
      go_wp2
      go_roundw
      case rel => exact ⟨k + 1, by omega, by go_num, by rw [HT.out, ← HE.out], hb3⟩
      case measure => simp [intOf]; omega
    · obtain rfl : k = l.length := by omega
      rw [List.take_length]
      go_wp2
      go_ret
      exact ⟨rfl, hb⟩
end Go.Proofs.Ytfapnblajcfjfaa
