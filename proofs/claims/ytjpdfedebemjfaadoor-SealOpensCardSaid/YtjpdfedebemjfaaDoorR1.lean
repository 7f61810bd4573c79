/- glacierref02.Sum: its walk. -/
import Derived.Test.YtjpdfedebemjfaaDoorSm
import Derived.Test.YtjpdfedebemjfaaDoorBy
import Derived.Test.YtjpdfedebemjfaaDoorSs
import Derived.WalkKit
import Derived.WalkSpells
import Derived.WalkLawsBesides
import Derived.Laws.IdiomStrings
namespace Go.Proofs.YtjpdfedebemjfaaDoor
open Go.RowKit
open Sm

/-- one step, the byte's bits beside the register -/
theorem bit_one (c b : Nat) (h : (c % 2 + b % 2) % 2 = 1) : stp (c ^^^ b) = (c / 2 ^^^ 3988292384) ^^^ (b / 2) := by
  unfold stp
  rw [xor_mod, if_pos h, Nat.shiftRight_xor_distrib, Nat.shiftRight_eq_div_pow, Nat.shiftRight_eq_div_pow, Nat.pow_one, Nat.xor_assoc, Nat.xor_assoc, Nat.xor_comm (b / 2)]
theorem bit_zero (c b : Nat) (h : ¬ (c % 2 + b % 2) % 2 = 1) : stp (c ^^^ b) = (c / 2) ^^^ (b / 2) := by
  unfold stp
  rw [xor_mod, if_neg h, Nat.shiftRight_xor_distrib, Nat.shiftRight_eq_div_pow, Nat.shiftRight_eq_div_pow, Nat.pow_one, Nat.xor_zero]

set_option maxRecDepth 100000 in
set_option maxHeartbeats 2000000 in
theorem refSum_any (s : ByteArray) (hs : s.size ≤ 140737488355328) (w : World) :
    Calls Tryd.prog 18 #[.string s] w fun e w' => e = .returned (.int .u32 (crc s.data.toList : Nat)) ∧ Below w.heap.size w w' := by
  have hcv := fun W => run_bytes_of_string (P := Tryd.prog) W 9 45 5 s Tryd.underlying9 Tryd.underlying45 Tryd.underlying5
  go_enter Tryd.func18, Tryd.ntmps18
  go_wp2
  have BA := Lib.hid (BytesAt.new (t := 5) w s (grownCap w s.size 0 5) w.heap.size rfl)
  have B3 : Hid (Below w.heap.size w (w.alloc (.cells (bytesRow s (grownCap w s.size 0 5)) 5 ((bytesRow s (grownCap w s.size 0 5)).size, (bytesRow s (grownCap w s.size 0 5)).size + 1))).drew) := Lib.hid (below_drewN ((Below.refl _ w).alloc (Nat.le_refl _) _) 1)
  rw [show w.drew.alloc (.cells (bytesRow s (grownCap w s.size 0 5)) 5 ((bytesRow s (grownCap w s.size 0 5)).size, (bytesRow s (grownCap w s.size 0 5)).size + 1)) = (w.alloc (.cells (bytesRow s (grownCap w s.size 0 5)) 5 ((bytesRow s (grownCap w s.size 0 5)).size, (bytesRow s (grownCap w s.size 0 5)).size + 1))).drew from rfl] at BA
  generalize grownCap w s.size 0 5 = cap at *
  generalize (w.alloc (.cells (bytesRow s cap) 5 ((bytesRow s cap).size, (bytesRow s cap).size + 1))).drew = W3 at *
  clear hcv
  go_loopw [3, 11] (fun cc ii wr => ∃ k : Nat, k ≤ s.size ∧ ii = .int .i64 (k : Int) ∧ cc = .int .u32 ((crcFrom 4294967295 (s.data.toList.take k) : Nat) : Int) ∧ W3 = wr)
    (fun _ i _ => s.size - (intOf i).toNat)
  case atStart => exact ⟨0, by omega, rfl, by simp [crcFrom], rfl⟩
  case round =>
    obtain ⟨k, hk, rfl, rfl, rfl⟩ := hrel
    have hr0 := crcFrom_lt (s.data.toList.take k) (r := 4294967295) (by omega)
    by_cases hlt : k < s.size
    · have hc := BA.out.cell (i := k) (by rw [size_list]; exact hlt)
      have HT : Hid (crcFrom 4294967295 (s.data.toList.take (k + 1)) = byte (crcFrom 4294967295 (s.data.toList.take k)) s.data.toList[k]) := Lib.hid (by
        rw [List.take_succ_eq_append_getElem (by rw [size_list]; exact hlt), crcFrom_append]; rfl)
      generalize s.data.toList[k] = b0 at *
      generalize crcFrom 4294967295 (s.data.toList.take k) = r0 at *
      have hb0 := b0.toNat_lt
      obtain ⟨tg, htg⟩ : ∃ t, byte r0 b0 = t := ⟨_, rfl⟩
      have HTG : Hid (stps 8 (r0 ^^^ b0.toNat) = tg) := Lib.hid htg
      rw [htg] at HT
      clear htg
      generalize b0.toNat = b at *
      go_wp2
      go_loopw [3, 5, 6] (fun cc bb ii wr => ∃ i c b : Nat, i ≤ 8 ∧ c < 4294967296 ∧ b < 2 ^ (8 - i) ∧ b < 256 ∧ ii = .int .i64 (i : Int) ∧ cc = .int .u32 (c : Int) ∧ bb = .int .u8 (b : Int) ∧ Hid (stps (8 - i) (c ^^^ b) = tg) ∧ W3 = wr)
        (fun _ _ i _ => 8 - (intOf i).toNat)
      case atStart => exact ⟨0, r0, b, by omega, hr0, by simpa using hb0, by simpa using hb0, rfl, rfl, rfl, HTG, rfl⟩
      case round =>
        obtain ⟨i, c, b', hi, hcl, hbl, hbl2, rfl, rfl, rfl, HI, rfl⟩ := hrel
        clear HTG
        by_cases hi8 : i < 8
        · have hst : Hid (stps (8 - i) (c ^^^ b') = stps (8 - (i + 1)) (stp (c ^^^ b'))) := Lib.hid (by
            rw [show 8 - i = (8 - (i + 1)) + 1 by omega]; rfl)
          have hb2 : b' / 2 < 2 ^ (8 - (i + 1)) := by
            have e : 2 ^ (8 - i) = 2 ^ (8 - (i + 1)) * 2 := by rw [← Nat.pow_succ]; congr 1; omega
            omega
          by_cases hl : (c % 2 + b' % 2) % 2 = 1
          · have hlow : (((c : Int) + (b' : Int)) % 2 == 1) = true := by rw [beq_iff_eq]; omega
            have hone := Lib.hid (bit_one c b' hl)
            have hx : bits .xor .u32 ((c : Int) / 2) 3988292384 = (((c / 2) ^^^ 3988292384 : Nat) : Int) := u32_xor_nat (c / 2) 3988292384 (by omega) (by omega)
            have hxl : (c / 2) ^^^ 3988292384 < 4294967296 := Nat.xor_lt_two_pow (n := 32) (by omega) (by omega)
            have hv : ∀ a b : Int, a = b → Value.int .u8 a = .int .u8 b := fun a b h => by rw [h]
            clear hl
            go_wp2
            go_roundw
            case rel => exact ⟨i + 1, (c / 2) ^^^ 3988292384, b' / 2, by omega, hxl, hb2, by omega, by go_num, (by first | rfl | exact u32_eq (by assumption) | exact u32_eq hx), hv _ _ (by omega), Lib.hid (by rw [← hone.out, ← hst.out]; exact HI.out), by simp⟩
            case measure => simp [intOf]; omega
          · have hlow : (((c : Int) + (b' : Int)) % 2 == 1) = false := by rw [beq_eq_false_iff_ne]; omega
            have hone := Lib.hid (bit_zero c b' hl)
            have hv : ∀ a b : Int, a = b → Value.int .u8 a = .int .u8 b := fun a b h => by rw [h]
            clear hl
            go_wp2
            go_roundw
            case rel => exact ⟨i + 1, c / 2, b' / 2, by omega, by omega, hb2, by omega, by go_num, u32_eq (by omega), hv _ _ (by omega), Lib.hid (by rw [← hone.out, ← hst.out]; exact HI.out), by simp⟩
            case measure => simp [intOf]; omega
        · obtain rfl : i = 8 := by omega
          obtain rfl : b' = 0 := by simpa using hbl
          have hct : c = tg := by have := HI.out; simpa [stps] using this
          subst hct
          go_wp2
          go_roundw
          case rel => exact ⟨k + 1, by omega, by go_num, by rw [HT.out], by simp⟩
          case measure => simp [intOf]; omega
    · obtain rfl : k = s.size := by omega
      rw [List.take_of_length_le (by rw [size_list]; exact Nat.le_refl _)] at hr0 ⊢
      have hcr : (crc s.data.toList : Int) = 4294967295 - (crcFrom 4294967295 s.data.toList : Int) := by unfold crc; omega
      generalize crcFrom 4294967295 s.data.toList = r at *
      have HCR := Lib.hid hcr
      have hb1 : (0 : Int) ≤ 4294967295 - (r : Int) := by omega
      have hb2 : 4294967295 - (r : Int) ≤ 4294967295 := by omega
      clear hcr
      go_wp2
      go_ret
      exact ⟨u32_ret (by rw [HCR.out]), B3.out⟩
end Go.Proofs.YtjpdfedebemjfaaDoor
