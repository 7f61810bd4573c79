/- glacierref02.Four, number, Frame: their walks. -/
import Derived.Test.YtjpdfedebemjfaaDoorR1
import Derived.Test.YtjpdfedebemjfaaDoorSf
namespace Go.Proofs.YtjpdfedebemjfaaDoor
open Go.RowKit
open Sm

theorem four_drop (v : Nat) : ∀ i, i < 4 → (four4 v).drop (4 - (i + 1)) = UInt8.ofNat (v / 256 ^ i) :: (four4 v).drop (4 - i) := by
  intro i hi
  rcases (by omega : i = 0 ∨ i = 1 ∨ i = 2 ∨ i = 3) with rfl | rfl | rfl | rfl <;> simp [four4]

set_option maxRecDepth 100000 in
set_option maxHeartbeats 2000000 in
theorem refFour_any (v : Nat) (hv : v < 4294967296) (w : World) :
    Calls Tryd.prog 27 #[.int .u32 (v : Nat)] w fun e w' => e = .returned (.string ⟨(four4 v).toArray⟩) ∧ Below w.heap.size w w' := by
  have hcv : ∀ (W : World) (x : Nat), (convert 45 9 (.slice (some ⟨W.heap.size, 0, none⟩) 1 1)).run Tryd.prog (W.alloc (.cells #[.int .u8 ((x : Int) % 256)] 5)) =
      .ok (.string ⟨#[UInt8.ofNat x]⟩) (W.alloc (.cells #[.int .u8 ((x : Int) % 256)] 5)) := fun W x => by
    refine run_convert_bytes_back (P := Tryd.prog) (W.alloc (.cells #[.int .u8 ((x : Int) % 256)] 5)) 45 9 5 ⟨W.heap.size, 0, none⟩ 1 [UInt8.ofNat x] Tryd.underlying45 Tryd.underlying5 Tryd.underlying9 (fun j hj => ?_)
    have hj0 : j = 0 := by simp at hj; exact hj
    subst hj0
    have e : (⟨W.heap.size, 0, none⟩ : Addr).add 0 = ⟨W.heap.size, 0, none⟩ := by simp [Addr.add]
    rw [e, (At.new W 5 #[.int .u8 ((x : Int) % 256)]).cell 0]
    simp
  have HD := Lib.hid (four_drop v)
  have hv0 := hv
  go_enter Tryd.func27, Tryd.ntmps27
  go_wp2
  go_loopw [0, 3, 4] (fun vv ss ii wr => ∃ i x : Nat, i ≤ 4 ∧ x < 4294967296 ∧ ii = .int .i64 (i : Int) ∧ vv = .int .u32 (x : Int) ∧ ss = .string ⟨((four4 v).drop (4 - i)).toArray⟩ ∧ Hid (x = v / 256 ^ i) ∧ Hid (Below w.heap.size w wr))
    (fun _ _ i _ => 4 - (intOf i).toNat)
  case atStart => exact ⟨0, v, by omega, hv0, rfl, rfl, by simp [four4], Lib.hid (by simp), Lib.hid (Below.refl _ w)⟩
  case round =>
    obtain ⟨i, x, hi, hx, rfl, rfl, rfl, HX, HB⟩ := hrel
    by_cases hlt : i < 4
    · have HN : Hid (x / 256 = v / 256 ^ (i + 1)) := Lib.hid (by rw [HX.out, Nat.div_div_eq_div_mul, ← Nat.pow_succ])
      have HT : Hid ((four4 v).drop (4 - (i + 1)) = UInt8.ofNat x :: (four4 v).drop (4 - i)) := Lib.hid (by rw [HD.out i hlt, HX.out])
      obtain ⟨t, ht⟩ : ∃ t, (⟨((four4 v).drop (4 - i)).toArray⟩ : ByteArray) = t := ⟨_, rfl⟩
      rw [ht]
      have hts : t.size ≤ 4 := by rw [← ht]; simp [ByteArray.size, four4]
      have HE : Hid ((⟨#[UInt8.ofNat x]⟩ : ByteArray) ++ t = ⟨((four4 v).drop (4 - (i + 1))).toArray⟩) := Lib.hid (by
        rw [HT.out, ← ht]
        apply ByteArray.ext
        apply Array.toList_inj.1
        simp)
      have hcv' := hcv wr x
      have HB2 := Lib.hid (HB.out.alloc HB.out.size (.cells #[.int .u8 ((x : Int) % 256)] 5))
      obtain ⟨c1, hc1⟩ : ∃ c : ByteArray, (⟨#[UInt8.ofNat x]⟩ : ByteArray) = c := ⟨_, rfl⟩
      rw [hc1] at hcv' HE
      have hcz : c1.size = 1 := by rw [← hc1]; rfl
      clear hcv ht hc1
      have hu : ∀ a b : Int, a = b → Value.int .u32 a = .int .u32 b := fun a b h => by rw [h]
      go_wp2
      go_roundw
      case rel => exact ⟨i + 1, x / 256, by omega, by omega, by go_num, by first | rfl | exact hu _ _ (by omega), by rw [HE.out], HN, HB2⟩
      case measure => simp [intOf]; omega
    · obtain rfl : i = 4 := by omega
      have e0 : (four4 v).drop (4 - 4) = four4 v := rfl
      rw [e0]
      clear hcv
      obtain ⟨t, ht⟩ : ∃ t, (⟨(four4 v).toArray⟩ : ByteArray) = t := ⟨_, rfl⟩
      rw [ht]
      have HT := Lib.hid ht; clear ht
      go_wp2
      go_ret
      exact ⟨by rw [HT.out]; rfl, HB.out⟩

/-- bytes as a number, the highest first -/
def numL (l : List UInt8) : Nat := l.foldl (fun n b => 256 * n + b.toNat) 0
theorem numL_append (a : List UInt8) (b : UInt8) : numL (a ++ [b]) = 256 * numL a + b.toNat := by simp [numL]
theorem numL_take (l : List UInt8) (k : Nat) (h : k < l.length) : numL (l.take (k + 1)) = 256 * numL (l.take k) + (l[k]).toNat := by
  rw [List.take_succ_eq_append_getElem h, numL_append]
theorem numL_be (l : List UInt8) (h : l.length = 4) : numL l = be l := by
  match l, h with
  | [a, b, c, d], _ => simp [numL, be]; omega
theorem numL_lt (l : List UInt8) : ∀ k, k ≤ l.length → numL (l.take k) < 256 ^ k := by
  intro k
  induction k with
  | zero => intro _; simp [numL]
  | succ k ih =>
    intro h
    have h1 := ih (by omega)
    rw [numL_take l k (by omega), Nat.pow_succ]
    have := (l[k]).toNat_lt
    omega

set_option maxRecDepth 100000 in
set_option maxHeartbeats 2000000 in
theorem refNumber_any (s : ByteArray) (hs : s.size = 4) (w : World) :
    Calls Tryd.prog 24 #[.string s] w fun e w' => e = .returned (.int .i64 (be s.data.toList : Nat)) ∧ w = w' := by
  have hsl : s.data.toList.length = 4 := by rw [size_list]; exact hs
  go_enter Tryd.func24, Tryd.ntmps24
  go_wp2
  go_loopw [3, 4] (fun nn ii wr => ∃ k : Nat, k ≤ 4 ∧ ii = .int .i64 (k : Int) ∧ nn = .int .i64 ((numL (s.data.toList.take k) : Nat) : Int) ∧ w = wr)
    (fun _ i _ => 4 - (intOf i).toNat)
  case atStart => exact ⟨0, by omega, rfl, rfl, rfl⟩
  case round =>
    obtain ⟨k, hk, rfl, rfl, rfl⟩ := hrel
    by_cases hlt : k < 4
    · have HT := Lib.hid (numL_take s.data.toList k (by omega))
      have hb : numL (s.data.toList.take k) < 4294967296 := by
        have h1 := numL_lt s.data.toList k (by omega)
        have h2 : 256 ^ k ≤ 256 ^ 4 := Nat.pow_le_pow_right (by omega) (by omega)
        omega
      have hks : k < s.size := by omega
      have he : s.data.toList[k] = s[k] := by simp; rfl
      rw [he] at HT
      have hbb := s[k].toNat_lt
      generalize numL (s.data.toList.take k) = n at *
      obtain ⟨b, hbe⟩ : ∃ b, s[k].toNat = b := ⟨_, rfl⟩
      rw [hbe] at HT hbb
      clear he
      have hv : ∀ a b : Int, a = b → Value.int .i64 a = .int .i64 b := fun a b h => by rw [h]
      go_wp2
      go_roundw
      case rel => exact ⟨k + 1, by omega, by go_num, by rw [HT.out]; first | rfl | exact hv _ _ (by omega) | go_num, by simp⟩
      case measure => simp [intOf]; omega
    · obtain rfl : k = 4 := by omega
      rw [List.take_of_length_le (by omega), numL_be _ hsl]
      obtain ⟨n, hn⟩ : ∃ n, be s.data.toList = n := ⟨_, rfl⟩
      rw [hn]
      have HN := Lib.hid hn; clear hn
      go_wp2
      go_ret
      exact ⟨by rw [HN.out]; rfl, rfl⟩

set_option maxRecDepth 100000 in
set_option maxHeartbeats 2000000 in
theorem refFrame_any (s : ByteArray) (hs : s.size ≤ 1048576) (w : World) :
    Calls Tryd.prog 20 #[.string s] w fun e w' => e = .returned (.string ⟨(frameL s.data.toList).toArray⟩) ∧ Below w.heap.size w w' := by
  have hF1 := refFour_any s.size (by omega) w
  obtain ⟨h, hh⟩ : ∃ h, (⟨(four4 s.size).toArray⟩ : ByteArray) = h := ⟨_, rfl⟩
  have hhs : h.size ≤ 4 := by rw [← hh, str_len]; exact Nat.le_refl _
  have hhl : h.data.toList = four4 s.size := by rw [← hh]
  rw [hh] at hF1
  have hSu := refSum_any (h ++ s) (by rw [ByteArray.size_append]; omega)
  have hcl := crc_lt (h ++ s).data.toList
  have hcc : (h ++ s).data.toList = four4 s.data.toList.length ++ s.data.toList := by rw [size_list, ← hhl]; simp
  have hF2 := refFour_any (crc (h ++ s).data.toList) hcl
  obtain ⟨g, hg⟩ : ∃ g, (⟨(four4 (crc (h ++ s).data.toList)).toArray⟩ : ByteArray) = g := ⟨_, rfl⟩
  have hgs : g.size ≤ 4 := by rw [← hg, str_len]; exact Nat.le_refl _
  rw [hg] at hF2
  have hgl : g.data.toList = four4 (crc (h ++ s).data.toList) := by rw [← hg]
  have hfin : (⟨(frameL s.data.toList).toArray⟩ : ByteArray) = h ++ g ++ s := by
    apply ByteArray.ext
    apply Array.toList_inj.1
    unfold frameL
    rw [← hcc, ← hgl, size_list, ← hhl]
    simp
  have HF := Lib.hid hfin; clear hfin
  clear hcc hgl hg hhl hh
  generalize crc (h ++ s).data.toList = cc at *
  go_enter Tryd.func20, Tryd.ntmps20
  go_wp2_with fail
  refine hF1.mono ?_
  rintro z w1 ⟨rfl, hb1⟩
  have B1 := Lib.hid hb1
  clear hF1 hb1
  go_wp2_with fail
  refine (hSu w1).mono ?_
  rintro z w2 ⟨rfl, hb2⟩
  have B2 := Lib.hid (B1.out.trans (hb2.mono B1.out.size))
  clear hSu hb2
  go_wp2_with fail
  refine (hF2 w2).mono ?_
  rintro z w3 ⟨rfl, hb3⟩
  have B3 := Lib.hid (B2.out.trans (hb3.mono B2.out.size))
  clear hF2 hb3
  go_wp2
  go_ret
  exact ⟨by rw [HF.out]; rfl, B3.out⟩
end Go.Proofs.YtjpdfedebemjfaaDoor
