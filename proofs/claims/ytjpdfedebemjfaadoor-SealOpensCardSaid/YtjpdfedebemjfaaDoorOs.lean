/- glacierlaw02.SealOpens: its walk. -/
import Derived.Test.YtjpdfedebemjfaaDoorR4
import Derived.Test.YtjpdfedebemjfaaDoorSa
namespace Go.Proofs.YtjpdfedebemjfaaDoor
open Go.RowKit
open Sm

theorem openL_err {l : List UInt8} (h : (openL l).2.2 ≠ 0) : (openL l).1 = [] := by
  unfold openL at h ⊢
  split
  · rfl
  · rename_i h1
    rw [if_neg h1] at h
    split
    · rfl
    · rename_i h2
      rw [if_neg h2] at h
      split
      · rfl
      · rename_i h3
        rw [if_neg h3] at h
        split
        · rfl
        · rename_i h4
          rw [if_neg h4] at h
          simp at h

theorem scanL_count : ∀ (n : Nat) (l : List UInt8), l.length = n → (scanL l).1.length ≤ l.length := by
  intro n
  induction n using Nat.strongRecOn with
  | ind n ih =>
    intro l hl
    by_cases h : (openL l).2.2 ≠ 0
    · rw [scanL_stop h]; simp
    · have hk := openL_ok h
      have hd : (l.drop (openL l).2.1).length < n := by rw [List.length_drop]; omega
      have := ih _ hd (l.drop (openL l).2.1) rfl
      rw [scanL_go h]
      rw [List.length_drop] at this
      simp only [List.length_cons]
      omega

set_option maxRecDepth 100000 in
set_option maxHeartbeats 4000000 in
theorem walk_opens (s0 a0 b0 : ByteArray) (w : World) (hS : Steps w) :
    Calls Tryd.prog 3 #[.string s0, .string a0, .string b0] w fun e w' => e = .returned (.bool true) ∧ Below w.heap.size w w' := by
  have hs := cutTo_le s0 300
  have ha := cutTo_le a0 100
  have hb := cutTo_le b0 100
  have hC1 := cut_any s0 300 w
  have hC2 := cut_any a0 100 w
  have hC3 := cut_any b0 100 w
  obtain ⟨s, hs1⟩ : ∃ s, cutTo s0 300 = s := ⟨_, rfl⟩
  obtain ⟨a, ha1⟩ : ∃ s, cutTo a0 100 = s := ⟨_, rfl⟩
  obtain ⟨b, hb1⟩ : ∃ s, cutTo b0 100 = s := ⟨_, rfl⟩
  rw [hs1] at hs hC1
  rw [ha1] at ha hC2
  rw [hb1] at hb hC3
  clear hs1 ha1 hb1
  have hO1 := fun W h => open_any s (by omega) W h
  have hO2 := fun W => refOpen_any s (by omega) W
  have hN1 := fun W h => scan_any s (by omega) W h
  have hN2 := fun W => refScan_any s (by omega) W
  have hY := fun W h => only_any s (by omega) W h
  have hcnt := scanL_count _ s.data.toList rfl
  rw [size_list] at hcnt
  have herr := fun h => openL_err (l := s.data.toList) h
  unfold onlyL at hY
  simp only [size_list] at hY
  have hM : ∀ (W : World) (g : Nat), g = W.heap.size → Steps W → Calls Tryd.prog 17 #[.slice (some ⟨g, 0, none⟩) 2 2] (W.alloc (.cells #[.string a, .string b] 9)) fun e w' => e = .returned (.int .u32 (crc (cat [a, b]) : Nat)) ∧ W.alloc (.cells #[.string a, .string b] 9) = w' :=
    fun W g hg hS => sum_new [a, b] #[.string a, .string b] 2 g W rfl rfl hg hS (by simp) (by simp; omega)
  have hcab : cat [a, b] = (a ++ b).data.toList := by simp [cat]
  have hF : ∀ (W : World) (g : Nat), g = W.heap.size → Steps W → Calls Tryd.prog 19 #[.slice (some ⟨g, 0, none⟩) 2 2] (W.alloc (.cells #[.string a, .string b] 9)) fun e w' => e = .returned (.string ⟨(frameL (cat [a, b])).toArray⟩) ∧ Below (W.alloc (.cells #[.string a, .string b] 9)).heap.size (W.alloc (.cells #[.string a, .string b] 9)) w' :=
    fun W g hg hS => frame_new [a, b] #[.string a, .string b] 2 g W rfl rfl hg hS (by rw [hcab, size_list, ByteArray.size_append]; omega) (by simp)
  rw [hcab] at hM hF
  have hM2 := fun W => refSum_any (a ++ b) (by rw [ByteArray.size_append]; omega) W
  have hF2 := fun W => refFrame_any (a ++ b) (by rw [ByteArray.size_append]; omega) W
  generalize openL s.data.toList = t at *
  obtain ⟨x, N, e⟩ := t
  generalize scanL s.data.toList = u at *
  obtain ⟨fs, to⟩ := u
  unfold OpenRet at hO1 hO2
  unfold ScanRet at hN1 hN2
  simp only at hO1 hO2 hN1 hN2 hY hcnt herr
  generalize crc (a ++ b).data.toList = v at *
  obtain ⟨F, hFF⟩ : ∃ F, (⟨(frameL (a ++ b).data.toList).toArray⟩ : ByteArray) = F := ⟨_, rfl⟩
  rw [hFF] at hF2
  simp only [hFF] at hF
  clear hFF hcab
  have hv : v = v := rfl
  have HO1 := Lib.hid hO1; clear hO1
  have HO2 := Lib.hid hO2; clear hO2
  have HN1 := Lib.hid hN1; clear hN1
  have HN2 := Lib.hid hN2; clear hN2
  have HM := Lib.hid hM; clear hM
  have HM2 := Lib.hid hM2; clear hM2
  have HF := Lib.hid hF; clear hF
  have HF2 := Lib.hid hF2; clear hF2
  have HS := Lib.hid hS; clear hS
  have HA := Lib.hid (fun W (h : Steps W) => awake_any W h)
  have HSm := Lib.hid (fun A B c d W h1 h2 => same_any fs (by omega) A B c d W h1 h2)
  have hcs : (e ≠ 0) ∨ (e = 0 ∧ N < s.size) ∨ (e = 0 ∧ ¬ N < s.size) := by omega
  obtain ⟨O, g, hY2, hOg⟩ : ∃ (O : ByteArray) (g : Nat), (∀ W, Steps W → Calls Tryd.prog 14 #[.string s] W fun e w' => e = .returned (.tuple #[.string O, .int .i64 (g : Nat)]) ∧ Below W.heap.size W w') ∧
      ((e ≠ 0 ∧ O = ⟨x.toArray⟩ ∧ g = e) ∨ (e = 0 ∧ N < s.size ∧ O = ⟨#[]⟩ ∧ g = 3) ∨ (e = 0 ∧ ¬ N < s.size ∧ O = ⟨x.toArray⟩ ∧ g = 0)) := by
    rcases hcs with h | ⟨h, h2⟩ | ⟨h, h2⟩
    · refine ⟨⟨x.toArray⟩, e, fun W hW => ?_, .inl ⟨h, rfl, rfl⟩⟩
      have := hY W hW
      rw [if_pos h] at this
      rw [herr h]
      exact this
    · refine ⟨⟨#[]⟩, 3, fun W hW => ?_, .inr (.inl ⟨h, h2, rfl, rfl⟩)⟩
      have := hY W hW
      rw [if_neg (by omega), if_pos h2] at this
      exact this
    · refine ⟨⟨x.toArray⟩, 0, fun W hW => ?_, .inr (.inr ⟨h, h2, rfl, rfl⟩)⟩
      have := hY W hW
      rw [if_neg (by omega), if_neg h2] at this
      exact this
  clear hY herr hcs
  have HY := Lib.hid hY2; clear hY2
  obtain ⟨X, hX⟩ : ∃ X : ByteArray, (⟨x.toArray⟩ : ByteArray) = X := ⟨_, rfl⟩
  rw [hX] at HO1 HO2 hOg
  clear hX
  go_enter Tryd.func3, Tryd.ntmps3
  go_wp2_with fail
  refine hC1.mono ?_
  rintro z w1 ⟨rfl, rfl⟩
  go_wp2_with fail
  refine hC2.mono ?_
  rintro z w1 ⟨rfl, rfl⟩
  go_wp2_with fail
  refine hC3.mono ?_
  rintro z w1 ⟨rfl, rfl⟩
  clear hC1 hC2 hC3
  go_wp2_with fail
  refine (HO1.out w HS.out).mono ?_
  rintro z w1 ⟨rfl, hb1⟩
  have B1 := Lib.hid hb1
  have S1 := Lib.hid (HS.out.below hb1 HS.out.1)
  clear hb1 HO1
  go_wp2_with fail
  refine (HO2.out w1).mono ?_
  rintro z w2 ⟨rfl, hb2⟩
  have B2 := Lib.hid (B1.out.trans (hb2.mono B1.out.size))
  have S2 := Lib.hid (S1.out.below hb2 S1.out.1)
  clear hb2 HO2 B1 S1
  go_wp2_with fail
  refine (HN1.out w2 S2.out).mono ?_
  rintro z w3 ⟨A3, c3, rfl, hL3, hA3, hb3⟩
  have B3 := Lib.hid (B2.out.trans (hb3.mono B2.out.size))
  have S3 := Lib.hid (S2.out.below hb3 S2.out.1)
  have L3 := Lib.hid hL3
  clear hb3 HN1 B2 S2 hL3 hA3
  go_wp2_with fail
  refine (HN2.out w3).mono ?_
  rintro z w4 ⟨A4, c4, rfl, hL4, hA4, hb4⟩
  have B4 := Lib.hid (B3.out.trans (hb4.mono B3.out.size))
  have S4 := Lib.hid (S3.out.below hb4 S3.out.1)
  have L34 := Lib.hid ((L3.out.below hb4).more hb4.size)
  have L4 := Lib.hid hL4
  clear hb4 HN2 B3 S3 hL4 hA4 L3
  go_wp2_with fail
  refine (HY.out w4 S4.out).mono ?_
  rintro z w5 ⟨rfl, hb5⟩
  have B5 := Lib.hid (B4.out.trans (hb5.mono B4.out.size))
  have S5 := Lib.hid (S4.out.below hb5 S4.out.1)
  have L35 := Lib.hid ((L34.out.below hb5).more hb5.size)
  have L45 := Lib.hid ((L4.out.below hb5).more hb5.size)
  clear hb5 HY B4 S4 L34 L4
  go_wp2_with fail
  refine (HA.out w5 S5.out).mono ?_
  rintro z w6 ⟨rfl, hb6⟩
  have B6 := Lib.hid (B5.out.trans (hb6.mono B5.out.size))
  have S6 := Lib.hid (S5.out.below hb6 S5.out.1)
  have L36 := Lib.hid ((L35.out.below hb6).more hb6.size)
  have L46 := Lib.hid ((L45.out.below hb6).more hb6.size)
  clear hb6 HA B5 S5 L35 L45
  go_wp2_with fail
  refine (HSm.out A3 A4 c3 c4 w6 L36.out L46.out).mono ?_
  rintro z w7 ⟨rfl, hb7⟩
  have B7 := Lib.hid (B6.out.trans (hb7.mono B6.out.size))
  have S7 := Lib.hid (S6.out.below hb7 S6.out.1)
  clear hb7 HSm B6 S6 L36 L46
  have HM7 := HM.out w7 w7.heap.size rfl S7.out
  have hcs : (e ≠ 0 ∧ O = X ∧ g = e) ∨ (e = 0 ∧ N < s.size ∧ O = ⟨#[]⟩ ∧ g = 3) ∨ (e = 0 ∧ ¬ N < s.size ∧ O = X ∧ g = 0) := hOg
  clear hOg HM
  rcases hcs with ⟨h1, rfl, rfl⟩ | ⟨rfl, h2, rfl, rfl⟩ | ⟨rfl, h2, rfl, rfl⟩
  · have t1 : ((g : Int) == 0) = false := by rw [beq_eq_false_iff_ne]; omega
    go_wp2_with fail
    refine HM7.mono ?_
    rintro z w8 ⟨rfl, rfl⟩
    have B8 := Lib.hid (B7.out.alloc B7.out.size (.cells #[.string a, .string b] 9))
    have S8 := Lib.hid (S7.out.alloc (.cells #[.string a, .string b] 9))
    clear HM7
    go_wp2_with fail
    refine (HM2.out _).mono ?_
    rintro z w9 ⟨rfl, hb9⟩
    have B9 := Lib.hid (B8.out.trans (hb9.mono B8.out.size))
    have S9 := Lib.hid (S8.out.below hb9 S8.out.1)
    clear hb9 HM2 B8 S8 B7 S7
    go_wp2_with fail
    refine (HF.out w9 w9.heap.size rfl S9.out).mono ?_
    rintro z w10 ⟨rfl, hb10⟩
    have B10 := Lib.hid ((B9.out.alloc B9.out.size (.cells #[.string a, .string b] 9)).trans (hb10.mono (by have := B9.out.size; simp; omega)))
    clear hb10 HF
    go_wp2_with fail
    refine (HF2.out w10).mono ?_
    rintro z w11 ⟨rfl, hb11⟩
    have B11 := Lib.hid (B10.out.trans (hb11.mono B10.out.size))
    go_wp2
    go_ret
    exact ⟨rfl, B11.out⟩
  · have t2 : (N : Int) < (s.size : Int) := by omega
    go_wp2_with fail
    refine HM7.mono ?_
    rintro z w8 ⟨rfl, rfl⟩
    have B8 := Lib.hid (B7.out.alloc B7.out.size (.cells #[.string a, .string b] 9))
    have S8 := Lib.hid (S7.out.alloc (.cells #[.string a, .string b] 9))
    clear HM7
    go_wp2_with fail
    refine (HM2.out _).mono ?_
    rintro z w9 ⟨rfl, hb9⟩
    have B9 := Lib.hid (B8.out.trans (hb9.mono B8.out.size))
    have S9 := Lib.hid (S8.out.below hb9 S8.out.1)
    clear hb9 HM2 B8 S8 B7 S7
    go_wp2_with fail
    refine (HF.out w9 w9.heap.size rfl S9.out).mono ?_
    rintro z w10 ⟨rfl, hb10⟩
    have B10 := Lib.hid ((B9.out.alloc B9.out.size (.cells #[.string a, .string b] 9)).trans (hb10.mono (by have := B9.out.size; simp; omega)))
    clear hb10 HF
    go_wp2_with fail
    refine (HF2.out w10).mono ?_
    rintro z w11 ⟨rfl, hb11⟩
    have B11 := Lib.hid (B10.out.trans (hb11.mono B10.out.size))
    go_wp2
    go_ret
    exact ⟨rfl, B11.out⟩
  · have t2 : ¬ (N : Int) < (s.size : Int) := by omega
    go_wp2_with fail
    refine HM7.mono ?_
    rintro z w8 ⟨rfl, rfl⟩
    have B8 := Lib.hid (B7.out.alloc B7.out.size (.cells #[.string a, .string b] 9))
    have S8 := Lib.hid (S7.out.alloc (.cells #[.string a, .string b] 9))
    clear HM7
    go_wp2_with fail
    refine (HM2.out _).mono ?_
    rintro z w9 ⟨rfl, hb9⟩
    have B9 := Lib.hid (B8.out.trans (hb9.mono B8.out.size))
    have S9 := Lib.hid (S8.out.below hb9 S8.out.1)
    clear hb9 HM2 B8 S8 B7 S7
    go_wp2_with fail
    refine (HF.out w9 w9.heap.size rfl S9.out).mono ?_
    rintro z w10 ⟨rfl, hb10⟩
    have B10 := Lib.hid ((B9.out.alloc B9.out.size (.cells #[.string a, .string b] 9)).trans (hb10.mono (by have := B9.out.size; simp; omega)))
    clear hb10 HF
    go_wp2_with fail
    refine (HF2.out w10).mono ?_
    rintro z w11 ⟨rfl, hb11⟩
    have B11 := Lib.hid (B10.out.trans (hb11.mono B10.out.size))
    go_wp2
    go_ret
    exact ⟨rfl, B11.out⟩
end Go.Proofs.YtjpdfedebemjfaaDoor
