/- glacierlaw02.SealTorn: its walk. -/
import Derived.Test.YtjpdfedebemjfaaDoorSx
import Derived.Test.YtjpdfedebemjfaaDoorSa
import Derived.BigQuiet
namespace Go.Proofs.YtjpdfedebemjfaaDoor
open Go.RowKit
open Sm

theorem laid_get (l : List ByteArray) (k : Nat) (h : k < (laidTexts l).length) : ∃ h' : k < l.length, (laidTexts l)[k] = (cutTo l[k] 50).data.toList := by
  have h1 : k < l.length := by unfold laidTexts at h; rw [List.length_map, List.length_take] at h; omega
  refine ⟨h1, ?_⟩
  simp only [laidTexts, List.getElem_map, List.getElem_take]

theorem laid_len (l : List ByteArray) : (frames (laidTexts l)).length ≤ 348 := by
  have h1 := frames_len 50 (laidTexts l) (laidTexts_le l)
  have h2 := laidTexts_len l
  omega

set_option maxRecDepth 100000 in
set_option maxHeartbeats 2000000 in
theorem walk_torn (l : List ByteArray) (A : Option Addr) (c : Nat) (cut : Int) (w : World) (hS : Steps w) (hL : Lies w w.heap.size A (strs l)) :
    Calls Tryd.prog 4 #[.slice A l.length c, .int .i64 cut] w fun e w' => e = .returned (.bool true) ∧ Below w.heap.size w w' := by
  have hLd := laid_any l A c w hS hL
  have HG : Hid (∀ k (h : k < (laidTexts l).length), ∃ h' : k < l.length, (laidTexts l)[k] = (cutTo l[k] 50).data.toList) := Lib.hid (laid_get l)
  have hfl := laid_len l
  have h6 := laidTexts_len l
  have HFl : Hid (∀ x ∈ laidTexts l, x.length ≤ 50) := Lib.hid (laidTexts_le l)
  generalize laidTexts l = fs at *
  obtain ⟨s1, hs1⟩ : ∃ s, (⟨(frames fs).toArray⟩ : ByteArray) = s := ⟨_, rfl⟩
  have hz1 : s1.size = (frames fs).length := by rw [← hs1, str_len]
  have hzl : s1.size ≤ 348 := by omega
  have hd1 : s1.data.toList = frames fs := by rw [← hs1]
  unfold LaidRet at hLd
  rw [hs1] at hLd
  have HD := Lib.hid hd1; clear hd1
  have HZ := Lib.hid hz1; clear hz1
  have HS := Lib.hid hS; clear hS
  have HL := Lib.hid hL; clear hL
  have HA := Lib.hid (fun W (h : Steps W) => awake_any W h)
  clear hs1 hfl
  by_cases hneg : cut < 0 ∨ (s1.size : Int) < cut
  · go_enter Tryd.func4, Tryd.ntmps4
    go_wp2_with fail
    refine hLd.mono ?_
    rintro z w1 ⟨A1, c1, rfl, hL1, hA1, hb1⟩
    have B1 := Lib.hid hb1
    have S1 := Lib.hid (HS.out.below hb1 HS.out.1)
    clear hLd hb1 hL1 hA1
    go_wp2_with fail
    refine (HA.out w1 S1.out).mono ?_
    rintro z w2 ⟨rfl, hb2⟩
    have B2 := Lib.hid (B1.out.trans (hb2.mono B1.out.size))
    have S2 := Lib.hid (S1.out.below hb2 S1.out.1)
    clear hb2 B1 S1
    by_cases hn : cut < 0
    · go_wp2_with fail
      refine (HA.out w2 S2.out).mono ?_
      rintro z w3 ⟨rfl, hb3⟩
      have B3 := Lib.hid (B2.out.trans (hb3.mono B2.out.size))
      clear hb3
      go_wp2
      go_ret
      exact ⟨rfl, B3.out⟩
    · have hg : (s1.size : Int) < cut := by omega
      clear hneg
      go_wp2_with fail
      refine (HA.out w2 S2.out).mono ?_
      rintro z w3 ⟨rfl, hb3⟩
      have B3 := Lib.hid (B2.out.trans (hb3.mono B2.out.size))
      clear hb3
      go_wp2
      go_ret
      exact ⟨rfl, B3.out⟩
  · obtain ⟨n, rfl⟩ := Int.eq_ofNat_of_zero_le (by omega : 0 ≤ cut)
    have hn : n ≤ s1.size := by omega
    clear hneg
    have HW := Lib.hid (fun i h => whole_iff fs n i h)
    have hK := wholeL_le fs n
    have hSc := scan_any (s1.extract 0 n) (by rw [ByteArray.size_extract]; omega)
    have hse : (s1.extract 0 n).data.toList = (frames fs).take n := by rw [← HD.out]; simp
    rw [hse, scan_cut fs n (fun x hx => by have := HFl.out x hx; omega)] at hSc
    clear hse
    generalize wholeL fs n = K at *
    unfold ScanRet at hSc
    simp only at hSc
    have hgl : (fs.take K).length = K := by rw [List.length_take]; omega
    have hgk : ∀ i (h : i < K), ∃ h' : i < l.length, ∃ hp : i < (parts (fs.take K)).length, (parts (fs.take K))[i] = .string (cutTo l[i] 50) := fun i h => by
      obtain ⟨h', he⟩ := HG.out i (by omega)
      refine ⟨h', by unfold parts; rw [List.length_map]; omega, ?_⟩
      simp only [parts, List.getElem_map, List.getElem_take, he, list_string]
    have HK := Lib.hid hgk; clear hgk
    rw [hgl] at hSc
    have HSc := Lib.hid hSc; clear hSc
    go_enter Tryd.func4, Tryd.ntmps4
    go_wp2_with fail
    refine hLd.mono ?_
    rintro z w1 ⟨A1, c1, rfl, hL1, hA1, hb1⟩
    have B1 := Lib.hid hb1
    have S1 := Lib.hid (HS.out.below hb1 HS.out.1)
    have L1 := Lib.hid hL1
    clear hLd hb1 hL1 hA1
    go_wp2_with fail
    refine (HA.out w1 S1.out).mono ?_
    rintro z w2 ⟨rfl, hb2⟩
    have B2 := Lib.hid (B1.out.trans (hb2.mono B1.out.size))
    have S2 := Lib.hid (S1.out.below hb2 S1.out.1)
    have L2 := Lib.hid (L1.out.below hb2)
    clear hb2 B1 S1 L1 HA
    go_wp2
    go_loopw [7, 8, 34] (fun a b i wr => ∃ k : Nat, k ≤ fs.length ∧ a = .int .i64 ((min k K : Nat) : Int) ∧ b = .int .i64 (((frames (fs.take (min k K))).length : Nat) : Int) ∧ i = .int .i64 (k : Int) ∧ w2 = wr)
      (fun _ _ i _ => fs.length - (intOf i).toNat)
    case atStart => exact ⟨0, by omega, by simp, by simp [frames], rfl, rfl⟩
    case round =>
      obtain ⟨k, hk, rfl, rfl, rfl, rfl⟩ := hrel
      by_cases hlt : k < fs.length
      · obtain ⟨ad, rfl, hadB, hc⟩ := L2.out.round (k := k) (by simpa [ints, endsOf_len] using hlt)
        have hval : ((ints (endsOf fs))[k]'(by simpa [ints, endsOf_len] using hlt)) = .int .i64 ((frames (fs.take (k + 1))).length : Int) := by simp [ints, endsOf]
        rw [hval] at hc
        clear hval
        have hiff := HW.out k hlt
        by_cases hkK : k < K
        · have hle : ((frames (fs.take (k + 1))).length : Int) ≤ (n : Int) := by have := hiff.2 hkK; omega
          have hm1 : min k K = k := by omega
          have hm2 : min (k + 1) K = k + 1 := by omega
          rw [hm1]
          obtain ⟨q, hq⟩ : ∃ q, (frames (fs.take (k + 1))).length = q := ⟨_, rfl⟩
          have HQ := Lib.hid hq
          rw [hq] at hc hle
          clear hiff hq
          go_wp2
          go_roundw
          case rel => exact ⟨k + 1, by omega, by rw [hm2]; go_num, by rw [hm2, HQ.out], by go_num, by simp⟩
          case measure => simp [intOf]; omega
        · have hle : ¬ ((frames (fs.take (k + 1))).length : Int) ≤ (n : Int) := by intro h; exact hkK (hiff.1 (by omega))
          have hm1 : min k K = K := by omega
          have hm2 : min (k + 1) K = K := by omega
          rw [hm1]
          obtain ⟨q, hq⟩ : ∃ q, (frames (fs.take (k + 1))).length = q := ⟨_, rfl⟩
          rw [hq] at hc hle
          clear hiff hq
          go_wp2
          go_roundw
          case rel => exact ⟨k + 1, by omega, by rw [hm2], by rw [hm2], by go_num, by simp⟩
          case measure => simp [intOf]; omega
      · obtain rfl : k = fs.length := by omega
        have hm : min fs.length K = K := by omega
        rw [hm]
        clear hm
        obtain ⟨q, hq⟩ : ∃ q, (frames (fs.take K)).length = q := ⟨_, rfl⟩
        rw [hq] at HSc ⊢
        have hn' : (n : Int) ≤ (s1.size : Int) := by omega
        have htn : (n : Int).toNat = n := rfl
        go_wp2_with fail
        refine (HSc.out w2 S2.out).mono ?_
        rintro z w3 ⟨A3, c3, rfl, hL3, hA3, hb3⟩
        have B3 := Lib.hid (B2.out.trans (hb3.mono B2.out.size))
        have L3 := Lib.hid hL3
        have LL := Lib.hid (HL.out.below B3.out)
        clear hL3 hA3 hb3 S2 B2 HL
        go_wp2
        go_loopw [63] (fun i wr => ∃ k : Nat, k ≤ K ∧ i = .int .i64 (k : Int) ∧ Hid (Below w.heap.size w wr) ∧ Hid (Lies wr wr.heap.size A3 (parts (fs.take K))) ∧ Hid (Lies wr w.heap.size A (strs l)))
          (fun i _ => K - (intOf i).toNat)
        case atStart => exact ⟨0, by omega, rfl, B3, L3, LL⟩
        case round =>
          obtain ⟨k, hk, rfl, B4, L4, LL4⟩ := hrel
          clear B3 L3 LL
          by_cases hlt : k < K
          · obtain ⟨h', hp, hv⟩ := HK.out k hlt
            obtain ⟨ad, rfl, hadB, hc⟩ := L4.out.round hp
            rw [hv] at hc
            obtain ⟨ad2, rfl, hadB2, hc2⟩ := LL4.out.round (k := k) (by simpa [strs] using h')
            have hval : ((strs l)[k]'(by simpa [strs] using h')) = .string l[k] := by simp [strs]
            rw [hval] at hc2
            clear hval hv
            have hC := fun W => cut_any l[k] 50 W
            generalize l[k] = x at *
            generalize cutTo x 50 = y at *
            go_wp2
            go_quiet (first | (go_at_call 9; exact Calls.quiet_of_same ((hC _).mono fun _ _ h => ⟨h.1, h.2.symm⟩)))
            go_wp2
            go_roundw
            case rel => exact ⟨k + 1, by omega, by go_num, Lib.hid (below_drewN B4.out _), Lib.hid (fun j u hj => L4.out j u hj), Lib.hid (fun j u hj => LL4.out j u hj)⟩
            case measure => simp [intOf]; omega
          · obtain rfl : k = K := by omega
            go_wp2
            go_ret
            exact ⟨rfl, B4.out⟩
end Go.Proofs.YtjpdfedebemjfaaDoor
