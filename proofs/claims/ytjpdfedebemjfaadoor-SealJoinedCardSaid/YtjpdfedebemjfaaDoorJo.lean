/- glacierlaw02.SealJoined: its walk. -/
import Derived.Test.YtjpdfedebemjfaaDoorTo
namespace Go.Proofs.YtjpdfedebemjfaaDoor
open Go.RowKit
open Sm

theorem laid_part (l : List ByteArray) (fs gs : List (List UInt8)) (pre : List (List UInt8)) (hp : fs = pre ++ laidTexts l ++ gs) (k : Nat) (h : k < (laidTexts l).length) :
    ∃ h' : k < l.length, ∃ hq : pre.length + k < (parts fs).length, (parts fs)[pre.length + k] = .string (cutTo l[k] 50) := by
  obtain ⟨h', he⟩ := laid_get l k h
  subst hp
  refine ⟨h', by unfold parts; simp; omega, ?_⟩
  simp only [parts, List.getElem_map]
  rw [List.getElem_append_left (by simp; omega), List.getElem_append_right (by omega)]
  simp only [Nat.add_sub_cancel_left]
  rw [he, list_string]

set_option maxRecDepth 100000 in
set_option maxHeartbeats 4000000 in
theorem walk_joined (la lb : List ByteArray) (Aa Ab : Option Addr) (ca cb : Nat) (w : World) (hS : Steps w) (hLa : Lies w w.heap.size Aa (strs la)) (hLb : Lies w w.heap.size Ab (strs lb)) :
    Calls Tryd.prog 8 #[.slice Aa la.length ca, .slice Ab lb.length cb] w fun e w' => e = .returned (.bool true) ∧ Below w.heap.size w w' := by
  have hDa := laid_any la Aa ca w hS hLa
  have hDb := fun W h1 h2 => laid_any lb Ab cb W h1 h2
  have HGa := Lib.hid (laid_part la (laidTexts la ++ laidTexts lb) (laidTexts lb) [] rfl)
  have HGb := Lib.hid (laid_part lb (laidTexts la ++ laidTexts lb) [] (laidTexts la) (by simp))
  have hsa := laid_len la
  have hsb := laid_len lb
  have h6a := laidTexts_len la
  have h6b := laidTexts_len lb
  have HFa : Hid (∀ x ∈ laidTexts la, x.length ≤ 50) := Lib.hid (laidTexts_le la)
  have HFb : Hid (∀ x ∈ laidTexts lb, x.length ≤ 50) := Lib.hid (laidTexts_le lb)
  generalize laidTexts la = fs at *
  generalize laidTexts lb = gs at *
  have hsc : scanL (frames fs ++ frames gs) = (fs ++ gs, (frames fs).length + (frames gs).length) := by
    rw [scan_frames _ fs (fun x hx => by have := HFa.out x hx; omega), scan_all gs (fun x hx => by have := HFb.out x hx; omega)]
  obtain ⟨s1, hs1⟩ : ∃ s, (⟨(frames fs).toArray⟩ : ByteArray) = s := ⟨_, rfl⟩
  obtain ⟨s2, hs2⟩ : ∃ s, (⟨(frames gs).toArray⟩ : ByteArray) = s := ⟨_, rfl⟩
  have hz1 : s1.size = (frames fs).length := by rw [← hs1, str_len]
  have hz2 : s2.size = (frames gs).length := by rw [← hs2, str_len]
  have hzl1 : s1.size ≤ 348 := by omega
  have hzl2 : s2.size ≤ 348 := by omega
  have hd : (s1 ++ s2).data.toList = frames fs ++ frames gs := by rw [← hs1, ← hs2]; simp
  have hSc := scan_any (s1 ++ s2) (by rw [ByteArray.size_append]; omega)
  rw [hd, hsc] at hSc
  unfold ScanRet at hSc
  simp only [← hz1, ← hz2] at hSc
  have hgl : (fs ++ gs).length = fs.length + gs.length := List.length_append
  rw [hgl] at hSc
  unfold LaidRet at hDa hDb
  rw [hs1] at hDa
  simp only [hs2] at hDb
  have HS := Lib.hid hS; clear hS
  have HLa := Lib.hid hLa; clear hLa
  have HLb := Lib.hid hLb; clear hLb
  have HA := Lib.hid (fun W (h : Steps W) => awake_any W h)
  have HSc := Lib.hid hSc; clear hSc
  have HDb := Lib.hid hDb; clear hDb
  generalize hfg : fs ++ gs = fg at *
  clear hs1 hs2 hsa hsb hz1 hz2 hsc hd hfg
  have h0 : ([] : List (List UInt8)).length = 0 := rfl
  rw [h0] at HGa
  clear h0
  simp only [Nat.zero_add] at HGa
  go_enter Tryd.func8, Tryd.ntmps8
  go_wp2_with fail
  refine hDa.mono ?_
  rintro z w1 ⟨A1, c1, rfl, hL1, hA1, hb1⟩
  have B1 := Lib.hid hb1
  have S1 := Lib.hid (HS.out.below hb1 HS.out.1)
  have Lb1 := Lib.hid ((HLb.out.below hb1).more hb1.size)
  clear hDa hb1 hL1 hA1
  go_wp2_with fail
  refine (HDb.out w1 S1.out Lb1.out).mono ?_
  rintro z w2 ⟨A2, c2, rfl, hL2, hA2, hb2⟩
  have B2 := Lib.hid (B1.out.trans (hb2.mono B1.out.size))
  have S2 := Lib.hid (S1.out.below hb2 S1.out.1)
  clear HDb hb2 hL2 hA2 Lb1 S1 B1
  go_wp2_with fail
  refine (HSc.out w2 S2.out).mono ?_
  rintro z w3 ⟨A3, c3, rfl, hL3, hA3, hb3⟩
  have B3 := Lib.hid (B2.out.trans (hb3.mono B2.out.size))
  have S3 := Lib.hid (S2.out.below hb3 S2.out.1)
  have L3 := Lib.hid hL3
  clear HSc hb3 hL3 hA3 S2 B2
  go_wp2_with fail
  refine (HA.out w3 S3.out).mono ?_
  rintro z w4 ⟨rfl, hb4⟩
  have B4 := Lib.hid (B3.out.trans (hb4.mono B3.out.size))
  have L4 := Lib.hid ((L3.out.below hb4).more hb4.size)
  have La4 := Lib.hid (HLa.out.below B4.out)
  have Lb4 := Lib.hid (HLb.out.below B4.out)
  clear hb4 B3 L3 S3 HA HS
  go_wp2
  go_loopw [53] (fun i wr => ∃ k : Nat, k ≤ fs.length ∧ i = .int .i64 (k : Int) ∧ Hid (Below w.heap.size w wr) ∧ Hid (Lies wr wr.heap.size A3 (parts fg)) ∧ Hid (Lies wr w.heap.size Aa (strs la)) ∧ Hid (Lies wr w.heap.size Ab (strs lb)))
    (fun i _ => fs.length - (intOf i).toNat)
  case atStart => exact ⟨0, by omega, rfl, B4, L4, La4, Lb4⟩
  case round =>
    obtain ⟨k, hk, rfl, B5, L5, La5, Lb5⟩ := hrel
    clear B4 L4 La4 Lb4
    by_cases hlt : k < fs.length
    · obtain ⟨h', hp, hv⟩ := HGa.out k hlt
      obtain ⟨ad, rfl, hadB, hc⟩ := L5.out.round hp
      rw [hv] at hc
      obtain ⟨ad2, rfl, hadB2, hc2⟩ := La5.out.round (k := k) (by simpa [strs] using h')
      have hval : ((strs la)[k]'(by simpa [strs] using h')) = .string la[k] := by simp [strs]
      rw [hval] at hc2
      clear hval hv
      have hC := fun W => cut_any la[k] 50 W
      generalize la[k] = x at *
      generalize cutTo x 50 = y at *
      go_wp2
      go_quiet (first | (go_at_call 9; exact Calls.quiet_of_same ((hC _).mono fun _ _ h => ⟨h.1, h.2.symm⟩)))
      go_wp2
      go_roundw
      case rel => exact ⟨k + 1, by omega, by go_num, Lib.hid (below_drewN B5.out _), Lib.hid (fun j u hj => L5.out j u hj), Lib.hid (fun j u hj => La5.out j u hj), Lib.hid (fun j u hj => Lb5.out j u hj)⟩
      case measure => simp [intOf]; omega
    · obtain rfl : k = fs.length := by omega
      clear hlt hk
      go_wp2
      go_loopw [69] (fun i wr => ∃ k : Nat, k ≤ gs.length ∧ i = .int .i64 (k : Int) ∧ Hid (Below w.heap.size w wr) ∧ Hid (Lies wr wr.heap.size A3 (parts fg)) ∧ Hid (Lies wr w.heap.size Ab (strs lb)))
        (fun i _ => gs.length - (intOf i).toNat)
      case atStart => exact ⟨0, by omega, rfl, B5, L5, Lb5⟩
      case round =>
        obtain ⟨k, hk, rfl, B6, L6, Lb6⟩ := hrel
        clear B5 L5 La5 Lb5
        by_cases hlt : k < gs.length
        · obtain ⟨h', hp, hv⟩ := HGb.out k hlt
          obtain ⟨ad, rfl, hadB, hc⟩ := L6.out.round hp
          rw [hv] at hc
          obtain ⟨ad2, rfl, hadB2, hc2⟩ := Lb6.out.round (k := k) (by simpa [strs] using h')
          have hval : ((strs lb)[k]'(by simpa [strs] using h')) = .string lb[k] := by simp [strs]
          rw [hval] at hc2
          clear hval hv
          have hC := fun W => cut_any lb[k] 50 W
          generalize lb[k] = x at *
          generalize cutTo x 50 = y at *
          have htn : ((fs.length : Int) + (k : Int)).toNat = fs.length + k := rfl
          go_wp2
          go_quiet (first | (go_at_call 9; exact Calls.quiet_of_same ((hC _).mono fun _ _ h => ⟨h.1, h.2.symm⟩)))
          go_wp2
          go_roundw
          case rel => exact ⟨k + 1, by omega, by go_num, Lib.hid (below_drewN B6.out _), Lib.hid (fun j u hj => L6.out j u hj), Lib.hid (fun j u hj => Lb6.out j u hj)⟩
          case measure => simp [intOf]; omega
        · obtain rfl : k = gs.length := by omega
          go_wp2
          go_ret
          exact ⟨rfl, B6.out⟩
end Go.Proofs.YtjpdfedebemjfaaDoor
