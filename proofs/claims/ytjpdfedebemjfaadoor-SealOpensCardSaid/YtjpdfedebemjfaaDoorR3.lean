/- glacierref02.Open: its walk. -/
import Derived.Test.YtjpdfedebemjfaaDoorR2
import Derived.Test.YtjpdfedebemjfaaDoorSx
import Derived.Deep.RegionHeld3
namespace Go.Proofs.YtjpdfedebemjfaaDoor
open Go.RowKit
open Sm

theorem take_parts (l : List UInt8) (n : Nat) : l.take (8 + n) = l.take 4 ++ (l.drop 4).take 4 ++ (l.drop 8).take n := by
  have e1 : l.take (8 + n) = l.take 8 ++ (l.drop 8).take n := List.take_add
  have e2 : l.take (4 + 4) = l.take 4 ++ (l.drop 4).take 4 := List.take_add
  rw [e1, ← e2]

set_option maxRecDepth 100000 in
set_option maxHeartbeats 2000000 in
theorem refOpen_any (s : ByteArray) (hs : s.size ≤ 1000) (w : World) : Calls Tryd.prog 11 #[.string s] w (OpenRet (openL s.data.toList) w) := by
  unfold openL
  rw [size_list]
  by_cases h8 : s.size < 8
  · rw [if_pos h8]
    go_enter Tryd.func11, Tryd.ntmps11
    go_wp2
    go_ret3
    exact ⟨rfl, Below.refl _ _⟩
  rw [if_neg h8]
  have h4 : (s.extract 0 4).size = 4 := by rw [ByteArray.size_extract]; omega
  have hN := fun W => refNumber_any (s.extract 0 4) h4 W
  have h4l : (s.extract 0 4).data.toList = s.data.toList.take 4 := by simp
  rw [h4l] at hN
  clear h4l h4
  have b4 : (4 : Int) ≤ (s.size : Int) := by omega
  have hbl := be_lt (s.data.toList.take 4)
  have hfb := four_be (s.data.toList.take 4) (by rw [List.length_take, size_list]; omega)
  generalize hn : be (s.data.toList.take 4) = n at *
  by_cases hbig : 1048576 < n
  · rw [if_pos hbig]
    clear hn
    go_enter Tryd.func11, Tryd.ntmps11
    go_wp2_with fail
    refine (hN w).mono ?_
    rintro z w1 ⟨rfl, rfl⟩
    clear hN
    go_wp2
    go_ret3
    exact ⟨rfl, Below.refl _ _⟩
  rw [if_neg hbig]
  by_cases hcut : s.size < 8 + n
  · rw [if_pos hcut]
    clear hn
    go_enter Tryd.func11, Tryd.ntmps11
    go_wp2_with fail
    refine (hN w).mono ?_
    rintro z w1 ⟨rfl, rfl⟩
    clear hN
    go_wp2
    go_ret3
    exact ⟨rfl, Below.refl _ _⟩
  rw [if_neg hcut]
  have hxl : (s.extract 8 (8 + n)).data.toList = (s.data.toList.drop 8).take n := by
    simp [List.extract_eq_take_drop]
  have hxz : (s.extract 8 (8 + n)).size = n := by rw [ByteArray.size_extract]; omega
  have hel : (s.extract 0 (8 + n)).data.toList = s.data.toList.take 4 ++ (s.data.toList.drop 4).take 4 ++ (s.data.toList.drop 8).take n := by
    rw [← take_parts]; simp
  obtain ⟨sx, hsx⟩ : ∃ x, s.extract 8 (8 + n) = x := ⟨_, rfl⟩
  obtain ⟨E, hE⟩ : ∃ x, s.extract 0 (8 + n) = x := ⟨_, rfl⟩
  rw [hsx] at hxl hxz
  rw [hE] at hel
  have hFr := fun W => refFrame_any sx (by omega) W
  have hxn : sx.data.toList.length = n := by rw [size_list, hxz]
  have hFl : frameL sx.data.toList = s.data.toList.take 4 ++ four4 (crc (s.data.toList.take 4 ++ sx.data.toList)) ++ sx.data.toList := by
    unfold frameL
    rw [hxn, hfb]
  obtain ⟨F, hF⟩ : ∃ F, (⟨(frameL sx.data.toList).toArray⟩ : ByteArray) = F := ⟨_, rfl⟩
  have hFd : F.data.toList = frameL sx.data.toList := by rw [← hF]
  rw [hFl] at hFd
  rw [hF] at hFr
  rw [← hxl]
  rw [← hxl] at hel
  have h44 : ((s.data.toList.drop 4).take 4).length = 4 := by rw [List.length_take, List.length_drop, size_list]; omega
  have hcl := crc_lt (s.data.toList.take 4 ++ sx.data.toList)
  generalize s.data.toList.take 4 = l4 at *
  generalize (s.data.toList.drop 4).take 4 = m4 at *
  have hiff : F = E ↔ be m4 = crc (l4 ++ sx.data.toList) := by
    constructor
    · intro h
      subst h
      rw [hFd] at hel
      have h1 := List.append_cancel_right hel
      have h2 := List.append_cancel_left h1
      rw [← h2, be_four _ hcl]
    · intro h
      have h1 : m4 = four4 (crc (l4 ++ sx.data.toList)) := by rw [← h, four_be m4 h44]
      rw [← list_string F, ← list_string E, hFd, hel, h1]
  have b8 : (8 : Int) ≤ 8 + (n : Int) := by omega
  have b0 : (0 : Int) ≤ 8 + (n : Int) := by omega
  have b9 : (8 : Int) + (n : Int) ≤ (s.size : Int) := by omega
  have bt : ((8 : Int) + (n : Int)).toNat = 8 + n := by omega
  have hxs : (⟨sx.data.toList.toArray⟩ : ByteArray) = sx := list_string sx
  have HXS := Lib.hid hxs; clear hxs
  have b10 : 8 + n ≤ s.size := by omega
  have bw : wrap64 (8 + (n : Int)) = 8 + (n : Int) := by unfold wrap64; omega
  have bw2 : IntKind.i64.wrap (8 + (n : Int)) = 8 + (n : Int) := by rw [IntKind.wrap_i64]; omega
  clear hn hfb hxl hel hxn hFl hF hFd h44 hcl hcut h8 hbig
  by_cases huv : be m4 = crc (l4 ++ sx.data.toList)
  · rw [if_neg (by simpa using huv)]
    have hFE := hiff.2 huv
    subst hFE
    clear huv hiff
    go_enter Tryd.func11, Tryd.ntmps11
    go_wp2_with fail
    refine (hN w).mono ?_
    rintro z w1 ⟨rfl, rfl⟩
    clear hN
    go_wp2_with fail
    go_region_held3 (fun w' => True) (trivial)
      (first | (go_at_call 20; refine (hFr _).mono ?_; rintro z w2 ⟨rfl, hb2⟩))
    all_goals
      have B2 := below_drewN (Below.refl w.heap.size w) 1
      have B3 := B2.trans hb2
      clear hb2 B2
      go_wp2
      go_ret3
      exact ⟨by first | rfl | (rw [HXS.out]; rfl), B3⟩
  · rw [if_pos (by simpa using huv)]
    have hne : ¬ F = E := fun h => huv (hiff.1 h)
    have hne2 : (F.toList == E.toList) = false := by
      rw [ByteArray.toList_eq, ByteArray.toList_eq, beq_eq_false_iff_ne]
      exact fun h => hne (by rw [← list_string F, ← list_string E, h])
    clear huv hiff
    go_enter Tryd.func11, Tryd.ntmps11
    go_wp2_with fail
    refine (hN w).mono ?_
    rintro z w1 ⟨rfl, rfl⟩
    clear hN
    go_wp2_with fail
    go_region_held3 (fun w' => True) (trivial)
      (first | (go_at_call 20; refine (hFr _).mono ?_; rintro z w2 ⟨rfl, hb2⟩))
    all_goals
      have B2 := below_drewN (Below.refl w.heap.size w) 1
      have B3 := B2.trans hb2
      clear hb2 B2
      go_wp2
      go_ret3
      exact ⟨rfl, B3⟩
end Go.Proofs.YtjpdfedebemjfaaDoor
