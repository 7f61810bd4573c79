/- glacierlaw02.SealOnly: its walk. -/
import Derived.Test.YtjpdfedebemjfaaDoorSa
namespace Go.Proofs.YtjpdfedebemjfaaDoor
open Go.RowKit
open Sm

theorem onlyL_frame (x : List UInt8) (h : x.length ≤ 1048576) : onlyL (frameL x) = (x, 0) := by
  have e := open_frame x [] h
  rw [List.append_nil] at e
  unfold onlyL
  rw [e, frameL_len]
  simp
theorem onlyL_more (x t : List UInt8) (h : x.length ≤ 1048576) (ht : t ≠ []) : onlyL (frameL x ++ t) = ([], 3) := by
  have e := open_frame x t h
  have := List.length_pos_iff.2 ht
  unfold onlyL
  rw [e, List.length_append, frameL_len]
  simp; omega
theorem cat_one (s : ByteArray) : cat [s] = s.data.toList := by simp [cat]

set_option maxRecDepth 100000 in
set_option maxHeartbeats 2000000 in
theorem walk_only (a tail : ByteArray) (w : World) (hS : Steps w) :
    Calls Tryd.prog 6 #[.string a, .string tail] w fun e w' => e = .returned (.bool true) ∧ Below w.heap.size w w' := by
  have ha := cutTo_le a 100
  have hC1 := cut_any a 100 w
  have ht := cutTo_le tail 20
  have hC2 := cut_any tail 20 w
  obtain ⟨x, hx⟩ : ∃ x, cutTo a 100 = x := ⟨_, rfl⟩
  obtain ⟨t, hxt⟩ : ∃ t, cutTo tail 20 = t := ⟨_, rfl⟩
  rw [hx] at ha hC1
  rw [hxt] at ht hC2
  clear hx hxt
  have hxl : x.data.toList.length ≤ 100 := by rw [size_list]; exact ha
  have hF := fun g (hg : g = w.heap.size) => frame_new [x] #[.string x] 1 g w rfl rfl hg hS (by rw [cat_one]; omega) (by simp)
  rw [cat_one] at hF
  obtain ⟨F, hFr⟩ : ∃ F, (⟨(frameL x.data.toList).toArray⟩ : ByteArray) = F := ⟨_, rfl⟩
  have hFl : F.data.toList = frameL x.data.toList := by rw [← hFr]
  have hFz : F.size ≤ 108 := by rw [← hFr, str_len, frameL_len]; omega
  rw [hFr] at hF
  have hO1 := fun W (h : Steps W) => only_any F (by omega) W h
  rw [hFl, onlyL_frame _ (by omega)] at hO1
  simp only [list_string] at hO1
  have HS := Lib.hid hS; clear hS
  have HO1 := Lib.hid hO1; clear hO1
  have HA := Lib.hid (fun W (h : Steps W) => awake_any W h)
  by_cases hn : t = ⟨#[]⟩
  · subst hn
    have HF0 : F ++ ⟨#[]⟩ = F := by apply ByteArray.ext; simp
    clear hFr hFl hxl
    go_enter Tryd.func6, Tryd.ntmps6
    go_wp2_with fail
    refine hC1.mono ?_
    rintro z w1 ⟨rfl, rfl⟩
    go_wp2_with fail
    refine hC2.mono ?_
    rintro z w1 ⟨rfl, rfl⟩
    go_wp2_with fail
    refine (hF w.heap.size rfl).mono ?_
    rintro z w1 ⟨rfl, hb1⟩
    have B1 := Lib.hid (((Below.refl w.heap.size w).alloc (Nat.le_refl _) (.cells #[.string x] 9)).trans (hb1.mono (by simp)))
    have S1 := Lib.hid (HS.out.below B1.out HS.out.1)
    clear hF hb1 hC1 hC2
    go_wp2_with fail
    refine (HO1.out w1 S1.out).mono ?_
    rintro z w2 ⟨rfl, hb2⟩
    have B2 := Lib.hid (B1.out.trans (hb2.mono B1.out.size))
    have S2 := Lib.hid (S1.out.below hb2 S1.out.1)
    clear hb2 B1 S1
    go_wp2_with fail
    refine (HO1.out w2 S2.out).mono ?_
    rintro z w3 ⟨rfl, hb3⟩
    have B3 := Lib.hid (B2.out.trans (hb3.mono B2.out.size))
    have S3 := Lib.hid (S2.out.below hb3 S2.out.1)
    clear hb3 B2 S2
    go_wp2_with fail
    refine (HA.out w3 S3.out).mono ?_
    rintro z w4 ⟨rfl, hb4⟩
    have B4 := Lib.hid (B3.out.trans (hb4.mono B3.out.size))
    go_wp2
    go_ret
    exact ⟨rfl, B4.out⟩
  · have hO2 := fun W (h : Steps W) => only_any (F ++ t) (by rw [ByteArray.size_append]; omega) W h
    have hl2 : (F ++ t).data.toList = frameL x.data.toList ++ t.data.toList := by rw [← hFl]; simp
    rw [hl2, onlyL_more _ _ (by omega) (fun h => hn (by rw [← list_string t, h]))] at hO2
    have HO2 := Lib.hid hO2; clear hO2
    clear hFr hFl hxl hl2
    have hn' : t.toList.isEmpty = false := by
      rw [ByteArray.toList_eq]
      cases hl : t.data.toList with
      | nil => exact absurd (by rw [← list_string t, hl]) hn
      | cons _ _ => rfl
    go_enter Tryd.func6, Tryd.ntmps6
    go_wp2_with fail
    refine hC1.mono ?_
    rintro z w1 ⟨rfl, rfl⟩
    go_wp2_with fail
    refine hC2.mono ?_
    rintro z w1 ⟨rfl, rfl⟩
    go_wp2_with fail
    refine (hF w.heap.size rfl).mono ?_
    rintro z w1 ⟨rfl, hb1⟩
    have B1 := Lib.hid (((Below.refl w.heap.size w).alloc (Nat.le_refl _) (.cells #[.string x] 9)).trans (hb1.mono (by simp)))
    have S1 := Lib.hid (HS.out.below B1.out HS.out.1)
    clear hF hb1 hC1 hC2
    go_wp2_with fail
    refine (HO1.out w1 S1.out).mono ?_
    rintro z w2 ⟨rfl, hb2⟩
    have B2 := Lib.hid (B1.out.trans (hb2.mono B1.out.size))
    have S2 := Lib.hid (S1.out.below hb2 S1.out.1)
    clear hb2 B1 S1
    go_wp2_with fail
    refine (HO2.out w2 S2.out).mono ?_
    rintro z w3 ⟨rfl, hb3⟩
    have B3 := Lib.hid (B2.out.trans (hb3.mono B2.out.size))
    have S3 := Lib.hid (S2.out.below hb3 S2.out.1)
    clear hb3 B2 S2
    go_wp2_with fail
    refine (HA.out w3 S3.out).mono ?_
    rintro z w4 ⟨rfl, hb4⟩
    have B4 := Lib.hid (B3.out.trans (hb4.mono B3.out.size))
    go_wp2
    go_ret
    exact ⟨rfl, B4.out⟩
end Go.Proofs.YtjpdfedebemjfaaDoor
