/- glacier/seal.Open: its walk. -/
import Derived.Test.YtniecodpdmjppaaDoorSf
import Derived.Test.YtniecodpdmjppaaDoorCl
import Derived.Deep.RegionHeld3
namespace Go.Proofs.YtniecodpdmjppaaDoor
open Go.RowKit
open Sm

/-- the frame at the beginning of l: its contents, how many bytes it has, the error's number -/
def openL (l : List UInt8) : List UInt8 × Nat × Nat :=
  if l.length < 8 then ([], 0, 2)
  else if 1048576 < be (l.take 4) then ([], 0, 11)
  else if l.length < 8 + be (l.take 4) then ([], 0, 2)
  else if be ((l.drop 4).take 4) ≠ crc (l.take 4 ++ (l.drop 8).take (be (l.take 4))) then ([], 0, 4)
  else ((l.drop 8).take (be (l.take 4)), 8 + be (l.take 4), 0)


/-- what Open hands back; nothing that was there has turned -/
def OpenRet (t : List UInt8 × Nat × Nat) (w : World) (e : Ending) (w' : World) : Prop :=
  e = .returned (.tuple #[.string ⟨t.1.toArray⟩, .int .i64 (t.2.1 : Nat), .int .i64 (t.2.2 : Nat)]) ∧ Below w.heap.size w w'

set_option maxRecDepth 100000 in
set_option maxHeartbeats 2000000 in
theorem open_any (s : ByteArray) (hs : s.size ≤ 140737488355328) (w : World) (hS : Steps w) : Calls Tryd.prog 85 #[.string s] w (OpenRet (openL s.data.toList) w) := by
  unfold openL
  rw [size_list]
  have HS := Lib.hid hS; clear hS
  by_cases h8 : s.size < 8
  · rw [if_pos h8]
    go_enter Tryd.func85, Tryd.ntmps85
    go_wp2
    go_ret3
    exact ⟨rfl, Below.refl _ _⟩
  rw [if_neg h8]
  have hN := fun W => snumber_any s (by omega) W
  have hbl := be_lt (s.data.toList.take 4)
  generalize hn : be (s.data.toList.take 4) = n at *
  by_cases hbig : 1048576 < n
  · rw [if_pos hbig]
    clear hn
    go_enter Tryd.func85, Tryd.ntmps85
    go_wp2_with fail
    refine (hN w).mono ?_
    rintro z w1 ⟨rfl, q, rfl⟩
    clear hN
    go_wp2
    go_ret3
    exact ⟨rfl, below_drewN (Below.refl _ _) q⟩
  rw [if_neg hbig]
  by_cases hcut : s.size < 8 + n
  · rw [if_pos hcut]
    clear hn
    go_enter Tryd.func85, Tryd.ntmps85
    go_wp2_with fail
    refine (hN w).mono ?_
    rintro z w1 ⟨rfl, q, rfl⟩
    clear hN
    go_wp2
    go_ret3
    exact ⟨rfl, below_drewN (Below.refl _ _) q⟩
  rw [if_neg hcut]
  have hle : 8 + n ≤ s.size := by omega
  clear hn
  obtain ⟨sa, hsa⟩ : ∃ x, s.extract 0 4 = x := ⟨_, rfl⟩
  obtain ⟨sb, hsb⟩ : ∃ x, s.extract 4 s.size = x := ⟨_, rfl⟩
  obtain ⟨sc, hsc⟩ : ∃ x, s.extract 8 (8 + n) = x := ⟨_, rfl⟩
  have la : sa.data.toList = s.data.toList.take 4 := by rw [← hsa, Lib.extract_data]; simp
  have lb : sb.data.toList = s.data.toList.drop 4 := by rw [← hsb, Lib.extract_data, List.take_of_length_le (by simp)]
  have lc : sc.data.toList = (s.data.toList.drop 8).take n := by rw [← hsc, Lib.extract_data]; congr 1; omega
  have zb : 4 ≤ sb.size := by rw [← size_list, lb, List.length_drop, size_list]; omega
  have zc : sc.size ≤ 1048576 := by rw [← size_list, lc, List.length_take]; omega
  have za : sa.size ≤ 4 := by rw [← size_list, la, List.length_take]; omega
  have hN2 := fun W => snumber_any sb zb W
  rw [lb] at hN2
  have hcat : cat [sa, sc] = s.data.toList.take 4 ++ (s.data.toList.drop 8).take n := by simp [cat, la, lc]
  have hM2 := fun W hS hL => sum_any [sa, sc] (some ⟨w.heap.size, 0, none⟩) 2 W hS hL (by simp) (by simp; omega)
  rw [hcat] at hM2
  have hbl2 := be_lt ((s.data.toList.drop 4).take 4)
  have hcl := crc_lt (s.data.toList.take 4 ++ (s.data.toList.drop 8).take n)
  have HLc := Lib.hid lc
  clear hcat la lb lc
  generalize be ((s.data.toList.drop 4).take 4) = u at *
  generalize crc (s.data.toList.take 4 ++ (s.data.toList.drop 8).take n) = v at *
  have HA := Lib.hid hsa
  have HB := Lib.hid hsb
  have HCc := Lib.hid hsc
  have b4 : (4 : Int) ≤ (s.size : Int) := by omega
  have b8 : (8 : Int) ≤ 8 + (n : Int) := by omega
  have b0 : (0 : Int) ≤ 8 + (n : Int) := by omega
  have b9 : (8 : Int) + (n : Int) ≤ (s.size : Int) := by omega
  have bt : ((8 : Int) + (n : Int)).toNat = 8 + n := by omega
  by_cases huv : u = v
  · rw [if_neg (by simpa using huv)]
    subst huv
    have hxc : (⟨((s.data.toList.drop 8).take n).toArray⟩ : ByteArray) = sc := by rw [← HLc.out]
    have HXC := Lib.hid hxc; clear hxc
    have hCl := fun W => clone_any sc W (by omega)
    go_enter Tryd.func85, Tryd.ntmps85
    go_wp2_with fail
    refine (hN w).mono ?_
    rintro z w1 ⟨rfl, q, rfl⟩
    have S1 := Lib.hid (HS.out.drewN q)
    have B1 := Lib.hid (below_drewN (Below.refl w.heap.size w) q)
    have hq1 : (w.drewN q).heap.size = w.heap.size := rfl
    clear hN
    generalize w.drewN q = w1 at *
    go_wp2_with fail
    have hSA : ∀ m o, Steps ((w1.drewN m).alloc o) := fun m o => Steps.alloc (w := w1.drewN m) S1.out o
    have hLA := fun m => Lies.new (w1.drewN m) 9 #[.string sa, .string sc] (strs [sa, sc]) w.heap.size hq1.symm rfl
    have HSA := Lib.hid hSA; clear hSA
    have HLA := Lib.hid hLA; clear hLA
    go_region_held3 (fun w' => True) (trivial)
      (first | (go_at_call 88; refine (hN2 _).mono ?_; rintro z w2 ⟨rfl, q2, rfl⟩) | (go_at_call 56; refine (hM2 _ (HSA.out _ _) (HLA.out _)).mono ?_; rintro z w2 ⟨rfl, rfl⟩))
    all_goals
      go_wp2_with fail
      refine (hCl _).mono ?_
      rintro z w3 ⟨rfl, hb3⟩
      have B3 : Below w.heap.size w w3 := by
        first
        | exact ((below_drewN B1.out _).alloc (Nat.le_of_eq hq1.symm) _).trans (hb3.mono (by simp; omega))
        | exact (below_drewN (B1.out.alloc (Nat.le_of_eq hq1.symm) _) _).trans (hb3.mono (by simp; omega))
      clear hb3
      go_wp2
      go_ret3
      exact ⟨by rw [HXC.out]; rfl, B3⟩
  · rw [if_pos huv]
    have ht : ((u : Int) != (v : Int)) = true := by rw [bne_iff_ne]; omega
    have HUV := Lib.hid huv; clear huv
    go_enter Tryd.func85, Tryd.ntmps85
    go_wp2_with fail
    refine (hN w).mono ?_
    rintro z w1 ⟨rfl, q, rfl⟩
    have S1 := Lib.hid (HS.out.drewN q)
    have B1 := Lib.hid (below_drewN (Below.refl w.heap.size w) q)
    have hq1 : (w.drewN q).heap.size = w.heap.size := rfl
    clear hN
    generalize w.drewN q = w1 at *
    go_wp2_with fail
    have hSA : ∀ m o, Steps ((w1.drewN m).alloc o) := fun m o => Steps.alloc (w := w1.drewN m) S1.out o
    have hLA := fun m => Lies.new (w1.drewN m) 9 #[.string sa, .string sc] (strs [sa, sc]) w.heap.size hq1.symm rfl
    have HSA := Lib.hid hSA; clear hSA
    have HLA := Lib.hid hLA; clear hLA
    go_region_held3 (fun w' => True) (trivial)
      (first | (go_at_call 88; refine (hN2 _).mono ?_; rintro z w2 ⟨rfl, q2, rfl⟩) | (go_at_call 56; refine (hM2 _ (HSA.out _ _) (HLA.out _)).mono ?_; rintro z w2 ⟨rfl, rfl⟩))
    all_goals
      go_wp2
      go_ret3
      exact ⟨rfl, by first | exact (below_drewN B1.out _).alloc (Nat.le_of_eq hq1.symm) _ | exact below_drewN (B1.out.alloc (Nat.le_of_eq hq1.symm) _) _⟩
end Go.Proofs.YtniecodpdmjppaaDoor
