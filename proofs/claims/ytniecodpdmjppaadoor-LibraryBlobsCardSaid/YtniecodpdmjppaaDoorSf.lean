/- glacier/seal.Frame: its walk. -/
import Derived.Test.YtniecodpdmjppaaDoorSs
import Derived.Test.YtniecodpdmjppaaDoorJn
namespace Go.Proofs.YtniecodpdmjppaaDoor
open Go.RowKit
open Sm

/-- a frame -/
def frameL (x : List UInt8) : List UInt8 := four4 x.length ++ four4 (crc (four4 x.length ++ x)) ++ x

theorem frameL_len (x : List UInt8) : (frameL x).length = 8 + x.length := by unfold frameL four4; simp; omega

theorem join_cat (l : List ByteArray) : Lib.join (l.map (·.data.toList)) [] = cat l := by
  unfold cat
  induction l with
  | nil => rfl
  | cons a l ih =>
    rw [List.map_cons, List.flatMap_cons, ← ih]
    cases l with
    | nil => simp [Lib.join]
    | cons b l => simp [Lib.join, List.intercalate]

theorem Lies.new (w : World) (t : TypeId) (cs : Array Value) (xs : List Value) (g : Nat) (hg : g = w.heap.size) (h : cs.toList = xs) : Lies (w.alloc (.cells cs t)) (w.alloc (.cells cs t)).heap.size (some ⟨g, 0, none⟩) xs := by
  subst hg
  exact Lies.of_at (At.new w t cs) h (by simp)

set_option maxRecDepth 100000 in
set_option maxHeartbeats 2000000 in
theorem frame_any (l : List ByteArray) (g c : Nat) (w : World) (hS : Steps w) (hc : l.length ≤ c) (hg : g < w.heap.size) (hcells : ∀ (j : Nat) x, l[j]? = some x → w.cell? ⟨g, 0 + j, none⟩ = some (.string x)) (hlen : (cat l).length ≤ 1048576) (hl : l.length ≤ 1000) :
    Calls Tryd.prog 61 #[.slice (some ⟨g, 0, none⟩) l.length c] w fun e w' => e = .returned (.string ⟨(frameL (cat l)).toArray⟩) ∧ Below w.heap.size w w' := by
  have hJ := Tryd.strings_Join g 0 c l ⟨#[]⟩ w hcells hg (by omega) hc (by rw [show (ByteArray.mk #[]).data.toList = [] from rfl, join_cat]; omega)
  rw [show (ByteArray.mk #[]).data.toList = [] from rfl, join_cat] at hJ
  generalize cat l = x at *
  obtain ⟨sx, hsx⟩ : ∃ s, (⟨x.toArray⟩ : ByteArray) = s := ⟨_, rfl⟩
  rw [hsx] at hJ
  have hzx : sx.size = x.length := by rw [← hsx, str_len]
  have hzl : sx.size ≤ 1048576 := by omega
  have hW1 := word_any x.length
  obtain ⟨s1, hs1⟩ : ∃ s, (⟨(four4 x.length).toArray⟩ : ByteArray) = s := ⟨_, rfl⟩
  have hz1 : s1.size ≤ 4 := by rw [← hs1, str_len]; exact Nat.le_refl _
  have hd1 : s1.data.toList = four4 x.length := by rw [← hs1]
  have hdx : sx.data.toList = x := by rw [← hsx]
  have hcat : cat [s1, sx] = four4 x.length ++ x := by simp [cat, hd1, hdx]
  have hcl := crc_lt (four4 x.length ++ x)
  obtain ⟨s2, hs2⟩ : ∃ s, (⟨(four4 (crc (four4 x.length ++ x))).toArray⟩ : ByteArray) = s := ⟨_, rfl⟩
  have hz2 : s2.size ≤ 4 := by rw [← hs2, str_len]; exact Nat.le_refl _
  have hfin : (⟨(frameL x).toArray⟩ : ByteArray) = s1 ++ s2 ++ sx := by
    rw [← hs1, ← hs2, ← hsx]
    apply ByteArray.ext
    apply Array.toList_inj.1
    simp [frameL]
  have HS := Lib.hid hS; clear hS
  have HF := Lib.hid hfin; clear hfin
  have H1 := Lib.hid hs1; clear hs1
  have H2 := Lib.hid hs2; clear hs2
  have HX := Lib.hid hsx; clear hsx
  have HZ := Lib.hid hzx; clear hzx
  have HC := Lib.hid hcat; clear hcat
  clear hd1 hdx hcells
  go_enter Tryd.func61, Tryd.ntmps61
  go_wp2_with fail
  refine hJ.mono ?_
  rintro z w1 ⟨rfl, hb1⟩
  have S1 := Lib.hid (HS.out.below hb1 HS.out.1)
  have B1 := Lib.hid hb1
  clear hJ hb1
  have h1' : (⟨(four4 sx.size).toArray⟩ : ByteArray) = s1 := by rw [HZ.out]; exact H1.out
  have hW2 := word_any sx.size (by omega) w1
  rw [h1'] at hW2
  clear h1'
  go_wp2_with fail
  refine hW2.mono ?_
  rintro z w2 ⟨rfl, hb2⟩
  have S2 := Lib.hid (S1.out.below hb2 S1.out.1)
  have B2 := Lib.hid (B1.out.trans (hb2.mono B1.out.size))
  clear hW2 hb2 S1 B1
  have hSm := sum_any [s1, sx] (some ⟨w2.heap.size, 0, none⟩) 2 (w2.alloc (.cells #[.string s1, .string sx] 9)) (S2.out.alloc _) (Lies.new w2 9 #[.string s1, .string sx] _ _ rfl rfl) (by simp) (by simp; omega)
  rw [HC.out] at hSm
  have hW3 := fun W => word_any (crc (four4 x.length ++ x)) hcl W
  rw [H2.out] at hW3
  go_wp2_with fail
  refine hSm.mono ?_
  rintro z w3 ⟨rfl, rfl⟩
  have B3 := Lib.hid (B2.out.alloc B2.out.size (.cells #[.string s1, .string sx] 9))
  clear hSm S2
  go_wp2_with fail
  refine (hW3 _).mono ?_
  rintro z w4 ⟨rfl, hb4⟩
  have B4 := Lib.hid (B3.out.trans (hb4.mono B3.out.size))
  clear hW3 hb4 B3
  go_wp2
  go_ret
  exact ⟨by rw [HF.out]; rfl, B4.out⟩
end Go.Proofs.YtniecodpdmjppaaDoor
