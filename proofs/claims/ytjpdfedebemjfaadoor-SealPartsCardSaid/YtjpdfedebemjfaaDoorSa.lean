/- glacierlaw02.awake: its walk. -/
import Derived.Test.YtjpdfedebemjfaaDoorSl
namespace Go.Proofs.YtjpdfedebemjfaaDoor
open Go.RowKit
open Sm

theorem crc_check : crc [49, 50, 51, 52, 53, 54, 55, 56, 57] = 3421780262 := by decide +kernel

/-- Frame of texts in a new block -/
theorem frame_new (l : List ByteArray) (cs : Array Value) (n g : Nat) (w : World) (hn : l.length = n) (hcs : cs.toList = strs l) (hg : g = w.heap.size) (hS : Steps w) (hlen : (cat l).length ≤ 1048576) (hl : l.length ≤ 1000) :
    Calls Tryd.prog 19 #[.slice (some ⟨g, 0, none⟩) n n] (w.alloc (.cells cs 9)) fun e w' => e = .returned (.string ⟨(frameL (cat l)).toArray⟩) ∧ Below (w.alloc (.cells cs 9)).heap.size (w.alloc (.cells cs 9)) w' := by
  subst hn; subst hg
  refine frame_any l w.heap.size l.length _ (hS.alloc _) (Nat.le_refl _) (by simp) (fun j x hj => ?_) hlen hl
  rw [Nat.zero_add, (At.new w 9 cs).cell, ← Array.getElem?_toList, hcs]
  unfold strs
  rw [List.getElem?_map, hj]
  rfl
/-- Sum of texts in a new block -/
theorem sum_new (l : List ByteArray) (cs : Array Value) (n g : Nat) (w : World) (hn : l.length = n) (hcs : cs.toList = strs l) (hg : g = w.heap.size) (hS : Steps w) (hl : l.length ≤ 1000) (hz : ∀ s ∈ l, s.size ≤ 9223372036854775807) :
    Calls Tryd.prog 17 #[.slice (some ⟨g, 0, none⟩) n n] (w.alloc (.cells cs 9)) fun e w' => e = .returned (.int .u32 (crc (cat l) : Nat)) ∧ w.alloc (.cells cs 9) = w' := by
  subst hn; subst hg
  exact sum_any l _ _ _ (hS.alloc _) (Lies.new w 9 cs (strs l) _ rfl hcs) (by omega) hz

set_option maxRecDepth 100000 in
set_option maxHeartbeats 2000000 in
theorem awake_any (w : World) (hS : Steps w) : Calls Tryd.prog 15 #[] w fun e w' => e = .returned (.bool true) ∧ Below w.heap.size w w' := by
  have hF := frame_new [⟨#[97]⟩] #[.string ⟨#[97]⟩] 1 w.heap.size w rfl rfl rfl hS (by simp [cat]) (by simp)
  have e1 : cat [⟨#[97]⟩] = [97] := rfl
  rw [e1] at hF
  obtain ⟨F, hFr⟩ : ∃ F, (⟨(frameL [97]).toArray⟩ : ByteArray) = F := ⟨_, rfl⟩
  have hFl : F.data.toList = frameL [97] ++ [] := by rw [← hFr]; simp
  have hFz : F.size = 9 := by rw [← hFr, str_len, frameL_len]; rfl
  rw [hFr] at hF
  have hO := fun W hS => open_any F (by omega) W hS
  rw [hFl, open_frame [97] [] (by simp)] at hO
  have hS1 := fun W (h : Steps W) => sum_new [⟨#[49, 50, 51, 52, 53, 54, 55, 56, 57]⟩] #[.string ⟨#[49, 50, 51, 52, 53, 54, 55, 56, 57]⟩] 1 W.heap.size W rfl rfl rfl h (by simp) (by decide +kernel)
  have hS2 := fun W g (hg : g = W.heap.size) (h : Steps W) => sum_new [⟨#[49, 50, 51, 52]⟩, ⟨#[]⟩, ⟨#[53, 54, 55, 56, 57]⟩] #[.string ⟨#[49, 50, 51, 52]⟩, .string ⟨#[]⟩, .string ⟨#[53, 54, 55, 56, 57]⟩] 3 g W rfl rfl hg h (by simp) (by decide +kernel)
  have c1 : crc (cat [⟨#[49, 50, 51, 52, 53, 54, 55, 56, 57]⟩]) = 3421780262 := by
    have e : cat [⟨#[49, 50, 51, 52, 53, 54, 55, 56, 57]⟩] = [49, 50, 51, 52, 53, 54, 55, 56, 57] := by simp [cat]
    rw [e]; exact crc_check
  have c2 : crc (cat [⟨#[49, 50, 51, 52]⟩, ⟨#[]⟩, ⟨#[53, 54, 55, 56, 57]⟩]) = 3421780262 := by
    have e : cat [⟨#[49, 50, 51, 52]⟩, ⟨#[]⟩, ⟨#[53, 54, 55, 56, 57]⟩] = [49, 50, 51, 52, 53, 54, 55, 56, 57] := by simp [cat]
    rw [e]; exact crc_check
  have d1 : ((crc (cat [⟨#[49, 50, 51, 52, 53, 54, 55, 56, 57]⟩]) : Nat) : Int) = 3421780262 := by rw [c1]; rfl
  have d2 : ((crc (cat [⟨#[49, 50, 51, 52]⟩, ⟨#[]⟩, ⟨#[53, 54, 55, 56, 57]⟩]) : Nat) : Int) = 3421780262 := by rw [c2]; rfl
  rw [d1] at hS1
  rw [d2] at hS2
  clear d1 d2
  have HS := Lib.hid hS; clear hS
  have H1 := Lib.hid hS1; clear hS1
  have H2 := Lib.hid hS2; clear hS2
  have HO := Lib.hid hO; clear hO
  clear e1 c1 c2 hFr hFl hFz
  unfold OpenRet at HO
  go_enter Tryd.func15, Tryd.ntmps15
  go_wp2_with fail
  refine hF.mono ?_
  rintro z w1 ⟨rfl, hb1⟩
  have B1 := Lib.hid (((Below.refl w.heap.size w).alloc (Nat.le_refl _) (.cells #[.string ⟨#[97]⟩] 9)).trans (hb1.mono (by simp)))
  have S1 := Lib.hid (HS.out.below B1.out HS.out.1)
  clear hF hb1
  go_wp2_with fail
  refine (HO.out w1 S1.out).mono ?_
  rintro z w2 ⟨rfl, hb2⟩
  have B2 := Lib.hid (B1.out.trans (hb2.mono B1.out.size))
  have S2 := Lib.hid (S1.out.below hb2 S1.out.1)
  clear hb2 B1 S1 HO
  go_wp2_with fail
  refine (H1.out w2 S2.out).mono ?_
  rintro z w3 ⟨rfl, rfl⟩
  go_wp2_with fail
  refine (H2.out _ (w2.heap.size + 1) (by simp) (S2.out.alloc _)).mono ?_
  rintro z w4 ⟨rfl, rfl⟩
  have B3 := Lib.hid ((B2.out.alloc B2.out.size (.cells #[.string ⟨#[49, 50, 51, 52, 53, 54, 55, 56, 57]⟩] 9)).alloc (by have := B2.out.size; simp; omega) (.cells #[.string ⟨#[49, 50, 51, 52]⟩, .string ⟨#[]⟩, .string ⟨#[53, 54, 55, 56, 57]⟩] 9))
  clear H1 H2
  go_wp2
  go_ret
  exact ⟨rfl, B3.out⟩
end Go.Proofs.YtjpdfedebemjfaaDoor
