/- glacierlaw02.SealParts: its walk. -/
import Derived.Test.YtjpdfedebemjfaaDoorPr
namespace Go.Proofs.YtjpdfedebemjfaaDoor
open Go.RowKit
open Sm

set_option maxRecDepth 100000 in
set_option maxHeartbeats 4000000 in
theorem walk_parts (s0 : ByteArray) (a0 b0 : Int) (c : Nat) (hc : c < 256) (w : World) (hS : Steps w) :
    Calls Tryd.prog 7 #[.string s0, .int .i64 a0, .int .i64 b0, .int .u8 (c : Nat)] w fun e w' => e = .returned (.bool true) ∧ Below w.heap.size w w' := by
  have hs := cutTo_le s0 150
  have hC := cut_any s0 150 w
  obtain ⟨s, hs1⟩ : ∃ s, cutTo s0 150 = s := ⟨_, rfl⟩
  rw [hs1] at hs hC
  clear hs1
  have HS := Lib.hid hS; clear hS
  go_enter Tryd.func7, Tryd.ntmps7
  go_wp2_with fail
  refine hC.mono ?_
  rintro z w1 ⟨rfl, rfl⟩
  go_upto_region 4 with fail
  obtain ⟨a, ha0, ha1, hae⟩ := clamp_nat a0 0 s.size (by omega) (by omega)
  rw [hae]
  obtain ⟨b, hb0, hb1, hbe⟩ := clamp_nat b0 a s.size (by omega) ha1
  rw [hbe]
  clear hae hbe hC
  have hab : a ≤ b := by omega
  have hbs : b ≤ s.size := by omega
  obtain ⟨p1, hp1⟩ : ∃ p, s.extract 0 a = p := ⟨_, rfl⟩
  obtain ⟨p2, hp2⟩ : ∃ p, s.extract a b = p := ⟨_, rfl⟩
  obtain ⟨p3, hp3⟩ : ∃ p, s.extract b s.size = p := ⟨_, rfl⟩
  obtain ⟨p4, hp4⟩ : ∃ p, s.extract a s.size = p := ⟨_, rfl⟩
  have hcp := cat_parts s a b hab hbs
  have hch := cat_halves s a (by omega)
  rw [hp1, hp2, hp3] at hcp
  rw [hp1, hp4] at hch
  have hz1 : p1.size ≤ 150 := by rw [← hp1, ByteArray.size_extract]; omega
  have hz2 : p2.size ≤ 150 := by rw [← hp2, ByteArray.size_extract]; omega
  have hz3 : p3.size ≤ 150 := by rw [← hp3, ByteArray.size_extract]; omega
  obtain ⟨v, hv⟩ : ∃ v, crc s.data.toList = v := ⟨_, rfl⟩
  obtain ⟨c1, hc1⟩ : ∃ x : ByteArray, x = ⟨#[UInt8.ofNat c]⟩ := ⟨_, rfl⟩
  have hcz : c1.size ≤ 150 := by rw [hc1]; exact (by omega : 1 ≤ 150)
  have hcc : cat [s, c1] = cat [s ++ c1] := by simp [cat]
  obtain ⟨u, hu⟩ : ∃ u, crc (cat [s, c1]) = u := ⟨_, rfl⟩
  obtain ⟨F, hF⟩ : ∃ F, (⟨(frameL s.data.toList).toArray⟩ : ByteArray) = F := ⟨_, rfl⟩
  have hsl : s.data.toList.length ≤ 150 := by rw [size_list]; exact hs
  have K1 := Lib.hid (sum_cells [s] 1 rfl v (by rw [cat_one]; exact hv) (by omega) (by simp; omega))
  have K3 := Lib.hid (sum_cells [p1, p2, p3] 3 rfl v (by rw [hcp]; exact hv) (by omega) (by simp; omega))
  have K2 := Lib.hid (sum_cells [s, c1] 2 rfl u hu (by omega) (by simp; omega))
  have K4 := Lib.hid (sum_cells [s ++ c1] 1 rfl u (by rw [← hcc]; exact hu) (by omega) (by simp; omega))
  have M2 := Lib.hid (frame_cells [p1, p4] 2 rfl (by omega) F (by rw [hch]; exact hF) (by rw [hch]; omega) (by omega))
  have M1 := Lib.hid (frame_cells [s] 1 rfl (by omega) F (by rw [cat_one]; exact hF) (by rw [cat_one]; omega) (by omega))
  have HA := Lib.hid (fun W (h : Steps W) => awake_any W h)
  have hcv : ∀ (W : World) (G : Nat), W.cell? ⟨G, 0, none⟩ = some (.int .u8 (c : Int)) → (convert 45 9 (.slice (some ⟨G, 0, none⟩) 1 1)).run Tryd.prog W = .ok (.string c1) W := fun W G hG => by
    have h := run_convert_bytes_back (P := Tryd.prog) W 45 9 5 ⟨G, 0, none⟩ 1 [UInt8.ofNat c] Tryd.underlying45 Tryd.underlying5 Tryd.underlying9 (fun j hj => by
      have hj0 : j = 0 := by simp at hj; exact hj
      subst hj0
      have e : (⟨G, 0, none⟩ : Addr).add 0 = ⟨G, 0, none⟩ := by simp [Addr.add]
      rw [e, hG]
      simp
      omega)
    rw [hc1]
    exact h
  clear hcp hch hv hu hF hcc hc1
  go_wp2_with fail
  refine (K1.out _ w.heap.size (HS.out.alloc _) (cells1 (by simp))).mono ?_
  rintro z w2 ⟨rfl, rfl⟩
  have hh0 : Held w (w.alloc (.cells #[.string s] 9)) := held_alloc ⟨HS.out, Below.refl _ w⟩ _
  have hhd := Lib.hid (held_drew hh0)
  have E : Env w s p1 p2 p3 p4 c1 F a b c v u := ⟨⟨hp1, hp2, hp3, hp4, ha0, ha1, hb0, hb1, hab, hbs, hs, hcz⟩, HA.out, K3.out, K2.out, K4.out, M2.out, M1.out, hcv⟩
  generalize w.alloc (.cells #[.string s] 9) = w2 at *
  clear hh0 HA K3 K2 K4 M2 M1 K1 hcv hp1 hp2 hp3 hp4
  go_wp2_with fail
  refine wp_region_noPanic ?_
  refine wp_region_held (S := fun _ => True) (by kernel_rfl) ?_
  refine parts.reg_29 (fun _ _ _ _ _ h => h) (fun g12 g20 g22 g26 g29 g40 g43 W hh => NoPanic.normal ?_) E _ hhd.out
  go_wp2
  go_ret
  exact ⟨rfl, hh.2⟩
end Go.Proofs.YtjpdfedebemjfaaDoor
