/- Grc: merged (a claim holds few files). -/
import Derived.Test.YtejgogahkjnefaaDoorMG1
import Derived.Test.YtejgogahkjnefaaDoorMG2
import Derived.Test.YtejgogahkjnefaaDoorCu
import Derived.Test.YtejgogahkjnefaaDoorVb
/- glaciertop.GlacierRoom: its walk. Written by gen_gr.py. -/
namespace Go.Proofs.YtejgogahkjnefaaDoor
open Go.RowKit Go.Sort
open Sm
open Pm (Key Fi St Files)
set_option linter.unusedVariables false
set_option linter.unusedSimpArgs false

theorem lies_str {w : World} {B : Nat} {A : Option Addr} {l : List ByteArray} (h : Lies w B A (l.map Value.string)) {k : Nat} (hk : k < l.length) : ∃ ad, A = some ad ∧ ad.block < B ∧ w.cell? (ad.add k) = some (.string l[k]) := by
  obtain ⟨ad, h1, h2, h3⟩ := h.round (k := k) (by simpa using hk)
  exact ⟨ad, h1, h2, by rw [h3]; simp⟩
theorem DV.made {w1 w2 w3 : World} {g m gv : Nat} {rm : Int} {s : VS} (h : Has w2 w1.heap.size g m rm false 0 []) (hv : Vol w3 w2.heap.size gv s) (hb : Below w2.heap.size w2 w3) : DV w3 w1.heap.size w2.heap.size g gv m rm (Pm.oneF none) s := by
  obtain ⟨us, G, hd, he⟩ := h.below hb
  exact ⟨⟨us, G, hd, he⟩, hv⟩

set_option maxRecDepth 100000 in
set_option maxHeartbeats 4000000 in
theorem walk_room (room : Int) (A : Option Addr) (c : Nat) (l : List ByteArray) (w : World) (hS : Steps w) (hL : Lies w w.heap.size A (l.map Value.string)) (hlen : l.length ≤ 9223372036854775807) :
    Calls Tryd.prog 6 #[.int .i64 room, .slice A l.length c] w fun e w' => e = .returned (.bool true) ∧ Below w.heap.size w w' := by
  have HL := Lib.hid hL; clear hL
  by_cases hr : room < 0 ∨ 500 < room
  · have HS := Lib.hid hS
    clear hS
    have hcs : room < 0 ∨ (¬ room < 0 ∧ 500 < room) := by omega
    rcases hcs with hneg | ⟨hneg, hbig⟩
    all_goals
      go_enter Tryd.func6, Tryd.ntmps6
      go_wp2_with fail
      refine (live_any w HS.out).mono ?_
      rintro e w1 ⟨rfl, hb1⟩
      have hS1 := HS.out.below hb1 HS.out.1
      go_wp2_with fail
      refine (live_any w1 hS1).mono ?_
      rintro e w2 ⟨rfl, hb2⟩
      have fin := Lib.hid (hb1.trans (hb2.mono hb1.size))
      clear hb1 hb2 hS1
      go_wp2
      go_ret
      exact ⟨rfl, fin.out⟩
  · have hr0 : 0 ≤ room := by omega
    have hr1 : room ≤ 500 := by omega
    clear hr
    have n1 : decide (room < 0) = false := by simpa using hr0
    have n2 : decide (500 < room) = false := by simpa using hr1
    go_enter Tryd.func6, Tryd.ntmps6
    go_wp2_with fail
    refine (live_any w hS).mono ?_
    rintro e w1 ⟨rfl, hb1⟩
    go_wp2_with fail
    refine (new_any room room (by omega) (by omega) w1).mono ?_
    rintro e w2 ⟨g, m, rfl, hD2, hb2⟩
    go_wp2_with fail
    refine (new_vol room room (by omega) (by omega) w2).mono ?_
    rintro e w3 ⟨gv, rfl, h3, hb3⟩
    have hx3 := DV.made hD2 h3 hb3
    have hsB : w.heap.size ≤ w1.heap.size := hb1.size
    have hsC : w1.heap.size ≤ w2.heap.size := hb2.size
    have hsW : w2.heap.size ≤ w3.heap.size := hb3.size
    have HB3 := Lib.hid ((hb1.trans (hb2.mono hsB)).trans (hb3.mono (by omega)))
    have HX3 := Lib.hid hx3
    clear h3 hb1 hb2 hb3 hD2 hx3 hS
    have HW : Hid (∀ W, Below w.heap.size w W → w.heap.size ≤ W.heap.size) := Lib.hid fun W h => h.size
    generalize hBe : w1.heap.size = B at *
    generalize w2.heap.size = C at *
    generalize hG : w.heap.size = G at *
    have HG := Lib.hid hG; clear hG
    have hBC : G ≤ C := by omega
    have hGB : G ≤ B := by omega
    have HBE := Lib.hid hBe; clear hBe
    go_wp2
    go_loopw [7] (fun i wr => ∃ (k : Nat) (o : Option (List UInt8)) (s : VS), k ≤ l.length ∧ k ≤ 20 ∧ i = .int .i64 (k : Int) ∧ s.l.length ≤ k ∧ Hid (s.Fresh room) ∧ Hid (DV wr B C g gv m room (Pm.oneF o) s) ∧ Hid (Below G w wr))
      (fun i _ => 20 - (intOf i).toNat)
    case atStart => exact ⟨0, none, VS.new room, by omega, by omega, rfl, Nat.zero_le _, Lib.hid (.new room), HX3, HB3⟩
    case round =>
      clear HX3 HB3
      obtain ⟨k, o, s, hk, hk20, rfl, hsl, HF, HX, HB⟩ := hrel
      obtain ⟨a, ha⟩ : ∃ a, (Pm.oneT o).length = a := ⟨_, rfl⟩
      obtain ⟨b, hb⟩ : ∃ b, wsum s.l = b := ⟨_, rfl⟩
      have HAL := Lib.hid ha
      have HBL := Lib.hid hb
      have hsa : (a : Int) ≤ room := by have := HX.out.sum; rw [Pm.used_one, ha] at this; exact this
      have hsb : (b : Int) ≤ room := by have := HX.out.vol.1.sum; rw [HF.out.rm, hb] at this; exact this
      clear ha hb
      by_cases hlt : k < l.length ∧ k < 20
      · obtain ⟨hlt, h20⟩ := hlt
        have n3 : decide ((k : Int) < 20) = true := by simp; omega
        have n4 : decide ((k : Int) < (l.length : Int)) = true := by simp; omega
        obtain ⟨ad, rfl, _, hc⟩ := lies_str (HL.out.below HB.out) hlt
        generalize l[k] = x at *
        have hC := cut_any x 60 wr
        have hz := cutTo_le x 60
        generalize cutTo x 60 = t at *
        have hBw : B ≤ wr.heap.size := by
          obtain ⟨us, G, hd, _⟩ := HX.out.disk
          have := hd.gB
          have := hd.at_.lt
          omega
        have hUd := fun n => HX.out.below (below_drewN (Below.refl _ wr) n) |>.used
        have hUv := fun n => used_vol (HX.out.below (below_drewN (Below.refl _ wr) n)).vol
        rw [Pm.used_one, HAL.out] at hUd
        rw [HBL.out] at hUv
        have HUD := Lib.hid hUd
        have HUV := Lib.hid hUv
        clear hUd hUv
        go_wp2_with fail
        refine hC.mono ?_
        rintro e w3 ⟨rfl, rfl⟩
        clear hC
        go_upto_region 8 with fail
        go_quiet (first
          | (go_at_call_of 25 (Value.pointer (some ⟨g, 0, none⟩)); exact Calls.quiet_of_same ((HUD.out _).mono fun _ _ h => ⟨h.1, h.2⟩))
          | (go_at_call_of 25 (Value.pointer (some ⟨gv, 0, none⟩)); exact Calls.quiet_of_same ((HUV.out _).mono fun _ _ h => ⟨h.1, h.2.symm⟩)))
        have HX := Lib.hid (HX.out.below (below_drewN (Below.refl _ wr) nq))
        have HB := Lib.hid (HB.out.trans ((below_drewN (Below.refl _ wr) nq).mono (by omega)))
        have hBw : B ≤ (wr.drewN nq).heap.size := hBw
        clear HUD HUV hc
        generalize wr.drewN nq = wq at *
        by_cases hfd : room < ((a : Int) + t.size)
        · by_cases hfv : room < (b : Int) + (t.size + 4 : Nat)
          · have hA := dv_append HX.out hBw t (by omega) (by omega) 7 o (by rw [HAL.out]; exact .inl ⟨hfd, rfl, rfl⟩)
            have d1 : decide ((a : Int) + (t.size : Int) ≤ room) = false := by simp; omega
            have d2 : decide ((b : Int) + (t.size : Int) + 4 ≤ room) = false := by simp; omega
            go_upto_region 9 with fail
            go_wp2_with fail
            refine hA.mono ?_
            rintro e w4 ⟨rfl, hx4, hb4⟩
            have hW := write_vol hx4.vol t (by omega) (by omega)
            rw [HF.out.add] at hW
            have hwt : Blk.wt ⟨t, false, false⟩ = t.size + 4 := rfl
            rw [hwt, HBL.out, if_pos (by omega)] at hW
            have HX4 := Lib.hid hx4
            have HB4 := Lib.hid (HB.out.trans (hb4.mono hGB))
            clear hA hb4 hx4 hwt HX HB
            go_wp2_with fail
            refine hW.mono ?_
            rintro e w5 ⟨rfl, h5, st5⟩
            have HF5 := HF
            have HX5 := Lib.hid (HX4.out.wrote h5 st5)
            have HB5 := Lib.hid (HB4.out.trans (st5.below.mono hBC))
            clear hW HX4 HB4 h5 st5
            have hU := HX5.out.used
            rw [Pm.used_one, HAL.out] at hU
            have hV := used_vol HX5.out.vol
            rw [HBL.out] at hV
            go_wp2_with fail
            refine hU.mono ?_
            rintro e w6 ⟨rfl, rfl⟩
            go_wp2_with fail
            refine hV.mono ?_
            rintro e w7 ⟨rfl, rfl⟩
            go_wp2
            go_roundw
            case rel => exact ⟨k + 1, o, s, by omega, by omega, by go_num, by omega, HF5, HX5, HB5⟩
            case measure => simp [intOf]; omega
          · have hA := dv_append HX.out hBw t (by omega) (by omega) 7 o (by rw [HAL.out]; exact .inl ⟨hfd, rfl, rfl⟩)
            have d1 : decide ((a : Int) + (t.size : Int) ≤ room) = false := by simp; omega
            have d2 : decide ((b : Int) + (t.size : Int) + 4 ≤ room) = true := by simp; omega
            go_upto_region 9 with fail
            go_wp2_with fail
            refine hA.mono ?_
            rintro e w4 ⟨rfl, hx4, hb4⟩
            have hW := write_vol hx4.vol t (by omega) (by omega)
            rw [HF.out.add] at hW
            have hwt : Blk.wt ⟨t, false, false⟩ = t.size + 4 := rfl
            rw [hwt, HBL.out, if_neg (by omega)] at hW
            have HX4 := Lib.hid hx4
            have HB4 := Lib.hid (HB.out.trans (hb4.mono hGB))
            clear hA hb4 hx4 hwt HX HB
            go_wp2_with fail
            refine hW.mono ?_
            rintro e w5 ⟨rfl, h5, st5⟩
            have h5 : Vol w5 C gv { s with l := s.l ++ [Blk.mk t false false], pos := s.pos + 1 } := h5
            have HF5 : Hid (VS.Fresh { s with l := s.l ++ [Blk.mk t false false], pos := s.pos + 1 } room) := Lib.hid (HF.out.more ⟨t, false, false⟩ rfl)
            have HX5 := Lib.hid (HX4.out.wrote h5 st5)
            have HB5 := Lib.hid (HB4.out.trans (st5.below.mono hBC))
            clear hW HX4 HB4 h5 st5
            have hU := HX5.out.used
            rw [Pm.used_one, HAL.out] at hU
            go_wp2_with fail
            refine hU.mono ?_
            rintro e w6 ⟨rfl, rfl⟩
            go_wp2
            go_roundw
            case rel => exact ⟨k + 1, o, { s with l := s.l ++ [Blk.mk t false false], pos := s.pos + 1 }, by omega, by omega, by go_num, by show (s.l ++ [Blk.mk t false false]).length ≤ k + 1; rw [List.length_append]; simp; omega, HF5, HX5, HB5⟩
            case measure => simp [intOf]; omega
        · by_cases hfv : room < (b : Int) + (t.size + 4 : Nat)
          · have hA := dv_append HX.out hBw t (by omega) (by omega) 0 (some (Pm.oneT o ++ t.data.toList)) (by rw [HAL.out]; exact .inr ⟨hfd, rfl, rfl⟩)
            have d1 : decide ((a : Int) + (t.size : Int) ≤ room) = true := by simp; omega
            have d2 : decide ((b : Int) + (t.size : Int) + 4 ≤ room) = false := by simp; omega
            go_upto_region 9 with fail
            go_wp2_with fail
            refine hA.mono ?_
            rintro e w4 ⟨rfl, hx4, hb4⟩
            have hW := write_vol hx4.vol t (by omega) (by omega)
            rw [HF.out.add] at hW
            have hwt : Blk.wt ⟨t, false, false⟩ = t.size + 4 := rfl
            rw [hwt, HBL.out, if_pos (by omega)] at hW
            have HX4 := Lib.hid hx4
            have HB4 := Lib.hid (HB.out.trans (hb4.mono hGB))
            clear hA hb4 hx4 hwt HX HB
            go_wp2_with fail
            refine hW.mono ?_
            rintro e w5 ⟨rfl, h5, st5⟩
            have HF5 := HF
            have HX5 := Lib.hid (HX4.out.wrote h5 st5)
            have HB5 := Lib.hid (HB4.out.trans (st5.below.mono hBC))
            clear hW HX4 HB4 h5 st5
            have hV := used_vol HX5.out.vol
            rw [HBL.out] at hV
            go_wp2_with fail
            refine hV.mono ?_
            rintro e w7 ⟨rfl, rfl⟩
            go_wp2
            go_roundw
            case rel => exact ⟨k + 1, (some (Pm.oneT o ++ t.data.toList)), s, by omega, by omega, by go_num, by omega, HF5, HX5, HB5⟩
            case measure => simp [intOf]; omega
          · have hA := dv_append HX.out hBw t (by omega) (by omega) 0 (some (Pm.oneT o ++ t.data.toList)) (by rw [HAL.out]; exact .inr ⟨hfd, rfl, rfl⟩)
            have d1 : decide ((a : Int) + (t.size : Int) ≤ room) = true := by simp; omega
            have d2 : decide ((b : Int) + (t.size : Int) + 4 ≤ room) = true := by simp; omega
            go_upto_region 9 with fail
            go_wp2_with fail
            refine hA.mono ?_
            rintro e w4 ⟨rfl, hx4, hb4⟩
            have hW := write_vol hx4.vol t (by omega) (by omega)
            rw [HF.out.add] at hW
            have hwt : Blk.wt ⟨t, false, false⟩ = t.size + 4 := rfl
            rw [hwt, HBL.out, if_neg (by omega)] at hW
            have HX4 := Lib.hid hx4
            have HB4 := Lib.hid (HB.out.trans (hb4.mono hGB))
            clear hA hb4 hx4 hwt HX HB
            go_wp2_with fail
            refine hW.mono ?_
            rintro e w5 ⟨rfl, h5, st5⟩
            have h5 : Vol w5 C gv { s with l := s.l ++ [Blk.mk t false false], pos := s.pos + 1 } := h5
            have HF5 : Hid (VS.Fresh { s with l := s.l ++ [Blk.mk t false false], pos := s.pos + 1 } room) := Lib.hid (HF.out.more ⟨t, false, false⟩ rfl)
            have HX5 := Lib.hid (HX4.out.wrote h5 st5)
            have HB5 := Lib.hid (HB4.out.trans (st5.below.mono hBC))
            clear hW HX4 HB4 h5 st5
            go_wp2
            go_roundw
            case rel => exact ⟨k + 1, (some (Pm.oneT o ++ t.data.toList)), { s with l := s.l ++ [Blk.mk t false false], pos := s.pos + 1 }, by omega, by omega, by go_num, by show (s.l ++ [Blk.mk t false false]).length ≤ k + 1; rw [List.length_append]; simp; omega, HF5, HX5, HB5⟩
            case measure => simp [intOf]; omega
      · have hex : (¬ k < l.length) ∨ (k < l.length ∧ ¬ k < 20) := by omega
        have hU := HX.out.used
        have hV := used_vol HX.out.vol
        rw [Pm.used_one, HAL.out] at hU
        rw [HBL.out] at hV
        have fin := Lib.hid HB.out
        have d1 : decide ((a : Int) ≤ room) = true := by simpa using hsa
        have d2 : decide ((b : Int) ≤ room) = true := by simpa using hsb
        clear HX HB HF
        rcases hex with x1 | ⟨x1, x2⟩
        all_goals
          go_wp2_with fail
          refine hU.mono ?_
          rintro e w6 ⟨rfl, rfl⟩
          go_wp2_with fail
          refine hV.mono ?_
          rintro e w7 ⟨rfl, rfl⟩
          go_wp2
          go_ret
          exact ⟨rfl, by first | exact fin.out | (rw [HG.out]; exact fin.out)⟩
end Go.Proofs.YtejgogahkjnefaaDoor
