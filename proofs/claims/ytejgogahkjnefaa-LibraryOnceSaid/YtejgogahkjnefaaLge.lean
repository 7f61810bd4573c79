/- library.New: its walk. Written by gen_lge.py. -/
import Derived.Test.YtejgogahkjnefaaLgd
import Derived.Test.YtejgogahkjnefaaCl
namespace Go.Proofs.Ytejgogahkjnefaa
open Go.RowKit
set_option linter.unusedVariables false
set_option linter.unusedSimpArgs false

theorem info_pvol : (Try.prog.info? 44).map (fun i => (i.zero, i.size, i.bytes)) = some (some (.pointer none), 1, 8) := by kernel_rfl
theorem info_drive : (Try.prog.info? 47).map (fun i => (i.zero, i.size, i.bytes)) = some (some (.agg #[.int .i64 0, .int .i64 0, .int .i64 0, .bool false]), 4, 32) := by kernel_rfl
theorem ptrs_append (a b : List Nat) : ptrs (a ++ b) = ptrs a ++ ptrs b := by unfold ptrs; rw [List.map_append]
theorem ptrs_len (a : List Nat) : (ptrs a).length = a.length := by unfold ptrs; simp

/-- the rooms of the new volumes -/
def freshOf (l : List Int) : List VS := l.map fun r => VS.new (max r 0)
theorem freshOf_next {l : List Int} {k : Nat} (h : k < l.length) : freshOf (l.take (k + 1)) = freshOf (l.take k) ++ [VS.new (max l[k] 0)] := by
  unfold freshOf
  rw [List.take_succ_eq_append_getElem h, List.map_append]
  rfl
section
variable {w w' w'' : World} {B g : Nat} {v1 v2 : Value} {gs : List Nat} {ds : List Dr} {mv mt : Int}
/-- a volume more -/
theorem LibAt.moreV {v1' : Value} {gv : Nat} (h : LibAt w B g v1 v2 gs ds mv mt) (hg : w.grownBy w' v1.ownBlock) (ho : w'.ownsRow B 44 1 v1' (gs.length + 1) (ptrs gs ++ [.pointer (some ⟨gv, 0, none⟩)])) :
    LibAt (w'.setCell ⟨g, 0, none⟩ v1') B g v1' v2 (gs ++ [gv]) ds mv mt := by
  have n1 : v1.ownBlock ≠ some g := h.ne_vrow.1
  have hat : At w' g 43 #[v1, v2, .int .i64 mv, .int .i64 mt] := h.at_.grown hg (Ne.symm n1)
  refine ⟨hat.set 0 v1', ?_, ?_, h.gB⟩
  · rw [List.length_append, ptrs_append]
    refine row_keep ho fun k hk => far_heap w' g 0 v1' fun e => ?_
    subst e
    obtain ⟨cur, hc⟩ := row_at ho hk
    exact At.differ hat hc (by decide) rfl
  · refine row_keep h.drow fun k hk => ?_
    obtain ⟨n2, n3⟩ := h.ne_row hk
    rw [far_heap w' g 0 v1' n2]
    exact hg.block k (h.drow.lt k hk).2 (Ne.symm n3)
/-- a drive more -/
theorem LibAt.moreD {v2' : Value} {d : Dr} (h : LibAt w B g v1 v2 gs ds mv mt) (hg : w.grownBy w' v2.ownBlock) (ho : w'.ownsRow B 47 4 v2' (ds.length + 1) (drCells ds ++ d.cells.toList)) :
    LibAt (w'.setCell ⟨g, 1, none⟩ v2') B g v1 v2' gs (ds ++ [d]) mv mt := by
  have n1 : v2.ownBlock ≠ some g := h.ne_vrow.2
  have hat : At w' g 43 #[v1, v2, .int .i64 mv, .int .i64 mt] := h.at_.grown hg (Ne.symm n1)
  refine ⟨hat.set 1 v2', ?_, ?_, h.gB⟩
  · refine row_keep h.vrow fun k hk => ?_
    have n2 : k ≠ g := fun e => h.ne_vrow.1 (by rw [← e]; exact hk)
    rw [far_heap w' g 1 v2' n2]
    exact hg.block k (h.vrow.lt k hk).2 fun e => (h.ne_row e.symm).2 hk
  · rw [List.length_append, drCells_append]
    refine row_keep (by rw [show drCells [d] = d.cells.toList from List.append_nil _]; exact ho) fun k hk => far_heap w' g 1 v2' fun e => ?_
    subst e
    obtain ⟨cur, hc⟩ := row_at ho hk
    exact At.differ hat hc (by decide) rfl
theorem Vols.row {ss : List VS} {C n z : Nat} {e : TypeId} {v : Value} {xs : List Value} (h : Vols w B gs ss) (hr : w.ownsRow C e z v n xs) (h1 : e ≠ 56) (h2 : e ≠ 62) (hg : w.grownBy w' v.ownBlock) : Vols w' B gs ss := h.keep fun k hk => by
  have hlt : k < w.heap.size := by rcases hk with ⟨cs, hc⟩ | ⟨cs, hc⟩ <;> exact hc.lt
  refine hg.block k hlt fun e2 => ?_
  obtain ⟨cur, hc⟩ := row_at hr e2.symm
  rcases hk with ⟨cs2, hc2⟩ | ⟨cs2, hc2⟩
  · exact At.differ hc hc2 h1 rfl
  · exact At.differ hc hc2 h2 rfl
theorem Vols.cell {ss : List VS} {gl i : Nat} {cs : Array Value} (h : Vols w B gs ss) (hl : At w gl 43 cs) (u : Value) : Vols (w.setCell ⟨gl, i, none⟩ u) B gs ss := h.keep fun k hk => far_heap w gl i u fun e => by
  subst e
  rcases hk with ⟨cs2, hc2⟩ | ⟨cs2, hc2⟩ <;> exact At.differ hl hc2 (by decide) rfl
end

theorem grown_cell (w : World) (k i : Nat) (u : Value) : w.grownBy (w.setCell ⟨k, i, none⟩ u) (some k) := ⟨rfl, rfl, rfl, by simp [World.setCell], fun j hj hne => far_heap w k i u fun e => hne (by rw [e])⟩
set_option maxRecDepth 100000 in
set_option maxHeartbeats 4000000 in
theorem newlib_any (A : Option Addr) (c : Nat) (l : List Int) (nd : Int) (w : World) (hL : Lies w w.heap.size A (ints l)) (hl : ∀ x ∈ l, x ≤ 9223372036854775807) (hlen : l.length ≤ 1000) (k3 : Nat) (hk3 : max 0 (min nd 3) = (k3 : Int)) :
    Calls Try.prog 6 #[.slice A l.length c, .int .i64 nd] w fun e w' => ∃ g v1 v2 gs, e = .returned (.pointer (some ⟨g, 0, none⟩)) ∧ LibAt w' w.heap.size g v1 v2 gs (List.replicate k3 (Dr.no false)) 0 0 ∧ Vols w' w.heap.size gs (freshOf l) ∧ Below w.heap.size w w' := by
  obtain ⟨i0, hie, hz0, hz1, hz2⟩ := info_parts info_pvol
  obtain ⟨j0, jie, jz0, jz1, jz2⟩ := info_parts info_drive
  have HIE := Lib.hid hie
  have HZ0 := Lib.hid hz0
  have HZ1 := Lib.hid hz1
  have HZ2 := Lib.hid hz2
  have JIE := Lib.hid jie
  have JZ0 := Lib.hid jz0
  have JZ1 := Lib.hid jz1
  have JZ2 := Lib.hid jz2
  clear hie hz0 hz1 hz2 jie jz0 jz1 jz2
  obtain ⟨B, hB⟩ : ∃ B, w.heap.size = B := ⟨_, rfl⟩
  rw [hB] at hL ⊢
  have HL := Lib.hid hL
  clear hL
  have hk33 : k3 ≤ 3 := by omega
  go_enter Try.func6, Try.ntmps6
  go_upto_region 2 with fail
  have hl0 : LibAt (w.alloc (.cells #[.slice none 0 0, .slice none 0 0, .int .i64 0, .int .i64 0] 43)) B B (.slice none 0 0) (.slice none 0 0) [] [] 0 0 :=
    ⟨by rw [← hB]; exact At.new w _ _, World.ownsRow_nil _ _ _ _, World.ownsRow_nil _ _ _ _, Nat.le_refl _⟩
  have hb0 : Below B w (w.alloc (.cells #[.slice none 0 0, .slice none 0 0, .int .i64 0, .int .i64 0] 43)) := by rw [← hB]; exact (Below.refl _ w).alloc (Nat.le_refl _) _
  have hs0 : (w.alloc (.cells #[.slice none 0 0, .slice none 0 0, .int .i64 0, .int .i64 0] 43)).heap.size = B + 1 := by rw [← hB]; simp
  have HL0 := Lib.hid hl0
  have HB0 := Lib.hid hb0
  have hs1 : B ≤ (w.alloc (.cells #[.slice none 0 0, .slice none 0 0, .int .i64 0, .int .i64 0] 43)).heap.size := by omega
  have HVV := Lib.hid (Vols.nil (w.alloc (.cells #[.slice none 0 0, .slice none 0 0, .int .i64 0, .int .i64 0] 43)) B)
  clear hl0 hb0 hs0
  try rw [hB]
  generalize w.alloc (.cells #[.slice none 0 0, .slice none 0 0, .int .i64 0, .int .i64 0] 43) = w1 at *
  go_wp2
  go_loopw [12] (fun i wr => ∃ (k : Nat) (v1 : Value) (gs : List Nat), k ≤ l.length ∧ gs.length = k ∧ i = .int .i64 (k : Int) ∧ Hid (LibAt wr B B v1 (.slice none 0 0) gs [] 0 0) ∧ Hid (Vols wr B gs (freshOf (l.take k))) ∧ Hid (Below B w wr))
    (fun i _ => l.length - (intOf i).toNat)
  case atStart => exact ⟨0, _, [], by omega, rfl, rfl, HL0, HVV, HB0⟩
  case round =>
    clear HL0 HVV HB0
    obtain ⟨k, v1, gs, hk, hgs, rfl, HLB, HVS, HB⟩ := hrel
    have hwB : B ≤ wr.heap.size := by have := HB.out.size; omega
    by_cases hlt : k < l.length
    · have q0 : decide ((k : Int) < (l.length : Int)) = true := by simpa using hlt
      obtain ⟨ad, rfl, hadB, hc⟩ := (HL.out.below HB.out).round (k := k) (by simpa [ints] using hlt)
      have hval : ((ints l)[k]'(by simpa [ints] using hlt)) = .int .i64 (l[k]) := by simp [ints]
      rw [hval] at hc
      have hx := hl _ (List.getElem_mem hlt)
      have hfn := freshOf_next hlt
      clear hval
      generalize l[k] = x at *
      have hN := fun W => new_vol x (max x 0) hx rfl W
      have c0 : wr.cell? ⟨B, 0, none⟩ = some v1 := HLB.out.at_.cell 0
      have c0d : wr.drew.cell? ⟨B, 0, none⟩ = some v1 := HLB.out.at_.cell 0
      have HN := Lib.hid hN
      have HFN := Lib.hid hfn
      clear hN hfn
      go_upto_region 5 with fail
      go_region_law (first
        | (refine step_append_lies _ (by rfl) _ _ _ (by rfl) B 44 i0 _ 1 8 Try.underlying40 HIE.out HZ0.out HZ1.out HZ2.out rfl (by omega) v1 gs.length (ptrs gs) (by rfl) (h4.vrow.alloc _)
              ⟨w4.heap.size, 0, none⟩ 1 1 [.pointer (some ⟨gv, 0, none⟩)] (by rfl) (by rfl) (World.news_of_block (cs := #[.pointer (some ⟨gv, 0, none⟩)]) (t := 44) (fr := (0, 0)) (heap_alloc_new w4 _)) (by simp [Value.oneCell'])
              (by omega) (by unfold maxLen; omega) (by omega) (by simp; omega) (w4.heap.size + 1) (by simp) ?_; intro gg cap w5 hown hgrow hat hlt5; have hgr5 : (w4.alloc (.cells #[.pointer (some ⟨gv, 0, none⟩)] 44)).grownBy w5 v1.ownBlock := ⟨hgrow.os, hgrow.tape, hgrow.output, hgrow.size, hgrow.block⟩; have hA5 := (h4.at_.alloc (.cells #[.pointer (some ⟨gv, 0, none⟩)] 44)).grown hgr5 (Ne.symm h4.ne_vrow.1); have q5 : w5.cell? ⟨B, 0, none⟩ = some v1 := hA5.cell 0; have qf : w5.frozen? ⟨B, 0, none⟩ = false := hA5.frozen 0)
        | (go_simp; go_wp2_with (go_at_call 16; refine (HN.out _).mono ?_; rintro e w4 ⟨gv, rfl, hv4, hb4⟩; have h4 : LibAt w4 B B v1 (.slice none 0 0) gs [] 0 0 := HLB.out.below ⟨hb4.os, hb4.tape, hb4.output, hb4.size, hb4.block⟩; have c4 : w4.cell? ⟨B, 0, none⟩ = some v1 := h4.at_.cell 0; have c4a : ∀ o, (w4.alloc o).cell? ⟨B, 0, none⟩ = some v1 := fun o => (h4.at_.alloc o).cell 0; have hs4 : B ≤ w4.heap.size := Nat.le_trans hwB hb4.size)))
      all_goals
        have hb4' : Below wr.heap.size wr w4 := ⟨hb4.os, hb4.tape, hb4.output, hb4.size, hb4.block⟩
        have hV4 := HVS.out.made hwB hv4 hb4'
        have hV5 := (hV4.below ((Below.refl _ w4).alloc (Nat.le_refl _) (.cells #[.pointer (some ⟨gv, 0, none⟩)] 44))).row (h4.vrow.alloc _) (by decide) (by decide) hgr5
        have hL6 := (h4.below ((Below.refl _ w4).alloc (Nat.le_refl _) (.cells #[.pointer (some ⟨gv, 0, none⟩)] 44))).moreV hgr5 hown
        have hV6 := hV5.cell (i := 0) hA5 (.slice (some ⟨gg, 0, none⟩) (gs.length + 1) cap)
        have hb5 : Below B w w5 := ((HB.out.trans (hb4'.mono hwB)).alloc hs4 (.cells #[.pointer (some ⟨gv, 0, none⟩)] 44)).grown hgr5 (by simp; omega) fun k hk => (h4.vrow.lt k hk).1
        have hb6 := below_of_grownBy hb5 (grown_cell w5 B 0 (.slice (some ⟨gg, 0, none⟩) (gs.length + 1) cap)) (Nat.le_trans hs4 (by have := hgr5.size; simp at this; omega)) (Nat.le_refl _)
        rw [hgs] at hL6 hV6 hb6
        rw [← HFN.out] at hV6
        have HL6 := Lib.hid hL6
        have HV6 := Lib.hid hV6
        have HB6 := Lib.hid hb6
        clear hb4' hV4 hV5 hL6 hV6 hb5 hb6 hgr5 hA5 h4 hown hgrow hat hlt5 q5 qf hv4 hb4 HLB HVS HB HN HFN c0 c0d c4 c4a
        go_wp2
        go_roundw
        case rel => exact ⟨k + 1, _, gs ++ [gv], by omega, by rw [List.length_append, hgs]; rfl, by go_num, HL6, HV6, HB6⟩
        case measure => simp [intOf] <;> omega
    · have q0 : decide ((k : Int) < (l.length : Int)) = false := by simpa using hlt
      obtain rfl : k = l.length := by omega
      rw [List.take_length] at HVS
      have HJ0 : Hid (LibAt wr B B v1 (.slice none 0 0) gs (List.replicate 0 (Dr.no false)) 0 0) := HLB
      clear HLB
      go_upto_region 8 with fail
      · have e3 : (k3 : Int) = 3 := by omega
        go_loopw [31] (fun i wq => ∃ (j : Nat) (v2 : Value), j ≤ k3 ∧ i = .int .i64 (j : Int) ∧ Hid (LibAt wq B B v1 v2 gs (List.replicate j (Dr.no false)) 0 0) ∧ Hid (Vols wq B gs (freshOf l)) ∧ Hid (Below B w wq))
          (fun i _ => k3 - (intOf i).toNat)
        case atStart => exact ⟨0, _, by omega, rfl, HJ0, HVS, HB⟩
        case round =>
          clear HJ0 HVS HB
          obtain ⟨j, v2, hj, rfl, HLB, HVS, HB⟩ := hrel
          have hwB : B ≤ wr.heap.size := by have := HB.out.size; omega
          by_cases hjt : j < k3
          · have q1 : decide ((j : Int) < 3) = true := by simp <;> omega
            obtain ⟨D, hD⟩ : ∃ D, List.replicate j (Dr.no false) = D := ⟨_, rfl⟩
            have hDl : D.length = j := by rw [← hD]; simp
            have hD1 : List.replicate (j + 1) (Dr.no false) = D ++ [Dr.no false] := by rw [← hD, List.replicate_succ']
            rw [hD] at HLB
            have HD1 := Lib.hid hD1
            clear hD hD1
            have c0 : wr.cell? ⟨B, 1, none⟩ = some v2 := HLB.out.at_.cell 1
            have c0d : wr.drew.cell? ⟨B, 1, none⟩ = some v2 := HLB.out.at_.cell 1
            have hU : ∀ W, Calls Try.prog 17 #[.bool false] W fun e w' => e = .returned (.agg #[.int .i64 (-1), .int .i64 0, .int .i64 0, .bool false]) ∧ Below W.heap.size W w' := fun W => unused_any false W
            have HU := Lib.hid hU
            clear hU
            go_upto_region 9 with fail
            go_region_law (first
              | (refine step_append_lies _ (by rfl) _ _ _ (by rfl) B 47 j0 _ 4 32 Try.underlying41 JIE.out JZ0.out JZ1.out JZ2.out rfl (by omega) v2 D.length (drCells D) (by rfl) (h4.drow.alloc _)
                    ⟨w4.heap.size, 0, none⟩ 1 1 [.int .i64 (-1), .int .i64 0, .int .i64 0, .bool false] (by rfl) (by rfl) (World.news_of_block (cs := #[.int .i64 (-1), .int .i64 0, .int .i64 0, .bool false]) (t := 47) (fr := (0, 0)) (heap_alloc_new w4 _)) (by simp [Value.oneCell'])
                    (by omega) (by unfold maxLen; omega) (by omega) (by simp; omega) (w4.heap.size + 1) (by simp) ?_; intro gg cap w5 hown hgrow hat hlt5; have hgr5 : (w4.alloc (.cells #[.int .i64 (-1), .int .i64 0, .int .i64 0, .bool false] 47)).grownBy w5 v2.ownBlock := ⟨hgrow.os, hgrow.tape, hgrow.output, hgrow.size, hgrow.block⟩; have hA5 := (h4.at_.alloc (.cells #[.int .i64 (-1), .int .i64 0, .int .i64 0, .bool false] 47)).grown hgr5 (Ne.symm h4.ne_vrow.2); have q5 : w5.cell? ⟨B, 1, none⟩ = some v2 := hA5.cell 1; have qf : w5.frozen? ⟨B, 1, none⟩ = false := hA5.frozen 1)
              | (go_simp; go_wp2_with (go_at_call 17; refine (HU.out _).mono ?_; rintro e w4 ⟨rfl, hb4⟩; have h4 : LibAt w4 B B v1 v2 gs D 0 0 := HLB.out.below ⟨hb4.os, hb4.tape, hb4.output, hb4.size, hb4.block⟩; have c4 : w4.cell? ⟨B, 1, none⟩ = some v2 := h4.at_.cell 1; have c4a : ∀ o, (w4.alloc o).cell? ⟨B, 1, none⟩ = some v2 := fun o => (h4.at_.alloc o).cell 1; have hs4 : B ≤ w4.heap.size := Nat.le_trans hwB hb4.size)))
            all_goals
              have hb4' : Below wr.heap.size wr w4 := ⟨hb4.os, hb4.tape, hb4.output, hb4.size, hb4.block⟩
              have hV4 := HVS.out.below hb4'
              have hV5 := (hV4.below ((Below.refl _ w4).alloc (Nat.le_refl _) (.cells #[.int .i64 (-1), .int .i64 0, .int .i64 0, .bool false] 47))).row (h4.drow.alloc _) (by decide) (by decide) hgr5
              have hL6 := (h4.below ((Below.refl _ w4).alloc (Nat.le_refl _) (.cells #[.int .i64 (-1), .int .i64 0, .int .i64 0, .bool false] 47))).moreD (d := Dr.no false) hgr5 hown
              have hV6 := hV5.cell (i := 1) hA5 (.slice (some ⟨gg, 0, none⟩) (D.length + 1) cap)
              have hb5 : Below B w w5 := ((HB.out.trans (hb4'.mono hwB)).alloc hs4 (.cells #[.int .i64 (-1), .int .i64 0, .int .i64 0, .bool false] 47)).grown hgr5 (by simp; omega) fun k hk => (h4.drow.lt k hk).1
              have hb6 := below_of_grownBy hb5 (grown_cell w5 B 1 (.slice (some ⟨gg, 0, none⟩) (D.length + 1) cap)) (Nat.le_trans hs4 (by have := hgr5.size; simp at this; omega)) (Nat.le_refl _)
              rw [hDl] at hL6 hV6 hb6
              rw [← HD1.out] at hL6
              have HL6 := Lib.hid hL6
              have HV6 := Lib.hid hV6
              have HB6 := Lib.hid hb6
              clear hb4' hV4 hV5 hL6 hV6 hb5 hb6 hgr5 hA5 h4 hown hgrow hat hlt5 q5 qf hb4 HLB HVS HB HU HD1 c0 c0d c4 c4a
              go_wp2
              go_roundw
              case rel => exact ⟨j + 1, _, by omega, by go_num, HL6, HV6, HB6⟩
              case measure => simp [intOf] <;> omega
          · have q1 : decide ((j : Int) < 3) = false := by simp <;> omega
            obtain rfl : j = k3 := by omega
            go_wp2
            go_ret
            exact ⟨B, v1, v2, gs, rfl, HLB.out, HVS.out, HB.out⟩
      · have e3 : (k3 : Int) = nd := by omega
        go_loopw [31] (fun i wq => ∃ (j : Nat) (v2 : Value), j ≤ k3 ∧ i = .int .i64 (j : Int) ∧ Hid (LibAt wq B B v1 v2 gs (List.replicate j (Dr.no false)) 0 0) ∧ Hid (Vols wq B gs (freshOf l)) ∧ Hid (Below B w wq))
          (fun i _ => k3 - (intOf i).toNat)
        case atStart => exact ⟨0, _, by omega, rfl, HJ0, HVS, HB⟩
        case round =>
          clear HJ0 HVS HB
          obtain ⟨j, v2, hj, rfl, HLB, HVS, HB⟩ := hrel
          have hwB : B ≤ wr.heap.size := by have := HB.out.size; omega
          by_cases hjt : j < k3
          · have q1 : decide ((j : Int) < nd) = true := by simp <;> omega
            obtain ⟨D, hD⟩ : ∃ D, List.replicate j (Dr.no false) = D := ⟨_, rfl⟩
            have hDl : D.length = j := by rw [← hD]; simp
            have hD1 : List.replicate (j + 1) (Dr.no false) = D ++ [Dr.no false] := by rw [← hD, List.replicate_succ']
            rw [hD] at HLB
            have HD1 := Lib.hid hD1
            clear hD hD1
            have c0 : wr.cell? ⟨B, 1, none⟩ = some v2 := HLB.out.at_.cell 1
            have c0d : wr.drew.cell? ⟨B, 1, none⟩ = some v2 := HLB.out.at_.cell 1
            have hU : ∀ W, Calls Try.prog 17 #[.bool false] W fun e w' => e = .returned (.agg #[.int .i64 (-1), .int .i64 0, .int .i64 0, .bool false]) ∧ Below W.heap.size W w' := fun W => unused_any false W
            have HU := Lib.hid hU
            clear hU
            go_upto_region 9 with fail
            go_region_law (first
              | (refine step_append_lies _ (by rfl) _ _ _ (by rfl) B 47 j0 _ 4 32 Try.underlying41 JIE.out JZ0.out JZ1.out JZ2.out rfl (by omega) v2 D.length (drCells D) (by rfl) (h4.drow.alloc _)
                    ⟨w4.heap.size, 0, none⟩ 1 1 [.int .i64 (-1), .int .i64 0, .int .i64 0, .bool false] (by rfl) (by rfl) (World.news_of_block (cs := #[.int .i64 (-1), .int .i64 0, .int .i64 0, .bool false]) (t := 47) (fr := (0, 0)) (heap_alloc_new w4 _)) (by simp [Value.oneCell'])
                    (by omega) (by unfold maxLen; omega) (by omega) (by simp; omega) (w4.heap.size + 1) (by simp) ?_; intro gg cap w5 hown hgrow hat hlt5; have hgr5 : (w4.alloc (.cells #[.int .i64 (-1), .int .i64 0, .int .i64 0, .bool false] 47)).grownBy w5 v2.ownBlock := ⟨hgrow.os, hgrow.tape, hgrow.output, hgrow.size, hgrow.block⟩; have hA5 := (h4.at_.alloc (.cells #[.int .i64 (-1), .int .i64 0, .int .i64 0, .bool false] 47)).grown hgr5 (Ne.symm h4.ne_vrow.2); have q5 : w5.cell? ⟨B, 1, none⟩ = some v2 := hA5.cell 1; have qf : w5.frozen? ⟨B, 1, none⟩ = false := hA5.frozen 1)
              | (go_simp; go_wp2_with (go_at_call 17; refine (HU.out _).mono ?_; rintro e w4 ⟨rfl, hb4⟩; have h4 : LibAt w4 B B v1 v2 gs D 0 0 := HLB.out.below ⟨hb4.os, hb4.tape, hb4.output, hb4.size, hb4.block⟩; have c4 : w4.cell? ⟨B, 1, none⟩ = some v2 := h4.at_.cell 1; have c4a : ∀ o, (w4.alloc o).cell? ⟨B, 1, none⟩ = some v2 := fun o => (h4.at_.alloc o).cell 1; have hs4 : B ≤ w4.heap.size := Nat.le_trans hwB hb4.size)))
            all_goals
              have hb4' : Below wr.heap.size wr w4 := ⟨hb4.os, hb4.tape, hb4.output, hb4.size, hb4.block⟩
              have hV4 := HVS.out.below hb4'
              have hV5 := (hV4.below ((Below.refl _ w4).alloc (Nat.le_refl _) (.cells #[.int .i64 (-1), .int .i64 0, .int .i64 0, .bool false] 47))).row (h4.drow.alloc _) (by decide) (by decide) hgr5
              have hL6 := (h4.below ((Below.refl _ w4).alloc (Nat.le_refl _) (.cells #[.int .i64 (-1), .int .i64 0, .int .i64 0, .bool false] 47))).moreD (d := Dr.no false) hgr5 hown
              have hV6 := hV5.cell (i := 1) hA5 (.slice (some ⟨gg, 0, none⟩) (D.length + 1) cap)
              have hb5 : Below B w w5 := ((HB.out.trans (hb4'.mono hwB)).alloc hs4 (.cells #[.int .i64 (-1), .int .i64 0, .int .i64 0, .bool false] 47)).grown hgr5 (by simp; omega) fun k hk => (h4.drow.lt k hk).1
              have hb6 := below_of_grownBy hb5 (grown_cell w5 B 1 (.slice (some ⟨gg, 0, none⟩) (D.length + 1) cap)) (Nat.le_trans hs4 (by have := hgr5.size; simp at this; omega)) (Nat.le_refl _)
              rw [hDl] at hL6 hV6 hb6
              rw [← HD1.out] at hL6
              have HL6 := Lib.hid hL6
              have HV6 := Lib.hid hV6
              have HB6 := Lib.hid hb6
              clear hb4' hV4 hV5 hL6 hV6 hb5 hb6 hgr5 hA5 h4 hown hgrow hat hlt5 q5 qf hb4 HLB HVS HB HU HD1 c0 c0d c4 c4a
              go_wp2
              go_roundw
              case rel => exact ⟨j + 1, _, by omega, by go_num, HL6, HV6, HB6⟩
              case measure => simp [intOf] <;> omega
          · have q1 : decide ((j : Int) < nd) = false := by simp <;> omega
            obtain rfl : j = k3 := by omega
            go_wp2
            go_ret
            exact ⟨B, v1, v2, gs, rfl, HLB.out, HVS.out, HB.out⟩
      · have e3 : (k3 : Int) = 0 := by omega
        go_loopw [31] (fun i wq => ∃ (j : Nat) (v2 : Value), j ≤ k3 ∧ i = .int .i64 (j : Int) ∧ Hid (LibAt wq B B v1 v2 gs (List.replicate j (Dr.no false)) 0 0) ∧ Hid (Vols wq B gs (freshOf l)) ∧ Hid (Below B w wq))
          (fun i _ => k3 - (intOf i).toNat)
        case atStart => exact ⟨0, _, by omega, rfl, HJ0, HVS, HB⟩
        case round =>
          clear HJ0 HVS HB
          obtain ⟨j, v2, hj, rfl, HLB, HVS, HB⟩ := hrel
          have hwB : B ≤ wr.heap.size := by have := HB.out.size; omega
          by_cases hjt : j < k3
          · have q1 : decide ((j : Int) < 0) = true := by simp <;> omega
            obtain ⟨D, hD⟩ : ∃ D, List.replicate j (Dr.no false) = D := ⟨_, rfl⟩
            have hDl : D.length = j := by rw [← hD]; simp
            have hD1 : List.replicate (j + 1) (Dr.no false) = D ++ [Dr.no false] := by rw [← hD, List.replicate_succ']
            rw [hD] at HLB
            have HD1 := Lib.hid hD1
            clear hD hD1
            have c0 : wr.cell? ⟨B, 1, none⟩ = some v2 := HLB.out.at_.cell 1
            have c0d : wr.drew.cell? ⟨B, 1, none⟩ = some v2 := HLB.out.at_.cell 1
            have hU : ∀ W, Calls Try.prog 17 #[.bool false] W fun e w' => e = .returned (.agg #[.int .i64 (-1), .int .i64 0, .int .i64 0, .bool false]) ∧ Below W.heap.size W w' := fun W => unused_any false W
            have HU := Lib.hid hU
            clear hU
            go_upto_region 9 with fail
            go_region_law (first
              | (refine step_append_lies _ (by rfl) _ _ _ (by rfl) B 47 j0 _ 4 32 Try.underlying41 JIE.out JZ0.out JZ1.out JZ2.out rfl (by omega) v2 D.length (drCells D) (by rfl) (h4.drow.alloc _)
                    ⟨w4.heap.size, 0, none⟩ 1 1 [.int .i64 (-1), .int .i64 0, .int .i64 0, .bool false] (by rfl) (by rfl) (World.news_of_block (cs := #[.int .i64 (-1), .int .i64 0, .int .i64 0, .bool false]) (t := 47) (fr := (0, 0)) (heap_alloc_new w4 _)) (by simp [Value.oneCell'])
                    (by omega) (by unfold maxLen; omega) (by omega) (by simp; omega) (w4.heap.size + 1) (by simp) ?_; intro gg cap w5 hown hgrow hat hlt5; have hgr5 : (w4.alloc (.cells #[.int .i64 (-1), .int .i64 0, .int .i64 0, .bool false] 47)).grownBy w5 v2.ownBlock := ⟨hgrow.os, hgrow.tape, hgrow.output, hgrow.size, hgrow.block⟩; have hA5 := (h4.at_.alloc (.cells #[.int .i64 (-1), .int .i64 0, .int .i64 0, .bool false] 47)).grown hgr5 (Ne.symm h4.ne_vrow.2); have q5 : w5.cell? ⟨B, 1, none⟩ = some v2 := hA5.cell 1; have qf : w5.frozen? ⟨B, 1, none⟩ = false := hA5.frozen 1)
              | (go_simp; go_wp2_with (go_at_call 17; refine (HU.out _).mono ?_; rintro e w4 ⟨rfl, hb4⟩; have h4 : LibAt w4 B B v1 v2 gs D 0 0 := HLB.out.below ⟨hb4.os, hb4.tape, hb4.output, hb4.size, hb4.block⟩; have c4 : w4.cell? ⟨B, 1, none⟩ = some v2 := h4.at_.cell 1; have c4a : ∀ o, (w4.alloc o).cell? ⟨B, 1, none⟩ = some v2 := fun o => (h4.at_.alloc o).cell 1; have hs4 : B ≤ w4.heap.size := Nat.le_trans hwB hb4.size)))
            all_goals
              have hb4' : Below wr.heap.size wr w4 := ⟨hb4.os, hb4.tape, hb4.output, hb4.size, hb4.block⟩
              have hV4 := HVS.out.below hb4'
              have hV5 := (hV4.below ((Below.refl _ w4).alloc (Nat.le_refl _) (.cells #[.int .i64 (-1), .int .i64 0, .int .i64 0, .bool false] 47))).row (h4.drow.alloc _) (by decide) (by decide) hgr5
              have hL6 := (h4.below ((Below.refl _ w4).alloc (Nat.le_refl _) (.cells #[.int .i64 (-1), .int .i64 0, .int .i64 0, .bool false] 47))).moreD (d := Dr.no false) hgr5 hown
              have hV6 := hV5.cell (i := 1) hA5 (.slice (some ⟨gg, 0, none⟩) (D.length + 1) cap)
              have hb5 : Below B w w5 := ((HB.out.trans (hb4'.mono hwB)).alloc hs4 (.cells #[.int .i64 (-1), .int .i64 0, .int .i64 0, .bool false] 47)).grown hgr5 (by simp; omega) fun k hk => (h4.drow.lt k hk).1
              have hb6 := below_of_grownBy hb5 (grown_cell w5 B 1 (.slice (some ⟨gg, 0, none⟩) (D.length + 1) cap)) (Nat.le_trans hs4 (by have := hgr5.size; simp at this; omega)) (Nat.le_refl _)
              rw [hDl] at hL6 hV6 hb6
              rw [← HD1.out] at hL6
              have HL6 := Lib.hid hL6
              have HV6 := Lib.hid hV6
              have HB6 := Lib.hid hb6
              clear hb4' hV4 hV5 hL6 hV6 hb5 hb6 hgr5 hA5 h4 hown hgrow hat hlt5 q5 qf hb4 HLB HVS HB HU HD1 c0 c0d c4 c4a
              go_wp2
              go_roundw
              case rel => exact ⟨j + 1, _, by omega, by go_num, HL6, HV6, HB6⟩
              case measure => simp [intOf] <;> omega
          · have q1 : decide ((j : Int) < 0) = false := by simp <;> omega
            obtain rfl : j = k3 := by omega
            go_wp2
            go_ret
            exact ⟨B, v1, v2, gs, rfl, HLB.out, HVS.out, HB.out⟩
end Go.Proofs.Ytejgogahkjnefaa
