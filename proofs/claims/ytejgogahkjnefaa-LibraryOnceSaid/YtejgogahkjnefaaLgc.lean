/- library.Mount: its walk. -/
import Derived.Test.YtejgogahkjnefaaLgb
namespace Go.Proofs.Ytejgogahkjnefaa
open Go.RowKit
set_option linter.unusedVariables false
set_option linter.unusedSimpArgs false
section
variable {w w' : World} {B g : Nat} {v1 v2 : Value} {gs : List Nat} {ds : List Dr} {mv mt : Int}

theorem LibAt.ne_row (h : LibAt w B g v1 v2 gs ds mv mt) {k : Nat} (hk : v2.ownBlock = some k) : k ≠ g ∧ v1.ownBlock ≠ some k := by
  obtain ⟨cur, hc⟩ := row_at h.drow hk
  refine ⟨At.differ hc h.at_ (by decide), fun e => ?_⟩
  obtain ⟨cur2, hc2⟩ := row_at h.vrow e
  exact At.differ hc hc2 (by decide) rfl
theorem LibAt.ne_vrow (h : LibAt w B g v1 v2 gs ds mv mt) : v1.ownBlock ≠ some g ∧ v2.ownBlock ≠ some g := by
  refine ⟨fun e => ?_, fun e => ?_⟩
  · obtain ⟨cur2, hc2⟩ := row_at h.vrow e
    exact At.differ h.at_ hc2 (by decide) rfl
  · obtain ⟨cur2, hc2⟩ := row_at h.drow e
    exact At.differ h.at_ hc2 (by decide) rfl
theorem far_heap (w : World) (k i : Nat) (u : Value) {b : Nat} (hb : b ≠ k) : (w.setCell ⟨k, i, none⟩ u).heap[b]? = w.heap[b]? := Below.heap_setCell w ⟨k, i, none⟩ u b hb
theorem LibAt.store {kd c n j : Nat} (h : LibAt w B g v1 (.slice (some ⟨kd, 0, none⟩) ds.length c) gs ds mv mt) (hn : n < ds.length) (hj : j < 4) (x : Dr) (u : Value) (hx : x.cells.toList = ds[n].cells.toList.set j u) :
    LibAt (w.setCell ⟨kd, n * 4 + j, none⟩ u) B g v1 (.slice (some ⟨kd, 0, none⟩) ds.length c) gs (ds.set n x) mv mt ∧ Shift w (w.setCell ⟨kd, n * 4 + j, none⟩ u) (LFoot g (.slice (some ⟨kd, 0, none⟩) ds.length c)) := by
  obtain ⟨n1, n2⟩ := h.ne_row (k := kd) rfl
  refine ⟨⟨(far_heap w kd _ u (Ne.symm n1)).trans h.at_, row_keep h.vrow fun k hk => far_heap w kd _ u (fun e => n2 (by rw [← e]; exact hk)), ?_, h.gB⟩, ?_⟩
  · have hs := h.drow.stored (n * 4 + j) u
    rw [drCells_set ds n j hn x u hj hx] at hs
    rw [List.length_set]
    exact hs.1
  · exact ⟨rfl, rfl, rfl, by simp [World.setCell], fun k _ hk => far_heap w kd _ u (fun e => hk (.inr (by rw [e]; rfl)))⟩
theorem LibAt.driveN {k c N : Nat} (hN : ds.length = N) (h : LibAt w B g v1 (.slice (some ⟨k, 0, none⟩) N c) gs ds mv mt) {j : Nat} (hj : j < ds.length) : w.rangeAt k (j * 4) ds[j].cells.toList := by subst hN; exact h.drive hj
theorem LibAt.frozenN {k c N : Nat} (hN : ds.length = N) (h : LibAt w B g v1 (.slice (some ⟨k, 0, none⟩) N c) gs ds mv mt) (j : Nat) : w.frozen? ⟨k, j, none⟩ = false := by subst hN; exact h.drow.frozenAt j
theorem LibAt.storeN {kd c n j N : Nat} (hN : ds.length = N) (h : LibAt w B g v1 (.slice (some ⟨kd, 0, none⟩) N c) gs ds mv mt) (hn : n < ds.length) (hj : j < 4) (x : Dr) (u : Value) (hx : x.cells.toList = ds[n].cells.toList.set j u) :
    LibAt (w.setCell ⟨kd, n * 4 + j, none⟩ u) B g v1 (.slice (some ⟨kd, 0, none⟩) N c) gs (ds.set n x) mv mt ∧ Shift w (w.setCell ⟨kd, n * 4 + j, none⟩ u) (LFoot g (.slice (some ⟨kd, 0, none⟩) N c)) := by subst hN; exact h.store hn hj x u hx
theorem LibAt.number (h : LibAt w B g v1 v2 gs ds mv mt) (mv' mt' : Int) (i : Nat) (u : Value) (hx : (#[v1, v2, .int .i64 mv, .int .i64 mt] : Array Value).setIfInBounds i u = #[v1, v2, .int .i64 mv', .int .i64 mt']) :
    LibAt (w.setCell ⟨g, i, none⟩ u) B g v1 v2 gs ds mv' mt' ∧ Shift w (w.setCell ⟨g, i, none⟩ u) (LFoot g v2) := by
  obtain ⟨n1, n2⟩ := h.ne_vrow
  refine ⟨⟨?_, row_keep h.vrow fun k hk => far_heap w g _ u (fun e => n1 (by rw [← e]; exact hk)), row_keep h.drow fun k hk => far_heap w g _ u (fun e => n2 (by rw [← e]; exact hk)), h.gB⟩, ?_⟩
  · have := h.at_.set i u
    rw [hx] at this
    exact this
  · exact ⟨rfl, rfl, rfl, by simp [World.setCell], fun k _ hk => far_heap w g _ u (fun e => hk (.inl e))⟩
theorem LibAt.drewN (h : LibAt w B g v1 v2 gs ds mv mt) (n : Nat) : LibAt (w.drewN n) B g v1 v2 gs ds mv mt := h.below (below_drewN (Below.refl _ w) n)
end

theorem set_twice {ds ds6 : List Dr} {n : Nat} {v : Int} (hn : n < ds.length) (h : ds.set n { ds[n] with vol := v } = ds6) (m : Int) (h6 : n < ds6.length) : ds.set n { ds[n] with vol := v, last := m } = ds6.set n { ds6[n] with last := m } := by
  subst h
  simp
theorem set_once {ds ds6 : List Dr} {n : Nat} (hn : n < ds.length) (h : ds = ds6) (m : Int) (h6 : n < ds6.length) : ds.set n { ds[n] with last := m } = ds6.set n { ds6[n] with last := m } := by
  subst h
  rfl
structure MR where
  i : Int
  e : Int
  ds : List Dr
  mv : Int
  mt : Int
def drOf (ds : List Dr) (i : Int) : Dr := ds.getD i.toNat (.no false)
def mountF (n : Nat) (ds : List Dr) (mv mt v : Int) : MR :=
  if 0 ≤ v ∧ v < n then
    if inF ds v = -1 then
      if nextF ds = -1 then ⟨-1, 10, ds, mv, mt⟩
      else ⟨nextF ds, 0, ds.set (nextF ds).toNat { drOf ds (nextF ds) with vol := v, last := mt + 1 }, mv + 1, mt + 1⟩
    else ⟨inF ds v, 0, ds.set (inF ds v).toNat { drOf ds (inF ds v) with last := mt + 1 }, mv, mt + 1⟩
  else ⟨-1, 1, ds, mv, mt⟩
def MountEnds (w : World) (B g : Nat) (v1 v2 : Value) (gs : List Nat) (r : MR) (e : Ending) (w' : World) : Prop :=
  e = .returned (.tuple #[.int .i64 r.i, .int .i64 r.e]) ∧ LibAt w' B g v1 v2 gs r.ds r.mv r.mt ∧ Shift w w' (LFoot g v2)
/-- the volumes are not lost -/
def Here (w : World) (gs : List Nat) : Prop := ∀ i (h : i < gs.length), ∃ C s, Vol w C gs[i] s ∧ s.lo = false

section
variable {w : World} {B g : Nat} {v1 v2 : Value} {gs : List Nat} {ds : List Dr} {mv mt : Int}
theorem Here.below {w' : World} (h : Here w gs) (hb : Below w.heap.size w w') : Here w' gs := fun i hi => by
  obtain ⟨C, s, hv, hl⟩ := h i hi
  exact ⟨C, s, hv.below hb, hl⟩
theorem Here.shift {w' : World} {gs' : List Nat} (h : Here w gs') (hl : LibAt w B g v1 v2 gs ds mv mt) (hm : Shift w w' (LFoot g v2)) : Here w' gs' := fun i hi => by
  obtain ⟨C, s, hv, hlo⟩ := h i hi
  exact ⟨C, s, hl.vol hm hv, hlo⟩

theorem lost_vol {C gv : Nat} {s : VS} (h : Vol w C gv s) (hlo : s.lo = false) : Calls Try.prog 19 #[.pointer (some ⟨gv, 2, none⟩)] w fun e w' => e = .returned (.bool false) ∧ w' = w := by
  obtain ⟨ok, v, hv⟩ := h
  have := lost_any (hv.luck ok)
  rw [hlo] at this
  exact this

set_option maxRecDepth 100000 in
set_option maxHeartbeats 2000000 in
theorem mount_any (h : LibAt w B g v1 v2 gs ds mv mt) (hB : B ≤ w.heap.size) (hh : Here w gs) (hlen : ds.length ≤ 1000) (hmv : 0 ≤ mv ∧ mv ≤ 1000000000000) (hmt : 0 ≤ mt ∧ mt ≤ 1000000000000) (v : Int) :
    Calls Try.prog 7 #[.pointer (some ⟨g, 0, none⟩), .int .i64 v] w (MountEnds w B g v1 v2 gs (mountF gs.length ds mv mt v)) := by
  have hH := has_any h v
  by_cases hv : 0 ≤ v ∧ v < gs.length
  · obtain ⟨vi, rfl⟩ : ∃ vi : Nat, v = (vi : Int) := ⟨v.toNat, by omega⟩
    have hvi : vi < gs.length := by omega
    have hq : (decide ((0 : Int) ≤ (vi : Int)) && decide ((vi : Int) < (gs.length : Int))) = true := by simp; omega
    rw [hq] at hH
    obtain ⟨A1, c1, rfl, hc1, hA1⟩ := row_slice h.vrow
    obtain ⟨kv, rfl⟩ := hA1 (by omega)
    obtain ⟨C, s, hvol, hlo⟩ := hh vi hvi
    have hL := lost_vol hvol hlo
    have hI := in_any h (vi : Int) hlen
    have z0 : w.cell? ⟨g, 0, none⟩ = some (.slice (some ⟨kv, 0, none⟩) gs.length c1) := h.at_.cell 0
    have z1 : w.cell? ⟨kv, vi, none⟩ = some (.pointer (some ⟨gs[vi], 0, none⟩)) := by
      have := h.volume hvi
      rw [Addr.add_mid, Nat.zero_add] at this
      exact this
    have hIle := inF_le ds (vi : Int)
    have hNle := nextUp_le ds ds.length
    have hM : mountF gs.length ds mv mt (vi : Int) = if inF ds (vi : Int) = -1 then
      if nextF ds = -1 then ⟨-1, 10, ds, mv, mt⟩
      else ⟨nextF ds, 0, ds.set (nextF ds).toNat { drOf ds (nextF ds) with vol := (vi : Int), last := mt + 1 }, mv + 1, mt + 1⟩
      else ⟨inF ds (vi : Int), 0, ds.set (inF ds (vi : Int)).toNat { drOf ds (inF ds (vi : Int)) with last := mt + 1 }, mv, mt + 1⟩ := if_pos hv
    rw [hM]
    generalize gs[vi] = gv at *
    have H := Lib.hid h
    have HL := Lib.hid hL
    have HI := Lib.hid hI
    clear hM h hL hI hh hvol hlo hv hq
    by_cases hin : inF ds (vi : Int) = -1
    · rw [if_pos hin]
      rw [hin] at HI
      by_cases hnx : nextF ds = -1
      · rw [if_pos hnx]
        go_enter Try.func7, Try.ntmps7
        go_wp2_with fail
        refine hH.mono ?_
        rintro e w1 ⟨rfl, rfl⟩
        clear hH
        go_wp2_with fail
        refine HL.out.mono ?_
        rintro e w2 ⟨rfl, rfl⟩
        go_wp2_with fail
        refine HI.out.mono ?_
        rintro e w3 ⟨rfl, hb3⟩
        have h3 := H.out.below hb3
        have hN := next_any h3 hlen
        rw [hnx] at hN
        have H3 := Lib.hid h3
        have HB3 := Lib.hid hb3
        clear h3 hb3 z0 z1
        go_wp2_with fail
        refine hN.mono ?_
        rintro e w4 ⟨rfl, hb4⟩
        have H4 := Lib.hid (H3.out.below hb4)
        have S4 : Hid (Shift w2 w4 (LFoot g v2)) := Lib.hid (Shift.of_below (HB3.out.trans (hb4.mono HB3.out.size)))
        clear hb4 hN H3 HB3
        go_wp2
        go_ret2
        exact ⟨rfl, H4.out, S4.out⟩
      · rw [if_neg hnx]
        obtain ⟨n, hn⟩ : ∃ n : Nat, nextF ds = (n : Int) := ⟨(nextF ds).toNat, by have : nextF ds = nextUp ds ds.length := rfl; omega⟩
        have hnl : n < ds.length := by have : nextF ds = nextUp ds ds.length := rfl; omega
        obtain ⟨A2, c2, rfl, hc2, hA2⟩ := row_slice H.out.drow
        obtain ⟨kd, rfl⟩ := hA2 (by omega)
        have hdo : drOf ds (nextF ds) = ds[n] := by unfold drOf; rw [hn, Int.toNat_natCast, List.getD_eq_getElem?_getD, List.getElem?_eq_getElem hnl]; rfl
        rw [hdo, hn, Int.toNat_natCast]
        go_enter Try.func7, Try.ntmps7
        go_wp2_with fail
        refine hH.mono ?_
        rintro e w1 ⟨rfl, rfl⟩
        clear hH
        go_wp2_with fail
        refine HL.out.mono ?_
        rintro e w2 ⟨rfl, rfl⟩
        go_wp2_with fail
        refine HI.out.mono ?_
        rintro e w3 ⟨rfl, hb3⟩
        have h3 := H.out.below hb3
        have hN := next_any h3 hlen
        rw [hn] at hN
        have H3 := Lib.hid h3
        have HB3 := Lib.hid hb3
        clear h3 hb3 z0 z1
        go_wp2_with fail
        refine hN.mono ?_
        rintro e w4 ⟨rfl, hb4⟩
        have h4 := H3.out.below hb4
        have s4 : Shift w2 w4 (LFoot g (.slice (some ⟨kd, 0, none⟩) ds.length c2)) := Shift.of_below (HB3.out.trans (hb4.mono HB3.out.size))
        obtain ⟨h5, s5⟩ := h4.store hnl (j := 0) (by omega) { ds[n] with vol := (vi : Int) } (.int .i64 (vi : Int)) rfl
        have y1 : w4.cell? ⟨g, 1, none⟩ = some (.slice (some ⟨kd, 0, none⟩) ds.length c2) := h4.at_.cell 1
        have y2 := h4.drive hnl 0 _ rfl
        have y3 : w4.frozen? ⟨kd, n * 4 + 0, none⟩ = false := h4.drow.frozenAt _
        have H5 := Lib.hid h5
        have S5 := Lib.hid (s4.trans s5)
        clear h4 h5 hb4 hN H3 HB3 s4 s5
        simp only [Nat.add_zero] at y2 y3 H5 S5
        have k2 : (w4.setCell ⟨kd, n * 4, none⟩ (.int .i64 (vi : Int))).cell? ⟨g, 2, none⟩ = some (.int .i64 mv) := H5.out.at_.cell 2
        have k2f : (w4.setCell ⟨kd, n * 4, none⟩ (.int .i64 (vi : Int))).frozen? ⟨g, 2, none⟩ = false := H5.out.at_.frozen 2
        have hvw : IntKind.i64.wrap (mv + 1) = mv + 1 := IntWalk.i64_in _ ⟨by omega, by omega⟩
        go_upto_region 11 with fail
        generalize w4.setCell ⟨kd, n * 4, none⟩ (.int .i64 (vi : Int)) = w5 at *
        obtain ⟨h6, s6⟩ := H5.out.number (mv + 1) mt 2 (.int .i64 (mv + 1)) rfl
        have H6 := Lib.hid h6
        have S6 := Lib.hid (S5.out.trans s6)
        have m3 : (w5.setCell ⟨g, 2, none⟩ (.int .i64 (mv + 1))).cell? ⟨g, 3, none⟩ = some (.int .i64 mt) := h6.at_.cell 3
        have m3f : (w5.setCell ⟨g, 2, none⟩ (.int .i64 (mv + 1))).frozen? ⟨g, 3, none⟩ = false := h6.at_.frozen 3
        have hmw : IntKind.i64.wrap (mt + 1) = mt + 1 := IntWalk.i64_in _ ⟨by omega, by omega⟩
        clear h6 s6 H5 S5 y1 y2 y3
        go_upto_region 12 with fail
        generalize w5.setCell ⟨g, 2, none⟩ (.int .i64 (mv + 1)) = w6 at *
        clear k2 k2f
        obtain ⟨ds6, hd6⟩ : ∃ d, ds.set n { ds[n] with vol := (vi : Int) } = d := ⟨_, rfl⟩
        obtain ⟨mv6, hm6⟩ : ∃ d, mv + 1 = d := ⟨_, rfl⟩
        have hN6 : ds6.length = ds.length := by rw [← hd6, List.length_set]
        have hx6 := set_twice hnl hd6 (mt + 1) (by omega)
        rw [hd6, hm6] at H6
        have HX6 := Lib.hid hx6
        have HM6 := Lib.hid hm6
        clear hx6 hd6 hm6
        have m3 : w6.cell? ⟨g, 3, none⟩ = some (.int .i64 mt) := H6.out.at_.cell 3
        have m3f : w6.frozen? ⟨g, 3, none⟩ = false := H6.out.at_.frozen 3
        have hmw : IntKind.i64.wrap (mt + 1) = mt + 1 := IntWalk.i64_in _ ⟨by omega, by omega⟩
        obtain ⟨h7, s7⟩ := H6.out.number mv6 (mt + 1) 3 (.int .i64 (mt + 1)) rfl
        have H7 := Lib.hid h7
        have S7 := Lib.hid (S6.out.trans s7)
        clear h7 s7 H6 S6
        go_upto_region 13 with fail
        generalize w6.setCell ⟨g, 3, none⟩ (.int .i64 (mt + 1)) = w7 at *
        clear m3 m3f
        have n3 : w7.cell? ⟨g, 3, none⟩ = some (.int .i64 (mt + 1)) := H7.out.at_.cell 3
        have n1 : w7.cell? ⟨g, 1, none⟩ = some (.slice (some ⟨kd, 0, none⟩) ds.length c2) := H7.out.at_.cell 1
        have y2 : w7.cell? ⟨kd, n * 4 + 1, none⟩ = some (.int .i64 ds6[n].last) := H7.out.driveN hN6 (by omega) 1 _ rfl
        have y3 : w7.frozen? ⟨kd, n * 4 + 1, none⟩ = false := H7.out.frozenN hN6 _
        go_region
        obtain ⟨h8, s8⟩ := H7.out.storeN hN6 (by omega : n < ds6.length) (j := 1) (by omega) { ds6[n] with last := mt + 1 } (.int .i64 (mt + 1)) rfl
        have H8 := Lib.hid (h8.below (Below.drew (Below.refl _ _)))
        have S8 := Lib.hid ((S7.out.trans s8).trans (Shift.of_below (Below.drew (Below.refl _ _))))
        clear h8 s8 H7 S7 n3 n1 y2 y3
        go_wp2
        go_ret2
        exact ⟨rfl, by show LibAt _ B g _ _ gs (ds.set n { ds[n] with vol := (vi : Int), last := mt + 1 }) (mv + 1) (mt + 1); rw [HX6.out, HM6.out]; exact H8.out, S8.out⟩
    · rw [if_neg hin]
      obtain ⟨n, hn⟩ : ∃ n : Nat, inF ds (vi : Int) = (n : Int) := ⟨(inF ds (vi : Int)).toNat, by omega⟩
      have hnl : n < ds.length := by omega
      obtain ⟨A2, c2, rfl, hc2, hA2⟩ := row_slice H.out.drow
      obtain ⟨kd, rfl⟩ := hA2 (by omega)
      have hdo : drOf ds (inF ds (vi : Int)) = ds[n] := by unfold drOf; rw [hn, Int.toNat_natCast, List.getD_eq_getElem?_getD, List.getElem?_eq_getElem hnl]; rfl
      rw [hdo, hn, Int.toNat_natCast]
      rw [hn] at HI
      have q3 : ((n : Int) == -1) = false := by simp
      clear hin hIle hNle hdo
      go_enter Try.func7, Try.ntmps7
      go_wp2_with fail
      refine hH.mono ?_
      rintro e w1 ⟨rfl, rfl⟩
      clear hH
      go_wp2_with fail
      refine HL.out.mono ?_
      rintro e w2 ⟨rfl, rfl⟩
      go_wp2_with fail
      refine HI.out.mono ?_
      rintro e w6 ⟨rfl, hb3⟩
      have H6 := Lib.hid (H.out.below hb3)
      have S6 : Hid (Shift w2 w6 (LFoot g (.slice (some ⟨kd, 0, none⟩) ds.length c2))) := Lib.hid (Shift.of_below hb3)
      clear hb3 z0 z1 HL HI
      obtain ⟨ds6, hd6⟩ : ∃ d, ds = d := ⟨_, rfl⟩
      obtain ⟨mv6, hm6⟩ : ∃ d, mv = d := ⟨_, rfl⟩
      have hN6 : ds6.length = ds.length := by rw [hd6]
      have hx6 := set_once hnl hd6 (mt + 1) (by omega)
      have H6 : Hid (LibAt w6 B g (.slice (some ⟨kv, 0, none⟩) gs.length c1) (.slice (some ⟨kd, 0, none⟩) ds.length c2) gs ds6 mv6 mt) := Lib.hid (by have := H6.out; rw [← hm6]; rw [← hd6]; exact this)
      have HX6 := Lib.hid hx6
      have HM6 := Lib.hid hm6
      clear hx6 hd6 hm6
      go_upto_region 12 with fail
      have m3 : w6.cell? ⟨g, 3, none⟩ = some (.int .i64 mt) := H6.out.at_.cell 3
      have m3f : w6.frozen? ⟨g, 3, none⟩ = false := H6.out.at_.frozen 3
      have hmw : IntKind.i64.wrap (mt + 1) = mt + 1 := IntWalk.i64_in _ ⟨by omega, by omega⟩
      obtain ⟨h7, s7⟩ := H6.out.number mv6 (mt + 1) 3 (.int .i64 (mt + 1)) rfl
      have H7 := Lib.hid h7
      have S7 := Lib.hid (S6.out.trans s7)
      clear h7 s7 H6 S6
      go_upto_region 13 with fail
      generalize w6.setCell ⟨g, 3, none⟩ (.int .i64 (mt + 1)) = w7 at *
      clear m3 m3f
      have n3 : w7.cell? ⟨g, 3, none⟩ = some (.int .i64 (mt + 1)) := H7.out.at_.cell 3
      have n1 : w7.cell? ⟨g, 1, none⟩ = some (.slice (some ⟨kd, 0, none⟩) ds.length c2) := H7.out.at_.cell 1
      have y2 : w7.cell? ⟨kd, n * 4 + 1, none⟩ = some (.int .i64 ds6[n].last) := H7.out.driveN hN6 (by omega) 1 _ rfl
      have y3 : w7.frozen? ⟨kd, n * 4 + 1, none⟩ = false := H7.out.frozenN hN6 _
      go_region
      obtain ⟨h8, s8⟩ := H7.out.storeN hN6 (by omega : n < ds6.length) (j := 1) (by omega) { ds6[n] with last := mt + 1 } (.int .i64 (mt + 1)) rfl
      have H8 := Lib.hid (h8.below (Below.drew (Below.refl _ _)))
      have S8 := Lib.hid ((S7.out.trans s8).trans (Shift.of_below (Below.drew (Below.refl _ _))))
      clear h8 s8 H7 S7 n3 n1 y2 y3
      go_wp2
      go_ret2
      exact ⟨rfl, by show LibAt _ B g _ _ gs (ds.set n { ds[n] with last := mt + 1 }) mv (mt + 1); rw [HX6.out, HM6.out]; exact H8.out, S8.out⟩
  · have hq : (decide ((0 : Int) ≤ v) && decide (v < gs.length)) = false := by
      by_cases h0 : 0 ≤ v
      · have : ¬ v < gs.length := fun e => hv ⟨h0, e⟩
        simp [this]
      · simp [h0]
    rw [hq] at hH
    rw [show mountF gs.length ds mv mt v = ⟨-1, 1, ds, mv, mt⟩ from if_neg hv]
    have H := Lib.hid h
    clear h hv hq hh
    go_enter Try.func7, Try.ntmps7
    go_wp2_with fail
    refine hH.mono ?_
    rintro e w1 ⟨rfl, rfl⟩
    clear hH
    go_wp2
    go_ret2
    exact ⟨rfl, H.out, Shift.refl _ _⟩
end
end Go.Proofs.Ytejgogahkjnefaa
