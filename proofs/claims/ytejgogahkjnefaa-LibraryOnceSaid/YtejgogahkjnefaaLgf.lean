/- library.Moves, Len, Hold; glacierlaw08.awake: their walks. -/
import Derived.Test.YtejgogahkjnefaaLge
namespace Go.Proofs.Ytejgogahkjnefaa
open Go.RowKit
set_option linter.unusedVariables false
set_option linter.unusedSimpArgs false
section
variable {w : World} {B g : Nat} {v1 v2 : Value} {gs : List Nat} {ds : List Dr} {mv mt : Int}
set_option maxRecDepth 100000 in
theorem moves_any (h : LibAt w B g v1 v2 gs ds mv mt) : Calls Try.prog 14 #[.pointer (some ⟨g, 0, none⟩)] w fun e w' => e = .returned (.int .i64 mv) ∧ w = w' := by
  have c2 : w.cell? ⟨g, 2, none⟩ = some (.int .i64 mv) := h.at_.cell 2
  clear h
  go_enter Try.func14, Try.ntmps14
  go_wp2
  go_ret
  exact ⟨rfl, rfl⟩
set_option maxRecDepth 100000 in
theorem liblen_any (h : LibAt w B g v1 v2 gs ds mv mt) : Calls Try.prog 15 #[.pointer (some ⟨g, 0, none⟩)] w fun e w' => e = .returned (.int .i64 (gs.length : Nat)) ∧ w = w' := by
  obtain ⟨A, c, rfl, hc, hA⟩ := row_slice h.vrow
  have c0 : w.cell? ⟨g, 0, none⟩ = some (.slice A gs.length c) := h.at_.cell 0
  clear h
  go_enter Try.func15, Try.ntmps15
  go_wp2
  go_ret
  exact ⟨rfl, rfl⟩

theorem mountF_ok (n : Nat) (ds : List Dr) (mv mt v : Int) : (mountF n ds mv mt v).ds.length = ds.length ∧ ((mountF n ds mv mt v).e = 0 → 0 ≤ (mountF n ds mv mt v).i ∧ (mountF n ds mv mt v).i < ds.length) := by
  have h1 := inF_le ds v
  have h2 : -1 ≤ nextF ds ∧ nextF ds < ds.length := nextUp_le ds ds.length
  unfold mountF
  split
  · split
    · split
      · exact ⟨rfl, fun h => by simp at h⟩
      · exact ⟨by simp, fun _ => by show 0 ≤ nextF ds ∧ nextF ds < _; omega⟩
    · exact ⟨by simp, fun _ => by show 0 ≤ inF ds v ∧ inF ds v < _; omega⟩
  · exact ⟨rfl, fun h => by simp at h⟩
theorem mountF_e (n : Nat) (ds : List Dr) (mv mt v : Int) : (mountF n ds mv mt v).e = 0 ∨ (mountF n ds mv mt v).e = 1 ∨ (mountF n ds mv mt v).e = 10 := by
  unfold mountF
  split
  · split
    · split
      · exact .inr (.inr rfl)
      · exact .inl rfl
    · exact .inl rfl
  · exact .inr (.inl rfl)
/-- Hold -/
def holdF (n : Nat) (ds : List Dr) (mv mt v : Int) : MR :=
  if (mountF n ds mv mt v).e = 0 then { mountF n ds mv mt v with ds := (mountF n ds mv mt v).ds.set (mountF n ds mv mt v).i.toNat { drOf (mountF n ds mv mt v).ds (mountF n ds mv mt v).i with holds := (drOf (mountF n ds mv mt v).ds (mountF n ds mv mt v).i).holds + 1 } }
  else mountF n ds mv mt v
def HoldEnds (w : World) (B g : Nat) (v1 v2 : Value) (gs : List Nat) (r : MR) (e : Ending) (w' : World) : Prop :=
  e = .returned (.int .i64 r.e) ∧ LibAt w' B g v1 v2 gs r.ds r.mv r.mt ∧ Shift w w' (LFoot g v2)

set_option maxRecDepth 100000 in
set_option maxHeartbeats 1000000 in
theorem hold_any (h : LibAt w B g v1 v2 gs ds mv mt) (hB : B ≤ w.heap.size) (hh : Here w gs) (hlen : ds.length ≤ 1000) (hmv : 0 ≤ mv ∧ mv ≤ 1000000000000) (hmt : 0 ≤ mt ∧ mt ≤ 1000000000000) (v : Int)
    (hho : ∀ d ∈ (mountF gs.length ds mv mt v).ds, 0 ≤ d.holds ∧ d.holds ≤ 1000000000000) :
    Calls Try.prog 8 #[.pointer (some ⟨g, 0, none⟩), .int .i64 v] w (HoldEnds w B g v1 v2 gs (holdF gs.length ds mv mt v)) := by
  have hM := mount_any h hB hh hlen hmv hmt v
  obtain ⟨k1, k2⟩ := mountF_ok gs.length ds mv mt v
  have k3 := mountF_e gs.length ds mv mt v
  unfold holdF
  generalize mountF gs.length ds mv mt v = r at *
  obtain ⟨ri, re, rds, rmv, rmt⟩ := r
  simp only at k1 k2 k3 hho ⊢
  unfold MountEnds at hM
  simp only at hM
  clear h hh
  by_cases he : re = 0
  · subst he
    rw [if_pos rfl]
    obtain ⟨a1, a2⟩ := k2 rfl
    obtain ⟨n, rfl⟩ : ∃ n : Nat, ri = (n : Int) := ⟨ri.toNat, by omega⟩
    have hn : n < rds.length := by omega
    have hd : drOf rds (n : Int) = rds[n] := by unfold drOf; rw [Int.toNat_natCast, List.getD_eq_getElem?_getD, List.getElem?_eq_getElem hn]; rfl
    rw [hd, Int.toNat_natCast]
    obtain ⟨b1, b2⟩ := hho _ (List.getElem_mem hn)
    have hHW : IntKind.i64.wrap (rds[n].holds + 1) = rds[n].holds + 1 := IntWalk.i64_in _ ⟨by omega, by omega⟩
    clear k2 k3 hho
    have HM := Lib.hid hM
    clear hM
    go_enter Try.func8, Try.ntmps8
    go_wp2_with fail
    refine HM.out.mono ?_
    rintro e w1 ⟨rfl, h1, s1⟩
    obtain ⟨A2, c2, rfl, hc2, hA2⟩ := row_slice h1.drow
    obtain ⟨kd, rfl⟩ := hA2 (by omega)
    have c1 : w1.cell? ⟨g, 1, none⟩ = some (.slice (some ⟨kd, 0, none⟩) rds.length c2) := h1.at_.cell 1
    have y2 : w1.cell? ⟨kd, n * 4 + 2, none⟩ = some (.int .i64 rds[n].holds) := h1.drive hn 2 _ rfl
    have y3 : w1.frozen? ⟨kd, n * 4 + 2, none⟩ = false := h1.drow.frozenAt _
    obtain ⟨h2, s2⟩ := h1.store hn (j := 2) (by omega) { rds[n] with holds := rds[n].holds + 1 } (.int .i64 (rds[n].holds + 1)) rfl
    have H2 := Lib.hid h2
    have S2 := Lib.hid (s1.trans s2)
    clear h1 h2 s1 s2 HM hd
    go_wp2
    go_ret
    exact ⟨rfl, H2.out, S2.out⟩
  · rw [if_neg he]
    have q : (re != 0) = true := by simpa using he
    have HM := Lib.hid hM
    clear hM k2 k3 hho
    go_enter Try.func8, Try.ntmps8
    go_wp2_with fail
    refine HM.out.mono ?_
    rintro e w1 ⟨rfl, h1, s1⟩
    have H1 := Lib.hid h1
    have S1 := Lib.hid s1
    clear h1 s1 HM
    go_wp2
    go_ret
    exact ⟨rfl, H1.out, S1.out⟩
end

set_option maxRecDepth 100000 in
set_option maxHeartbeats 4000000 in
theorem awake8_any (w : World) : Calls Try.prog 5 #[] w fun e w' => e = .returned (.bool true) ∧ Below w.heap.size w w' := by
  have hR : Lies (w.alloc (.cells #[.int .i64 100, .int .i64 100] 3)) (w.alloc (.cells #[.int .i64 100, .int .i64 100] 3)).heap.size (some ⟨w.heap.size, 0, none⟩) (ints [100, 100]) := Lies.of_at (At.new w _ _) rfl (by simp)
  have hN := newlib_any (some ⟨w.heap.size, 0, none⟩) 2 [100, 100] 1 _ hR (by simp) (by simp) 1 rfl
  have hb0 : Below w.heap.size w (w.alloc (.cells #[.int .i64 100, .int .i64 100] 3)) := (Below.refl _ w).alloc (Nat.le_refl _) _
  have hs0 : (w.alloc (.cells #[.int .i64 100, .int .i64 100] 3)).heap.size = w.heap.size + 1 := by simp
  clear hR
  have e1 : mountF 2 (List.replicate 1 (Dr.no false)) 0 0 0 = ⟨0, 0, [⟨0, 1, 0, false⟩], 1, 1⟩ := rfl
  have e2 : mountF 2 [⟨0, 1, 0, false⟩] 1 1 1 = ⟨0, 0, [⟨1, 2, 0, false⟩], 2, 2⟩ := rfl
  have e3 : holdF 2 [⟨1, 2, 0, false⟩] 2 2 1 = ⟨0, 0, [⟨1, 3, 1, false⟩], 2, 3⟩ := rfl
  have e3' : (mountF 2 [⟨1, 2, 0, false⟩] 2 2 1).ds = [⟨1, 3, 0, false⟩] := rfl
  have e4 : mountF 2 [⟨1, 3, 1, false⟩] 2 3 0 = ⟨-1, 10, [⟨1, 3, 1, false⟩], 2, 3⟩ := rfl
  have e5 : inF [⟨1, 3, 1, false⟩] 1 = 0 := rfl
  have E1 := Lib.hid e1
  have E2 := Lib.hid e2
  have E3 := Lib.hid e3
  have E3' := Lib.hid e3'
  have E4 := Lib.hid e4
  have E5 := Lib.hid e5
  clear e1 e2 e3 e3' e4 e5
  have HB0 := Lib.hid hb0
  clear hb0
  rw [show ([100, 100] : List Int).length = 2 from rfl] at hN
  go_enter Try.func5, Try.ntmps5
  go_wp2_with fail
  generalize w.alloc (.cells #[.int .i64 100, .int .i64 100] 3) = w0 at *
  refine hN.mono ?_
  rintro e w1 ⟨g, v1, v2, gs, rfl, h1, hv1, hb1⟩
  have hgl : gs.length = 2 := by rw [hv1.len]; rfl
  have hlo : ∀ s ∈ freshOf [100, 100], s.lo = false := by simp [freshOf, VS.new]
  have hL := liblen_any h1
  rw [hgl] at hL
  have hs1 := hb1.size
  have hM := mount_any h1 hs1 (hv1.here hlo) (by decide) ⟨by decide, by decide⟩ ⟨by decide, by decide⟩ 0
  rw [hgl, E1.out] at hM
  unfold MountEnds at hM
  have H1 := Lib.hid h1
  have HV1 := Lib.hid hv1
  have HB1 := Lib.hid (HB0.out.trans (hb1.mono (by omega)))
  clear h1 hv1 hb1 hN
  generalize hB1 : w0.heap.size = B at *
  go_wp2_with fail
  refine hL.mono ?_
  rintro e w2 ⟨rfl, rfl⟩
  go_wp2_with fail
  refine hM.mono ?_
  rintro e w2 ⟨rfl, h2, s2⟩
  have hv2 := HV1.out.lib H1.out s2
  have hb2 := HB1.out.trans ((s2.below hs1 H1.out.footB).mono (by omega))
  have hs2 := s2.size
  have hM2 := mount_any h2 (by omega) (hv2.here hlo) (by decide) ⟨by decide, by decide⟩ ⟨by decide, by decide⟩ 1
  rw [hgl, E2.out] at hM2
  unfold MountEnds at hM2
  have H2 := Lib.hid h2
  have HV2 := Lib.hid hv2
  have HB2 := Lib.hid hb2
  clear h2 hv2 hb2 hL hM H1 HV1 HB1 s2
  go_wp2_with fail
  refine hM2.mono ?_
  rintro e w3 ⟨rfl, h3, s3⟩
  have hv3 := HV2.out.lib H2.out s3
  have hb3 := HB2.out.trans ((s3.below (by omega) H2.out.footB).mono (by omega))
  have hs3 := s3.size
  have hM3 := hold_any h3 (by omega) (hv3.here hlo) (by decide) ⟨by decide, by decide⟩ ⟨by decide, by decide⟩ 1 (by rw [hgl, E3'.out]; simp)
  rw [hgl, E3.out] at hM3
  unfold HoldEnds at hM3
  have H3 := Lib.hid h3
  have HV3 := Lib.hid hv3
  have HB3 := Lib.hid hb3
  clear h3 hv3 hb3 hM2 H2 HV2 HB2 s3
  go_wp2_with fail
  refine hM3.mono ?_
  rintro e w4 ⟨rfl, h4, s4⟩
  have hv4 := HV3.out.lib H3.out s4
  have hb4 := HB3.out.trans ((s4.below (by omega) H3.out.footB).mono (by omega))
  have hs4 := s4.size
  have hM4 := mount_any h4 (by omega) (hv4.here hlo) (by decide) ⟨by decide, by decide⟩ ⟨by decide, by decide⟩ 0
  rw [hgl, E4.out] at hM4
  unfold MountEnds at hM4
  have H4 := Lib.hid h4
  have HB4 := Lib.hid hb4
  clear h4 hv4 hb4 hM3 H3 HV3 HB3 s4
  go_wp2_with fail
  refine hM4.mono ?_
  rintro e w5 ⟨rfl, h5, s5⟩
  have hb5 := HB4.out.trans ((s5.below (by omega) H4.out.footB).mono (by omega))
  have hs5 := s5.size
  have hMo := moves_any h5
  have hIn := in_any h5 1 (by decide)
  rw [E5.out] at hIn
  have HB5 := Lib.hid hb5
  clear h5 hb5 hM4 H4 HB4 s5
  go_wp2_with fail
  refine hMo.mono ?_
  rintro e w6 ⟨rfl, rfl⟩
  go_wp2_with fail
  refine hIn.mono ?_
  rintro e w7 ⟨rfl, hb7⟩
  have HB7 := Lib.hid (HB5.out.trans (hb7.mono (by omega)))
  clear hb7 hMo hIn HB5
  go_wp2
  go_ret
  exact ⟨rfl, HB7.out⟩
end Go.Proofs.Ytejgogahkjnefaa
