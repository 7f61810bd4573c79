/- library.Break, Crash without choices: their walks. -/
import Derived.Test.YtejgogahkjnefaaLgi
import Derived.Test.YtejgogahkjnefaaVd
import Derived.Test.YtejgogahkjnefaaVe
namespace Go.Proofs.Ytejgogahkjnefaa
open Go.RowKit
set_option linter.unusedVariables false
set_option linter.unusedSimpArgs false
section
variable {w w' : World} {B g : Nat} {v1 v2 : Value} {gs : List Nat} {ds : List Dr} {mv mt : Int}
/-- Break -/
def breakF (ds : List Dr) (n : Int) (b : Bool) : List Dr := if 0 ≤ n ∧ n < ds.length then ds.set n.toNat (.no b) else ds
set_option maxRecDepth 100000 in
set_option maxHeartbeats 1000000 in
theorem break_any (h : LibAt w B g v1 v2 gs ds mv mt) (hlen : ds.length ≤ 1000) (v : Int) (b : Bool) :
    Calls Try.prog 11 #[.pointer (some ⟨g, 0, none⟩), .int .i64 v, .bool b] w fun e w' => e = .returned (.tuple #[]) ∧ LibAt w' B g v1 v2 gs (breakF ds v b) mv mt ∧ Shift w w' (LFoot g v2) := by
  obtain ⟨A2, c2, rfl, hc2, hA2⟩ := row_slice h.drow
  have c1 : w.cell? ⟨g, 1, none⟩ = some (.slice A2 ds.length c2) := h.at_.cell 1
  have H := Lib.hid h
  clear h
  unfold breakF
  by_cases hv : 0 ≤ v ∧ v < ds.length
  · rw [if_pos hv]
    obtain ⟨n, rfl⟩ : ∃ n : Nat, v = (n : Int) := ⟨v.toNat, by omega⟩
    have hnl : n < ds.length := by omega
    rw [Int.toNat_natCast]
    obtain ⟨kd, rfl⟩ := hA2 (by omega)
    have q1 : decide ((n : Int) < (ds.length : Int)) = true := by simp; omega
    have q2 : decide ((0 : Int) ≤ (n : Int)) = true := by simp
    have hI4 : (Try.prog.info? 47).map (·.size) = some 4 := by kernel_rfl
    have HI4 := Lib.hid hI4
    have hU : ∀ W, Calls Try.prog 17 #[.bool b] W fun e w' => e = .returned (.agg #[.int .i64 (-1), .int .i64 0, .int .i64 0, .bool b]) ∧ Below W.heap.size W w' := fun W => unused_any b W
    have HU := Lib.hid hU
    have c1d : w.drew.cell? ⟨g, 1, none⟩ = some (.slice (some ⟨kd, 0, none⟩) ds.length c2) := c1
    clear hI4 hU hv
    go_enter Try.func11, Try.ntmps11
    go_upto_region 1 with fail
    go_region_law (go_simp; go_wp2_with (go_at_call 17; refine (HU.out _).mono ?_; rintro e w4 ⟨rfl, hb4⟩; have h4 : LibAt w4 B g v1 (.slice (some ⟨kd, 0, none⟩) ds.length c2) gs ds mv mt := H.out.below ⟨hb4.os, hb4.tape, hb4.output, hb4.size, hb4.block⟩; have c4 : w4.cell? ⟨g, 1, none⟩ = some (.slice (some ⟨kd, 0, none⟩) ds.length c2) := h4.at_.cell 1; have y0 : w4.cell? ⟨kd, n * 4, none⟩ = some (.int .i64 ds[n].vol) := h4.drive hnl 0 _ rfl; have y1 : w4.cell? ⟨kd, n * 4 + 1, none⟩ = some (.int .i64 ds[n].last) := h4.drive hnl 1 _ rfl; have y2 : w4.cell? ⟨kd, n * 4 + 2, none⟩ = some (.int .i64 ds[n].holds) := h4.drive hnl 2 _ rfl; have y3 : w4.cell? ⟨kd, n * 4 + 3, none⟩ = some (.bool ds[n].br) := h4.drive hnl 3 _ rfl; have f4 : ∀ j, w4.frozen? ⟨kd, j, none⟩ = false := fun j => h4.drow.frozenAt j))
    all_goals
      obtain ⟨h5, s5⟩ := h4.storeAll rfl hnl (Dr.no b)
      have s4 : Shift w w4 (LFoot g (.slice (some ⟨kd, 0, none⟩) ds.length c2)) := Shift.of_below ⟨hb4.os, hb4.tape, hb4.output, hb4.size, hb4.block⟩
      have H5 := Lib.hid h5
      have S5 := Lib.hid (s4.trans s5)
      clear h5 s5 s4 h4 c4 hb4 c1 c1d y0 y1 y2 y3 f4
      go_wp2
      go_end0
      exact ⟨rfl, H5.out, S5.out⟩
  · rw [if_neg hv]
    have S : Hid (Shift w w (LFoot g (.slice A2 ds.length c2))) := Lib.hid (Shift.refl _ _)
    rcases (show v < 0 ∨ (0 ≤ v ∧ (ds.length : Int) ≤ v) by omega) with h1 | ⟨h1, h2⟩
    · have q2 : decide ((0 : Int) ≤ v) = false := by simpa using h1
      clear hv
      go_enter Try.func11, Try.ntmps11
      go_wp2
      go_end0
      exact ⟨rfl, H.out, S.out⟩
    · have q1 : decide (v < (ds.length : Int)) = false := by simpa using h2
      have q2 : decide ((0 : Int) ≤ v) = true := by simpa using h1
      clear hv
      go_enter Try.func11, Try.ntmps11
      go_wp2
      go_end0
      exact ⟨rfl, H.out, S.out⟩

theorem LibAt.kept (h : LibAt w B g v1 v2 gs ds mv mt) (hk : Kept w w') : LibAt w' B g v1 v2 gs ds mv mt := by
  have one : ∀ {k : Nat} {t : TypeId} {cs : Array Value}, At w k t cs → t ≠ 56 → t ≠ 62 → w'.heap[k]? = w.heap[k]? := fun {k t cs} ha h1 h2 => by
    have ha' : w.heap[k]? = some (.cells cs t (0, 0)) := ha
    rw [ha', hk k _ ha' (by rintro cs fz e; injection e with _ e _; exact h1 e) (by rintro cs fz e; injection e with _ e _; exact h2 e)]
  exact h.keep (one h.at_ (by decide) (by decide)) (fun k e => by obtain ⟨cur, hc⟩ := row_at h.vrow e; exact one hc (by decide) (by decide)) (fun k e => by obtain ⟨cur, hc⟩ := row_at h.drow e; exact one hc (by decide) (by decide))
/-- the drives behind a crash -/
def crashD (ds : List Dr) : List Dr := ds.map fun d => .no d.br
def crashUp (ds : List Dr) (j : Nat) : List Dr := crashD (ds.take j) ++ ds.drop j
theorem crashUp_len (ds : List Dr) (j : Nat) : (crashUp ds j).length = ds.length := by unfold crashUp crashD; rw [List.length_append, List.length_map, List.length_take, List.length_drop]; omega
theorem crashUp_get {ds : List Dr} {j : Nat} (h : j < ds.length) : (crashUp ds j)[j]'(by rw [crashUp_len]; exact h) = ds[j] := by
  have hl : (crashD (ds.take j)).length = j := by unfold crashD; rw [List.length_map, List.length_take]; omega
  unfold crashUp
  rw [List.getElem_append_right (by omega)]
  simp [hl]
theorem crashUp_next {ds : List Dr} {j : Nat} (h : j < ds.length) : (crashUp ds j).set j (.no ds[j].br) = crashUp ds (j + 1) := by
  have hl : (crashD (ds.take j)).length = j := by unfold crashD; rw [List.length_map, List.length_take]; omega
  unfold crashUp
  rw [List.set_append_right _ _ (by omega), hl, Nat.sub_self, List.drop_eq_getElem_cons h, List.set_cons_zero, List.take_succ_eq_append_getElem h]
  unfold crashD
  rw [List.map_append, List.append_assoc]
  rfl
theorem VS.trim_lo (s : VS) : s.trim.1.lo = s.lo := by
  unfold VS.trim
  repeat' split
  all_goals rfl
end

def CrashLib (w : World) (B g : Nat) (v1 v2 : Value) (gs : List Nat) (ds : List Dr) (mv mt : Int) (n : Nat) (e : Ending) (w' : World) : Prop :=
  e = .returned (.tuple #[]) ∧ LibAt w' B g v1 v2 gs (crashD ds) mv mt ∧ (∃ ss, Vols w' B gs ss ∧ (∀ s ∈ ss, s.lo = false)) ∧ Below B w w'
set_option maxRecDepth 100000 in
set_option maxHeartbeats 4000000 in
theorem libcrash_any {w : World} {B g : Nat} {v1 v2 : Value} {gs : List Nat} {ds : List Dr} {mv mt : Int} {ss : List VS} (h : LibAt w B g v1 v2 gs ds mv mt) (hB : B ≤ w.heap.size) (hV : Vols w B gs ss) (hlo : ∀ s ∈ ss, s.lo = false) (hlen : ds.length ≤ 1000) (hgl : gs.length ≤ 1000) :
    Calls Try.prog 12 #[.pointer (some ⟨g, 0, none⟩), .slice none 0 0] w (CrashLib w B g v1 v2 gs ds mv mt gs.length) := by
  obtain ⟨A2, c2, rfl, hc2, hA2⟩ := row_slice h.drow
  obtain ⟨A1, c1, rfl, hc1, hA1⟩ := row_slice h.vrow
  have k1 : w.cell? ⟨g, 1, none⟩ = some (.slice A2 ds.length c2) := h.at_.cell 1
  have hI4 : (Try.prog.info? 47).map (·.size) = some 4 := by kernel_rfl
  have HI4 := Lib.hid hI4
  have H0 : Hid (LibAt w B g (.slice A1 gs.length c1) (.slice A2 ds.length c2) gs (crashUp ds 0) mv mt) := Lib.hid h
  have HB0 : Hid (Below B w w) := Lib.hid (Below.refl _ _)
  have HV0 := Lib.hid hV
  clear hI4 h hV
  go_enter Try.func12, Try.ntmps12
  go_wp2
  go_loopw [13] (fun i wr => ∃ j : Nat, j ≤ ds.length ∧ i = .int .i64 (j : Int) ∧ Hid (LibAt wr B g (.slice A1 gs.length c1) (.slice A2 ds.length c2) gs (crashUp ds j) mv mt) ∧ Hid (Vols wr B gs ss) ∧ Hid (Below B w wr)) (fun i _ => ds.length - (intOf i).toNat)
  case atStart => exact ⟨0, by omega, rfl, H0, HV0, HB0⟩
  case round =>
    clear H0 HV0 HB0 k1
    obtain ⟨j, hj, rfl, HL, HV, HB⟩ := hrel
    have hwB : B ≤ wr.heap.size := by have := HB.out.size; omega
    by_cases hjL : j < ds.length
    · have q0 : decide ((j : Int) < (ds.length : Int)) = true := by simpa using hjL
      obtain ⟨k, rfl⟩ := hA2 (by omega)
      have hul := crashUp_len ds j
      have hra := HL.out.driveN hul (j := j) (by omega)
      rw [crashUp_get hjL] at hra
      have HRA := Lib.hid hra
      have HX := Lib.hid (At.new wr 47 #[.int .i64 0, .int .i64 0, .int .i64 0, .bool false])
      have HNX := Lib.hid (crashUp_next hjL)
      clear hra
      obtain ⟨dv, hdv⟩ : ∃ d, ds[j] = d := ⟨_, rfl⟩
      rw [hdv] at HRA HNX
      have hC1 : dv.cells.all (·.oneCell') = true := by simp [Dr.cells, Value.oneCell']
      have HC1 := Lib.hid hC1
      have HDV := Lib.hid hdv
      clear hC1 hdv
      go_upto_region 3 with (first | refine wpList_load_part rfl 47 _ rfl k (j * 4) rfl dv.cells _ HRA.out Try.underlying47 rfl HI4.out ?_ | (refine wpList_store_whole rfl 47 _ _ rfl wr.heap.size dv.cells rfl rfl 47 _ HX.out HI4.out rfl HC1.out ?_; intro w4 hZ4 hG4; replace hZ4 := Lib.hid hZ4; replace hG4 := Lib.hid hG4))
      have hb4 : Below wr.heap.size wr w4 := below_of_grownBy ((Below.refl _ wr).alloc (Nat.le_refl _) _) hG4.out (by simp) (Nat.le_refl _)
      have hL4 := HL.out.below hb4
      have hV4 := HV.out.below hb4
      have hb04 := HB.out.trans (hb4.mono hwB)
      have hs4 : B ≤ w4.heap.size := Nat.le_trans hwB hb4.size
      have x3 : w4.cell? ⟨wr.heap.size, 3, none⟩ = some (.bool dv.br) := hZ4.out.cell 3
      have x3d : w4.drew.cell? ⟨wr.heap.size, 3, none⟩ = some (.bool dv.br) := x3
      have k1 : w4.cell? ⟨g, 1, none⟩ = some (.slice (some ⟨k, 0, none⟩) ds.length c2) := hL4.at_.cell 1
      have k1d : w4.drew.cell? ⟨g, 1, none⟩ = some (.slice (some ⟨k, 0, none⟩) ds.length c2) := k1
      have hXl : wr.heap.size < w4.heap.size := hZ4.out.lt
      have HL4 := Lib.hid hL4
      have HV4 := Lib.hid hV4
      have HB4 := Lib.hid hb04
      have HZ4 := hZ4
      clear hb4 HB hG4 HRA HX HC1 hL4 hV4 hb04 HL HV hZ4
      generalize wr.heap.size = X at *
      have hU : ∀ W, Calls Try.prog 17 #[.bool dv.br] W fun e w' => e = .returned (.agg #[.int .i64 (-1), .int .i64 0, .int .i64 0, .bool dv.br]) ∧ Below W.heap.size W w' := fun W => unused_any dv.br W
      have HU := Lib.hid hU
      clear hU
      go_region_law (go_simp; go_wp2_with (go_at_call 17; refine (HU.out _).mono ?_; rintro e w5 ⟨rfl, hb5⟩; have hb5' : Below w4.heap.size w4 w5 := ⟨hb5.os, hb5.tape, hb5.output, hb5.size, hb5.block⟩; have h5 := HL4.out.below hb5'; have z3 : w5.cell? ⟨X, 3, none⟩ = some (.bool dv.br) := (HZ4.out.below hb5' hXl).cell 3; have c4 : w5.cell? ⟨g, 1, none⟩ = some (.slice (some ⟨k, 0, none⟩) ds.length c2) := h5.at_.cell 1; have y0 : w5.cell? ⟨k, j * 4, none⟩ = some (.int .i64 (crashUp ds j)[j].vol) := h5.driveN hul (by omega) 0 _ rfl; have y1 : w5.cell? ⟨k, j * 4 + 1, none⟩ = some (.int .i64 (crashUp ds j)[j].last) := h5.driveN hul (by omega) 1 _ rfl; have y2 : w5.cell? ⟨k, j * 4 + 2, none⟩ = some (.int .i64 (crashUp ds j)[j].holds) := h5.driveN hul (by omega) 2 _ rfl; have y3 : w5.cell? ⟨k, j * 4 + 3, none⟩ = some (.bool (crashUp ds j)[j].br) := h5.driveN hul (by omega) 3 _ rfl; have f4 : ∀ j, w5.frozen? ⟨k, j, none⟩ = false := fun j => h5.frozenN hul j))
      all_goals
        obtain ⟨h6, s6⟩ := h5.storeAll hul (by omega : j < (crashUp ds j).length) (Dr.no dv.br)
        rw [HNX.out] at h6
        have hv6 := (HV4.out.below hb5').lib h5 s6
        have hb6 := (HB4.out.trans (hb5'.mono hs4)).trans (s6.below (Nat.le_trans hs4 hb5'.size) h5.footB)
        have H6 := Lib.hid h6
        have HV6 := Lib.hid hv6
        have HB6 := Lib.hid hb6
        clear h6 s6 hv6 hb6 h5 c4 hb5 hb5' x3 x3d k1 k1d y0 y1 y2 y3 f4 z3 HL4 HV4 HB4 HZ4 HU
        go_wp2
        go_roundw
        case rel => exact ⟨j + 1, by omega, by go_num, H6, HV6, HB6⟩
        case measure => simp [intOf] <;> omega
    · have q0 : decide ((j : Int) < (ds.length : Int)) = false := by simpa using hjL
      obtain rfl : j = ds.length := by omega
      have hcu : crashUp ds ds.length = crashD ds := by unfold crashUp; simp
      rw [hcu] at HL
      have k0 : wr.cell? ⟨g, 0, none⟩ = some (.slice A1 gs.length c1) := HL.out.at_.cell 0
      have HV1 : Hid (∃ sz, Vols wr B gs sz ∧ (∀ s ∈ sz, s.lo = false)) := Lib.hid ⟨ss, HV.out, hlo⟩
      clear hcu HV
      go_upto_region 6 with fail
      go_loopw [33] (fun i wr => ∃ j : Nat, j ≤ gs.length ∧ i = .int .i64 (j : Int) ∧ Hid (LibAt wr B g (.slice A1 gs.length c1) (.slice A2 ds.length c2) gs (crashD ds) mv mt) ∧ Hid (∃ sz, Vols wr B gs sz ∧ (∀ s ∈ sz, s.lo = false)) ∧ Hid (Below B w wr)) (fun i _ => gs.length - (intOf i).toNat)
      case atStart => exact ⟨0, by omega, rfl, HL, HV1, HB⟩
      case round =>
        clear HL HV1 HB k0
        obtain ⟨j, hj, rfl, HL, HV, HB⟩ := hrel
        have hwB : B ≤ wr.heap.size := by have := HB.out.size; omega
        by_cases hjL : j < gs.length
        · have q0 : decide ((j : Int) < (gs.length : Int)) = true := by simpa using hjL
          obtain ⟨k, rfl⟩ := hA1 (by omega)
          have z1 : wr.cell? ⟨k, j, none⟩ = some (.pointer (some ⟨gs[j], 0, none⟩)) := by
            have := HL.out.volume hjL
            rw [Addr.add_mid, Nat.zero_add] at this
            exact this
          obtain ⟨sz, hvz, hlz⟩ := HV.out
          have hjz : j < sz.length := by rw [← hvz.len]; exact hjL
          have hCr := crash_vol (hvz.vol j hjL hjz) none 0 [] 0 rfl (fun w' _ => Lies.nil) (by simp) (by simp)
          unfold CrashEnds at hCr
          have HVZ := Lib.hid hvz
          have HLZ := Lib.hid hlz
          obtain ⟨gv, hgv⟩ : ∃ x, gs[j] = x := ⟨_, rfl⟩
          rw [hgv] at z1 hCr
          have HGV := Lib.hid hgv
          have hmw : IntKind.i64.wrap (2 * (j : Int)) = 2 * (j : Int) := IntWalk.i64_in _ ⟨by omega, by omega⟩
          have hm0 : min (2 * (j : Int)) 0 = 0 := by omega
          have hm1 : ¬ (2 * (j : Int) < 0) := by omega
          clear hvz hlz hgv HV
          go_upto_region 8 with fail
          go_wp2_with fail
          all_goals
            refine hCr.mono ?_
            rintro e w5 ⟨rfl, h5, st5⟩
            have hL5 := HL.out.kept st5.kept
            have hV5 := HVZ.out.step hjL (by rw [HGV.out]; exact h5) (by rw [HGV.out]; exact st5)
            have hT := trim_vol h5
            unfold VolEnds at hT
            have HL5 := Lib.hid hL5
            have HV5 := Lib.hid hV5
            have HB5 := Lib.hid (HB.out.trans st5.below)
            have HLO5 := Lib.hid (HLZ.out _ (List.getElem_mem hjz))
            clear hCr h5 st5 hL5 hV5 HL HB HVZ
            go_wp2_with fail
            refine hT.mono ?_
            rintro e w6 ⟨rfl, h6, st6⟩
            have hV6 := HV5.out.step hjL (by rw [HGV.out]; exact h6) (by rw [HGV.out]; exact st6)
            have hlo6 : ∀ s ∈ (sz.set j (sz[j].crash (pickR []))).set j (sz[j].crash (pickR [])).trim.1, s.lo = false := by
              intro s hs
              rw [List.set_set] at hs
              rcases List.mem_or_eq_of_mem_set hs with hs | rfl
              · exact HLZ.out s hs
              · rw [VS.trim_lo]; exact HLO5.out
            have HL6 := Lib.hid (HL5.out.kept st6.kept)
            have HV6 : Hid (∃ sz, Vols w6 B gs sz ∧ (∀ s ∈ sz, s.lo = false)) := Lib.hid ⟨_, hV6, hlo6⟩
            have HB6 := Lib.hid (HB5.out.trans st6.below)
            clear hT h6 st6 hV6 hlo6 HL5 HV5 HB5 HLO5 HLZ z1
            go_wp2
            go_roundw
            case rel => exact ⟨j + 1, by omega, by go_num, HL6, HV6, HB6⟩
            case measure => simp [intOf] <;> omega
        · have q0 : decide ((j : Int) < (gs.length : Int)) = false := by simpa using hjL
          go_wp2
          go_end0
          exact ⟨rfl, HL.out, HV.out, HB.out⟩
end Go.Proofs.Ytejgogahkjnefaa
