/- library.Release, Break, Working: their walks. -/
import Derived.Test.YtejgogahkjnefaaLgf
namespace Go.Proofs.Ytejgogahkjnefaa
open Go.RowKit
set_option linter.unusedVariables false
set_option linter.unusedSimpArgs false

/-- a whole struct is stored, in a region that draws its order -/
theorem step_store_part {P : Program} {ops : Array Oper} {o : Oper} {a : Act} {w : World} {K : Act → World → Prop} {Q : Exit → Act → World → Prop} {E : Prop}
    (hg : o.guard = none) (ty : TypeId) (x y : Operand) (ho : o.op = .store ty x y) (b i : Nat) (cells : Array Value) (hx : a.eval x = .pointer (some ⟨b, i, none⟩)) (hy : a.eval y = .agg cells)
    (ht : w.there b i cells.size) (hi : (P.info? ty).map (·.size) = some cells.size) (h1 : cells.all (·.oneCell') = true) (hK : ∀ w', w' = w.setCells b i cells.toList → K (a.put o.dst undef) w') :
    if Region.wanted o (yielded ops a.tmps) = true then Oper.wp P o a w K Q else E := by
  have hw : Region.wanted o (yielded ops a.tmps) = true := by simp [Region.wanted, hg]
  rw [if_pos hw]
  exact wp_store_mid ty x y ho b i cells hx hy ht hi h1 (hK _ rfl)

section
variable {w w' : World} {B g : Nat} {v1 v2 : Value} {gs : List Nat} {ds : List Dr} {mv mt : Int}
theorem LibAt.there {k c N n : Nat} (hN : ds.length = N) (h : LibAt w B g v1 (.slice (some ⟨k, 0, none⟩) N c) gs ds mv mt) (hn : n < ds.length) : w.there k (n * 4) 4 := fun j hj => by
  refine ⟨?_, h.frozenN hN _⟩
  have hd := h.driveN hN hn
  have := World.rangeAt.isSome hd j (by show j < 4; exact hj)
  exact this
theorem LibAt.storeAll {k c N n : Nat} (hN : ds.length = N) (h : LibAt w B g v1 (.slice (some ⟨k, 0, none⟩) N c) gs ds mv mt) (hn : n < ds.length) (x : Dr) :
    LibAt (w.setCells k (n * 4) x.cells.toList) B g v1 (.slice (some ⟨k, 0, none⟩) N c) gs (ds.set n x) mv mt ∧ Shift w (w.setCells k (n * 4) x.cells.toList) (LFoot g (.slice (some ⟨k, 0, none⟩) N c)) := by
  obtain ⟨h1, s1⟩ := h.storeN hN hn (j := 0) (by omega) { ds[n] with vol := x.vol } (.int .i64 x.vol) rfl
  have hN1 : (ds.set n { ds[n] with vol := x.vol }).length = N := by rw [List.length_set]; exact hN
  obtain ⟨h2, s2⟩ := h1.storeN hN1 (by rw [hN1, ← hN]; exact hn) (j := 1) (by omega) { ds[n] with vol := x.vol, last := x.last } (.int .i64 x.last) (by simp [Dr.cells])
  have hN2 : ((ds.set n { ds[n] with vol := x.vol }).set n { ds[n] with vol := x.vol, last := x.last }).length = N := by simp [hN]
  obtain ⟨h3, s3⟩ := h2.storeN hN2 (by rw [hN2, ← hN]; exact hn) (j := 2) (by omega) { ds[n] with vol := x.vol, last := x.last, holds := x.holds } (.int .i64 x.holds) (by simp [Dr.cells])
  have hN3 : (((ds.set n { ds[n] with vol := x.vol }).set n { ds[n] with vol := x.vol, last := x.last }).set n { ds[n] with vol := x.vol, last := x.last, holds := x.holds }).length = N := by simp [hN]
  obtain ⟨h4, s4⟩ := h3.storeN hN3 (by rw [hN3, ← hN]; exact hn) (j := 3) (by omega) x (.bool x.br) (by simp [Dr.cells])
  rw [List.set_set, List.set_set, List.set_set] at h4
  exact ⟨h4, ((s1.trans s2).trans s3).trans s4⟩

/-- Release -/
def relF (ds : List Dr) (v : Int) : Int × List Dr :=
  if inF ds v = -1 ∨ (drOf ds (inF ds v)).holds = 0 then (5, ds) else (0, ds.set (inF ds v).toNat { drOf ds (inF ds v) with holds := (drOf ds (inF ds v)).holds - 1 })
set_option maxRecDepth 100000 in
set_option maxHeartbeats 1000000 in
theorem release_any (h : LibAt w B g v1 v2 gs ds mv mt) (hlen : ds.length ≤ 1000) (v : Int) (hho : ∀ d ∈ ds, 0 ≤ d.holds ∧ d.holds ≤ 1000000000000) :
    Calls Try.prog 9 #[.pointer (some ⟨g, 0, none⟩), .int .i64 v] w fun e w' => e = .returned (.int .i64 (relF ds v).1) ∧ LibAt w' B g v1 v2 gs (relF ds v).2 mv mt ∧ Shift w w' (LFoot g v2) := by
  have hI := in_any h v hlen
  have hle := inF_le ds v
  unfold relF
  have HI := Lib.hid hI
  have H := Lib.hid h
  clear h hI
  by_cases hin : inF ds v = -1
  · rw [if_pos (.inl hin)]
    rw [hin] at HI
    clear hho hle
    go_enter Try.func9, Try.ntmps9
    go_wp2_with fail
    refine HI.out.mono ?_
    rintro e w1 ⟨rfl, hb1⟩
    have H1 := Lib.hid (H.out.below hb1)
    have S1 : Hid (Shift w w1 (LFoot g v2)) := Lib.hid (Shift.of_below hb1)
    clear hb1 HI
    go_wp2
    go_ret
    exact ⟨rfl, H1.out, S1.out⟩
  · obtain ⟨n, hn⟩ : ∃ n : Nat, inF ds v = (n : Int) := ⟨(inF ds v).toNat, by omega⟩
    have hnl : n < ds.length := by omega
    obtain ⟨A2, c2, rfl, hc2, hA2⟩ := row_slice H.out.drow
    obtain ⟨kd, rfl⟩ := hA2 (by omega)
    have hdo : drOf ds (inF ds v) = ds[n] := by unfold drOf; rw [hn, Int.toNat_natCast, List.getD_eq_getElem?_getD, List.getElem?_eq_getElem hnl]; rfl
    rw [hdo, hn, Int.toNat_natCast]
    rw [hn] at HI
    obtain ⟨b1, b2⟩ := hho _ (List.getElem_mem hnl)
    have q3 : ((n : Int) == -1) = false := by simp
    by_cases h0 : ds[n].holds = 0
    · rw [if_pos (.inr h0)]
      have q4 : (ds[n].holds == 0) = true := by simpa using h0
      clear hho hle hin hdo
      go_enter Try.func9, Try.ntmps9
      go_wp2_with fail
      refine HI.out.mono ?_
      rintro e w1 ⟨rfl, hb1⟩
      have h1 := H.out.below hb1
      have c1 : w1.cell? ⟨g, 1, none⟩ = some (.slice (some ⟨kd, 0, none⟩) ds.length c2) := h1.at_.cell 1
      have y2 : w1.cell? ⟨kd, n * 4 + 2, none⟩ = some (.int .i64 ds[n].holds) := h1.drive hnl 2 _ rfl
      have H1 := Lib.hid h1
      have S1 : Hid (Shift w w1 (LFoot g (.slice (some ⟨kd, 0, none⟩) ds.length c2))) := Lib.hid (Shift.of_below hb1)
      clear hb1 HI h1 h0
      go_wp2
      go_ret
      exact ⟨rfl, H1.out, S1.out⟩
    · have hne : ¬((n : Int) = -1 ∨ ds[n].holds = 0) := by omega
      rw [if_neg hne]
      have q4 : (ds[n].holds == 0) = false := by simpa using h0
      have hHW : IntKind.i64.wrap (ds[n].holds - 1) = ds[n].holds - 1 := IntWalk.i64_in _ ⟨by omega, by omega⟩
      clear hho hle hin hdo hne
      go_enter Try.func9, Try.ntmps9
      go_wp2_with fail
      refine HI.out.mono ?_
      rintro e w1 ⟨rfl, hb1⟩
      have h1 := H.out.below hb1
      have c1 : w1.cell? ⟨g, 1, none⟩ = some (.slice (some ⟨kd, 0, none⟩) ds.length c2) := h1.at_.cell 1
      have y2 : w1.cell? ⟨kd, n * 4 + 2, none⟩ = some (.int .i64 ds[n].holds) := h1.drive hnl 2 _ rfl
      have y3 : w1.frozen? ⟨kd, n * 4 + 2, none⟩ = false := h1.drow.frozenAt _
      obtain ⟨h2, s2⟩ := h1.store hnl (j := 2) (by omega) { ds[n] with holds := ds[n].holds - 1 } (.int .i64 (ds[n].holds - 1)) rfl
      have s1 : Shift w w1 (LFoot g (.slice (some ⟨kd, 0, none⟩) ds.length c2)) := Shift.of_below hb1
      have H2 := Lib.hid h2
      have S2 := Lib.hid (s1.trans s2)
      clear hb1 HI h1 h2 s1 s2 h0
      go_wp2
      go_ret
      exact ⟨rfl, H2.out, S2.out⟩

/-- how many drives work -/
def workF : List Dr → Nat
  | [] => 0
  | d :: r => workF r + if d.br then 0 else 1
theorem workF_append (a b : List Dr) : workF (a ++ b) = workF a + workF b := by
  induction a with
  | nil => simp [workF]
  | cons d r ih => simp only [List.cons_append, workF, ih]; omega
theorem workF_next {ds : List Dr} {k : Nat} (h : k < ds.length) : workF (ds.take (k + 1)) = workF (ds.take k) + if ds[k].br then 0 else 1 := by
  rw [List.take_succ_eq_append_getElem h, workF_append]
  simp [workF]
theorem workF_le (l : List Dr) : workF l ≤ l.length := by
  induction l with
  | nil => simp [workF]
  | cons d r ih => simp only [workF, List.length_cons]; split <;> omega

set_option maxRecDepth 100000 in
set_option maxHeartbeats 1000000 in
theorem working_any (h : LibAt w B g v1 v2 gs ds mv mt) (hlen : ds.length ≤ 1000) :
    Calls Try.prog 13 #[.pointer (some ⟨g, 0, none⟩)] w fun e w' => e = .returned (.int .i64 (workF ds : Nat)) ∧ Below w.heap.size w w' := by
  obtain ⟨A, c, rfl, hc, hA⟩ := row_slice h.drow
  have c1 : w.cell? ⟨g, 1, none⟩ = some (.slice A ds.length c) := h.at_.cell 1
  have hI4 : (Try.prog.info? 47).map (·.size) = some 4 := by kernel_rfl
  have HI4 := Lib.hid hI4
  have H := Lib.hid h
  clear h hI4
  go_enter Try.func13, Try.ntmps13
  go_wp2
  go_loopw [3, 11] (fun b i wr => ∃ j : Nat, j ≤ ds.length ∧ i = .int .i64 (j : Int) ∧ b = .int .i64 (workF (ds.take j) : Nat) ∧ Hid (Below w.heap.size w wr)) (fun _ i _ => ds.length - (intOf i).toNat)
  case atStart => exact ⟨0, by omega, rfl, by simp [workF], Lib.hid (Below.refl _ _)⟩
  case round =>
    obtain ⟨j, hj, rfl, rfl, HB⟩ := hrel
    by_cases hjL : j < ds.length
    · have q0 : decide ((j : Int) < (ds.length : Int)) = true := by simpa using hjL
      obtain ⟨k, rfl⟩ := hA (by omega)
      have hra := (H.out.below HB.out).drive hjL
      have HRA := Lib.hid hra
      have HX := Lib.hid (At.new wr 47 #[.int .i64 0, .int .i64 0, .int .i64 0, .bool false])
      have hnx := workF_next hjL
      have hwl := workF_le (ds.take j)
      rw [List.length_take] at hwl
      clear hra
      obtain ⟨dv, hdv⟩ : ∃ d, ds[j] = d := ⟨_, rfl⟩
      rw [hdv] at HRA hnx
      have hC1 : dv.cells.all (·.oneCell') = true := by simp [Dr.cells, Value.oneCell']
      have HC1 := Lib.hid hC1
      have HNX := Lib.hid hnx
      clear hC1 hdv hnx
      generalize workF (ds.take j) = wj at *
      go_upto_region 5 with (first | refine wpList_load_part rfl 47 _ rfl k (j * 4) rfl dv.cells _ HRA.out Try.underlying47 rfl HI4.out ?_ | (refine wpList_store_whole rfl 47 _ _ rfl wr.heap.size dv.cells rfl rfl 47 _ HX.out HI4.out rfl HC1.out ?_; intro w4 hZ4 hG4; replace hZ4 := Lib.hid hZ4; replace hG4 := Lib.hid hG4))
      have hb4 : Below w.heap.size w w4 := below_of_grownBy (HB.out.alloc HB.out.size _) hG4.out (by have := HB.out.size; simp; omega) HB.out.size
      have HB4 := Lib.hid hb4
      have x3 : w4.cell? ⟨wr.heap.size, 3, none⟩ = some (.bool dv.br) := hZ4.out.cell 3
      clear hb4 HB hG4 hZ4 HRA HX HC1
      generalize wr.heap.size = X at *
      cases hbr : dv.br with
      | true =>
        rw [hbr] at x3 HNX
        go_wp2
        go_roundw
        case rel => exact ⟨j + 1, by omega, by go_num, by rw [HNX.out]; rfl, HB4⟩
        case measure => simp [intOf]; omega
      | false =>
        rw [hbr] at x3 HNX
        have hww : IntKind.i64.wrap ((wj : Int) + 1) = (wj : Int) + 1 := IntWalk.i64_in _ ⟨by omega, by omega⟩
        go_wp2
        go_roundw
        case rel => exact ⟨j + 1, by omega, by go_num, by rw [HNX.out]; rfl, HB4⟩
        case measure => simp [intOf]; omega
    · have q0 : decide ((j : Int) < (ds.length : Int)) = false := by simpa using hjL
      obtain rfl : j = ds.length := by omega
      rw [List.take_length]
      go_wp2
      go_ret
      exact ⟨rfl, HB.out⟩
end
end Go.Proofs.Ytejgogahkjnefaa
