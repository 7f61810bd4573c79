/- library.has, In, next: their walks. -/
import Derived.Test.YtejgogahkjnefaaLga
import Derived.Test.YtejgogahkjnefaaVz
import Derived.Deep.QuietTactic
import Derived.BigQuiet
namespace Go.Proofs.Ytejgogahkjnefaa
open Go.RowKit
set_option linter.unusedVariables false
set_option linter.unusedSimpArgs false
section
variable {w : World} {B g : Nat} {v1 v2 : Value} {gs : List Nat} {ds : List Dr} {mv mt : Int}

set_option maxRecDepth 100000 in
set_option maxHeartbeats 400000 in
theorem has_any (h : LibAt w B g v1 v2 gs ds mv mt) (v : Int) :
    Calls Try.prog 18 #[.pointer (some ⟨g, 0, none⟩), .int .i64 v] w fun e w' => e = .returned (.bool (decide (0 ≤ v) && decide (v < gs.length))) ∧ w = w' := by
  obtain ⟨A, c, rfl, hc, hA⟩ := row_slice h.vrow
  have c0 : w.cell? ⟨g, 0, none⟩ = some (.slice A gs.length c) := h.at_.cell 0
  clear h
  by_cases h0 : 0 ≤ v
  · have e0 : decide (0 ≤ v) = true := by simpa using h0
    go_enter Try.func18, Try.ntmps18
    go_wp2
    go_ret
    exact ⟨by simp [e0], rfl⟩
  · have e0 : decide (0 ≤ v) = false := by simpa using h0
    go_enter Try.func18, Try.ntmps18
    go_wp2
    go_ret
    exact ⟨by simp [e0], rfl⟩

set_option maxRecDepth 100000 in
set_option maxHeartbeats 1000000 in
theorem in_any (h : LibAt w B g v1 v2 gs ds mv mt) (v : Int) (hlen : ds.length ≤ 1000) :
    Calls Try.prog 10 #[.pointer (some ⟨g, 0, none⟩), .int .i64 v] w fun e w' => e = .returned (.int .i64 (inF ds v)) ∧ Below w.heap.size w w' := by
  obtain ⟨A, c, rfl, hc, hA⟩ := row_slice h.drow
  have c1 : w.cell? ⟨g, 1, none⟩ = some (.slice A ds.length c) := h.at_.cell 1
  have hI4 : (Try.prog.info? 47).map (·.size) = some 4 := by kernel_rfl
  have HI4 := Lib.hid hI4
  have H := Lib.hid h
  clear h hI4
  go_enter Try.func10, Try.ntmps10
  go_wp2
  go_loopw [12] (fun i wr => ∃ j : Nat, j ≤ ds.length ∧ i = .int .i64 (j : Int) ∧ Hid (v = -1 ∨ ∀ i (hi : i < j) (hi2 : i < ds.length), ds[i].vol ≠ v) ∧ Hid (Below w.heap.size w wr)) (fun i _ => ds.length - (intOf i).toNat)
  case atStart => exact ⟨0, by omega, rfl, Lib.hid (.inr fun i hi => absurd hi (Nat.not_lt_zero _)), Lib.hid (Below.refl _ _)⟩
  case round =>
    obtain ⟨j, hj, rfl, HN, HB⟩ := hrel
    by_cases hjL : j < ds.length
    · have q0 : decide ((j : Int) < (ds.length : Int)) = true := by simpa using hjL
      obtain ⟨k, rfl⟩ := hA (by omega)
      have hra := (H.out.below HB.out).drive hjL
      have HRA := Lib.hid hra
      have HX := Lib.hid (At.new wr 47 #[.int .i64 0, .int .i64 0, .int .i64 0, .bool false])
      clear hra
      have HD := Lib.hid (Eq.refl ds[j].vol)
      obtain ⟨dv, hdv⟩ : ∃ d, ds[j] = d := ⟨_, rfl⟩
      rw [hdv] at HRA HD
      have hC1 : dv.cells.all (·.oneCell') = true := by simp [Dr.cells, Value.oneCell']
      have HC1 := Lib.hid hC1
      have HDV := Lib.hid hdv
      clear hC1 hdv
      go_upto_region 4 with (first | refine wpList_load_part rfl 47 _ rfl k (j * 4) rfl dv.cells _ HRA.out Try.underlying47 rfl HI4.out ?_ | (refine wpList_store_whole rfl 47 _ _ rfl wr.heap.size dv.cells rfl rfl 47 _ HX.out HI4.out rfl HC1.out ?_; intro w4 hZ4 hG4; replace hZ4 := Lib.hid hZ4; replace hG4 := Lib.hid hG4))
      have hb4 : Below w.heap.size w w4 := below_of_grownBy (HB.out.alloc HB.out.size _) hG4.out (by have := HB.out.size; simp; omega) HB.out.size
      have HB4 := Lib.hid hb4
      have x0 : w4.cell? ⟨wr.heap.size, 0, none⟩ = some (.int .i64 dv.vol) := hZ4.out.cell 0
      clear hb4 HB hG4 hZ4 HRA HX HC1
      generalize wr.heap.size = X at *
      by_cases hev : dv.vol = v
      · by_cases hv1 : v = -1
        · have q1 : (dv.vol == v) = true := by simpa using hev
          have q2 : (v != -1) = false := by simpa using hv1
          have HV1 : Hid (v = -1) := Lib.hid hv1
          clear hv1 hev
          go_wp2
          go_roundw
          case rel => exact ⟨j + 1, by omega, by go_num, Lib.hid (.inl HV1.out), HB4⟩
          case measure => simp [intOf]; omega
        · have q1 : (dv.vol == v) = true := by simpa using hev
          have q2 : (v != -1) = true := by simpa using hv1
          have hin : inF ds v = (j : Int) := inF_hit hv1 hjL (by rw [HDV.out]; exact hev) fun i hi => (HN.out.resolve_left hv1) i hi (by omega)
          have HIN := Lib.hid hin
          clear hin
          go_wp2
          go_ret
          exact ⟨by rw [HIN.out]; rfl, HB4.out⟩
      · have q1 : (dv.vol == v) = false := by simpa using hev
        have hnx : v = -1 ∨ ∀ i (hi : i < j + 1) (hi2 : i < ds.length), ds[i].vol ≠ v := HN.out.imp id fun h i hi hi2 => by
          by_cases e : i = j
          · subst e; rw [HDV.out]; exact hev
          · exact h i (by omega) hi2
        have HNX := Lib.hid hnx
        clear hnx
        go_wp2
        go_roundw
        case rel => exact ⟨j + 1, by omega, by go_num, HNX, HB4⟩
        case measure => simp [intOf]; omega
    · have q0 : decide ((j : Int) < (ds.length : Int)) = false := by simpa using hjL
      have hin : inF ds v = -1 := inF_miss (HN.out.imp id fun h i hi => h i (by omega) hi)
      have HIN := Lib.hid hin
      clear hin
      go_wp2
      go_ret
      exact ⟨by rw [HIN.out]; rfl, HB.out⟩

theorem nextUp_skip {j : Nat} (hj : j < ds.length) (h : ds[j].br = true ∨ 0 < ds[j].holds) : nextUp ds (j + 1) = nextUp ds j := by
  show nextStep ds (nextUp ds j) j = _
  unfold nextStep
  rw [List.getD_eq_getElem?_getD, List.getElem?_eq_getElem hj]
  exact if_pos h
theorem nextUp_take {j : Nat} (hj : j < ds.length) (h : ¬(ds[j].br = true ∨ 0 < ds[j].holds)) (h2 : nextUp ds j = -1 ∨ ds[j].last < (ds.getD (nextUp ds j).toNat (.no false)).last) : nextUp ds (j + 1) = (j : Int) := by
  show nextStep ds (nextUp ds j) j = _
  unfold nextStep
  have e : ds.getD j (.no false) = ds[j] := by rw [List.getD_eq_getElem?_getD, List.getElem?_eq_getElem hj]; rfl
  rw [e, if_neg h, if_pos h2]
theorem nextUp_leave {j : Nat} (hj : j < ds.length) (h : ¬(ds[j].br = true ∨ 0 < ds[j].holds)) (h2 : ¬(nextUp ds j = -1 ∨ ds[j].last < (ds.getD (nextUp ds j).toNat (.no false)).last)) : nextUp ds (j + 1) = nextUp ds j := by
  show nextStep ds (nextUp ds j) j = _
  unfold nextStep
  have e : ds.getD j (.no false) = ds[j] := by rw [List.getD_eq_getElem?_getD, List.getElem?_eq_getElem hj]; rfl
  rw [e, if_neg h, if_neg h2]

set_option maxRecDepth 100000 in
set_option maxHeartbeats 1000000 in
theorem next_any (h : LibAt w B g v1 v2 gs ds mv mt) (hlen : ds.length ≤ 1000) :
    Calls Try.prog 20 #[.pointer (some ⟨g, 0, none⟩)] w fun e w' => e = .returned (.int .i64 (nextF ds)) ∧ Below w.heap.size w w' := by
  obtain ⟨A, c, rfl, hc, hA⟩ := row_slice h.drow
  have c1 : w.cell? ⟨g, 1, none⟩ = some (.slice A ds.length c) := h.at_.cell 1
  have hI4 : (Try.prog.info? 47).map (·.size) = some 4 := by kernel_rfl
  have HI4 := Lib.hid hI4
  have H := Lib.hid h
  clear h hI4
  go_enter Try.func20, Try.ntmps20
  go_wp2
  go_loopw [3, 11] (fun b i wr => ∃ j : Nat, j ≤ ds.length ∧ i = .int .i64 (j : Int) ∧ b = .int .i64 (nextUp ds j) ∧ Hid (Below w.heap.size w wr)) (fun _ i _ => ds.length - (intOf i).toNat)
  case atStart => exact ⟨0, by omega, rfl, by simp [nextUp], Lib.hid (Below.refl _ _)⟩
  case round =>
    obtain ⟨j, hj, rfl, rfl, HB⟩ := hrel
    by_cases hjL : j < ds.length
    · have q0 : decide ((j : Int) < (ds.length : Int)) = true := by simpa using hjL
      obtain ⟨k, rfl⟩ := hA (by omega)
      have hra := (H.out.below HB.out).drive hjL
      have HRA := Lib.hid hra
      have HX := Lib.hid (At.new wr 47 #[.int .i64 0, .int .i64 0, .int .i64 0, .bool false])
      have hle := nextUp_le ds j
      clear hra
      obtain ⟨dv, hdv⟩ : ∃ d, ds[j] = d := ⟨_, rfl⟩
      rw [hdv] at HRA
      have hC1 : dv.cells.all (·.oneCell') = true := by simp [Dr.cells, Value.oneCell']
      have HC1 := Lib.hid hC1
      have hsk := nextUp_skip hjL
      have htk := nextUp_take hjL
      have hlv := nextUp_leave hjL
      rw [hdv] at hsk htk hlv
      clear hC1 hdv
      go_upto_region 5 with (first | refine wpList_load_part rfl 47 _ rfl k (j * 4) rfl dv.cells _ HRA.out Try.underlying47 rfl HI4.out ?_ | (refine wpList_store_whole rfl 47 _ _ rfl wr.heap.size dv.cells rfl rfl 47 _ HX.out HI4.out rfl HC1.out ?_; intro w4 hZ4 hG4; replace hZ4 := Lib.hid hZ4; replace hG4 := Lib.hid hG4))
      have hb4 : Below w.heap.size w w4 := below_of_grownBy (HB.out.alloc HB.out.size _) hG4.out (by have := HB.out.size; simp; omega) HB.out.size
      have HB4 := Lib.hid hb4
      have hL4 := H.out.below hb4
      have x1 : w4.cell? ⟨wr.heap.size, 1, none⟩ = some (.int .i64 dv.last) := hZ4.out.cell 1
      have x2 : w4.cell? ⟨wr.heap.size, 2, none⟩ = some (.int .i64 dv.holds) := hZ4.out.cell 2
      have x3 : w4.cell? ⟨wr.heap.size, 3, none⟩ = some (.bool dv.br) := hZ4.out.cell 3
      have y1 : w4.cell? ⟨g, 1, none⟩ = some (.slice (some ⟨k, 0, none⟩) ds.length c) := hL4.at_.cell 1
      have HL4 := Lib.hid hL4
      clear hb4 HB hG4 hZ4 HRA HX HC1 hL4 c1
      generalize wr.heap.size = X at *
      by_cases hs : dv.br = true ∨ 0 < dv.holds
      · have hn := hsk hs
        have HN := Lib.hid hn
        clear hn hsk htk hlv
        rcases (show dv.br = true ∨ (dv.br = false ∧ 0 < dv.holds) by
          cases hbr : dv.br with
          | true => exact .inl rfl
          | false => exact .inr ⟨rfl, hs.resolve_left (by rw [hbr]; decide)⟩) with h1 | ⟨h1, h2⟩
        · go_wp2
          go_roundw
          case rel => exact ⟨j + 1, by omega, by go_num, by rw [HN.out], HB4⟩
          case measure => simp [intOf]; omega
        · have q2 : decide (0 < dv.holds) = true := by simpa using h2
          go_wp2
          go_roundw
          case rel => exact ⟨j + 1, by omega, by go_num, by rw [HN.out], HB4⟩
          case measure => simp [intOf]; omega
      · have h1 : dv.br = false := by cases hbr : dv.br with
          | true => exact absurd (.inl hbr) hs
          | false => rfl
        have q2 : decide (0 < dv.holds) = false := by simp; omega
        by_cases hb1 : nextUp ds j = -1
        · have hn := htk hs (.inl hb1)
          have q3 : (nextUp ds j == -1) = true := by simpa using hb1
          have HN := Lib.hid hn
          clear hn hsk htk hlv
          obtain ⟨b, hb⟩ : ∃ b, nextUp ds j = b := ⟨_, rfl⟩
          rw [hb] at hb1 q3 ⊢
          subst hb1
          go_upto_region 6 with fail
          go_quiet (fail)
          go_wp2
          go_roundw
          case rel => exact ⟨j + 1, by omega, by go_num, by rw [HN.out], Lib.hid (below_drewN HB4.out _)⟩
          case measure => simp [intOf]; omega
        · obtain ⟨bn, hbn⟩ : ∃ bn : Nat, nextUp ds j = (bn : Int) := ⟨(nextUp ds j).toNat, by omega⟩
          have hbl : bn < ds.length := by omega
          have hcl := HL4.out.drive hbl
          have e : (ds.getD bn (.no false)) = ds[bn] := by rw [List.getD_eq_getElem?_getD, List.getElem?_eq_getElem hbl]; rfl
          rw [hbn] at htk hlv hsk ⊢
          rw [Int.toNat_natCast, e] at htk hlv
          have z1 : w4.cell? ⟨k, bn * 4 + 1, none⟩ = some (.int .i64 ds[bn].last) := hcl 1 _ rfl
          have q3 : ((bn : Int) == -1) = false := by simp
          by_cases hlt : dv.last < ds[bn].last
          · have hn := htk hs (.inr hlt)
            have q4 : decide (dv.last < ds[bn].last) = true := by simpa using hlt
            have HN := Lib.hid hn
            clear hn hsk htk hlv hcl e
            generalize ds[bn].last = lb at *
            go_upto_region 6 with fail
            go_quiet (fail)
            go_wp2
            go_roundw
            case rel => exact ⟨j + 1, by omega, by go_num, by rw [HN.out], Lib.hid (below_drewN HB4.out _)⟩
            case measure => simp [intOf]; omega
          · have hn := hlv hs (by rintro (h | h) <;> omega)
            have q4 : decide (dv.last < ds[bn].last) = false := by simp; omega
            have HN := Lib.hid hn
            clear hn hsk htk hlv hcl e
            generalize ds[bn].last = lb at *
            go_upto_region 6 with fail
            go_quiet (fail)
            go_wp2
            go_roundw
            case rel => exact ⟨j + 1, by omega, by go_num, by rw [HN.out], Lib.hid (below_drewN HB4.out _)⟩
            case measure => simp [intOf]; omega
    · have q0 : decide ((j : Int) < (ds.length : Int)) = false := by simpa using hjL
      obtain rfl : j = ds.length := by omega
      obtain ⟨r, hr⟩ : ∃ r, nextUp ds ds.length = r := ⟨_, rfl⟩
      have HR : Hid (nextF ds = r) := Lib.hid hr
      rw [hr]
      clear hr
      go_wp2
      go_ret
      exact ⟨by rw [HR.out]; rfl, HB.out⟩
end
end Go.Proofs.Ytejgogahkjnefaa
