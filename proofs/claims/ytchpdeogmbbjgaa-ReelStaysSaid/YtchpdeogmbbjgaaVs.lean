/- (*reel.Volume).Skip: its walk. -/
import Derived.Test.YtchpdeogmbbjgaaVe
namespace Go.Proofs.Ytchpdeogmbbjgaa
open Go.RowKit
set_option linter.unusedVariables false

section
variable {w : World} {B g : Nat} {s s' : VS} {v : Value}

set_option maxHeartbeats 400000 in
theorem skip_fn (b : Blk) (w : World) :
    Calls Try.prog 50 #[.agg #[.string b.t, .bool b.mark, .bool b.torn]] w fun e w' => e = .returned (.bool b.mark) ∧ Below w.heap.size w w' := by
  go_enter Try.func50, Try.ntmps50
  go_wp2
  go_ret
  exact ⟨rfl, (Below.refl _ w).alloc (Nat.le_refl _) _⟩

theorem marked_nil : marked [] = none := rfl
theorem marked_none {l : List Blk} : marked l = none ↔ ∀ k (h : k < l.length), l[k].mark = false := by
  unfold marked
  rw [List.findIdx?_eq_none_iff]
  constructor
  · intro h k hk; simpa using h _ (List.getElem_mem hk)
  · intro h x hx
    obtain ⟨k, hk, rfl⟩ := List.getElem_of_mem hx
    simpa using h k hk
theorem marked_some {l : List Blk} {k : Nat} (hk : k < l.length) (hm : l[k].mark = true) (h0 : ∀ j (h : j < k), (l[j]'(by omega)).mark = false) : marked l = some k := by
  unfold marked
  rw [List.findIdx?_eq_some_iff_getElem]
  exact ⟨hk, hm, fun j hj => by simp [h0 j hj]⟩
theorem marked_inv {l : List Blk} {k : Nat} (h : marked l = some k) : ∃ hk : k < l.length, l[k].mark = true ∧ ∀ j (h : j < k), (l[j]'(by omega)).mark = false := by
  unfold marked at h
  rw [List.findIdx?_eq_some_iff_getElem] at h
  obtain ⟨hk, hm, h0⟩ := h
  exact ⟨hk, hm, fun j hj => by simpa using h0 j hj⟩

def markInt (l : List Blk) : Int := match marked l with | none => -1 | some k => (k : Int)

set_option maxRecDepth 100000 in
set_option maxHeartbeats 1000000 in
theorem index_any (q o c : Nat) (l : List Blk) (n : Nat) (hn : l.length = n) (hlen : l.length ≤ 1000000) (w : World) (hq : q < w.heap.size)
    (hc : ∀ k (h : k < l.length), w.cell? ⟨q, o + k * 3, none⟩ = some (.string l[k].t) ∧ w.cell? ⟨q, o + k * 3 + 1, none⟩ = some (.bool l[k].mark) ∧ w.cell? ⟨q, o + k * 3 + 2, none⟩ = some (.bool l[k].torn)) :
    Calls Try.prog 49 #[.slice (some ⟨q, o, none⟩) n c, .func (.func 50) #[] #[]] w fun e w' => e = .returned (.int .i64 (markInt l)) ∧ Below w.heap.size w w' := by
  subst hn
  have HC := Lib.hid hc; clear hc
  have hfn := fun b W => skip_fn b W
  go_enter Try.func49, Try.ntmps49
  go_wp2_with fail
  go_loopw [8] (fun i wr => ∃ j : Nat, j ≤ l.length ∧ i = .int .i64 (j : Int) ∧ Hid (∀ k (h : k < l.length), k < j → l[k].mark = false) ∧ Hid (Below w.heap.size w wr))
    (fun i _ => l.length - (intOf i).toNat)
  case atStart => exact ⟨0, by omega, rfl, Lib.hid (fun k h h' => by omega), Lib.hid (Below.refl _ _)⟩
  case round =>
    obtain ⟨j, hj, rfl, HM, HB⟩ := hrel
    by_cases hlt : j < l.length
    · obtain ⟨d0, d1, d2⟩ := HC.out j hlt
      have d0 := (HB.out.cell (p := ⟨q, o + j * 3, none⟩) hq).trans d0
      have d1 := (HB.out.cell (p := ⟨q, o + j * 3 + 1, none⟩) hq).trans d1
      have d2 := (HB.out.cell (p := ⟨q, o + j * 3 + 2, none⟩) hq).trans d2
      obtain ⟨b, hbe⟩ : ∃ b, l[j] = b := ⟨_, rfl⟩
      rw [hbe] at d0 d1 d2
      have HBE := Lib.hid hbe; clear hbe
      have i0 : (0 : Int) ≤ (j : Int) := by omega
      have i1 : (j : Int) < (l.length : Int) := by omega
      have hF := hfn b wr
      obtain ⟨m, hm⟩ : ∃ m, b.mark = m := ⟨_, rfl⟩
      rw [hm] at hF d1
      have HMM := Lib.hid hm; clear hm
      clear hfn
      go_wp2_with fail
      refine hF.mono ?_
      rintro e w2 ⟨rfl, hb2⟩
      have HB2 : Hid (Below w.heap.size w w2) := Lib.hid (HB.out.trans (hb2.mono HB.out.size))
      clear hb2 hF d0 d1 d2 HB
      cases m with
      | true =>
        have hR : marked l = some j := marked_some hlt (by rw [HBE.out, HMM.out]) (fun i hi => HM.out i (by omega) hi)
        have HE : Hid (markInt l = (j : Int)) := Lib.hid (by unfold markInt; rw [hR])
        clear hR
        go_wp2
        go_ret
        exact ⟨by rw [HE.out]; rfl, HB2.out⟩
      | false =>
        have R1 : Hid (∀ k (h : k < l.length), k < j + 1 → l[k].mark = false) := Lib.hid fun k h hk => by
          by_cases hkj : k < j
          · exact HM.out k h hkj
          · obtain rfl : k = j := by omega
            rw [HBE.out, HMM.out]
        clear HM HBE HMM
        go_wp2
        go_roundw
        case rel => exact ⟨j + 1, by omega, by go_num, R1, HB2⟩
        case measure => simp [intOf]; omega
    · obtain rfl : j = l.length := by omega
      have hR : marked l = none := marked_none.2 (fun k hk => HM.out k hk hk)
      have HE : Hid (markInt l = -1) := Lib.hid (by unfold markInt; rw [hR])
      clear hR HM hfn
      go_wp2
      go_ret
      exact ⟨by rw [HE.out]; rfl, HB.out⟩

/-- an empty slice has no mark -/
theorem index_none (A : Option Addr) (c : Nat) (w : World) :
    Calls Try.prog 49 #[.slice A 0 c, .func (.func 50) #[] #[]] w fun e w' => e = .returned (.int .i64 (-1)) ∧ Below w.heap.size w w' := by
  go_enter Try.func49, Try.ntmps49
  go_wp2_with fail
  go_loopw [8] (fun i wr => i = .int .i64 0 ∧ w = wr) (fun _ _ => 0)
  case atStart => exact ⟨rfl, by simp⟩
  case round =>
    obtain ⟨rfl, rfl⟩ := hrel
    go_wp2
    go_ret
    exact ⟨rfl, Below.refl _ _⟩

theorem skip_ok (ok : s.ok) {k : Nat} (h : marked (s.l.drop s.pos) = some k) : VS.ok { s.tried with pos := s.pos + k + 1 } ∧ s.pos + k + 1 ≤ s.l.length := by
  obtain ⟨hk, _, _⟩ := marked_inv h
  rw [List.length_drop] at hk
  have o := ok.tried
  exact ⟨⟨o.blk, o.sum, o.top, o.lpos, o.ltop, o.sure, by show s.pos + k + 1 ≤ s.l.length; omega, o.len, o.lab, o.er⟩, by omega⟩

/-- IndexFunc at the blocks from the position on -/
theorem index_vol (h : VolAt w B g s v) (ok : s.ok) : ∃ A c, v = .slice A s.l.length c ∧ s.l.length ≤ c ∧
    ∀ A' c', ((A' = A ∧ c = s.pos) ∨ (∃ a, A = some a ∧ A' = some (a.add (s.pos * 3)))) → ∀ W, Below w.heap.size w W → Calls Try.prog 49 #[.slice A' (s.l.length - s.pos) c', .func (.func 50) #[] #[]] W fun e w' => e = .returned (.int .i64 (markInt (s.l.drop s.pos))) ∧ Below W.heap.size W w' := by
  have hp := ok.pos
  have hln := ok.len
  obtain ⟨A, c, rfl, hc, _, hnil, hsome⟩ := h.form
  refine ⟨A, c, rfl, hc, fun A' c' hA W hb => ?_⟩
  have hzero : s.l.length = s.pos → markInt (s.l.drop s.pos) = -1 := fun e => by
    unfold markInt
    rw [List.drop_of_length_le (by omega), marked_nil]
  by_cases he : s.l.length = s.pos
  · rw [hzero he, he, Nat.sub_self]
    exact index_none _ _ _
  · rcases hA with ⟨_, e⟩ | ⟨a, rfl, rfl⟩
    · omega
    · obtain ⟨q, rfl, hq, _, _, hcell, _, _⟩ := hsome _ rfl
      have ea : (⟨q, 0, none⟩ : Addr).add (s.pos * 3) = ⟨q, s.pos * 3, none⟩ := by unfold Addr.add; split <;> simp_all
      rw [ea]
      have hs := hb.size
      refine index_any q (s.pos * 3) c' (s.l.drop s.pos) _ (by rw [List.length_drop]) (by rw [List.length_drop]; omega) W (by omega) (fun k hk => ?_)
      rw [List.length_drop] at hk
      have hk' : s.pos + k < s.l.length := by omega
      obtain ⟨g0, g1, g2⟩ := cells3_get hk'
      have hB : ∀ j, W.cell? ⟨q, j, none⟩ = w.cell? ⟨q, j, none⟩ := fun j => hb.cell (p := ⟨q, j, none⟩) hq
      rw [List.getElem_drop]
      refine ⟨?_, ?_, ?_⟩
      · rw [hB, show s.pos * 3 + k * 3 = (s.pos + k) * 3 by omega, hcell _ (by omega)]; exact g0
      · rw [hB, show s.pos * 3 + k * 3 + 1 = (s.pos + k) * 3 + 1 by omega, hcell _ (by omega)]; exact g1
      · rw [hB, show s.pos * 3 + k * 3 + 2 = (s.pos + k) * 3 + 2 by omega, hcell _ (by omega)]; exact g2

set_option maxRecDepth 100000 in
set_option maxHeartbeats 2000000 in
theorem skip_vol (h : Vol w B g s) : Calls Try.prog 23 #[.pointer (some ⟨g, 0, none⟩)] w (VolEnds w B g s.skip) := by
  obtain ⟨ok, v, h⟩ := h
  have hT := try_vol h ok
  have OK := Lib.hid ok.tried
  have hps := ok.pos
  have hln := ok.len
  by_cases hc : s.err = 0
  · rw [hc] at hT
    have hr : s.skip = match marked (s.l.drop s.pos) with
      | none => (s.tried, 2)
      | some k => ({ s.tried with pos := s.pos + k + 1 }, 0) := by unfold VS.skip; rw [if_neg (by simp [hc])]; rfl
    have HR := Lib.hid hr
    have OL := Lib.hid ok
    clear hr h ok hc
    go_enter Try.func23, Try.ntmps23
    go_wp2_with fail
    refine hT.mono ?_
    rintro e w1 ⟨rfl, h1, st1, _⟩
    have HST := Lib.hid st1; clear st1 hT
    obtain ⟨A, c, rfl, hc, hI⟩ := index_vol h1 OK.out
    have c7 : w1.cell? ⟨g, 7, none⟩ = some (.int .i64 s.pos) := h1.at_.cell 7
    have c5 : w1.cell? ⟨g, 5, none⟩ = some (.slice A s.l.length c) := h1.at_.cell 5
    have hI : ∀ A' c', ((A' = A ∧ c = s.pos) ∨ (∃ a, A = some a ∧ A' = some (a.add (s.pos * 3)))) → ∀ W, Below w1.heap.size w1 W → Calls Try.prog 49 #[.slice A' (s.l.length - s.pos) c', .func (.func 50) #[] #[]] W fun e w' => e = .returned (.int .i64 (markInt (s.l.drop s.pos))) ∧ Below W.heap.size W w' := hI
    have HI := Lib.hid hI
    have H1 := Lib.hid h1
    clear hI h1
    have i0 : (0 : Int) ≤ (s.pos : Int) := by omega
    have i1 : (s.pos : Int) ≤ (s.l.length : Int) := by omega
    by_cases hcp : c = s.pos
    · skip
      have hbd : Below w1.heap.size w1 w1.drew := ⟨rfl, rfl, rfl, Nat.le_refl _, fun _ _ => rfl⟩
      have HI2 := Lib.hid (fun W hb c' => HI.out A c' (.inl ⟨rfl, hcp⟩) W hb)
      have HCP := Lib.hid hcp
      subst hcp
      cases hm : marked (s.l.drop s.pos) with
      | none =>
        have hmi : markInt (s.l.drop s.pos) = -1 := by unfold markInt; rw [hm]
        rw [hmi] at HI2
        have hres : s.skip = (s.tried, 2) := by rw [HR.out, hm]
        have HRES := Lib.hid hres
        clear hmi hm hres HR HI
        go_wp2_with fail
        go_region_with (go_at_call 49; refine (HI2.out _ hbd _).mono ?_; rintro e w2 ⟨rfl, hb2⟩)
        all_goals
          have HB2 : Hid (Below w1.heap.size w1 w2) := Lib.hid ⟨hb2.os, hb2.tape, hb2.output, hb2.size, hb2.block⟩
          clear hb2 hbd HI2
          go_wp2
          go_ret
          show VolEnds w B g s.skip _ _
          rw [HRES.out]
          exact ⟨rfl, ⟨OK.out, _, H1.out.below HB2.out⟩, HST.out.trans (Stay.of_below HB2.out H1.out.bz)⟩
      | some k =>
        have hmi : markInt (s.l.drop s.pos) = (k : Int) := by unfold markInt; rw [hm]
        rw [hmi] at HI2
        have hres : s.skip = ({ s.tried with pos := s.pos + k + 1 }, 0) := by rw [HR.out, hm]
        have hsk := skip_ok OL.out hm
        have HRES := Lib.hid hres
        have hkl : s.pos + k + 1 ≤ s.l.length := hsk.2
        have HOK := Lib.hid hsk.1
        clear hmi hm hres HR HI hsk
        have HE := Lib.hid (show ((s.pos + k + 1 : Nat) : Int) = (s.pos : Int) + ((k : Int) + 1) by omega)
        go_wp2_with fail
        go_region_with (go_at_call 49; refine (HI2.out _ hbd _).mono ?_; rintro e w2 ⟨rfl, hb2⟩)
        all_goals
          have HB2 : Hid (Below w1.heap.size w1 w2) := Lib.hid ⟨hb2.os, hb2.tape, hb2.output, hb2.size, hb2.block⟩
          clear hb2 hbd HI2 c5 c7
          have h2 := H1.out.below HB2.out
          have c7 : w2.cell? ⟨g, 7, none⟩ = some (.int .i64 s.pos) := h2.at_.cell 7
          have f7 := h2.at_.frozen 7
          have R := h2.setOwn (s' := { s.tried with pos := s.pos + k + 1 }) HOK.out 7 (.int .i64 ((s.pos + k + 1 : Nat) : Int)) rfl rfl
          rw [HE.out] at R
          have HR2 := Lib.hid R
          have HS2 := Lib.hid (HST.out.trans (Stay.of_below HB2.out H1.out.bz))
          clear R h2 HE HST
          go_wp2
          go_ret
          show VolEnds w B g s.skip _ _
          rw [HRES.out]
          exact ⟨rfl, HR2.out.1, HS2.out.trans HR2.out.2⟩
    · skip
      have hbd : Below w1.heap.size w1 w1.drew := ⟨rfl, rfl, rfl, Nat.le_refl _, fun _ _ => rfl⟩
      obtain ⟨a, rfl⟩ : ∃ a, A = some a := by
        cases A with
        | none => exact absurd (by obtain ⟨A', c', e, _, _, h1, _⟩ := H1.out.form; simp only [Value.slice.injEq] at e; obtain ⟨rfl, _, rfl⟩ := e; have h2 := (h1 rfl).1; have h3 : s.l = [] := h2; rw [(h1 rfl).2]; rw [h3] at i1; simp at i1; omega) hcp
        | some a => exact ⟨a, rfl⟩
      have HI2 := Lib.hid (fun W hb c' => HI.out (some (a.add (s.pos * 3))) c' (.inr ⟨a, rfl, rfl⟩) W hb)
      cases hm : marked (s.l.drop s.pos) with
      | none =>
        have hmi : markInt (s.l.drop s.pos) = -1 := by unfold markInt; rw [hm]
        rw [hmi] at HI2
        have hres : s.skip = (s.tried, 2) := by rw [HR.out, hm]
        have HRES := Lib.hid hres
        clear hmi hm hres HR HI
        go_wp2_with fail
        go_region_with (go_at_call 49; refine (HI2.out _ hbd _).mono ?_; rintro e w2 ⟨rfl, hb2⟩)
        all_goals
          have HB2 : Hid (Below w1.heap.size w1 w2) := Lib.hid ⟨hb2.os, hb2.tape, hb2.output, hb2.size, hb2.block⟩
          clear hb2 hbd HI2
          go_wp2
          go_ret
          show VolEnds w B g s.skip _ _
          rw [HRES.out]
          exact ⟨rfl, ⟨OK.out, _, H1.out.below HB2.out⟩, HST.out.trans (Stay.of_below HB2.out H1.out.bz)⟩
      | some k =>
        have hmi : markInt (s.l.drop s.pos) = (k : Int) := by unfold markInt; rw [hm]
        rw [hmi] at HI2
        have hres : s.skip = ({ s.tried with pos := s.pos + k + 1 }, 0) := by rw [HR.out, hm]
        have hsk := skip_ok OL.out hm
        have HRES := Lib.hid hres
        have hkl : s.pos + k + 1 ≤ s.l.length := hsk.2
        have HOK := Lib.hid hsk.1
        clear hmi hm hres HR HI hsk
        have HE := Lib.hid (show ((s.pos + k + 1 : Nat) : Int) = (s.pos : Int) + ((k : Int) + 1) by omega)
        go_wp2_with fail
        go_region_with (go_at_call 49; refine (HI2.out _ hbd _).mono ?_; rintro e w2 ⟨rfl, hb2⟩)
        all_goals
          have HB2 : Hid (Below w1.heap.size w1 w2) := Lib.hid ⟨hb2.os, hb2.tape, hb2.output, hb2.size, hb2.block⟩
          clear hb2 hbd HI2 c5 c7
          have h2 := H1.out.below HB2.out
          have c7 : w2.cell? ⟨g, 7, none⟩ = some (.int .i64 s.pos) := h2.at_.cell 7
          have f7 := h2.at_.frozen 7
          have R := h2.setOwn (s' := { s.tried with pos := s.pos + k + 1 }) HOK.out 7 (.int .i64 ((s.pos + k + 1 : Nat) : Int)) rfl rfl
          rw [HE.out] at R
          have HR2 := Lib.hid R
          have HS2 := Lib.hid (HST.out.trans (Stay.of_below HB2.out H1.out.bz))
          clear R h2 HE HST
          go_wp2
          go_ret
          show VolEnds w B g s.skip _ _
          rw [HRES.out]
          exact ⟨rfl, HR2.out.1, HS2.out.trans HR2.out.2⟩
  · have hr : s.skip = (s.tried, s.err) := by unfold VS.skip; rw [if_pos hc]
    rw [hr]
    generalize s.err = c at *
    clear hr h ok
    go_enter Try.func23, Try.ntmps23
    go_wp2_with fail
    refine hT.mono ?_
    rintro e w1 ⟨rfl, h1, st1, _⟩
    have HST := Lib.hid st1; clear st1 hT
    have H1 := Lib.hid h1; clear h1
    go_wp2
    go_ret
    exact ⟨rfl, ⟨OK.out, v, H1.out⟩, HST.out⟩
end
end Go.Proofs.Ytchpdeogmbbjgaa
