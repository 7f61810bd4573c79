/- (*reel.Volume).Read: its walk. -/
import Derived.Test.YtniecodpdmjppaaDoorVb
namespace Go.Proofs.YtniecodpdmjppaaDoor
open Go.RowKit
set_option linter.unusedVariables false

def ReadEnds (w : World) (B g : Nat) (r : VS × Blk × Int) (e : Ending) (w' : World) : Prop :=
  e = .returned (.tuple #[.string r.2.1.t, .bool r.2.1.mark, .int .i64 r.2.2]) ∧ Vol w' B g r.1 ∧ Stay B g w w'

section
variable {w : World} {B g : Nat} {s s' : VS} {v : Value}

/-- the block at the position, in memory -/
theorem VolAt.next (h : VolAt w B g s v) {k : Nat} (hk : k < s.l.length) : ∃ q c, v = .slice (some ⟨q, 0, none⟩) s.l.length c ∧ s.l.length ≤ c ∧ q < w.heap.size ∧ q ≠ g ∧ B ≤ q ∧ w.cell? ⟨q, k * 3, none⟩ = some (.string s.l[k].t) ∧ w.cell? ⟨q, k * 3 + 1, none⟩ = some (.bool s.l[k].mark) ∧ w.cell? ⟨q, k * 3 + 2, none⟩ = some (.bool s.l[k].torn) := by
  obtain ⟨A, c, rfl, hc, _, hnil, hsome⟩ := h.form
  cases A with
  | none => rw [(hnil rfl).1] at hk; simp at hk
  | some a =>
    obtain ⟨q, rfl, hq, hB, hne, hcell, _, _⟩ := hsome _ rfl
    obtain ⟨g0, g1, g2⟩ := cells3_get hk
    exact ⟨q, c, rfl, hc, hq, hne, hB, (hcell _ (by omega)).trans g0, (hcell _ (by omega)).trans g1, (hcell _ (by omega)).trans g2⟩

theorem VolAt.of_size {o : Obj} (h : VolAt w B g s v) : g < (w.alloc o).heap.size := by have := h.lt; simp; omega

set_option maxRecDepth 100000 in
set_option maxHeartbeats 1000000 in
theorem read_vol (h : Vol w B g s) : Calls Tryd.prog 63 #[.pointer (some ⟨g, 0, none⟩)] w (ReadEnds w B g s.read) := by
  obtain ⟨ok, v, h⟩ := h
  have hbz := h.bz
  have hT := try_vol h ok
  have OK := Lib.hid ok.tried
  have hps := ok.pos
  have hln := ok.len
  by_cases hc : s.err = 0
  · rw [hc] at hT
    by_cases hp : s.pos = s.l.length
    · have hr : s.read = (s.tried, .no, 2) := by unfold VS.read; rw [if_neg (by simp [hc]), List.getElem?_eq_none (by omega)]
      rw [hr]
      clear hr h ok hc
      go_enter Tryd.func63, Tryd.ntmps63
      go_wp2_with fail
      refine hT.mono ?_
      rintro e w1 ⟨rfl, h1, st1, _⟩
      have HST := Lib.hid st1; clear st1 hT
      have H1 := Lib.hid h1
      obtain ⟨A, k, rfl, hk, _, hnil, hsome⟩ := h1.form
      have c7 : w1.cell? ⟨g, 7, none⟩ = some (.int .i64 s.l.length) := by rw [← hp]; exact h1.at_.cell 7
      have c5 : w1.cell? ⟨g, 5, none⟩ = some (.slice A s.l.length k) := h1.at_.cell 5
      clear hnil hsome h1 hk hp hps
      generalize s.l.length = z at *
      go_wp2
      go_quiet (fail)
      go_wp2
      go_ret3
      exact ⟨rfl, ⟨OK.out, _, H1.out.drewN _⟩, HST.out.trans (Stay.drewN _ _)⟩
    · have hlt : s.pos < s.l.length := by omega
      obtain ⟨b, hbe⟩ : ∃ b, s.l[s.pos] = b := ⟨_, rfl⟩
      have hbok : b.ok := by rw [← hbe]; exact ok.blk _ (List.getElem_mem hlt)
      have hpe : ((s.pos : Nat) == s.l.length) = false := by simpa using hp
      have i0 : (0 : Int) ≤ (s.pos : Int) := by omega
      have i1 : (s.pos : Int) < (s.l.length : Int) := by omega
      have hCl := fun W => clone_any b.t W (by have := hbok.1; omega)
      by_cases ht : b.torn = true
      · have hr : s.read = (s.tried, .no, 4) := by unfold VS.read; rw [if_neg (by simp [hc]), List.getElem?_eq_getElem hlt]; simp only; rw [hbe, if_pos ht]
        rw [hr]
        clear hr
        go_enter Tryd.func63, Tryd.ntmps63
        go_wp2_with fail
        refine hT.mono ?_
        rintro e w1 ⟨rfl, h1, st1, _⟩
        have HST := Lib.hid st1; clear st1 hT
        have H1 := Lib.hid h1
        obtain ⟨q, k, rfl, hk, hq, hne, _, e0, e1, e2⟩ := h1.next hlt
        have c7 : w1.cell? ⟨g, 7, none⟩ = some (.int .i64 s.pos) := h1.at_.cell 7
        have c5 : w1.cell? ⟨g, 5, none⟩ = some (.slice (some ⟨q, 0, none⟩) s.l.length k) := h1.at_.cell 5
        have d0 : w1.cell? ⟨q, s.pos * 3, none⟩ = some (.string b.t) := by rw [e0]; show some (Value.string (s.l[s.pos]).t) = _; rw [hbe]
        have d1 : w1.cell? ⟨q, s.pos * 3 + 1, none⟩ = some (.bool b.mark) := by rw [e1]; show some (Value.bool (s.l[s.pos]).mark) = _; rw [hbe]
        have d2 : w1.cell? ⟨q, s.pos * 3 + 2, none⟩ = some (.bool true) := by rw [e2]; show some (Value.bool (s.l[s.pos]).torn) = _; rw [hbe, ht]
        have hgz : g < w1.heap.size := h1.lt
        clear e0 e1 e2 hps hp h1 ok h hln hc hbe hlt ht
        generalize s.l.length = z at *
        generalize s.pos = ps at *
        go_wp2
        go_quiet (fail)
        have H2 := Lib.hid (H1.out.drewN nq)
        have HST2 := Lib.hid (HST.out.trans (Stay.drewN w1 nq))
        have c7 : (w1.drewN nq).cell? ⟨g, 7, none⟩ = some (.int .i64 ps) := c7
        have c5 : (w1.drewN nq).cell? ⟨g, 5, none⟩ = some (.slice (some ⟨q, 0, none⟩) z k) := c5
        have d0 : (w1.drewN nq).cell? ⟨q, ps * 3, none⟩ = some (.string b.t) := d0
        have d1 : (w1.drewN nq).cell? ⟨q, ps * 3 + 1, none⟩ = some (.bool b.mark) := d1
        have d2 : (w1.drewN nq).cell? ⟨q, ps * 3 + 2, none⟩ = some (.bool true) := d2
        have hqz : q < (w1.drewN nq).heap.size := hq
        have hgz2 : g < (w1.drewN nq).heap.size := hgz
        clear H1 HST hq hgz
        generalize w1.drewN nq = w2 at *
        generalize b.t = bt at *
        generalize b.mark = bm at *
        go_wp2_with fail
        go_region
        have HB3 : Hid (Below w2.heap.size w2 (w2.drew.alloc (.cells #[.string bt, .bool bm, .bool true] 101))) := Lib.hid (have h := (Below.refl w2.heap.size w2).alloc (Nat.le_refl _) (.cells #[.string bt, .bool bm, .bool true] 101); ⟨h.os, h.tape, h.output, h.size, h.block⟩)
        have hbz2 : B ≤ w2.heap.size := H2.out.bz
        clear c7 c5 d0 d1 d2
        go_wp2
        go_ret3
        exact ⟨rfl, ⟨OK.out, _, H2.out.below HB3.out⟩, HST2.out.trans (Stay.of_below HB3.out hbz2)⟩
      · have hr : s.read = ({ s.tried with pos := s.pos + 1 }, b, 0) := by unfold VS.read; rw [if_neg (by simp [hc]), List.getElem?_eq_getElem hlt]; simp only; rw [hbe, if_neg ht]
        rw [hr]
        clear hr
        have ht : b.torn = false := by simpa using ht
        have hok' : VS.ok { s.tried with pos := s.pos + 1 } := ⟨OK.out.blk, OK.out.sum, OK.out.top, OK.out.lpos, OK.out.ltop, OK.out.sure, hlt, OK.out.len, OK.out.lab, OK.out.er⟩
        have OKF := Lib.hid hok'; clear hok'
        have hpz : s.pos ≤ 1000000 := by omega
        have HF : Hid (∀ W v, VolAt W B g s.tried v → Vol (W.setCell ⟨g, 7, none⟩ (.int .i64 ((s.pos : Int) + 1))) B g { s.tried with pos := s.pos + 1 } ∧ Stay B g W (W.setCell ⟨g, 7, none⟩ (.int .i64 ((s.pos : Int) + 1)))) := Lib.hid fun W v h => h.setOwn OKF.out 7 _ rfl rfl
        go_enter Tryd.func63, Tryd.ntmps63
        go_wp2_with fail
        refine hT.mono ?_
        rintro e w1 ⟨rfl, h1, st1, _⟩
        have HST := Lib.hid st1; clear st1 hT
        have H1 := Lib.hid h1
        obtain ⟨q, k, rfl, hk, hq, hne, _, e0, e1, e2⟩ := h1.next hlt
        have c7 : w1.cell? ⟨g, 7, none⟩ = some (.int .i64 s.pos) := h1.at_.cell 7
        have c5 : w1.cell? ⟨g, 5, none⟩ = some (.slice (some ⟨q, 0, none⟩) s.l.length k) := h1.at_.cell 5
        have d0 : w1.cell? ⟨q, s.pos * 3, none⟩ = some (.string b.t) := by rw [e0]; show some (Value.string (s.l[s.pos]).t) = _; rw [hbe]
        have d1 : w1.cell? ⟨q, s.pos * 3 + 1, none⟩ = some (.bool b.mark) := by rw [e1]; show some (Value.bool (s.l[s.pos]).mark) = _; rw [hbe]
        have d2 : w1.cell? ⟨q, s.pos * 3 + 2, none⟩ = some (.bool false) := by rw [e2]; show some (Value.bool (s.l[s.pos]).torn) = _; rw [hbe, ht]
        have hgz : g < w1.heap.size := h1.lt
        clear e0 e1 e2 hps hp h1 ok h hln hc hbe hlt ht
        generalize s.l.length = z at *
        generalize s.pos = ps at *
        go_wp2
        go_quiet (fail)
        have H2 := Lib.hid (H1.out.drewN nq)
        have HST2 := Lib.hid (HST.out.trans (Stay.drewN w1 nq))
        have c7 : (w1.drewN nq).cell? ⟨g, 7, none⟩ = some (.int .i64 ps) := c7
        have c5 : (w1.drewN nq).cell? ⟨g, 5, none⟩ = some (.slice (some ⟨q, 0, none⟩) z k) := c5
        have d0 : (w1.drewN nq).cell? ⟨q, ps * 3, none⟩ = some (.string b.t) := d0
        have d1 : (w1.drewN nq).cell? ⟨q, ps * 3 + 1, none⟩ = some (.bool b.mark) := d1
        have d2 : (w1.drewN nq).cell? ⟨q, ps * 3 + 2, none⟩ = some (.bool false) := d2
        have hqz : q < (w1.drewN nq).heap.size := hq
        have hgz2 : g < (w1.drewN nq).heap.size := hgz
        clear H1 HST hq hgz
        generalize w1.drewN nq = w2 at *
        generalize hbt : b.t = bt at *
        have HBT := Lib.hid hbt; clear hbt
        generalize hbm : b.mark = bm at *
        have HBM := Lib.hid hbm; clear hbm
        go_wp2_with fail
        go_region
        have f7 := H2.out.at_.frozen 7
        have R := HF.out _ _ H2.out
        have hzs : (w2.setCell ⟨g, 7, none⟩ (.int .i64 ((ps : Int) + 1))).heap.size = w2.heap.size := by simp [World.setCell]
        go_wp2_with fail
        clear HF
        generalize hws : w2.setCell ⟨g, 7, none⟩ (.int .i64 ((ps : Int) + 1)) = ws at *
        have hbx := At.new ws 101 #[.string bt, .bool bm, .bool false]
        rw [hzs] at hbx
        have hV := R.1.alloc (.cells #[.string bt, .bool bm, .bool false] 101)
        have hSt := R.2.trans (Stay.alloc ws (.cells #[.string bt, .bool bm, .bool false] 101) R.1.bz)
        have hzx : w2.heap.size < (ws.alloc (.cells #[.string bt, .bool bm, .bool false] 101)).heap.size := by simp; omega
        clear hws R hzs c7 c5 d0 d1 d2 f7 H2
        generalize ws.alloc (.cells #[.string bt, .bool bm, .bool false] 101) = w3 at *
        have hbx : At w3.drew.drew w2.heap.size 101 #[.string bt, .bool bm, .bool false] := hbx
        have x0 := hbx.cell 0
        have x1 := hbx.cell 1
        have x2 := hbx.cell 2
        simp at x0 x1 x2
        have HV := Lib.hid hV
        have HST3 := Lib.hid (HST2.out.trans hSt)
        have HBX := Lib.hid hbx
        clear hV hSt hbx HST2
        go_region_with (go_at_call 33; refine (hCl _).mono ?_; rintro e w4 ⟨rfl, hb4⟩; have x1' := (HBX.out.below hb4 hzx).cell 1)
        all_goals
          have HB4 : Hid (Below w3.heap.size w3 w4) := Lib.hid ⟨hb4.os, hb4.tape, hb4.output, hb4.size, hb4.block⟩
          clear hb4 x1' x0 x1 x2 HBX hCl
          go_wp2
          go_ret3
          refine ⟨?_, HV.out.below HB4.out, HST3.out.trans (Stay.of_below HB4.out HV.out.bz)⟩
          simp only [HBT.out, HBM.out]
          rfl
  · have hr : s.read = (s.tried, .no, s.err) := by unfold VS.read; rw [if_pos hc]
    rw [hr]
    generalize s.err = c at *
    clear hr h ok
    go_enter Tryd.func63, Tryd.ntmps63
    go_wp2_with fail
    refine hT.mono ?_
    rintro e w1 ⟨rfl, h1, st1, _⟩
    have HST := Lib.hid st1; clear st1 hT
    have H1 := Lib.hid h1; clear h1
    go_wp2
    go_ret3
    exact ⟨rfl, ⟨OK.out, v, H1.out⟩, HST.out⟩
end
end Go.Proofs.YtniecodpdmjppaaDoor
