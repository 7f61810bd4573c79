/- (*reel.Volume).add, Write, Mark: their walks. -/
import Derived.Test.YtniecodpdmjppaaDoorVa
namespace Go.Proofs.YtniecodpdmjppaaDoor
open Go.RowKit
set_option linter.unusedVariables false

section
variable {w : World} {B g : Nat} {s s' : VS} {v : Value}

theorem torn_same (h : VolAt w B g s v) (hlen : s.l.length ≤ 1000000) :
    Calls Tryd.prog 68 #[.pointer (some ⟨g, 0, none⟩)] w fun e w' => e = .returned (.bool (lastTorn s.l)) ∧ w' = w :=
  (torn_vol h hlen).mono fun _ _ ⟨he, hw⟩ => ⟨he, hw.symm⟩

set_option maxRecDepth 100000 in
set_option maxHeartbeats 1000000 in
theorem add_vol (h : Vol w B g s) (b : Blk) (hb : b.ok) (hlen : s.l.length < 1000000) :
    Calls Tryd.prog 57 #[.pointer (some ⟨g, 0, none⟩), .agg #[.string b.t, .bool b.mark, .bool b.torn]] w (VolEnds w B g (s.add b)) := by
  obtain ⟨ok, v, h⟩ := h
  have hbz := h.bz
  have hbx := h.alloc (.cells #[.string b.t, .bool b.mark, .bool b.torn] 101)
  have st0 := Stay.alloc (g := g) w (.cells #[.string b.t, .bool b.mark, .bool b.torn] 101) hbz
  have hT := try_vol hbx ok
  have HBX := Lib.hid (At.new w 101 #[.string b.t, .bool b.mark, .bool b.torn])
  have HS0 := Lib.hid st0
  have OK := Lib.hid ok.tried
  have hgx : g < w.heap.size := h.lt
  have hlen' : s.l.length ≤ 1000000 := by omega
  have hps := ok.pos
  have hss := ok.sure
  clear hbx st0 h
  by_cases hc : s.err = 0
  · rw [hc] at hT
    by_cases hp : s.pr = true
    · have hr : s.add b = (s.tried, 15) := by unfold VS.add; rw [if_neg (by simp [hc]), if_pos hp]
      rw [hr]
      clear hr
      go_enter Tryd.func57, Tryd.ntmps57
      go_wp2_with fail
      refine hT.mono ?_
      rintro e w1 ⟨rfl, h1, st1, _⟩
      have HST := Lib.hid (HS0.out.trans st1); clear st1 hT HS0
      have c9 : w1.cell? ⟨g, 9, none⟩ = some (.bool true) := by have := h1.at_.cell 9; rw [this, ← hp]; rfl
      have H1 := Lib.hid h1
      clear h1 hc hp ok
      go_wp2
      go_ret
      exact ⟨rfl, ⟨OK.out, _, H1.out⟩, HST.out⟩
    · have hp' : s.pr = false := by simpa using hp
      by_cases ho : s.pos < s.l.length ∨ lastTorn s.l = true
      · have hr : s.add b = (s.tried, 16) := by unfold VS.add; rw [if_neg (by simp [hc]), if_neg hp, if_pos ho]
        rw [hr]
        clear hr
        by_cases hlt : s.pos < s.l.length
        · have hd : decide ((s.pos : Nat) < s.l.length) = true := by simpa using hlt
          go_enter Tryd.func57, Tryd.ntmps57
          go_wp2_with fail
          refine hT.mono ?_
          rintro e w1 ⟨rfl, h1, st1, _⟩
          have HST := Lib.hid (HS0.out.trans st1); clear st1 hT HS0
          have c9 : w1.cell? ⟨g, 9, none⟩ = some (.bool false) := by have := h1.at_.cell 9; rw [this, ← hp']; rfl
          have H1 := Lib.hid h1
          obtain ⟨A, k, rfl, hk, _, hnil, hsome⟩ := h1.form
          have c7 : w1.cell? ⟨g, 7, none⟩ = some (.int .i64 s.pos) := h1.at_.cell 7
          have c5 : w1.cell? ⟨g, 5, none⟩ = some (.slice A s.l.length k) := h1.at_.cell 5
          clear hnil hsome h1 hc hp hp' ok ho hk
          generalize s.l.length = z at *
          generalize s.pos = ps at *
          go_wp2
          go_quiet (fail)
          go_wp2
          go_ret
          exact ⟨rfl, ⟨OK.out, _, H1.out.drewN _⟩, HST.out.trans (Stay.drewN _ _)⟩
        · have htn : lastTorn s.l = true := by rcases ho with h | h; exact absurd h hlt; exact h
          have hd : decide ((s.pos : Nat) < s.l.length) = false := by simpa using hlt
          go_enter Tryd.func57, Tryd.ntmps57
          go_wp2_with fail
          refine hT.mono ?_
          rintro e w1 ⟨rfl, h1, st1, _⟩
          have HST := Lib.hid (HS0.out.trans st1); clear st1 hT HS0
          have c9 : w1.cell? ⟨g, 9, none⟩ = some (.bool false) := by have := h1.at_.cell 9; rw [this, ← hp']; rfl
          have H1 := Lib.hid h1
          have hTn : ∀ n, Calls Tryd.prog 68 #[.pointer (some ⟨g, 0, none⟩)] (w1.drewN n) fun e w' => e = .returned (.bool true) ∧ w' = w1.drewN n := fun n => by
            have := torn_same (h1.drewN n) hlen'
            rw [show lastTorn s.tried.l = true from htn] at this
            exact this
          obtain ⟨A, k, rfl, hk, _, hnil, hsome⟩ := h1.form
          have c7 : w1.cell? ⟨g, 7, none⟩ = some (.int .i64 s.pos) := h1.at_.cell 7
          have c5 : w1.cell? ⟨g, 5, none⟩ = some (.slice A s.l.length k) := h1.at_.cell 5
          have HTN := Lib.hid hTn
          clear hnil hsome h1 hc hp hp' ok ho hk htn hTn
          generalize s.l.length = z at *
          generalize s.pos = ps at *
          go_wp2
          go_quiet ((go_at_call 68; exact Calls.quiet_of_same (HTN.out _)))
          go_wp2
          go_ret
          exact ⟨rfl, ⟨OK.out, _, H1.out.drewN _⟩, HST.out.trans (Stay.drewN _ _)⟩
      · have htn : lastTorn s.l = false := by
          cases h : lastTorn s.l with
          | false => rfl
          | true => exact absurd (.inr h) ho
        have hpl : s.pos = s.l.length := by have := hps; omega
        have hd : decide ((s.pos : Nat) < s.l.length) = false := by simp; omega
        by_cases hf : s.rm - wsum s.l < b.wt
        · have hr : s.add b = (s.tried, 7) := by unfold VS.add; rw [if_neg (by simp [hc]), if_neg hp, if_neg ho, if_pos hf]
          rw [hr]
          clear hr ho hpl ok hc
          have OK2 := Lib.hid hf
          clear hf
          go_enter Tryd.func57, Tryd.ntmps57
          go_wp2_with fail
          refine hT.mono ?_
          rintro e w1 ⟨rfl, h1, st1, hg1⟩
          have HST := Lib.hid (HS0.out.trans st1); clear st1 hT HS0
          have c9 : w1.cell? ⟨g, 9, none⟩ = some (.bool false) := by have := h1.at_.cell 9; rw [this, ← hp']; rfl
          have H1 := Lib.hid h1
          have HB1 := Lib.hid (HBX.out.grown hg1 (by simp; omega))
          have hTn : ∀ n, Calls Tryd.prog 68 #[.pointer (some ⟨g, 0, none⟩)] (w1.drewN n) fun e w' => e = .returned (.bool false) ∧ w' = w1.drewN n := fun n => by
            have := torn_same (h1.drewN n) hlen'
            rw [show lastTorn s.tried.l = false from htn] at this
            exact this
          obtain ⟨A, k, rfl, hk, _, hnil, hsome⟩ := h1.form
          have c7 : w1.cell? ⟨g, 7, none⟩ = some (.int .i64 s.pos) := h1.at_.cell 7
          have c5 : w1.cell? ⟨g, 5, none⟩ = some (.slice A s.l.length k) := h1.at_.cell 5
          have HTN := Lib.hid hTn
          clear hnil hsome h1 hp hp' hk hTn
          generalize s.l.length = z at *
          go_wp2
          go_quiet ((go_at_call 68; exact Calls.quiet_of_same (HTN.out _)))
          have H2 := Lib.hid (H1.out.drewN nq)
          have HB2 := Lib.hid (HB1.out.drewN nq)
          have HST2 := Lib.hid (HST.out.trans (Stay.drewN w1 nq))
          clear H1 HB1 HST HTN c5 c7 c9
          generalize w1.drewN nq = w2 at *
          have b0 := HB2.out.cell 0
          have b1 := HB2.out.cell 1
          have b2 := HB2.out.cell 2
          simp at b0 b1 b2
          have P := put_full H2.out OK.out b hb.1 OK2.out
          have HP := Lib.hid P; clear P
          go_wp2_with fail
          refine HP.out.mono ?_
          rintro e w3 ⟨rfl, h3, st3⟩
          have H3 := Lib.hid h3
          have HST3 := Lib.hid (HST2.out.trans st3)
          clear h3 st3 HP H2 HB2 HST2 b0 b1 b2
          go_wp2
          go_ret
          exact ⟨rfl, ⟨OK.out, _, H3.out⟩, HST3.out⟩
        · have hr : s.add b = ({ s.tried with l := s.l ++ [b], pos := s.pos + 1 }, 0) := by unfold VS.add; rw [if_neg (by simp [hc]), if_neg hp, if_neg ho, if_neg hf]
          rw [hr]
          have hok' : VS.ok { s.tried with l := s.l ++ [b], pos := s.pos + 1 } := by
            have o1 := ok.tried
            have o2 := ok.sum
            refine ⟨fun c hc => ?_, ?_, o1.top, o1.lpos, o1.ltop, ?_, ?_, ?_, o1.lab, o1.er⟩
            · rcases List.mem_append.1 hc with h | h
              · exact ok.blk c h
              · rw [List.mem_singleton.1 h]; exact hb
            · show ((wsum (s.l ++ [b]) : Nat) : Int) ≤ s.rm
              rw [wsum_append, wsum_one]
              omega
            · show s.sure ≤ (s.l ++ [b]).length
              rw [List.length_append]; omega
            · show s.pos + 1 ≤ (s.l ++ [b]).length
              rw [List.length_append]; simp; omega
            · show (s.l ++ [b]).length ≤ 1000000
              rw [List.length_append]; simp; omega
          have OKF := Lib.hid hok'
          clear hr ho hpl ok hc hok'
          have OK2 := Lib.hid (Int.not_lt.1 hf)
          clear hf
          go_enter Tryd.func57, Tryd.ntmps57
          go_wp2_with fail
          refine hT.mono ?_
          rintro e w1 ⟨rfl, h1, st1, hg1⟩
          have HST := Lib.hid (HS0.out.trans st1); clear st1 hT HS0
          have c9 : w1.cell? ⟨g, 9, none⟩ = some (.bool false) := by have := h1.at_.cell 9; rw [this, ← hp']; rfl
          have H1 := Lib.hid h1
          have HB1 := Lib.hid (HBX.out.grown hg1 (by simp; omega))
          have hTn : ∀ n, Calls Tryd.prog 68 #[.pointer (some ⟨g, 0, none⟩)] (w1.drewN n) fun e w' => e = .returned (.bool false) ∧ w' = w1.drewN n := fun n => by
            have := torn_same (h1.drewN n) hlen'
            rw [show lastTorn s.tried.l = false from htn] at this
            exact this
          obtain ⟨A, k, rfl, hk, _, hnil, hsome⟩ := h1.form
          have c7 : w1.cell? ⟨g, 7, none⟩ = some (.int .i64 s.pos) := h1.at_.cell 7
          have c5 : w1.cell? ⟨g, 5, none⟩ = some (.slice A s.l.length k) := h1.at_.cell 5
          have HTN := Lib.hid hTn
          clear hnil hsome h1 hp hp' hk hTn
          generalize hz : s.l.length = z at *
          have HZ := Lib.hid hz; clear hz
          go_wp2
          go_quiet ((go_at_call 68; exact Calls.quiet_of_same (HTN.out _)))
          have H2 := Lib.hid (H1.out.drewN nq)
          have HB2 := Lib.hid (HB1.out.drewN nq)
          have HST2 := Lib.hid (HST.out.trans (Stay.drewN w1 nq))
          clear H1 HB1 HST HTN c5 c7 c9
          generalize w1.drewN nq = w2 at *
          have b0 := HB2.out.cell 0
          have b1 := HB2.out.cell 1
          have b2 := HB2.out.cell 2
          simp at b0 b1 b2
          have P := put_fits H2.out OK.out b hb.1 OK2.out (by have := HZ.out; show s.l.length ≤ 1000000; omega)
          have HP := Lib.hid P; clear P
          go_wp2_with fail
          refine HP.out.mono ?_
          rintro e w3 ⟨rfl, ⟨v3, h3⟩, st3⟩
          have c7 : w3.cell? ⟨g, 7, none⟩ = some (.int .i64 s.pos) := h3.at_.cell 7
          have f7 := h3.at_.frozen 7
          have hp1 : s.pos ≤ 1000000 := by omega
          have R := Lib.hid (h3.setOwn OKF.out 7 (.int .i64 ((s.pos : Int) + 1)) rfl rfl)
          have HST3 := Lib.hid (HST2.out.trans st3)
          clear h3 st3 HP H2 HB2 HST2 b0 b1 b2 OKF
          go_wp2
          go_ret
          exact ⟨rfl, R.out.1, HST3.out.trans R.out.2⟩
  · have hr : s.add b = (s.tried, s.err) := by unfold VS.add; rw [if_pos hc]
    rw [hr]
    generalize s.err = c at *
    clear hr
    go_enter Tryd.func57, Tryd.ntmps57
    go_wp2_with fail
    refine hT.mono ?_
    rintro e w1 ⟨rfl, h1, st1, _⟩
    have HST := Lib.hid (HS0.out.trans st1); clear st1 hT HS0
    have H1 := Lib.hid h1
    clear h1 ok
    go_wp2
    go_ret
    exact ⟨rfl, ⟨OK.out, v, H1.out⟩, HST.out⟩

set_option maxHeartbeats 400000 in
theorem write_vol (h : Vol w B g s) (t : ByteArray) (ht : t.size ≤ 1000000) (hlen : s.l.length < 1000000) :
    Calls Tryd.prog 42 #[.pointer (some ⟨g, 0, none⟩), .string t] w (VolEnds w B g (s.add ⟨t, false, false⟩)) := by
  have hbz := h.bz
  have hC := clone_any t w (by omega)
  have HA : Hid (∀ W, Below w.heap.size w W → Calls Tryd.prog 57 #[.pointer (some ⟨g, 0, none⟩), .agg #[.string t, .bool false, .bool false]] W (VolEnds W B g (s.add ⟨t, false, false⟩))) :=
    Lib.hid fun W hb => add_vol (h.below hb) ⟨t, false, false⟩ ⟨ht, fun h => by cases h⟩ hlen
  generalize s.add ⟨t, false, false⟩ = r at *
  clear h
  go_enter Tryd.func42, Tryd.ntmps42
  go_wp2_with fail
  refine hC.mono ?_
  rintro e w1 ⟨rfl, hb⟩
  go_wp2_with fail
  refine (HA.out w1 hb).mono ?_
  rintro e w2 ⟨rfl, h2, st2⟩
  have H2 := Lib.hid h2
  have ST := Lib.hid ((Stay.of_below hb hbz).trans st2)
  clear h2 st2 hb HA hC
  go_wp2
  go_ret
  exact ⟨rfl, H2.out, ST.out⟩

set_option maxHeartbeats 400000 in
theorem mark_vol (h : Vol w B g s) (hlen : s.l.length < 1000000) :
    Calls Tryd.prog 44 #[.pointer (some ⟨g, 0, none⟩)] w (VolEnds w B g (s.add ⟨⟨#[]⟩, true, false⟩)) := by
  have HA := Lib.hid (add_vol h ⟨⟨#[]⟩, true, false⟩ ⟨by show 0 ≤ 1000000; decide, fun _ => rfl⟩ hlen)
  generalize s.add ⟨⟨#[]⟩, true, false⟩ = r at *
  clear h
  go_enter Tryd.func44, Tryd.ntmps44
  go_wp2_with fail
  refine HA.out.mono ?_
  rintro e w2 ⟨rfl, h2, st2⟩
  have H2 := Lib.hid h2
  have ST := Lib.hid st2
  clear h2 st2 HA
  go_wp2
  go_ret
  exact ⟨rfl, H2.out, ST.out⟩
end
end Go.Proofs.YtniecodpdmjppaaDoor
