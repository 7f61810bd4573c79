/- (*reel.Volume).Trim, Erase, Crash: their walks. -/
import Derived.Test.YtniecodpdmjppaaDoorVc
namespace Go.Proofs.YtniecodpdmjppaaDoor
open Go.RowKit
set_option linter.unusedVariables false

section
variable {w : World} {B g : Nat} {s s' : VS} {v : Value}

set_option maxRecDepth 100000 in
set_option maxHeartbeats 1000000 in
theorem erase_vol (h : Vol w B g s) (t : ByteArray) (ht : t.size ≤ 1000000) (her : s.er < 1000000) : Calls Tryd.prog 31 #[.pointer (some ⟨g, 0, none⟩), .string t] w (VolEnds w B g (s.erase t)) := by
  obtain ⟨ok, v, h⟩ := h
  have hT := try_vol h ok
  have OK := Lib.hid ok.tried
  have hln := ok.len
  have her0 := ok.er.1
  by_cases hc : s.err = 0
  · rw [hc] at hT
    by_cases hp : s.pr = true
    · have hr : s.erase t = (s.tried, 15) := by unfold VS.erase; rw [if_neg (by simp [hc]), if_pos hp]
      rw [hr]
      clear hr
      go_enter Tryd.func31, Tryd.ntmps31
      go_wp2_with fail
      refine hT.mono ?_
      rintro e w1 ⟨rfl, h1, st1, _⟩
      have HST := Lib.hid st1; clear st1 hT
      have c9 : w1.cell? ⟨g, 9, none⟩ = some (.bool true) := by have := h1.at_.cell 9; rw [this, ← hp]; rfl
      have H1 := Lib.hid h1
      clear h1 h ok hc hp
      go_wp2
      go_ret
      exact ⟨rfl, ⟨OK.out, _, H1.out⟩, HST.out⟩
    · have hp' : s.pr = false := by simpa using hp
      have hr : s.erase t = ({ s.tried.cut 0 with lab := t, er := s.er + 1 }, 0) := by unfold VS.erase; rw [if_neg (by simp [hc]), if_neg hp]
      rw [hr]
      clear hr
      have hCl := fun W => clone_any t W (by omega)
      have hok1 : VS.ok (s.tried.cut 0) := OK.out.cut (Nat.zero_le _)
      have hok2 : VS.ok { s.tried.cut 0 with lab := t } := ⟨hok1.blk, hok1.sum, hok1.top, hok1.lpos, hok1.ltop, hok1.sure, hok1.pos, hok1.len, ht, hok1.er⟩
      have hok3 : VS.ok { s.tried.cut 0 with lab := t, er := s.er + 1 } := ⟨hok1.blk, hok1.sum, hok1.top, hok1.lpos, hok1.ltop, hok1.sure, hok1.pos, hok1.len, ht, by show 0 ≤ s.er + 1 ∧ s.er + 1 ≤ 1000000; omega⟩
      have HO2 := Lib.hid hok2
      have HO3 := Lib.hid hok3
      go_enter Tryd.func31, Tryd.ntmps31
      go_wp2_with fail
      refine hT.mono ?_
      rintro e w1 ⟨rfl, h1, st1, _⟩
      have HST := Lib.hid st1; clear st1 hT
      have c9 : w1.cell? ⟨g, 9, none⟩ = some (.bool false) := by have := h1.at_.cell 9; rw [this, ← hp']; rfl
      have hC := cut_vol h1 OK.out 0 (Nat.zero_le _)
      have HC := Lib.hid hC
      clear h1 h ok hc hp hp' hok1 hok2 hok3 hC
      go_wp2_with fail
      refine HC.out.mono ?_
      rintro e w3 ⟨rfl, ⟨v3, h3⟩, st3, _⟩
      have HST3 := Lib.hid (HST.out.trans st3)
      have H3 := Lib.hid h3
      clear h3 st3 HC c9
      go_wp2_with fail
      refine (hCl _).mono ?_
      rintro e w4 ⟨rfl, hb4⟩
      have h4 := H3.out.below hb4
      have HST4 := Lib.hid (HST3.out.trans (Stay.of_below hb4 H3.out.bz))
      have c4 : w4.cell? ⟨g, 4, none⟩ = _ := h4.at_.cell 4
      have c4' : w4.cell? ⟨g, 4, none⟩ = some (.string s.lab) := c4
      have c8 : w4.cell? ⟨g, 8, none⟩ = some (.int .i64 s.er) := h4.at_.cell 8
      have f4 := h4.at_.frozen 4
      have f8 := h4.at_.frozen 8
      have R1 := h4.setOwn (s' := { s.tried.cut 0 with lab := t }) HO2.out 4 (.string t) rfl rfl
      have hat2 := h4.at_.set 4 (.string t)
      have hv5 : VolAt (w4.setCell ⟨g, 4, none⟩ (.string t)) B g { s.tried.cut 0 with lab := t } v3 := h4.own rfl (grown_set _ _ _ _) hat2
      have R2 := Lib.hid (hv5.setOwn (s' := { s.tried.cut 0 with lab := t, er := s.er + 1 }) HO3.out 8 (.int .i64 (s.er + 1)) rfl rfl)
      have R1 := Lib.hid R1
      clear c4 hat2 hv5 h4 hb4 H3 HST3 hCl
      go_wp2
      go_ret
      exact ⟨rfl, R2.out.1, (HST4.out.trans R1.out.2).trans R2.out.2⟩
  · have hr : s.erase t = (s.tried, s.err) := by unfold VS.erase; rw [if_pos hc]
    rw [hr]
    generalize s.err = c at *
    clear hr h ok
    go_enter Tryd.func31, Tryd.ntmps31
    go_wp2_with fail
    refine hT.mono ?_
    rintro e w1 ⟨rfl, h1, st1, _⟩
    have HST := Lib.hid st1; clear st1 hT
    have H1 := Lib.hid h1; clear h1
    go_wp2
    go_ret
    exact ⟨rfl, ⟨OK.out, v, H1.out⟩, HST.out⟩
end
end Go.Proofs.YtniecodpdmjppaaDoor
