/- (*reel.Volume).Trim, Erase, Crash: their walks. -/
import Derived.Test.YtejgogahkjnefaaVc
namespace Go.Proofs.Ytejgogahkjnefaa
open Go.RowKit
set_option linter.unusedVariables false

section
variable {w : World} {B g : Nat} {s s' : VS} {v : Value}

set_option maxRecDepth 100000 in
set_option maxHeartbeats 1000000 in
theorem trim_vol (h : Vol w B g s) : Calls Try.prog 22 #[.pointer (some ⟨g, 0, none⟩)] w (VolEnds w B g s.trim) := by
  obtain ⟨ok, v, h⟩ := h
  have hT := try_vol h ok
  have OK := Lib.hid ok.tried
  have hln := ok.len
  by_cases hc : s.err = 0
  · rw [hc] at hT
    by_cases ht : lastTorn s.l = false
    · have hr : s.trim = (s.tried, 5) := by unfold VS.trim; rw [if_neg (by simp [hc]), if_pos ht]
      rw [hr]
      clear hr
      go_enter Try.func22, Try.ntmps22
      go_wp2_with fail
      refine hT.mono ?_
      rintro e w1 ⟨rfl, h1, st1, _⟩
      have HST := Lib.hid st1; clear st1 hT
      have hTn := torn_vol h1 hln
      rw [show lastTorn s.tried.l = false from ht] at hTn
      have HTN := Lib.hid hTn
      have H1 := Lib.hid h1
      clear h1 hTn h ok hc ht
      go_wp2_with fail
      refine HTN.out.mono ?_
      rintro e w2 ⟨rfl, rfl⟩
      go_wp2
      go_ret
      exact ⟨rfl, ⟨OK.out, _, H1.out⟩, HST.out⟩
    · have ht' : lastTorn s.l = true := by simpa using ht
      have hn0 : 0 < s.l.length := by
        rcases Nat.eq_zero_or_pos s.l.length with h0 | h0
        · rw [List.eq_nil_of_length_eq_zero h0] at ht'; cases ht'
        · exact h0
      by_cases hp : s.pr = true
      · have hr : s.trim = (s.tried, 15) := by unfold VS.trim; rw [if_neg (by simp [hc]), if_neg ht, if_pos hp]
        rw [hr]
        clear hr
        go_enter Try.func22, Try.ntmps22
        go_wp2_with fail
        refine hT.mono ?_
        rintro e w1 ⟨rfl, h1, st1, _⟩
        have HST := Lib.hid st1; clear st1 hT
        have hTn := torn_vol h1 hln
        rw [show lastTorn s.tried.l = true from ht'] at hTn
        have HTN := Lib.hid hTn
        have c9 : w1.cell? ⟨g, 9, none⟩ = some (.bool true) := by have := h1.at_.cell 9; rw [this, ← hp]; rfl
        have H1 := Lib.hid h1
        clear h1 hTn h ok hc ht ht' hp
        go_wp2_with fail
        refine HTN.out.mono ?_
        rintro e w2 ⟨rfl, rfl⟩
        go_wp2
        go_ret
        exact ⟨rfl, ⟨OK.out, _, H1.out⟩, HST.out⟩
      · have hp' : s.pr = false := by simpa using hp
        have hr : s.trim = (s.tried.cut (s.l.length - 1), 0) := by unfold VS.trim; rw [if_neg (by simp [hc]), if_neg ht, if_neg hp]
        rw [hr]
        clear hr
        go_enter Try.func22, Try.ntmps22
        go_wp2_with fail
        refine hT.mono ?_
        rintro e w1 ⟨rfl, h1, st1, _⟩
        have HST := Lib.hid st1; clear st1 hT
        have hTn := torn_vol h1 hln
        rw [show lastTorn s.tried.l = true from ht'] at hTn
        have HTN := Lib.hid hTn
        have c9 : w1.cell? ⟨g, 9, none⟩ = some (.bool false) := by have := h1.at_.cell 9; rw [this, ← hp']; rfl
        have hC := cut_vol h1 OK.out (s.l.length - 1) (by show s.l.length - 1 ≤ s.l.length; omega)
        have e1 : (((s.l.length - 1 : Nat) : Nat) : Int) = (s.l.length : Int) - 1 := by omega
        rw [e1] at hC
        have HC := Lib.hid hC
        have HOK : Hid (VS.ok (s.tried.cut (s.l.length - 1))) := Lib.hid (OK.out.cut (by show s.l.length - 1 ≤ s.l.length; omega))
        obtain ⟨A, k, rfl, hk, _, hnil, hsome⟩ := h1.form
        have c5 : w1.cell? ⟨g, 5, none⟩ = some (.slice A s.l.length k) := h1.at_.cell 5
        clear h1 hTn h ok hc ht ht' hp hp' hnil hsome hk hC e1
        generalize s.l.length = z at *
        have hz1 : 1 ≤ z := by omega
        go_wp2_with fail
        refine HTN.out.mono ?_
        rintro e w2 ⟨rfl, rfl⟩
        go_wp2_with fail
        refine HC.out.mono ?_
        rintro e w3 ⟨rfl, ⟨v3, h3⟩, st3, _⟩
        have H3 := Lib.hid h3
        have HST3 := Lib.hid (HST.out.trans st3)
        clear h3 st3 HC HTN c5 c9
        go_wp2
        go_ret
        exact ⟨rfl, ⟨HOK.out, _, H3.out⟩, HST3.out⟩
  · have hr : s.trim = (s.tried, s.err) := by unfold VS.trim; rw [if_pos hc]
    rw [hr]
    generalize s.err = c at *
    clear hr h ok
    go_enter Try.func22, Try.ntmps22
    go_wp2_with fail
    refine hT.mono ?_
    rintro e w1 ⟨rfl, h1, st1, _⟩
    have HST := Lib.hid st1; clear st1 hT
    have H1 := Lib.hid h1; clear h1
    go_wp2
    go_ret
    exact ⟨rfl, ⟨OK.out, v, H1.out⟩, HST.out⟩

end
end Go.Proofs.Ytejgogahkjnefaa
