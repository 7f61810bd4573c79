/- Mounts in a library with one drive, and in one with three. -/
import Derived.Test.YtejgogahkjnefaaLgf
namespace Go.Proofs.Ytejgogahkjnefaa
open Go.RowKit
set_option linter.unusedVariables false
set_option linter.unusedSimpArgs false

/-- one drive -/
def oneD (L m : Int) : List Dr := [⟨L, m, 0, false⟩]
theorem mount_one (n : Nat) (L m mv mt v : Int) (hv : 0 ≤ v ∧ v < n) : mountF n (oneD L m) mv mt v = ⟨0, 0, oneD v (mt + 1), if v = L then mv else mv + 1, mt + 1⟩ := by
  have h1 : v ≠ -1 := by omega
  unfold mountF oneD
  rw [if_pos hv]
  by_cases h : v = L
  · subst h
    have hi : inF [⟨v, m, 0, false⟩] v = 0 := by simp [inF, h1, List.findIdx?_cons]
    rw [hi, if_neg (by decide), if_pos rfl]
    rfl
  · have h2 : ¬ L = v := fun e => h e.symm
    have hi : inF [⟨L, m, 0, false⟩] v = -1 := by simp [inF, h1, List.findIdx?_cons, h2]
    have hn : nextF [⟨L, m, 0, false⟩] = 0 := by simp [nextF, nextUp, nextStep]
    rw [hi, if_pos rfl, hn, if_neg (by decide), if_neg h]
    rfl

/-- three drives, of which the first ones hold volumes -/
def three (l : List (Int × Int)) : List Dr := (l.map fun p => ⟨p.1, p.2, 0, false⟩) ++ List.replicate (3 - l.length) (Dr.no false)
theorem three_len (l : List (Int × Int)) : (three l).length = l.length + (3 - l.length) := by unfold three; simp
structure Good3 (n : Nat) (l : List (Int × Int)) : Prop where
  len : l.length ≤ 3
  pos : ∀ p ∈ l, 0 ≤ p.1 ∧ p.1 < n ∧ 0 < p.2
  nd : (l.map (·.1)).Nodup
theorem mount_three (n : Nat) (hn3 : n ≤ 3) (l : List (Int × Int)) (h : Good3 n l) (mv mt v : Int) (hmt : 0 ≤ mt) (hv : 0 ≤ v ∧ v < n) :
    ∃ i l', mountF n (three l) mv mt v = ⟨i, 0, three l', if v ∈ l.map (·.1) then mv else mv + 1, mt + 1⟩ ∧ Good3 n l' ∧ l'.map (·.1) = (if v ∈ l.map (·.1) then l.map (·.1) else l.map (·.1) ++ [v]) := by
  have h1 : v ≠ -1 := by omega
  obtain ⟨hl, hp, hnd⟩ := h
  unfold mountF
  rw [if_pos hv]
  match l, hl, hp, hnd with
  | [], hl, hp, hnd =>
    refine ⟨0, [(v, mt + 1)], ?_, ⟨by simp, by simp; omega, by simp⟩, by simp⟩
    have hi : inF (three []) v = -1 := by simp [three, inF, h1, Dr.no, List.findIdx?_cons, List.replicate_succ, Ne.symm h1]
    have hx : nextF (three []) = 0 := by simp [three, nextF, nextUp, nextStep, Dr.no, List.replicate_succ]
    rw [hi, if_pos rfl, hx, if_neg (by decide), if_neg (by simp)]
    simp [three, drOf, Dr.no, List.replicate_succ]
  | [(a, la)], hl, hp, hnd =>
    obtain ⟨a0, a1, a2⟩ := hp (a, la) (by simp)
    simp only at a0 a1 a2
    by_cases e : v = a
    · subst e
      refine ⟨0, [(v, mt + 1)], ?_, ⟨by simp, by simp; omega, by simp⟩, by simp⟩
      have hi : inF (three [(v, la)]) v = 0 := by simp [three, inF, h1, List.findIdx?_cons]
      rw [hi, if_neg (by decide), if_pos (by simp)]
      simp [three, drOf, Dr.no, List.replicate_succ]
    · refine ⟨1, [(a, la), (v, mt + 1)], ?_, ⟨by simp, by simp; omega, by simp; omega⟩, by simp [e]⟩
      have hi : inF (three [(a, la)]) v = -1 := by simp [three, inF, h1, Dr.no, List.findIdx?_cons, List.replicate_succ, Ne.symm h1, Ne.symm e]
      have hx : nextF (three [(a, la)]) = 1 := by simp [three, nextF, nextUp, nextStep, Dr.no, List.replicate_succ, a2]
      rw [hi, if_pos rfl, hx, if_neg (by decide), if_neg (by simpa using e)]
      simp [three, drOf, Dr.no, List.replicate_succ]
  | [(a, la), (b, lb)], hl, hp, hnd =>
    obtain ⟨a0, a1, a2⟩ := hp (a, la) (by simp)
    obtain ⟨b0, b1, b2⟩ := hp (b, lb) (by simp)
    simp only at a0 a1 a2 b0 b1 b2
    have hab : a ≠ b := by simpa using hnd
    by_cases e : v = a
    · subst e
      refine ⟨0, [(v, mt + 1), (b, lb)], ?_, ⟨by simp, by simp; omega, by simpa using hab⟩, by simp⟩
      have hi : inF (three [(v, la), (b, lb)]) v = 0 := by simp [three, inF, h1, List.findIdx?_cons]
      rw [hi, if_neg (by decide), if_pos (by simp)]
      simp [three, drOf, Dr.no, List.replicate_succ]
    · by_cases e2 : v = b
      · subst e2
        refine ⟨1, [(a, la), (v, mt + 1)], ?_, ⟨by simp, by simp; omega, by simpa using hab⟩, by simp⟩
        have hi : inF (three [(a, la), (v, lb)]) v = 1 := by simp [three, inF, h1, List.findIdx?_cons, Ne.symm e]
        rw [hi, if_neg (by decide), if_pos (by simp)]
        simp [three, drOf, Dr.no, List.replicate_succ]
      · refine ⟨2, [(a, la), (b, lb), (v, mt + 1)], ?_, ⟨by simp, by simp; omega, by simp; omega⟩, by simp [e, e2]⟩
        have hi : inF (three [(a, la), (b, lb)]) v = -1 := by simp [three, inF, h1, Dr.no, List.findIdx?_cons, List.replicate_succ, Ne.symm h1, Ne.symm e, Ne.symm e2]
        have hx : nextF (three [(a, la), (b, lb)]) = 2 := by
          by_cases hc : lb < la
          · simp [three, nextF, nextUp, nextStep, Dr.no, List.replicate_succ, hc]; omega
          · simp [three, nextF, nextUp, nextStep, Dr.no, List.replicate_succ, hc]; omega
        rw [hi, if_pos rfl, hx, if_neg (by decide), if_neg (by simp [e, e2])]
        simp [three, drOf, Dr.no, List.replicate_succ]
  | [(a, la), (b, lb), (c, lc)], hl, hp, hnd =>
    obtain ⟨a0, a1, a2⟩ := hp (a, la) (by simp)
    obtain ⟨b0, b1, b2⟩ := hp (b, lb) (by simp)
    obtain ⟨c0, c1, c2⟩ := hp (c, lc) (by simp)
    simp only at a0 a1 a2 b0 b1 b2 c0 c1 c2
    have hnd' : (¬a = b ∧ ¬a = c) ∧ ¬b = c := by simpa using hnd
    obtain ⟨⟨hab, hac⟩, hbc⟩ := hnd'
    by_cases e : v = a
    · subst e
      refine ⟨0, [(v, mt + 1), (b, lb), (c, lc)], ?_, ⟨by simp, by simp; omega, by simp; omega⟩, by simp⟩
      have hi : inF (three [(v, la), (b, lb), (c, lc)]) v = 0 := by simp [three, inF, h1, List.findIdx?_cons]
      rw [hi, if_neg (by decide), if_pos (by simp)]
      simp [three, drOf]
    · by_cases e2 : v = b
      · subst e2
        refine ⟨1, [(a, la), (v, mt + 1), (c, lc)], ?_, ⟨by simp, by simp; omega, by simp; omega⟩, by simp⟩
        have hi : inF (three [(a, la), (v, lb), (c, lc)]) v = 1 := by simp [three, inF, h1, List.findIdx?_cons, Ne.symm e]
        rw [hi, if_neg (by decide), if_pos (by simp)]
        simp [three, drOf]
      · have e3 : v = c := by omega
        subst e3
        refine ⟨2, [(a, la), (b, lb), (v, mt + 1)], ?_, ⟨by simp, by simp; omega, by simp; omega⟩, by simp⟩
        have hi : inF (three [(a, la), (b, lb), (v, lc)]) v = 2 := by simp [three, inF, h1, List.findIdx?_cons, Ne.symm e, Ne.symm e2]
        rw [hi, if_neg (by decide), if_pos (by simp)]
        simp [three, drOf]
  | a :: b :: c :: d :: r, hl, _, _ => simp at hl

theorem row_less {w : World} {B B' n z : Nat} {e : TypeId} {v : Value} {xs : List Value} (h : w.ownsRow B e z v n xs) (hB : B' ≤ B) : w.ownsRow B' e z v n xs := ⟨h.1, h.2.imp id fun ⟨k, cap, cur, h1, h2, h3⟩ => ⟨k, cap, cur, h1, Nat.le_trans hB h2, h3⟩⟩
/-- two libraries, apart -/
structure LTwo (W : World) (B ga gb : Nat) (va1 va2 vb1 vb2 : Value) (gsa gsb : List Nat) (da db : List Dr) (mva mta mvb mtb : Int) : Prop where
  a : LibAt W B ga va1 va2 gsa da mva mta
  b : LibAt W B gb vb1 vb2 gsb db mvb mtb
  ha : Here W gsa
  hb : Here W gsb
  ne : ga ≠ gb
  rows : ∀ k, va2.ownBlock = some k → vb2.ownBlock ≠ some k
section
variable {W W' X : World} {B ga gb : Nat} {va1 va2 vb1 vb2 : Value} {gsa gsb : List Nat} {da db da' db' : List Dr} {mva mta mvb mtb mva' mta' mvb' mtb' : Int}
theorem LTwo.swap (h : LTwo W B ga gb va1 va2 vb1 vb2 gsa gsb da db mva mta mvb mtb) : LTwo W B gb ga vb1 vb2 va1 va2 gsb gsa db da mvb mtb mva mta :=
  ⟨h.b, h.a, h.hb, h.ha, Ne.symm h.ne, fun k h1 h2 => h.rows k h2 h1⟩
theorem LTwo.below (h : LTwo W B ga gb va1 va2 vb1 vb2 gsa gsb da db mva mta mvb mtb) (hb : Below W.heap.size W W') : LTwo W' B ga gb va1 va2 vb1 vb2 gsa gsb da db mva mta mvb mtb :=
  ⟨h.a.below hb, h.b.below hb, h.ha.below hb, h.hb.below hb, h.ne, h.rows⟩
theorem LibAt.less {B' g : Nat} {v1 v2 : Value} {gs : List Nat} {ds : List Dr} {mv mt : Int} (h : LibAt W B g v1 v2 gs ds mv mt) (hB : B' ≤ B) : LibAt W B' g v1 v2 gs ds mv mt :=
  ⟨h.at_, row_less h.vrow hB, row_less h.drow hB, Nat.le_trans hB h.gB⟩
/-- a second one is made -/
theorem LTwo.made {C : Nat} (hA : LibAt W C ga va1 va2 gsa da mva mta) (hHA : Here W gsa) (hX : Below W.heap.size W X) (hB : LibAt W' X.heap.size gb vb1 vb2 gsb db mvb mtb) (hHB : Here W' gsb) (hbB : Below X.heap.size X W') (h1 : B ≤ C) (h2 : B ≤ X.heap.size) :
    LTwo W' B ga gb va1 va2 vb1 vb2 gsa gsb da db mva mta mvb mtb := by
  have hAX := hA.below hX
  refine ⟨(hAX.below hbB).less h1, hB.less h2, (hHA.below hX).below hbB, hHB, ?_, fun k e1 e2 => ?_⟩
  · have := hB.gB
    have := hAX.at_.lt
    omega
  · have := (hAX.drow.lt k e1).2
    have := (hB.drow.lt k e2).1
    omega
theorem LTwo.left (h : LTwo W B ga gb va1 va2 vb1 vb2 gsa gsb da db mva mta mvb mtb) (ha : LibAt W' B ga va1 va2 gsa da' mva' mta') (hm : Shift W W' (LFoot ga va2)) :
    LTwo W' B ga gb va1 va2 vb1 vb2 gsa gsb da' db mva' mta' mvb mtb := by
  refine ⟨ha, h.b.shift hm ?_ ?_ ?_, h.ha.shift h.a hm, h.hb.shift h.a hm, h.ne, h.rows⟩
  · rintro (e | e)
    · exact h.ne e.symm
    · obtain ⟨cur, hc⟩ := row_at h.a.drow e
      exact At.differ h.b.at_ hc (by decide) rfl
  · rintro k hk (e | e)
    · subst e
      obtain ⟨cur, hc⟩ := row_at h.b.vrow hk
      exact At.differ h.a.at_ hc (by decide) rfl
    · obtain ⟨cur, hc⟩ := row_at h.b.vrow hk
      obtain ⟨cur2, hc2⟩ := row_at h.a.drow e
      exact At.differ hc hc2 (by decide) rfl
  · rintro k hk (e | e)
    · subst e
      obtain ⟨cur, hc⟩ := row_at h.b.drow hk
      exact At.differ h.a.at_ hc (by decide) rfl
    · exact h.rows k e hk
theorem LTwo.right (h : LTwo W B ga gb va1 va2 vb1 vb2 gsa gsb da db mva mta mvb mtb) (hb : LibAt W' B gb vb1 vb2 gsb db' mvb' mtb') (hm : Shift W W' (LFoot gb vb2)) :
    LTwo W' B ga gb va1 va2 vb1 vb2 gsa gsb da db' mva mta mvb' mtb' := (h.swap.left hb hm).swap
theorem LTwo.size (h : LTwo W B ga gb va1 va2 vb1 vb2 gsa gsb da db mva mta mvb mtb) : B ≤ W.heap.size := Nat.le_trans h.a.gB (Nat.le_of_lt h.a.at_.lt)
end
end Go.Proofs.Ytejgogahkjnefaa
