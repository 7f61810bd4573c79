/- LibraryOnce: what is held. -/
import Derived.Test.YtejgogahkjnefaaLgj
namespace Go.Proofs.Ytejgogahkjnefaa
open Go.RowKit
set_option linter.unusedVariables false
set_option linter.unusedSimpArgs false

/-- what a drive adds to what is held of a volume -/
def addH (v : Int) (d : Dr) : Int := if d.vol = v then d.holds else 0
def heldS (ds : List Dr) (v : Int) : Int := (ds.map (addH v)).sum
theorem sum_set (f : Dr → Int) : ∀ (l : List Dr) (i : Nat) (x : Dr) (h : i < l.length), ((l.set i x).map f).sum = (l.map f).sum - f l[i] + f x := by
  intro l
  induction l with
  | nil => intro i x h; exact absurd h (Nat.not_lt_zero _)
  | cons a r ih =>
    intro i x h
    cases i with
    | zero => simp; omega
    | succ i =>
      have := ih i x (by simpa using h)
      simp only [List.set_cons_succ, List.map_cons, List.sum_cons, List.getElem_cons_succ]
      omega
theorem heldS_set {ds : List Dr} {i : Nat} (h : i < ds.length) (x : Dr) (v : Int) : heldS (ds.set i x) v = heldS ds v - addH v ds[i] + addH v x := sum_set _ _ _ _ h
theorem heldS_none {v : Int} : ∀ {ds : List Dr}, (∀ d ∈ ds, d.vol ≠ v) → heldS ds v = 0 := by
  intro ds
  induction ds with
  | nil => intro _; rfl
  | cons a r ih =>
    intro h
    have h1 := ih fun d hd => h d (List.mem_cons_of_mem _ hd)
    have h2 : addH v a = 0 := if_neg (h a (List.mem_cons_self))
    unfold heldS at h1 ⊢
    rw [List.map_cons, List.sum_cons, h1, h2]
    rfl
theorem heldS_pos {v : Int} : ∀ {ds : List Dr}, (∀ d ∈ ds, 0 ≤ d.holds) → 0 ≤ heldS ds v := by
  intro ds
  induction ds with
  | nil => intro _; exact Int.le_refl _
  | cons a r ih =>
    intro h
    have h1 := ih fun d hd => h d (List.mem_cons_of_mem _ hd)
    have h2 : 0 ≤ addH v a := by
      unfold addH
      split
      · exact h a (List.mem_cons_self)
      · exact Int.le_refl _
    unfold heldS at h1 ⊢
    rw [List.map_cons, List.sum_cons]
    omega

/-- what holds of the drives; m: as many Holds at most -/
structure OD (n : Nat) (m : Int) (ds : List Dr) : Prop where
  vol : ∀ d ∈ ds, d.vol = -1 ∨ (0 ≤ d.vol ∧ d.vol < n)
  hold : ∀ d ∈ ds, 0 ≤ d.holds ∧ d.holds ≤ m
  free : ∀ d ∈ ds, d.vol = -1 → d.holds = 0
  br : ∀ d ∈ ds, d.br = true → d.vol = -1
  one : ∀ i j (hi : i < ds.length) (hj : j < ds.length), ds[i].vol = ds[j].vol → ds[i].vol ≠ -1 → i = j
section
variable {n : Nat} {m : Int} {ds : List Dr}
theorem in_hit (h : OD n m ds) {v : Int} (hv : v ≠ -1) {j : Nat} (hj : j < ds.length) (e : ds[j].vol = v) : inF ds v = (j : Int) :=
  inF_hit hv hj e fun i hi e2 => by
    have := h.one i j (by omega) hj (by rw [e2, e]) (by rw [e2]; exact hv)
    omega
theorem in_at {v : Int} {j : Nat} (h : inF ds v = (j : Int)) : ∃ hj : j < ds.length, ds[j].vol = v ∧ v ≠ -1 := by
  unfold inF at h
  split at h
  · omega
  · rename_i hv
    split at h
    · rename_i i hi
      rw [List.findIdx?_eq_some_iff_getElem] at hi
      obtain ⟨h1, h2, _⟩ := hi
      obtain rfl : i = j := by omega
      exact ⟨h1, by simpa using h2, hv⟩
    · omega
theorem in_none {v : Int} (hv : v ≠ -1) (h : inF ds v = -1) : ∀ d ∈ ds, d.vol ≠ v := by
  intro d hd e
  unfold inF at h
  rw [if_neg hv] at h
  split at h
  · omega
  · rename_i hi
    rw [List.findIdx?_eq_none_iff] at hi
    have := hi d hd
    simp [e] at this
theorem OD.mem_set {P : Dr → Prop} {i : Nat} {x : Dr} (h : ∀ d ∈ ds, P d) (hx : P x) : ∀ d ∈ ds.set i x, P d := fun d hd => by
  rcases List.mem_or_eq_of_mem_set hd with h1 | rfl
  · exact h d h1
  · exact hx
/-- a drive is changed; its volume stays, or is none, or one that is in no drive -/
theorem OD.set (h : OD n m ds) {i : Nat} (hi : i < ds.length) (x : Dr) (hv : x.vol = ds[i].vol ∨ x.vol = -1 ∨ (0 ≤ x.vol ∧ x.vol < n ∧ ∀ d ∈ ds, d.vol ≠ x.vol)) (hh : 0 ≤ x.holds ∧ x.holds ≤ m) (hf : x.vol = -1 → x.holds = 0) (hb : x.br = true → x.vol = -1) : OD n m (ds.set i x) := by
  refine ⟨OD.mem_set h.vol ?_, OD.mem_set h.hold hh, OD.mem_set h.free hf, OD.mem_set h.br hb, fun a b ha hb2 e ne => ?_⟩
  · rcases hv with e | e | ⟨e1, e2, _⟩
    · rw [e]; exact h.vol _ (List.getElem_mem hi)
    · exact .inl e
    · exact .inr ⟨e1, e2⟩
  · rw [List.length_set] at ha hb2
    rw [List.getElem_set] at e ne
    rw [List.getElem_set] at e
    by_cases e1 : i = a
    · subst e1
      by_cases e2 : i = b
      · exact e2
      · rw [if_pos rfl, if_neg e2] at e
        rw [if_pos rfl] at ne
        rcases hv with e3 | e3 | ⟨_, _, e3⟩
        · exact h.one i b hi hb2 (by rw [← e3, e]) (by rw [← e3]; exact ne)
        · exact absurd e3 ne
        · exact absurd e.symm (e3 _ (List.getElem_mem hb2))
    · rw [if_neg e1] at e ne
      by_cases e2 : i = b
      · subst e2
        rw [if_pos rfl] at e
        rcases hv with e3 | e3 | ⟨_, _, e3⟩
        · exact h.one a i ha hi (by rw [e, e3]) ne
        · exact absurd (e.trans e3) ne
        · exact absurd e (e3 _ (List.getElem_mem ha))
      · rw [if_neg e2] at e
        exact h.one a b ha hb2 e ne
theorem OD.more (h : OD n m ds) {m' : Int} (hm : m ≤ m') : OD n m' ds := ⟨h.vol, fun d hd => ⟨(h.hold d hd).1, by have := (h.hold d hd).2; omega⟩, h.free, h.br, h.one⟩
/-- what is held of a volume is what its drive says -/
theorem heldS_in (h : OD n m ds) {v : Int} {j : Nat} (hj : inF ds v = (j : Int)) : ∃ h2 : j < ds.length, ds[j].vol = v ∧ heldS ds v = ds[j].holds := by
  obtain ⟨h1, h2, h3⟩ := in_at hj
  refine ⟨h1, h2, ?_⟩
  have hs := heldS_set h1 (.no false) v
  have h0 : heldS (ds.set j (.no false)) v = 0 := by
    refine heldS_none fun d hd => ?_
    obtain ⟨k, hk, rfl⟩ := List.getElem_of_mem hd
    rw [List.length_set] at hk
    rw [List.getElem_set]
    split
    · intro e; exact h3 e.symm
    · rename_i hne
      intro e
      exact hne (h.one j k h1 hk (by rw [h2, e]) (by rw [h2]; exact h3))
  have a1 : addH v ds[j] = ds[j].holds := if_pos h2
  have a2 : addH v (Dr.no false) = 0 := if_neg fun e => h3 e.symm
  omega
theorem heldS_out {v : Int} (hv : v ≠ -1) (h : inF ds v = -1) : heldS ds v = 0 := heldS_none (in_none hv h)

/-- the drive that next tells is free -/
theorem nextUp_free (k : Nat) (hk : k ≤ ds.length) {i : Nat} (h : nextUp ds k = (i : Int)) : ∃ hi : i < ds.length, ds[i].br = false ∧ ds[i].holds ≤ 0 := by
  induction k with
  | zero => simp [nextUp] at h
  | succ k ih =>
    have hkl : k < ds.length := by omega
    have e : ds.getD k (.no false) = ds[k] := by rw [List.getD_eq_getElem?_getD, List.getElem?_eq_getElem hkl]; rfl
    unfold nextUp nextStep at h
    rw [e] at h
    split at h
    · exact ih (by omega) h
    · rename_i h1
      split at h
      · obtain rfl : k = i := by omega
        refine ⟨hkl, ?_, by omega⟩
        cases hb : ds[k].br with
        | true => exact absurd (.inl hb) h1
        | false => rfl
      · exact ih (by omega) h

/-- Mount changes nothing of what is held -/
theorem mount_od (h : OD n m ds) (hm : 0 ≤ m) (mv mt v : Int) : OD n m (mountF n ds mv mt v).ds ∧ (∀ u, u ≠ -1 → heldS (mountF n ds mv mt v).ds u = heldS ds u) := by
  unfold mountF
  split
  · rename_i hv
    split
    · rename_i hin
      split
      · exact ⟨h, fun u _ => rfl⟩
      · rename_i hnx
        have hle : -1 ≤ nextF ds ∧ nextF ds < ds.length := nextUp_le ds ds.length
        obtain ⟨i, hi⟩ : ∃ i : Nat, nextF ds = (i : Int) := ⟨(nextF ds).toNat, by omega⟩
        obtain ⟨hil, hbr, hho⟩ := nextUp_free ds.length (Nat.le_refl _) hi
        have hd : drOf ds (nextF ds) = ds[i] := by unfold drOf; rw [hi, Int.toNat_natCast, List.getD_eq_getElem?_getD, List.getElem?_eq_getElem hil]; rfl
        have h0 : ds[i].holds = 0 := by have := (h.hold _ (List.getElem_mem hil)).1; omega
        simp only [hd]
        simp only [hi, Int.toNat_natCast]
        have hv1 : v ≠ -1 := by omega
        have hho2 : 0 ≤ ds[i].holds ∧ ds[i].holds ≤ m := h.hold ds[i] (List.getElem_mem hil)
        refine ⟨h.set hil _ (.inr (.inr ⟨hv.1, hv.2, in_none hv1 hin⟩)) hho2 (fun _ => h0) (fun e => by rw [hbr] at e; cases e), fun u hu => ?_⟩
        rw [heldS_set hil]
        unfold addH
        simp only [h0]
        split <;> split <;> omega
    · rename_i hin
      have hle := inF_le ds v
      obtain ⟨i, hi⟩ : ∃ i : Nat, inF ds v = (i : Int) := ⟨(inF ds v).toNat, by omega⟩
      obtain ⟨hil, _⟩ := in_at hi
      have hd : drOf ds (inF ds v) = ds[i] := by unfold drOf; rw [hi, Int.toNat_natCast, List.getD_eq_getElem?_getD, List.getElem?_eq_getElem hil]; rfl
      simp only [hd]
      simp only [hi, Int.toNat_natCast]
      have hmem := List.getElem_mem hil
      refine ⟨h.set hil _ (.inl rfl) (h.hold ds[i] hmem) (h.free ds[i] hmem) (h.br ds[i] hmem), fun u hu => ?_⟩
      rw [heldS_set hil]
      unfold addH
      simp only
      omega
  · exact ⟨h, fun u _ => rfl⟩
/-- Hold, where it is granted -/
theorem hold_od (h : OD n m ds) (hm : 0 ≤ m) (mv mt v : Int) : OD n (m + 1) (holdF n ds mv mt v).ds ∧ ((holdF n ds mv mt v).e = 0 → 0 ≤ v ∧ v < n) ∧ ∀ u, u ≠ -1 → heldS (holdF n ds mv mt v).ds u = heldS ds u + (if (holdF n ds mv mt v).e = 0 ∧ u = v then 1 else 0) := by
  obtain ⟨h1, h2⟩ := mount_od h hm mv mt v
  obtain ⟨k1, k2⟩ := mountF_ok n ds mv mt v
  have hvr : (mountF n ds mv mt v).e = 0 → (0 ≤ v ∧ v < n) ∧ ∃ hi : (mountF n ds mv mt v).i.toNat < (mountF n ds mv mt v).ds.length, (mountF n ds mv mt v).ds[(mountF n ds mv mt v).i.toNat].vol = v := by
    intro he
    obtain ⟨a1, a2⟩ := k2 he
    unfold mountF at he ⊢
    split at he
    · rename_i hv
      refine ⟨hv, ?_⟩
      rw [if_pos hv]
      split at he
      · rename_i hin
        rw [if_pos hin]
        split at he
        · simp at he
        · rename_i hnx
          rw [if_neg hnx]
          have hle : -1 ≤ nextF ds ∧ nextF ds < ds.length := nextUp_le ds ds.length
          exact ⟨by simp; omega, by simp⟩
      · rename_i hin
        rw [if_neg hin]
        have hle := inF_le ds v
        obtain ⟨i, hi⟩ : ∃ i : Nat, inF ds v = (i : Int) := ⟨(inF ds v).toNat, by omega⟩
        obtain ⟨hil, e1, e2⟩ := in_at hi
        refine ⟨by simp; omega, ?_⟩
        simp only [List.getElem_set_self]
        unfold drOf
        simp only [hi, Int.toNat_natCast]
        rw [List.getD_eq_getElem?_getD, List.getElem?_eq_getElem hil]
        exact e1
    · simp at he
  unfold holdF
  generalize mountF n ds mv mt v = r at *
  obtain ⟨ri, re, rds, rmv, rmt⟩ := r
  simp only at h1 h2 k1 k2 hvr ⊢
  by_cases he : re = 0
  · subst he
    rw [if_pos rfl]
    obtain ⟨a1, hil, a2⟩ := hvr rfl
    have hd : drOf rds ri = rds[ri.toNat] := by unfold drOf; rw [List.getD_eq_getElem?_getD, List.getElem?_eq_getElem hil]; rfl
    simp only [hd]
    have hmem := List.getElem_mem hil
    obtain ⟨b1, b2⟩ := h1.hold _ hmem
    refine ⟨(h1.more (by omega)).set hil _ (.inl rfl) ⟨by show 0 ≤ rds[ri.toNat].holds + 1; omega, by show rds[ri.toNat].holds + 1 ≤ m + 1; omega⟩ (fun e => by have e : rds[ri.toNat].vol = -1 := e; omega) (h1.br rds[ri.toNat] hmem), fun _ => a1, fun u hu => ?_⟩
    rw [heldS_set hil, h2 u hu]
    unfold addH
    simp only [a2]
    by_cases e : v = u
    · subst e; simp; omega
    · have e' : ¬ u = v := fun x => e x.symm
      simp [e, e']
  · rw [if_neg he]
    exact ⟨h1.more (by omega), fun e => absurd e he, fun u hu => by rw [h2 u hu]; simp [he]⟩
theorem rel_od (h : OD n m ds) (v : Int) : OD n m (relF ds v).2 ∧ ((relF ds v).1 = 0 → 0 ≤ v ∧ v < n) ∧ ∀ u, u ≠ -1 → heldS (relF ds v).2 u = heldS ds u - (if (relF ds v).1 = 0 ∧ u = v then 1 else 0) := by
  unfold relF
  split
  · exact ⟨h, fun e => by simp at e, fun u hu => by simp⟩
  · rename_i hc
    have hle := inF_le ds v
    obtain ⟨i, hi⟩ : ∃ i : Nat, inF ds v = (i : Int) := ⟨(inF ds v).toNat, by omega⟩
    obtain ⟨hil, e1, e2⟩ := in_at hi
    have hd : drOf ds (inF ds v) = ds[i] := by unfold drOf; rw [hi, Int.toNat_natCast, List.getD_eq_getElem?_getD, List.getElem?_eq_getElem hil]; rfl
    simp only [hd] at hc ⊢
    simp only [hi, Int.toNat_natCast] at hc ⊢
    have hmem := List.getElem_mem hil
    obtain ⟨b1, b2⟩ := h.hold _ hmem
    have hvr : 0 ≤ v ∧ v < n := by rcases h.vol _ hmem with e | e <;> omega
    refine ⟨h.set hil _ (.inl rfl) ⟨by show 0 ≤ ds[i].holds - 1; omega, by show ds[i].holds - 1 ≤ m; omega⟩ (fun e => by have e : ds[i].vol = -1 := e; omega) (h.br ds[i] hmem), fun _ => hvr, fun u hu => ?_⟩
    rw [heldS_set hil]
    unfold addH
    simp only [e1]
    by_cases e : v = u
    · subst e; simp; omega
    · have e' : ¬ u = v := fun x => e x.symm
      simp [e, e']
theorem no_ok (b : Bool) : (Dr.no b).vol = -1 ∧ (Dr.no b).holds = 0 := ⟨rfl, rfl⟩
theorem break_od (h : OD n m ds) (hm : 0 ≤ m) (i : Int) : OD n m (breakF ds i true) ∧ ∀ u, u ≠ -1 → heldS (breakF ds i true) u = if inF ds u = i then 0 else heldS ds u := by
  unfold breakF
  split
  · rename_i hi
    obtain ⟨j, rfl⟩ : ∃ j : Nat, i = (j : Int) := ⟨i.toNat, by omega⟩
    have hil : j < ds.length := by omega
    simp only [Int.toNat_natCast]
    refine ⟨h.set hil _ (.inr (.inl rfl)) ⟨Int.le_refl _, hm⟩ (fun _ => rfl) (fun _ => rfl), fun u hu => ?_⟩
    rw [heldS_set hil]
    have a2 : addH u (Dr.no true) = 0 := if_neg fun e => hu e.symm
    split
    · rename_i hin
      obtain ⟨h1, h2, h3⟩ := heldS_in h hin
      have a1 : addH u ds[j] = ds[j].holds := if_pos h2
      omega
    · rename_i hin
      have a1 : addH u ds[j] = 0 := if_neg fun e => hin (in_hit h hu hil e)
      omega
  · rename_i hi
    refine ⟨h, fun u hu => ?_⟩
    split
    · rename_i hin
      have hle := inF_le ds u
      exact heldS_out hu (by omega)
    · rfl
theorem crash_od (h : OD n m ds) (hm : 0 ≤ m) : OD n m (crashD ds) ∧ ∀ u, u ≠ -1 → heldS (crashD ds) u = 0 := by
  have key : ∀ d ∈ crashD ds, d.vol = -1 ∧ d.holds = 0 := fun d hd => by
    unfold crashD at hd
    obtain ⟨e, _, rfl⟩ := List.mem_map.1 hd
    exact no_ok _
  refine ⟨⟨fun d hd => .inl (key d hd).1, fun d hd => by rw [(key d hd).2]; omega, fun d hd _ => (key d hd).2, fun d hd _ => (key d hd).1, fun i j hi hj _ ne => absurd (key _ (List.getElem_mem hi)).1 ne⟩, fun u hu => heldS_none fun d hd e => hu (by rw [← e]; exact (key d hd).1)⟩
theorem new_od (n k : Nat) : OD n 0 (List.replicate k (Dr.no false)) := by
  have key : ∀ d ∈ List.replicate k (Dr.no false), d.vol = -1 ∧ d.holds = 0 := fun d hd => by rw [List.eq_of_mem_replicate hd]; exact no_ok _
  exact ⟨fun d hd => .inl (key d hd).1, fun d hd => by rw [(key d hd).2]; omega, fun d hd _ => (key d hd).2, fun d hd _ => (key d hd).1, fun i j hi hj _ ne => absurd (key _ (List.getElem_mem hi)).1 ne⟩

/-- how many volumes are in a drive, of the first k -/
def inN (ds : List Dr) : Nat → Nat
  | 0 => 0
  | k + 1 => inN ds k + if inF ds (k : Int) = -1 then 0 else 1
/-- how many of the first k are one of these -/
def cntN (p : Nat → Bool) : Nat → Nat
  | 0 => 0
  | k + 1 => cntN p k + if p k then 1 else 0
theorem cnt_one (x : Int) (k : Nat) : cntN (fun v => decide (x = (v : Int))) k = if 0 ≤ x ∧ x < k then 1 else 0 := by
  induction k with
  | zero => unfold cntN; rw [if_neg (by omega)]
  | succ k ih =>
    unfold cntN
    rw [ih]
    by_cases h : x = (k : Int)
    · subst h; simp <;> omega
    · simp only [h, decide_false, Bool.false_eq_true, if_false, Nat.add_zero]
      split <;> split <;> omega
theorem cnt_or (p q : Nat → Bool) (k : Nat) : cntN (fun v => p v || q v) k ≤ cntN p k + cntN q k := by
  induction k with
  | zero => exact Nat.le_refl _
  | succ k ih =>
    have key : ∀ a b : Bool, (if (a || b) = true then 1 else 0) ≤ (if a = true then 1 else 0) + (if b = true then 1 else 0) := by decide
    have := key (p k) (q k)
    simp only [cntN]
    omega
theorem cnt_drives (k : Nat) : ∀ ds : List Dr, (∀ d ∈ ds, d.br = true → d.vol = -1) → cntN (fun v => ds.any fun d => decide (d.vol = (v : Int))) k ≤ workF ds := by
  intro ds
  induction ds with
  | nil =>
    intro _
    have : ∀ k, cntN (fun v => ([] : List Dr).any fun d => decide (d.vol = (v : Int))) k = 0 := fun k => by
      induction k with
      | zero => rfl
      | succ k ih => unfold cntN; rw [ih]; rfl
    rw [this]
    exact Nat.zero_le _
  | cons a r ih =>
    intro h
    have h1 := ih fun d hd => h d (List.mem_cons_of_mem _ hd)
    have h2 := cnt_or (fun v => decide (a.vol = (v : Int))) (fun v => r.any fun d => decide (d.vol = (v : Int))) k
    have h3 := cnt_one a.vol k
    have h4 := h a (List.mem_cons_self)
    simp only [List.any_cons]
    unfold workF
    cases hb : a.br with
    | true =>
      have := h4 hb
      rw [if_neg (by omega)] at h3
      simp
      omega
    | false =>
      simp
      have : (if 0 ≤ a.vol ∧ a.vol < (k : Int) then 1 else 0) ≤ 1 := by split <;> omega
      omega
theorem inN_le (h : OD n m ds) (k : Nat) : inN ds k ≤ workF ds := by
  refine Nat.le_trans ?_ (cnt_drives k ds h.br)
  induction k with
  | zero => exact Nat.le_refl _
  | succ k ih =>
    unfold inN cntN
    by_cases e : inF ds (k : Int) = -1
    · rw [if_pos e]; omega
    · rw [if_neg e]
      have hle := inF_le ds (k : Int)
      obtain ⟨i, hi⟩ : ∃ i : Nat, inF ds (k : Int) = (i : Int) := ⟨(inF ds (k : Int)).toNat, by omega⟩
      obtain ⟨hil, e1, e2⟩ := in_at hi
      have : (ds.any fun d => decide (d.vol = (k : Int))) = true := List.any_eq_true.2 ⟨ds[i], List.getElem_mem hil, by simpa using e1⟩
      rw [this]
      simp
      omega
end
end Go.Proofs.Ytejgogahkjnefaa
