/- library.unused, New: their walks. -/
import Derived.Test.YtejgogahkjnefaaLgc
import Derived.Deep.RegionLaw
namespace Go.Proofs.Ytejgogahkjnefaa
open Go.RowKit
set_option linter.unusedVariables false
set_option linter.unusedSimpArgs false

set_option maxRecDepth 100000 in
theorem unused_any (b : Bool) (w : World) : Calls Try.prog 17 #[.bool b] w fun e w' => e = .returned (.agg (Dr.no b).cells) ∧ Below w.heap.size w w' := by
  have HX := Lib.hid (At.new w 47 #[.int .i64 0, .int .i64 0, .int .i64 0, .bool false])
  have hI4 : (Try.prog.info? 47).map (·.size) = some 4 := by kernel_rfl
  have HI4 := Lib.hid hI4
  clear hI4
  go_enter Try.func17, Try.ntmps17
  go_wp2_with (refine wpList_store_whole rfl 47 _ _ rfl w.heap.size (Dr.no b).cells rfl rfl 47 _ HX.out HI4.out rfl (by simp [Dr.cells, Dr.no, Value.oneCell']) ?_; intro w4 hZ4 hG4; replace hZ4 := Lib.hid hZ4; replace hG4 := Lib.hid hG4)
  have hb4 : Below w.heap.size w w4 := below_of_grownBy ((Below.refl _ w).alloc (Nat.le_refl _) _) hG4.out (by simp) (Nat.le_refl _)
  have HB4 := Lib.hid hb4
  clear hb4
  refine bodyPost_ret (results_cell_row rfl _ _ _ _ _ _ _ rfl (unhid hZ4) Try.underlying47 rfl (by kernel_rfl)) rfl ⟨rfl, HB4.out⟩

/-- volumes beside each other: none holds what another one does -/
structure Vols (W : World) (B : Nat) (gs : List Nat) (ss : List VS) : Prop where
  len : gs.length = ss.length
  vol : ∀ i (h : i < gs.length) (h2 : i < ss.length), Vol W B gs[i] ss[i]
  apart : ∀ i j (hi : i < gs.length) (hj : j < gs.length), i ≠ j → gs[i] ≠ gs[j] ∧ ∀ k, rowOf W gs[i] = some k → rowOf W gs[j] ≠ some k
section
variable {W W' : World} {B : Nat} {gs : List Nat} {ss : List VS}
theorem Vol.kindV {g : Nat} {s : VS} (x : Vol W B g s) : ∃ cs, At W g 56 cs := by
  obtain ⟨ok, v, hv⟩ := x
  exact ⟨_, hv.at_⟩
theorem Vol.kindR {g : Nat} {s : VS} (x : Vol W B g s) {k : Nat} (hk : rowOf W g = some k) : B ≤ k ∧ ∃ cur, At W k 62 cur := by
  obtain ⟨ok, v, hv⟩ := x
  rw [hv.rowEq] at hk
  exact ⟨(hv.row_lt k hk).1, row_at hv.row hk⟩
theorem Vol.less {g : Nat} {s : VS} {B' : Nat} (x : Vol W B g s) (hB : B' ≤ B) : Vol W B' g s := by
  obtain ⟨ok, v, hv⟩ := x
  exact ⟨ok, v, hv.at_, ⟨hv.row.1, hv.row.2.imp id fun ⟨k, cap, cur, h1, h2, h3⟩ => ⟨k, cap, cur, h1, Nat.le_trans hB h2, h3⟩⟩, Nat.le_trans hB hv.gB⟩
theorem Vol.gB {g : Nat} {s : VS} (x : Vol W B g s) : B ≤ g := by obtain ⟨ok, v, hv⟩ := x; exact hv.gB
theorem rowOf_same {g : Nat} (h : W'.heap[g]? = W.heap[g]?) : rowOf W' g = rowOf W g := by unfold rowOf; rw [World.cell?_of_block h]
theorem Vols.keep (h : Vols W B gs ss) (hk : ∀ k, ((∃ cs, At W k 56 cs) ∨ ∃ cs, At W k 62 cs) → W'.heap[k]? = W.heap[k]?) : Vols W' B gs ss := by
  have h1 : ∀ i (hi : i < gs.length), W'.heap[gs[i]]? = W.heap[gs[i]]? := fun i hi => hk _ (.inl (h.vol i hi (by rw [← h.len]; exact hi)).kindV)
  refine ⟨h.len, fun i hi h2 => ?_, fun i j hi hj hne => ⟨(h.apart i j hi hj hne).1, fun k e => ?_⟩⟩
  · obtain ⟨ok, v, hv⟩ := h.vol i hi h2
    exact ⟨ok, v, hv.of_block (h1 i hi) fun k hk2 => hk k (.inr (row_at hv.row hk2))⟩
  · rw [rowOf_same (h1 i hi)] at e
    rw [rowOf_same (h1 j hj)]
    exact (h.apart i j hi hj hne).2 k e
theorem Vols.below (h : Vols W B gs ss) (hb : Below W.heap.size W W') : Vols W' B gs ss := h.keep fun k hk => by
  rcases hk with ⟨cs, hc⟩ | ⟨cs, hc⟩ <;> exact hb.block k hc.lt
theorem Vols.less {B' : Nat} (h : Vols W B gs ss) (hB : B' ≤ B) : Vols W B' gs ss := ⟨h.len, fun i hi h2 => (h.vol i hi h2).less hB, h.apart⟩
theorem Vols.nil (W : World) (B : Nat) : Vols W B [] [] := ⟨rfl, fun i h => absurd h (Nat.not_lt_zero _), fun i j h => absurd h (Nat.not_lt_zero _)⟩
/-- one more is made -/
theorem Vols.made {g : Nat} {s : VS} (h : Vols W B gs ss) (hBW : B ≤ W.heap.size) (hv : Vol W' W.heap.size g s) (hb : Below W.heap.size W W') : Vols W' B (gs ++ [g]) (ss ++ [s]) := by
  have h' := h.below hb
  have hold : ∀ i (hi : i < gs.length), gs[i] < W.heap.size ∧ ∀ k, rowOf W' gs[i] = some k → k < W.heap.size := fun i hi => by
    have hvi := h.vol i hi (by rw [← h.len]; exact hi)
    obtain ⟨cs, hc⟩ := hvi.kindV
    refine ⟨hc.lt, fun k e => ?_⟩
    rw [rowOf_same (hb.block _ hc.lt)] at e
    obtain ⟨_, cur, hcu⟩ := hvi.kindR e
    exact hcu.lt
  refine ⟨by rw [List.length_append, List.length_append, h.len]; rfl, fun i hi h2 => ?_, fun i j hi hj hne => ?_⟩
  · by_cases e : i < gs.length
    · rw [List.getElem_append_left e, List.getElem_append_left (by rw [← h.len]; exact e)]
      exact h'.vol i e _
    · have e1 : i = gs.length := by rw [List.length_append] at hi; simp at hi; omega
      subst e1
      rw [List.getElem_append_right (Nat.le_refl _), List.getElem_append_right (by rw [h.len]; exact Nat.le_refl _)]
      simp only [h.len, Nat.sub_self, List.getElem_cons_zero]
      exact hv.less hBW
  · rw [List.length_append] at hi hj
    simp at hi hj
    by_cases e : i < gs.length
    · by_cases e2 : j < gs.length
      · rw [List.getElem_append_left e, List.getElem_append_left e2]
        exact h'.apart i j e e2 hne
      · have e3 : j = gs.length := by omega
        subst e3
        rw [List.getElem_append_left e, List.getElem_append_right (Nat.le_refl _)]
        simp only [Nat.sub_self, List.getElem_cons_zero]
        obtain ⟨a1, a2⟩ := hold i e
        refine ⟨by have := hv.gB; omega, fun k e4 e5 => ?_⟩
        have := a2 k e4
        have := (hv.kindR e5).1
        omega
    · have e3 : i = gs.length := by omega
      subst e3
      have e2 : j < gs.length := by omega
      rw [List.getElem_append_left e2, List.getElem_append_right (Nat.le_refl _)]
      simp only [Nat.sub_self, List.getElem_cons_zero]
      obtain ⟨a1, a2⟩ := hold j e2
      refine ⟨by have := hv.gB; omega, fun k e4 e5 => ?_⟩
      have := a2 k e5
      have := (hv.kindR e4).1
      omega
/-- something is done with one of them -/
theorem Vols.step (h : Vols W B gs ss) {i : Nat} (hi : i < gs.length) {s' : VS} (hv : Vol W' B gs[i] s') (hst : Stay B gs[i] W W') : Vols W' B gs (ss.set i s') := by
  have hvi := h.vol i hi (by rw [← h.len]; exact hi)
  obtain ⟨cg, hg⟩ := hvi.kindV
  obtain ⟨f1, f2⟩ := hst.foot hg.lt
  have other : ∀ j (hj : j < gs.length), j ≠ i → W'.heap[gs[j]]? = W.heap[gs[j]]? ∧ Vol W' B gs[j] (ss[j]'(by rw [← h.len]; exact hj)) := fun j hj hne => by
    have hvj := h.vol j hj (by rw [← h.len]; exact hj)
    obtain ⟨ch, hh⟩ := hvj.kindV
    have n1 : rowOf W gs[i] ≠ some gs[j] := fun e => by
      obtain ⟨_, cur, hc⟩ := hvi.kindR e
      exact At.differ hc hh (by decide) rfl
    have e1 : W'.heap[gs[j]]? = W.heap[gs[j]]? := f1 _ hh.lt (h.apart j i hj hi hne).1 n1
    refine ⟨e1, ?_⟩
    obtain ⟨ok, v, hvb⟩ := hvj
    refine ⟨ok, v, hvb.of_block e1 fun k hk => ?_⟩
    have hk' : rowOf W gs[j] = some k := by rw [hvb.rowEq]; exact hk
    obtain ⟨cur, hc⟩ := row_at hvb.row hk
    exact f1 k hc.lt (fun e => by subst e; exact At.differ hc hg (by decide) rfl) (fun e => (h.apart i j hi hj (Ne.symm hne)).2 k e hk')
  refine ⟨by rw [List.length_set]; exact h.len, fun j hj h2 => ?_, fun a b ha hb hab => ⟨(h.apart a b ha hb hab).1, fun k h1 h2 => ?_⟩⟩
  · rw [List.getElem_set]
    split
    · rename_i e
      subst e
      exact hv
    · rename_i e
      exact (other j hj (Ne.symm e)).2
  · by_cases ea : a = i
    · subst ea
      rw [rowOf_same (other b hb (Ne.symm hab)).1] at h2
      rcases f2 k h1 with h3 | h3
      · exact (h.apart a b ha hb hab).2 k h3 h2
      · obtain ⟨_, cur, hc⟩ := (h.vol b hb (by rw [← h.len]; exact hb)).kindR h2
        have := hc.lt
        omega
    · rw [rowOf_same (other a ha ea).1] at h1
      by_cases eb : b = i
      · subst eb
        rcases f2 k h2 with h3 | h3
        · exact (h.apart a b ha hb hab).2 k h1 h3
        · obtain ⟨_, cur, hc⟩ := (h.vol a ha (by rw [← h.len]; exact ha)).kindR h1
          have := hc.lt
          omega
      · rw [rowOf_same (other b hb eb).1] at h2
        exact (h.apart a b ha hb hab).2 k h1 h2
theorem Vols.here (h : Vols W B gs ss) (hl : ∀ s ∈ ss, s.lo = false) : Here W gs := fun i hi => ⟨B, _, h.vol i hi (by rw [← h.len]; exact hi), hl _ (List.getElem_mem _)⟩
/-- the library's own blocks are written -/
theorem Vols.lib {g : Nat} {v1 v2 : Value} {gs' : List Nat} {ds : List Dr} {mv mt : Int} {C : Nat} (h : Vols W B gs ss) (hl : LibAt W C g v1 v2 gs' ds mv mt) (hm : Shift W W' (LFoot g v2)) : Vols W' B gs ss := h.keep fun k hk => by
  have hlt : k < W.heap.size := by rcases hk with ⟨cs, hc⟩ | ⟨cs, hc⟩ <;> exact hc.lt
  refine hm.block k hlt fun e => ?_
  rcases hl.foot_kind e with ⟨cs, hc⟩ | ⟨cs, hc⟩ <;> rcases hk with ⟨cs2, hc2⟩ | ⟨cs2, hc2⟩ <;> exact At.differ hc2 hc (by decide) rfl
end
end Go.Proofs.Ytejgogahkjnefaa
