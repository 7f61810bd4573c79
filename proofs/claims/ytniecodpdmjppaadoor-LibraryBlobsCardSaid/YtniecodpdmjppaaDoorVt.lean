/- (*reel.Volume).torn, put: their walks. -/
import Derived.Test.YtniecodpdmjppaaDoorVv
import Derived.Deep.RegionLaw
import Derived.Deep.AppendLies
import Derived.Deep.RegionHeld3
namespace Go.Proofs.YtniecodpdmjppaaDoor
open Go.RowKit
set_option linter.unusedVariables false

theorem info_blk : (Tryd.prog.info? 101).map (fun i => (i.zero, i.size, i.bytes)) = some (some (.agg #[.string ⟨#[]⟩, .bool false, .bool false]), 3, 24) := by kernel_rfl

section
variable {w : World} {B g : Nat} {s : VS} {v : Value}

/-- the slice of a volume's blocks, and its cells -/
theorem VolAt.form (h : VolAt w B g s v) : ∃ A c, v = .slice A s.l.length c ∧ s.l.length ≤ c ∧ c ≤ maxLen ∧ (A = none → s.l = [] ∧ c = 0) ∧ (∀ a, A = some a → ∃ k, a = ⟨k, 0, none⟩ ∧ k < w.heap.size ∧ B ≤ k ∧ k ≠ g ∧ (∀ j, j < s.l.length * 3 → w.cell? ⟨k, j, none⟩ = (cells3 s.l)[j]?) ∧ (∀ j, j < c * 3 → (w.cell? ⟨k, j, none⟩).isSome = true) ∧ ∀ j, w.frozen? ⟨k, j, none⟩ = false) := by
  have hlt := h.row.lt
  have hne := h.ne
  rcases h.row.2 with ⟨rfl, h0⟩ | ⟨k, cap, cur, rfl, h2, h3, h4, h5, h6, h7⟩
  · refine ⟨none, 0, by rw [h0], by omega, by omega, fun _ => ⟨List.eq_nil_of_length_eq_zero h0, rfl⟩, fun a h => by cases h⟩
  · refine ⟨_, cap, rfl, h4, h5, fun h => (by cases h), fun a ha => ?_⟩
    cases ha
    have hr := h.row
    refine ⟨k, rfl, (hlt k rfl).2, h2, ?_, fun j hj => hr.cellAt j hj, fun j hj => ?_, fun j => hr.frozenAt j⟩
    · rcases hne with h | h
      · cases h
      · intro e; exact h (by rw [e]; rfl)
    · have hat : At w k 101 cur := h3
      rw [hat.cell, Array.getElem?_eq_getElem (by omega)]
      rfl

set_option maxHeartbeats 400000 in
theorem torn_vol (h : VolAt w B g s v) (hlen : s.l.length ≤ 1000000) :
    Calls Tryd.prog 68 #[.pointer (some ⟨g, 0, none⟩)] w fun e w' => e = .returned (.bool (lastTorn s.l)) ∧ w = w' := by
  obtain ⟨A, c, rfl, hc, _, hnil, hsome⟩ := h.form
  have c5 := h.at_.cell 5
  by_cases hn : s.l.length = 0
  · have e0 : lastTorn s.l = false := by rw [List.eq_nil_of_length_eq_zero hn]; rfl
    rw [e0]
    rw [hn] at c5
    clear hnil hsome h
    go_enter Tryd.func68, Tryd.ntmps68
    go_wp2
    go_ret
    exact ⟨rfl, rfl⟩
  · cases A with
    | none => exact absurd (by rw [(hnil rfl).1]; rfl) hn
    | some a =>
      obtain ⟨k, rfl, hk, _, _, hcell, _, _⟩ := hsome _ rfl
      have e0 := lastTorn_get (l := s.l) (by omega)
      have q := hcell ((s.l.length - 1) * 3 + 2) (by omega)
      rw [(cells3_get (l := s.l) (k := s.l.length - 1) (by omega)).2.2, ← e0] at q
      clear hcell hnil hsome e0 h
      generalize lastTorn s.l = b at *
      generalize s.l.length = n at *
      have hn1 : 1 ≤ n := by omega
      have en : ((n : Int) - 1).toNat = n - 1 := by omega
      go_enter Tryd.func68, Tryd.ntmps68
      go_wp2
      go_ret
      exact ⟨rfl, rfl⟩

set_option maxHeartbeats 400000 in
theorem weight_blk (b : Blk) (w : World) (h : b.t.size ≤ 1000000) :
    Calls Tryd.prog 67 #[.agg #[.string b.t, .bool b.mark, .bool b.torn]] w fun e w' => e = .returned (.int .i64 ((b.wt : Nat) : Int)) ∧ w' = w.alloc (.cells #[.string b.t, .bool b.mark, .bool b.torn] 101) := by
  obtain ⟨t, m, r⟩ := b
  unfold Blk.wt
  simp only at h ⊢
  go_enter Tryd.func67, Tryd.ntmps67
  go_wp2
  go_ret
  exact ⟨rfl, rfl⟩

/-- more is used than the blocks' sum: the block is not there yet -/
structure VolOver (w : World) (B g : Nat) (s : VS) (u : Int) (v : Value) : Prop where
  at_ : At w g 51 (volCells s u v)
  row : w.ownsRow B 101 3 v s.l.length (cells3 s.l)
  gB : B ≤ g

theorem take_full (h : VolAt w B g s v) (ok : s.ok) (n : Nat) (hn : s.rm - wsum s.l < n) : Calls Tryd.prog 83 #[.pointer (some ⟨g, 0, none⟩), .int .i64 (n : Int)] w fun e w' =>
    e = .returned (.int .i64 7) ∧ VolAt w' B g s v ∧ Stay B g w w' := by
  refine (take_any (h.meter ok) (n : Int)).mono ?_
  rintro e w' (⟨h1, _⟩ | ⟨_, h4, rfl, m, rfl⟩ | ⟨_, h4, rfl, m, rfl⟩)
  · omega
  · exact ⟨rfl, h.drewN m, Stay.drewN _ _⟩
  · omega
theorem take_fits (h : VolAt w B g s v) (ok : s.ok) (n : Nat) (hn : n ≤ s.rm - wsum s.l) : Calls Tryd.prog 83 #[.pointer (some ⟨g, 0, none⟩), .int .i64 (n : Int)] w fun e w' =>
    e = .returned (.int .i64 0) ∧ VolOver w' B g s ((wsum s.l + n : Nat) : Int) v ∧ Stay B g w w' ∧ w.grownBy w' (some g) := by
  refine (take_any (h.meter ok) (n : Int)).mono ?_
  rintro e w' (⟨h1, _⟩ | ⟨_, h4, rfl, m, rfl⟩ | ⟨_, h4, rfl, m, rfl⟩)
  · omega
  · omega
  · exact ⟨rfl, ⟨(h.at_.drewN m).set 1 _, h.row.kept (grown_drew_set _ _ _ _ _) h.ne, h.gB⟩, h.stay (grown_drew_set _ _ _ _ _) (rowOf_at ((h.at_.drewN m).set 1 _) rfl), grown_drew_set _ _ _ _ _⟩

end

set_option maxRecDepth 100000 in
set_option maxHeartbeats 1000000 in
theorem put_full {w : World} {B g : Nat} {s : VS} {v : Value} (h : VolAt w B g s v) (ok : s.ok) (b : Blk) (hb : b.t.size ≤ 1000000) (hfull : s.rm - wsum s.l < b.wt) :
    Calls Tryd.prog 69 #[.pointer (some ⟨g, 0, none⟩), .agg #[.string b.t, .bool b.mark, .bool b.torn]] w fun e w' => e = .returned (.int .i64 7) ∧ VolAt w' B g s v ∧ Stay B g w w' := by
  obtain ⟨i0, hi0, hz0, hz1, hz2⟩ := info_parts info_blk
  have hbz := h.bz
  have OK := Lib.hid ok
  have hW : ∀ W, Calls Tryd.prog 67 #[.agg #[.string b.t, .bool b.mark, .bool b.torn]] W fun e w' => e = .returned (.int .i64 ((b.wt : Nat) : Int)) ∧ Below W.heap.size W w' := fun W =>
    (weight_blk b W hb).mono fun e w' ⟨he, hw⟩ => ⟨he, by rw [hw]; exact (Below.refl _ W).alloc (Nat.le_refl _) _⟩
  have h1 := h.alloc (.cells #[.string b.t, .bool b.mark, .bool b.torn] 101)
  have hbx := At.new w 101 #[.string b.t, .bool b.mark, .bool b.torn]
  have st1 := Stay.alloc (g := g) w (.cells #[.string b.t, .bool b.mark, .bool b.torn] 101) hbz
  have hxz : w.heap.size < (w.alloc (.cells #[.string b.t, .bool b.mark, .bool b.torn] 101)).heap.size := by simp
  have hgx : g < w.heap.size := h.lt
  have hvx : ∀ k, v.ownBlock = some k → k < w.heap.size := fun k hk => (h.row_lt k hk).2
  go_enter Tryd.func69, Tryd.ntmps69
  go_wp2_with fail
  generalize w.alloc (.cells #[.string b.t, .bool b.mark, .bool b.torn] 101) = w1 at *
  generalize w.heap.size = bx at *
  have HT : Hid (∀ W, Below w1.heap.size w1.drew W → Calls Tryd.prog 83 #[.pointer (some ⟨g, 0, none⟩), .int .i64 ((b.wt : Nat) : Int)] W fun e w' =>
    e = .returned (.int .i64 7) ∧ VolAt w' B g s v ∧ Stay B g W w') := Lib.hid fun W hb => take_full (h1.below ⟨hb.os, hb.tape, hb.output, hb.size, hb.block⟩) ok b.wt hfull
  have HST := Lib.hid st1
  have c0 := hbx.cell 0
  have c1 := hbx.cell 1
  have c2 := hbx.cell 2
  simp at c0 c1 c2
  have hzz : B ≤ w1.heap.size := by omega
  clear h1 hbx st1 h ok hfull
  generalize b.wt = bw at *
  go_region_with (first
    | (go_at_call 67; refine (hW _).mono ?_; rintro e w2 ⟨rfl, hb2⟩)
    | (go_at_call 83; refine (HT.out _ hb2).mono ?_; rintro e w3 ⟨rfl, hv3, st3⟩))
  all_goals
    have HV3 := Lib.hid hv3
    have HST3 : Hid (Stay B g w w3) := Lib.hid ((HST.out.trans (Stay.of_below (w := w1) ⟨hb2.os, hb2.tape, hb2.output, hb2.size, hb2.block⟩ hzz)).trans st3)
    clear hv3 st3 hb2 HST HT hW
    go_wp2
    go_ret
    exact ⟨rfl, HV3.out, HST3.out⟩

/-- behind the append, and the store of the new slice -/
theorem put_done {w w4 : World} {B g gg cap u : Nat} {s : VS} {v : Value} {b : Blk} {o : Obj} (h : VolOver w B g s (u : Nat) v) (hu : wsum (s.put b).l = u)
    (hown : w4.ownsRow B 101 3 (.slice (some ⟨gg, 0, none⟩) (s.l.length + 1) cap) (s.l.length + 1) (cells3 s.l ++ [.string b.t, .bool b.mark, .bool b.torn]))
    (hgrow : ((w.alloc o).drew).grownBy w4 v.ownBlock) (hat : v.ownBlock = some gg ∨ gg = w.heap.size + 1) :
    VolAt (w4.setCell ⟨g, 5, none⟩ (.slice (some ⟨gg, 0, none⟩) (s.l.length + 1) cap)) B g (s.put b) (.slice (some ⟨gg, 0, none⟩) (s.l.length + 1) cap) ∧
      Stay B g w (w4.setCell ⟨g, 5, none⟩ (.slice (some ⟨gg, 0, none⟩) (s.l.length + 1) cap)) := by
  have hlt : g < w.heap.size := h.at_.lt
  have hBz : B ≤ w.heap.size := Nat.le_trans h.gB (Nat.le_of_lt hlt)
  have hne : some g ≠ v.ownBlock := by
    intro e
    rcases h.row.2 with ⟨rfl, _⟩ | ⟨k, cap, cur, rfl, hB, hk, _⟩
    · cases e
    · simp only [Value.ownBlock, Option.some.injEq] at e
      exact At.differ hk h.at_ (by decide) e.symm
  have ha : At ((w.alloc o).drew) g 51 (volCells s (u : Nat) v) := h.at_.alloc o
  have ha4 := ha.grown hgrow hne
  have hgg : gg ≠ g := by
    rcases hat with e | e
    · intro e'; rw [e, e'] at hne; exact hne rfl
    · omega
  have hst1 : Stay0 B w ((w.alloc o).drew) := by
    have := Stay.alloc (g := g) w o hBz
    exact ⟨⟨this.below.os, this.below.tape, this.below.output, this.below.size, this.below.block⟩, this.kept⟩
  have hst2 : Stay0 B ((w.alloc o).drew) w4 := by
    rcases h.row.2 with ⟨rfl, _⟩ | ⟨k, cap, cur, rfl, hB, hk, _⟩
    · exact ⟨⟨hgrow.os, hgrow.tape, hgrow.output, hgrow.size, fun i hi => hgrow.block i (by show i < (w.alloc o).heap.size; simp; omega) (by simp [Value.ownBlock])⟩, Kept.of_none hgrow⟩
    · have hk' : ((w.alloc o).drew).heap[k]? = some (.cells cur 101 (0, 0)) := (show At w k 101 cur from hk).alloc o
      exact ⟨below_of_grownBy (g := k) (Below.refl _ _) hgrow (by show B ≤ (w.alloc o).heap.size; simp; omega) hB, Kept.of_grown hgrow hk' (.inr ⟨_, _, rfl⟩)⟩
  have hst3 : Stay0 B w4 (w4.setCell ⟨g, 5, none⟩ (.slice (some ⟨gg, 0, none⟩) (s.l.length + 1) cap)) :=
    ⟨below_of_grownBy (Below.refl _ _) (grown_set _ _ _ _) (Nat.le_trans hBz (Nat.le_trans hst1.size hst2.size)) h.gB, Kept.of_grown (grown_set _ _ _ _) ha4 (.inl ⟨_, _, rfl⟩)⟩
  have hft : Foot g w (w4.setCell ⟨g, 5, none⟩ (.slice (some ⟨gg, 0, none⟩) (s.l.length + 1) cap)) := fun _ => by
    have hrw : rowOf w g = v.ownBlock := rowOf_at h.at_ rfl
    have hrw' : rowOf (w4.setCell ⟨g, 5, none⟩ (.slice (some ⟨gg, 0, none⟩) (s.l.length + 1) cap)) g = some gg := rowOf_at (ha4.set 5 (.slice (some ⟨gg, 0, none⟩) (s.l.length + 1) cap)) rfl
    refine ⟨fun k hk h1 h2 => ?_, fun k e => ?_⟩
    · refine (Below.heap_setCell w4 ⟨g, 5, none⟩ _ k h1).trans ?_
      refine (hgrow.block k (by show k < (w.alloc o).heap.size; simp; omega) (by intro e; exact h2 (hrw.trans e.symm))).trans ?_
      exact Below.heap_alloc w o k hk
    · rw [hrw'] at e
      cases e
      rcases hat with e | e
      · exact .inl (hrw.trans e)
      · exact .inr (by omega)
  refine ⟨⟨?_, ?_, h.gB⟩, ⟨(hst1.trans hst2).trans hst3, hft⟩⟩
  · have := ha4.set 5 (.slice (some ⟨gg, 0, none⟩) (s.l.length + 1) cap)
    rw [hu]
    exact this
  · have e1 : (s.put b).l.length = s.l.length + 1 := by simp [VS.put]
    have e2 : cells3 (s.put b).l = cells3 s.l ++ [.string b.t, .bool b.mark, .bool b.torn] := by
      show cells3 (s.l ++ [b]) = _
      rw [cells3_append, cells3_one]; rfl
    rw [e1, e2]
    exact hown.kept (grown_set _ _ _ _) (.inr (by simp [Value.ownBlock]; omega))

set_option maxRecDepth 100000 in
set_option maxHeartbeats 1000000 in
theorem put_fits {w : World} {B g : Nat} {s : VS} {v : Value} (h : VolAt w B g s v) (ok : s.ok) (b : Blk) (hb : b.t.size ≤ 1000000) (hfit : b.wt ≤ s.rm - wsum s.l) (hlen : s.l.length ≤ 1000000) :
    Calls Tryd.prog 69 #[.pointer (some ⟨g, 0, none⟩), .agg #[.string b.t, .bool b.mark, .bool b.torn]] w fun e w' => e = .returned (.int .i64 0) ∧ (∃ v', VolAt w' B g (s.put b) v') ∧ Stay B g w w' := by
  obtain ⟨i0, hi0, hz0, hz1, hz2⟩ := info_parts info_blk
  have hbz := h.bz
  have OK := Lib.hid ok
  have hW : ∀ W, Calls Tryd.prog 67 #[.agg #[.string b.t, .bool b.mark, .bool b.torn]] W fun e w' => e = .returned (.int .i64 ((b.wt : Nat) : Int)) ∧ Below W.heap.size W w' := fun W =>
    (weight_blk b W hb).mono fun e w' ⟨he, hw⟩ => ⟨he, by rw [hw]; exact (Below.refl _ W).alloc (Nat.le_refl _) _⟩
  have h1 := h.alloc (.cells #[.string b.t, .bool b.mark, .bool b.torn] 101)
  have hbx := At.new w 101 #[.string b.t, .bool b.mark, .bool b.torn]
  have st1 := Stay.alloc (g := g) w (.cells #[.string b.t, .bool b.mark, .bool b.torn] 101) hbz
  have hxz : w.heap.size < (w.alloc (.cells #[.string b.t, .bool b.mark, .bool b.torn] 101)).heap.size := by simp
  have hgx : g < w.heap.size := h.lt
  have hvx : ∀ k, v.ownBlock = some k → k < w.heap.size := fun k hk => (h.row_lt k hk).2
  go_enter Tryd.func69, Tryd.ntmps69
  go_wp2_with fail
  generalize w.alloc (.cells #[.string b.t, .bool b.mark, .bool b.torn] 101) = w1 at *
  generalize w.heap.size = bx at *
  have HT : Hid (∀ W, Below w1.heap.size w1.drew W → Calls Tryd.prog 83 #[.pointer (some ⟨g, 0, none⟩), .int .i64 ((b.wt : Nat) : Int)] W fun e w' =>
    e = .returned (.int .i64 0) ∧ VolOver w' B g s ((wsum s.l + b.wt : Nat) : Int) v ∧ Stay B g W w' ∧ W.grownBy w' (some g)) := Lib.hid fun W hb => take_fits (h1.below ⟨hb.os, hb.tape, hb.output, hb.size, hb.block⟩) ok b.wt hfit
  have HST := Lib.hid st1
  have HBX := Lib.hid hbx
  have c0 := hbx.cell 0
  have c1 := hbx.cell 1
  have c2 := hbx.cell 2
  simp at c0 c1 c2
  have hzz : B ≤ w1.heap.size := by omega
  have HBW : Hid (∀ n : Nat, n = b.wt → wsum (s.put b).l = wsum s.l + n) := Lib.hid (fun n hn => by
    show wsum (s.l ++ [b]) = _
    rw [wsum_append, wsum_one, hn])
  clear h1 hbx st1 h ok hfit
  generalize hbw : b.wt = bw at *
  have HBE := Lib.hid hbw; clear hbw
  go_region_with (first
    | (go_at_call 67; refine (hW _).mono ?_; rintro e w2 ⟨rfl, hb2⟩)
    | (go_at_call 83; refine (HT.out _ hb2).mono ?_; rintro e w3 ⟨rfl, hv3, st3, hg3⟩))
  all_goals
    have HBX3 : Hid (At w3 bx 101 #[.string b.t, .bool b.mark, .bool b.torn]) := Lib.hid (((show At w1.drew bx 101 #[.string b.t, .bool b.mark, .bool b.torn] from HBX.out).below hb2 hxz).grown hg3 (by simp; omega))
    have HV3 := Lib.hid hv3
    have HST3 : Hid (Stay B g w w3) := Lib.hid ((HST.out.trans (Stay.of_below (w := w1) ⟨hb2.os, hb2.tape, hb2.output, hb2.size, hb2.block⟩ hzz)).trans st3)
    clear hv3 st3 hb2 HST HT hW hg3 HBX c0 c1 c2
    have g5 : w3.cell? ⟨g, 5, none⟩ = some v := HV3.out.at_.cell 5
    have f5 : w3.frozen? ⟨g, 5, none⟩ = false := HV3.out.at_.frozen 5
    have b0 : w3.cell? ⟨bx, 0, none⟩ = some (.string b.t) := HBX3.out.cell 0
    have b1 : w3.cell? ⟨bx, 1, none⟩ = some (.bool b.mark) := HBX3.out.cell 1
    have b2 : w3.cell? ⟨bx, 2, none⟩ = some (.bool b.torn) := HBX3.out.cell 2
    have hown := HV3.out.row
    have hz3 : bx < w3.heap.size := HBX3.out.lt
    have hne : v.ownBlock ≠ some g := by
      intro e
      rcases hown.2 with ⟨rfl, _⟩ | ⟨k, cap, cur, rfl, hB, hk, _⟩
      · cases e
      · simp only [Value.ownBlock, Option.some.injEq] at e
        exact At.differ hk HV3.out.at_ (by decide) e
    have hneb : v.ownBlock ≠ some bx := by
      intro e
      have := hvx bx e
      omega
    have HSF : Hid (∀ o (W : World), ((w3.alloc o).drew).grownBy W v.ownBlock → W.cell? ⟨g, 5, none⟩ = some v ∧ W.frozen? ⟨g, 5, none⟩ = false) := Lib.hid fun o W hg =>
      ⟨(hg.cell_far ⟨g, 5, none⟩ (by show g < (w3.alloc o).heap.size; simp; omega) (Ne.symm hne)).trans ((HV3.out.at_.alloc o).cell 5), (hg.frozen_far ⟨g, 5, none⟩ (by show g < (w3.alloc o).heap.size; simp; omega) (Ne.symm hne)).trans ((HV3.out.at_.alloc o).frozen 5)⟩
    have g5a : ∀ o : Obj, (w3.alloc o).cell? ⟨g, 5, none⟩ = some v := fun o => (HV3.out.at_.alloc o).cell 5
    have hlen1 : s.l.length + 1 ≤ maxLen := by unfold maxLen; omega
    have hby : (s.l.length + 1) * 24 ≤ 140737488355328 := by omega
    go_wp2_with fail
    go_region_law (
      ((refine step_append_lies _ (by rfl) _ _ _ (by rfl) B 101 i0 _ 3 24 Tryd.underlying49 hi0 hz0 hz1 hz2 rfl (by omega) v s.l.length (cells3 s.l) (by rfl) ((hown.alloc _).drew)
            ⟨w3.heap.size, 0, none⟩ 1 1 [.string b.t, .bool b.mark, .bool b.torn] (by rfl) (by rfl) (World.news_of_block (cs := #[.string b.t, .bool b.mark, .bool b.torn]) (t := 101) (fr := (0, 0)) (heap_alloc_new w3 _)) (by simp [Value.oneCell'])
            (by omega) hlen1 hby (by simp; omega) (w3.heap.size + 1) (by simp) ?_; intro gg cap w4 hown1 hgrow hat hlt; obtain ⟨q5, qf⟩ := HSF.out _ _ hgrow)))
    all_goals
      have HDN := Lib.hid (put_done HV3.out (HBW.out _ rfl) hown1 hgrow hat)
      clear hown hown1 hgrow hat hlt q5 qf HSF g5a
      go_wp2
      go_ret
      exact ⟨rfl, ⟨_, HDN.out.1⟩, HST3.out.trans HDN.out.2⟩
end Go.Proofs.YtniecodpdmjppaaDoor
