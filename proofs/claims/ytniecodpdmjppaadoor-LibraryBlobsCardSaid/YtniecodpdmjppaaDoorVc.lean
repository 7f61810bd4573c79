/- (*reel.Volume).cut: its walk. -/
import Derived.Test.YtniecodpdmjppaaDoorVr
import Derived.Laws.IdiomCopy
import Derived.BigRegion
namespace Go.Proofs.YtniecodpdmjppaaDoor
open Go.RowKit
set_option linter.unusedVariables false

/-- cells written one behind the other into a block that is known whole -/
theorem setCells_at (k : Nat) (t : TypeId) : ∀ (vs : List Value) (o : Nat) (w : World) (cs : Array Value), At w k t cs → ∃ cs', At (w.setCells k o vs) k t cs' ∧ cs'.size = cs.size ∧ (∀ j, j < o → cs'[j]? = cs[j]?) ∧ w.grownBy (w.setCells k o vs) (some k)
  | [], o, w, cs, h => ⟨cs, h, rfl, fun _ _ => rfl, grown_refl _ _⟩
  | v :: r, o, w, cs, h => by
    obtain ⟨cs', h1, h2, h3, h4⟩ := setCells_at k t r (o + 1) (w.setCell ⟨k, o, none⟩ v) _ (h.set o v)
    refine ⟨cs', h1, by rw [h2]; simp, fun j hj => ?_, grownBy_trans (grown_set w k o v) h4⟩
    rw [h3 j (by omega), Array.getElem?_setIfInBounds]
    rw [if_neg (by omega)]

theorem zero_blk (w : World) : (zeroValue 101).run Tryd.prog w = .ok (.agg #[.string ⟨#[]⟩, .bool false, .bool false]) w := by kernel_rfl
theorem zero_cells (n : Nat) : ∀ u ∈ (Builtin.zeroCells (Value.agg #[.string ⟨#[]⟩, .bool false, .bool false]).cells n).toList, u.oneCell' = true := by
  intro u hu
  simp [Builtin.zeroCells, Value.cells] at hu
  obtain ⟨i, hi, rfl⟩ := hu
  have h3 : i % 3 = 0 ∨ i % 3 = 1 ∨ i % 3 = 2 := by omega
  rcases h3 with h | h | h <;> simp [h, Value.oneCell']

theorem zero_length (n : Nat) : (Builtin.zeroCells (Value.agg #[.string ⟨#[]⟩, .bool false, .bool false]).cells n).toList.length = n * 3 := by
  simp [Builtin.zeroCells, Value.cells]
  try omega

theorem clear_none (w : World) (A : Option Addr) (c : Nat) (ty : TypeId) : (Builtin.clear_ #[49] ty #[.slice A 0 c]).run Tryd.prog w = .ok (.tuple #[]) w := by
  cases A <;> simp [Builtin.clear_, run_underlying Tryd.underlying49]

/-- the last blocks of a row are cleared: the first ones stay -/
theorem clear_tail {w : World} {B k N c n : Nat} {xs : List Value} (h : w.ownsRow B 101 3 (.slice (some ⟨k, 0, none⟩) N c) N xs) (hn : n < N) (ty : TypeId) :
    ∃ w', (Builtin.clear_ #[49] ty #[.slice (some ⟨k, n * 3, none⟩) (N - n) (c - n)]).run Tryd.prog w = .ok (.tuple #[]) w' ∧ w.grownBy w' (some k) ∧ w'.ownsRow B 101 3 (.slice (some ⟨k, 0, none⟩) n c) n (xs.take (n * 3)) := by
  rcases h.2 with ⟨e, _⟩ | ⟨k', cap, cur, e, h2, h3, h4, h5, h6, h7⟩
  · cases e
  · cases e
    have hat : At w k 101 cur := h3
    obtain ⟨m, hm⟩ : ∃ m, N - n = m + 1 := ⟨N - n - 1, by omega⟩
    obtain ⟨zs, hzs⟩ : ∃ zs, (Builtin.zeroCells (Value.agg #[.string ⟨#[]⟩, .bool false, .bool false]).cells (m + 1)).toList = zs := ⟨_, rfl⟩
    have hzl : zs.length = (m + 1) * 3 := by rw [← hzs]; exact zero_length _
    have hst := run_storeCells_cells (P := Tryd.prog) k (n * 3) zs 0 w (fun j hj => by rw [hat.cell, Array.getElem?_eq_getElem (by omega)]; rfl) (fun j hj => hat.frozen _) (by rw [← hzs]; exact zero_cells _)
    obtain ⟨cs', g1, g2, g3, g4⟩ := setCells_at k 101 zs (n * 3) w cur hat
    refine ⟨w.setCells k (n * 3) zs, ?_, g4, ?_, .inr ⟨k, c, cs', rfl, h2, g1, by omega, h5, by rw [g2, h6], ?_⟩⟩
    · rw [hm]
      simp only [Nat.add_zero] at hst
      simp [Builtin.clear_, run_underlying Tryd.underlying49, hzs, hst]
    · rw [List.length_take, h.1]
      omega
    · rw [← h7]
      rw [List.take_take, Nat.min_eq_left (by omega)]
      apply List.ext_getElem?
      intro j
      rw [List.getElem?_take, List.getElem?_take]
      by_cases hj : j < n * 3
      · rw [if_pos hj, if_pos hj, Array.getElem?_toList, Array.getElem?_toList, g3 j hj]
      · rw [if_neg hj, if_neg hj]

theorem VolOver.of_block {w w' : World} {B g : Nat} {s : VS} {u : Int} {v : Value} (h : VolOver w B g s u v) (hg : w'.heap[g]? = w.heap[g]?) (hr : ∀ k, v.ownBlock = some k → w'.heap[k]? = w.heap[k]?) : VolOver w' B g s u v := by
  refine ⟨hg.trans h.at_, ⟨h.row.1, ?_⟩, h.gB⟩
  rcases h.row.2 with h1 | ⟨k, cap, cur, rfl, h2, h3, h4⟩
  · exact .inl h1
  · exact .inr ⟨k, cap, cur, rfl, h2, (hr k rfl).trans h3, h4⟩
theorem VolOver.below {w w' : World} {B g : Nat} {s : VS} {u : Int} {v : Value} (h : VolOver w B g s u v) (hb : Below w.heap.size w w') : VolOver w' B g s u v := h.of_block (hb.block g h.at_.lt) fun k hk => hb.block k (h.row.lt k hk).2
theorem VolOver.ne {w : World} {B g : Nat} {s : VS} {u : Int} {v : Value} (h : VolOver w B g s u v) : v.ownBlock = none ∨ v.ownBlock ≠ some g := by
  rcases h.row.2 with ⟨rfl, _⟩ | ⟨k, cap, cur, rfl, hB, hk, _⟩
  · exact .inl rfl
  · refine .inr ?_
    simp only [Value.ownBlock, ne_eq, Option.some.injEq]
    exact At.differ hk h.at_ (by decide)
theorem VolOver.bz {w : World} {B g : Nat} {s : VS} {u : Int} {v : Value} (h : VolOver w B g s u v) : B ≤ w.heap.size := Nat.le_trans h.gB (Nat.le_of_lt h.at_.lt)
theorem VolOver.stay {w w' : World} {B g : Nat} {s : VS} {u : Int} {v : Value} (h : VolOver w B g s u v) (hm : w.grownBy w' (some g)) (hr : rowOf w' g = v.ownBlock) : Stay B g w w' :=
  ⟨⟨below_of_grownBy (Below.refl B w) hm h.bz h.gB, Kept.of_grown hm h.at_ (.inl ⟨_, _, rfl⟩)⟩, .of_own hm (hr.trans (rowOf_at h.at_ rfl).symm)⟩
theorem VolOver.meter {w : World} {B g : Nat} {s : VS} {u : Nat} {v : Value} (h : VolOver w B g s (u : Nat) v) (hu : (u : Int) ≤ s.rm) (ht : s.rm ≤ 9223372036854775807) : MeterAt w g s.rm (u : Nat) := ⟨h.at_.cell 0, h.at_.cell 1, h.at_.frozen 1, hu, by omega, ht⟩
theorem give_over {w : World} {B g : Nat} {s : VS} {u : Nat} {v : Value} (h : VolOver w B g s (u : Nat) v) (hu : (u : Int) ≤ s.rm) (ht : s.rm ≤ 9223372036854775807) (n : Nat) (hn : n ≤ u) :
    Calls Tryd.prog 66 #[.pointer (some ⟨g, 0, none⟩), .int .i64 (n : Int)] w fun e w' => e = .returned (.int .i64 0) ∧ VolOver w' B g s ((u - n : Nat) : Int) v ∧ Stay B g w w' ∧ w.grownBy w' (some g) := by
  refine (give_any (h.meter hu ht) (n : Int)).mono ?_
  rintro e w' (⟨h1, _⟩ | ⟨_, _, rfl, rfl⟩)
  · omega
  · have hs := h.at_.set 1 (.int .i64 (((u : Nat) : Int) - (n : Int)))
    have e1 : ((u : Nat) : Int) - (n : Int) = ((u - n : Nat) : Int) := by omega
    rw [e1] at hs ⊢
    exact ⟨rfl, ⟨hs, h.row.kept (grown_set _ _ _ _) h.ne, h.gB⟩, h.stay (grown_set _ _ _ _) (rowOf_at hs rfl), grown_set _ _ _ _⟩
theorem used_over {w : World} {B g : Nat} {s : VS} {u : Nat} {v : Value} (h : VolOver w B g s (u : Nat) v) (hu : (u : Int) ≤ s.rm) (ht : s.rm ≤ 9223372036854775807) :
    Calls Tryd.prog 14 #[.pointer (some ⟨g, 0, none⟩)] w fun e w' => e = .returned (.int .i64 ((u : Nat) : Int)) ∧ w = w' :=
  (used_any (h.meter hu ht)).mono fun _ _ ⟨he, hw⟩ => ⟨he, hw.symm⟩

/-- all but block g and block o stays -/
structure Near (g : Nat) (o : Option Nat) (w w' : World) : Prop where
  size : w.heap.size ≤ w'.heap.size
  block : ∀ k, k < w.heap.size → k ≠ g → some k ≠ o → w'.heap[k]? = w.heap[k]?
theorem Near.refl (g : Nat) (o : Option Nat) (w : World) : Near g o w w := ⟨Nat.le_refl _, fun _ _ _ _ => rfl⟩
theorem Near.trans {g : Nat} {o : Option Nat} {a b c : World} (h : Near g o a b) (h' : Near g o b c) : Near g o a c := ⟨Nat.le_trans h.size h'.size, fun k hk h1 h2 => (h'.block k (Nat.lt_of_lt_of_le hk h.size) h1 h2).trans (h.block k hk h1 h2)⟩
theorem Near.of_below {g : Nat} {o : Option Nat} {a b : World} (h : Below a.heap.size a b) : Near g o a b := ⟨h.size, fun k hk _ _ => h.block k hk⟩
theorem Near.of_grown {g : Nat} {o : Option Nat} {a b : World} (h : a.grownBy b (some g)) : Near g o a b := ⟨h.size, fun k hk h1 _ => h.block k hk (by simpa using h1)⟩
theorem Near.of_row {g k : Nat} {a b : World} (h : a.grownBy b (some k)) : Near g (some k) a b := ⟨h.size, fun k hk _ h1 => h.block k hk h1⟩

def CutEnds (w : World) (B g : Nat) (s : VS) (o : Option Nat) (e : Ending) (w' : World) : Prop := e = .returned (.tuple #[]) ∧ (∃ v', VolAt w' B g s v') ∧ Stay B g w w' ∧ Near g o w w'

/-- how much is used while blocks go -/
def going (l : List Blk) (n j : Nat) : Nat := wsum (l.take n) + wsum (l.drop (n + j))
theorem going_zero (l : List Blk) (n : Nat) : going l n 0 = wsum l := wsum_take_drop l n
theorem going_end (l : List Blk) (n : Nat) (hn : n ≤ l.length) : going l n (l.length - n) = wsum (l.take n) := by
  unfold going
  rw [show n + (l.length - n) = l.length by omega, List.drop_length, wsum_nil, Nat.add_zero]
theorem going_step {l : List Blk} {n j : Nat} (h : n + j < l.length) : going l n j = l[n + j].wt + going l n (j + 1) := by
  unfold going
  rw [wsum_drop_step h, show n + (j + 1) = n + j + 1 by omega]
  omega
theorem going_le (l : List Blk) (n j : Nat) : going l n j ≤ wsum l := by
  have h1 := wsum_take_drop l n
  have h2 : wsum (l.drop (n + j)) ≤ wsum (l.drop n) := by
    rw [← List.drop_drop]
    have := wsum_take_drop (l.drop n) j
    omega
  unfold going
  omega

theorem cut_done {w : World} {B g n : Nat} {s : VS} {v0 v : Value} (ha : At w g 51 ((volCells s ((wsum (s.l.take n) : Nat) : Int) v0).setIfInBounds 5 v)) (hr : w.ownsRow B 101 3 v n (cells3 (s.l.take n))) (hBg : B ≤ g) (hn : n ≤ s.l.length) :
    VolAt ((w.setCell ⟨g, 6, none⟩ (.int .i64 (if n < s.sure then (n : Int) else (s.sure : Int)))).setCell ⟨g, 7, none⟩ (.int .i64 (if n < s.pos then (n : Int) else (s.pos : Int)))).drew B g (s.cut n) v ∧
      Stay B g w ((w.setCell ⟨g, 6, none⟩ (.int .i64 (if n < s.sure then (n : Int) else (s.sure : Int)))).setCell ⟨g, 7, none⟩ (.int .i64 (if n < s.pos then (n : Int) else (s.pos : Int)))).drew ∧ w.grownBy ((w.setCell ⟨g, 6, none⟩ (.int .i64 (if n < s.sure then (n : Int) else (s.sure : Int)))).setCell ⟨g, 7, none⟩ (.int .i64 (if n < s.pos then (n : Int) else (s.pos : Int)))).drew (some g) := by
  have e1 : (if n < s.sure then (n : Int) else (s.sure : Int)) = ((min s.sure n : Nat) : Int) := by split <;> omega
  have e2 : (if n < s.pos then (n : Int) else (s.pos : Int)) = ((min s.pos n : Nat) : Int) := by split <;> omega
  rw [e1, e2]
  have a1 := ha.set 6 (.int .i64 ((min s.sure n : Nat) : Int))
  have a2 := a1.set 7 (.int .i64 ((min s.pos n : Nat) : Int))
  have hne : v.ownBlock = none ∨ v.ownBlock ≠ some g := by
    rcases hr.2 with ⟨rfl, _⟩ | ⟨k, cap, cur, rfl, hB, hk, _⟩
    · exact .inl rfl
    · refine .inr ?_
      simp only [Value.ownBlock, ne_eq, Option.some.injEq]
      exact At.differ hk ha (by decide)
  have hg : w.grownBy ((w.setCell ⟨g, 6, none⟩ (.int .i64 ((min s.sure n : Nat) : Int))).setCell ⟨g, 7, none⟩ (.int .i64 ((min s.pos n : Nat) : Int))) (some g) := grownBy_set (grown_set _ _ _ _) _ _
  have hr2 := hr.kept hg hne
  have hst : Stay B g w ((w.setCell ⟨g, 6, none⟩ (.int .i64 ((min s.sure n : Nat) : Int))).setCell ⟨g, 7, none⟩ (.int .i64 ((min s.pos n : Nat) : Int))) :=
    ⟨⟨below_of_grownBy (Below.refl _ _) hg (Nat.le_trans hBg (Nat.le_of_lt ha.lt)) hBg, Kept.of_grown hg ha (.inl ⟨_, _, rfl⟩)⟩, .of_own hg ((rowOf_at a2 rfl).trans (rowOf_at ha (v := v) rfl).symm)⟩
  have hl : (s.cut n).l.length = n := by show (s.l.take n).length = n; rw [List.length_take]; omega
  refine ⟨⟨a2, ?_, hBg⟩, hst.again rfl rfl rfl rfl, ⟨hg.os, hg.tape, hg.output, hg.size, hg.block⟩⟩
  rw [hl]
  exact hr2

set_option maxRecDepth 100000 in
set_option maxHeartbeats 4000000 in
theorem cut_some {w : World} {B g : Nat} {s : VS} {v : Value} (h : VolAt w B g s v) (ok : s.ok) (n : Nat) (hn : n < s.l.length) :
    Calls Tryd.prog 53 #[.pointer (some ⟨g, 0, none⟩), .int .i64 (n : Int)] w (CutEnds w B g (s.cut n) v.ownBlock) := by
  have hln := ok.len
  have hrm := ok.sum
  have hrt := ok.top
  obtain ⟨A, c, rfl, hc, hcm, hnil, hsome⟩ := h.form
  cases A with
  | none => rw [(hnil rfl).1] at hn; simp at hn
  | some a =>
  obtain ⟨k, rfl, hkz, hBk, hkg, _, _, _⟩ := hsome _ rfl
  have H0 : Hid (VolOver w B g s ((going s.l n 0 : Nat) : Int) (.slice (some ⟨k, 0, none⟩) s.l.length c)) := Lib.hid (by rw [going_zero]; exact ⟨h.at_, h.row, h.gB⟩)
  have OK := Lib.hid ok
  have c5 : w.cell? ⟨g, 5, none⟩ = some (.slice (some ⟨k, 0, none⟩) s.l.length c) := h.at_.cell 5
  have hbz := h.bz
  have hBg := h.gB
  clear hnil hsome h ok
  obtain ⟨N, hN⟩ : ∃ N, s.l.length = N := ⟨_, rfl⟩
  rw [hN] at hn hln hc c5 H0
  have HN := Lib.hid hN; clear hN
  have hnc : c ≠ n := by omega
  have hnl : n ≤ N := by omega
  have hcc : n ≤ c := by omega
  unfold maxLen at hcm
  have hba : (⟨k, 0, none⟩ : Addr).add (n * 3) = ⟨k, n * 3, none⟩ := by simp [Addr.add]; omega
  go_enter Tryd.func53, Tryd.ntmps53
  go_wp2_with fail
  go_loopw [13] (fun i wr => ∃ j : Nat, j ≤ N - n ∧ i = .int .i64 (j : Int) ∧ Hid (VolOver wr B g s ((going s.l n j : Nat) : Int) (.slice (some ⟨k, 0, none⟩) N c)) ∧ Hid (Stay B g w wr) ∧ Hid (Near g (some k) w wr))
    (fun i _ => N - n - (intOf i).toNat)
  case atStart => exact ⟨0, by omega, rfl, H0, Lib.hid (Stay.refl _ _), Lib.hid (Near.refl _ _ _)⟩
  case round =>
    clear H0
    obtain ⟨j, hj, rfl, HV, HST, HNR⟩ := hrel
    by_cases hlt : j < N - n
    · have hlt' : n + j < s.l.length := by rw [HN.out]; omega
      have hstep := going_step hlt'
      obtain ⟨b, hbe⟩ : ∃ b, s.l[n + j] = b := ⟨_, rfl⟩
      obtain ⟨e0, e1, e2⟩ := cells3_get hlt'
      rw [hbe] at e0 e1 e2 hstep
      have hbok : b.ok := by rw [← hbe]; exact OK.out.blk _ (List.getElem_mem hlt')
      have hr := HV.out.row
      rw [HN.out] at hr
      have d0 : wr.cell? ⟨k, n * 3 + j * 3, none⟩ = some (.string b.t) := by
        rw [show n * 3 + j * 3 = (n + j) * 3 by omega, hr.cellAt _ (by omega)]; exact e0
      have d1 : wr.cell? ⟨k, n * 3 + j * 3 + 1, none⟩ = some (.bool b.mark) := by
        rw [show n * 3 + j * 3 + 1 = (n + j) * 3 + 1 by omega, hr.cellAt _ (by omega)]; exact e1
      have d2 : wr.cell? ⟨k, n * 3 + j * 3 + 2, none⟩ = some (.bool b.torn) := by
        rw [show n * 3 + j * 3 + 2 = (n + j) * 3 + 2 by omega, hr.cellAt _ (by omega)]; exact e2
      have hgl := going_le s.l n j
      have hwl : b.wt ≤ going s.l n j := by omega
      have hru : ((going s.l n j : Nat) : Int) ≤ s.rm := by omega
      have heq : going s.l n j - b.wt = going s.l n (j + 1) := by omega
      have HEQ := Lib.hid heq
      have i0 : (0 : Int) ≤ (j : Int) := by omega
      have i1 : (j : Int) < ((N - n : Nat) : Int) := by omega
      clear e0 e1 e2 hr hbe hlt' hstep heq
      have hbx := At.new wr 101 #[.string b.t, .bool b.mark, .bool b.torn]
      have hV1 := HV.out.below ((Below.refl _ wr).alloc (Nat.le_refl _) (.cells #[.string b.t, .bool b.mark, .bool b.torn] 101))
      have hS1 := HST.out.trans (Stay.alloc wr (.cells #[.string b.t, .bool b.mark, .bool b.torn] 101) HV.out.bz)
      have hN1 : Near g (some k) w (wr.alloc (.cells #[.string b.t, .bool b.mark, .bool b.torn] 101)) := HNR.out.trans (Near.of_below ((Below.refl _ wr).alloc (Nat.le_refl _) _))
      have hxz : wr.heap.size < (wr.alloc (.cells #[.string b.t, .bool b.mark, .bool b.torn] 101)).heap.size := by simp
      have hWt : ∀ W, Calls Tryd.prog 67 #[.agg #[.string b.t, .bool b.mark, .bool b.torn]] W fun e w' => e = .returned (.int .i64 ((b.wt : Nat) : Int)) ∧ Below W.heap.size W w' := fun W =>
        (weight_blk b W hbok.1).mono fun e w' ⟨he, hw⟩ => ⟨he, by rw [hw]; exact (Below.refl _ W).alloc (Nat.le_refl _) _⟩
      go_wp2_with fail
      generalize wr.alloc (.cells #[.string b.t, .bool b.mark, .bool b.torn] 101) = wb at *
      generalize wr.heap.size = bx at *
      have hU : ∀ W, Below wb.heap.size wb.drew W → Calls Tryd.prog 14 #[.pointer (some ⟨g, 0, none⟩)] W fun e w' => e = .returned (.int .i64 ((going s.l n j : Nat) : Int)) ∧ W = w' := fun W hb =>
        used_over (hV1.below ⟨hb.os, hb.tape, hb.output, hb.size, hb.block⟩) hru hrt
      have hG : ∀ W, Below wb.heap.size wb.drew W → Calls Tryd.prog 66 #[.pointer (some ⟨g, 0, none⟩), .int .i64 ((b.wt : Nat) : Int)] W fun e w' => e = .returned (.int .i64 0) ∧ VolOver w' B g s ((going s.l n (j + 1) : Nat) : Int) (.slice (some ⟨k, 0, none⟩) N c) ∧ Stay B g W w' ∧ W.grownBy w' (some g) := fun W hb => by
        have := give_over (hV1.below ⟨hb.os, hb.tape, hb.output, hb.size, hb.block⟩) hru hrt b.wt hwl
        rw [HEQ.out] at this
        exact this
      have hbd : Below wb.heap.size wb.drew wb.drew := Below.refl _ _
      have x0 := hbx.cell 0
      have x1 := hbx.cell 1
      have x2 := hbx.cell 2
      simp at x0 x1 x2
      have x0' : wb.drew.cell? ⟨bx, 0, none⟩ = _ := x0
      have HU := Lib.hid hU
      have HG := Lib.hid hG
      have HWt := Lib.hid hWt
      have HBX := Lib.hid hbx
      have HS1 := Lib.hid hS1
      have HN1 := Lib.hid hN1
      have hwb : B ≤ wb.heap.size := hV1.bz
      have hle : ((b.wt : Nat) : Int) ≤ ((going s.l n j : Nat) : Int) := by omega
      clear hU hG hWt hbx hV1 hS1 hN1 d0 d1 d2 HV HST HNR hgl hwl HEQ hbok hru x0'
      generalize b.wt = bw at *
      generalize going s.l n j = gj at *
      have hnl : ¬ gj < bw := by omega
      go_region_with (first
        | (go_at_call 67; refine (HWt.out _).mono ?_; rintro e w2 ⟨rfl, hb2⟩)
        | (go_at_call 14; refine (HU.out _ (by assumption)).mono ?_; rintro e w3 ⟨rfl, rfl⟩)
        | (go_at_call 66; refine (HG.out _ (by assumption)).mono ?_; rintro e w4 ⟨rfl, hv4, st4, hg4⟩))
      all_goals
        have R1 := Lib.hid hv4
        have R2 : Hid (Stay B g w w4) := Lib.hid ((HS1.out.trans (Stay.of_below (w := wb) ⟨hb2.os, hb2.tape, hb2.output, hb2.size, hb2.block⟩ hwb)).trans st4)
        have R3 : Hid (Near g (some k) w w4) := Lib.hid ((HN1.out.trans (Near.of_below (a := wb) ⟨hb2.os, hb2.tape, hb2.output, hb2.size, hb2.block⟩)).trans (Near.of_grown hg4))
        clear hv4 st4 hg4 hb2 HN1 HU HG HWt HBX HS1 x0 x1 x2 hbd
        go_wp2
        go_roundw
        case rel => exact ⟨j + 1, by omega, by go_num, R1, R2, R3⟩
        case measure => simp [intOf]; omega
    · obtain rfl : j = N - n := by omega
      have hge : going s.l n (N - n) = wsum (s.l.take n) := by rw [← HN.out]; exact going_end s.l n (by have := HN.out; omega)
      rw [hge] at HV
      clear hge
      have hr := HV.out.row
      rw [HN.out] at hr
      obtain ⟨w2, hclr, hg2, hr2⟩ := clear_tail hr hn 0
      have g5 : wr.cell? ⟨g, 5, none⟩ = some (.slice (some ⟨k, 0, none⟩) N c) := HV.out.at_.cell 5
      have a2 := HV.out.at_.grown hg2 (by simp; omega)
      have q5 : w2.cell? ⟨g, 5, none⟩ = some (.slice (some ⟨k, 0, none⟩) N c) := a2.cell 5
      have q6 : w2.cell? ⟨g, 6, none⟩ = some (.int .i64 s.sure) := a2.cell 6
      have q7 : w2.cell? ⟨g, 7, none⟩ = some (.int .i64 s.pos) := a2.cell 7
      have f5 := a2.frozen 5
      have f6 := a2.frozen 6
      have f7 := a2.frozen 7
      have HA2 := Lib.hid a2
      have HR2 := Lib.hid hr2
      have hst2 : Stay B g wr w2 := by
        rcases hr.2 with ⟨e, _⟩ | ⟨k', cap, cur, e, h2, h3, _⟩
        · cases e
        · cases e
          exact ⟨⟨below_of_grownBy (Below.refl _ _) hg2 HV.out.bz hBk, Kept.of_grown hg2 h3 (.inr ⟨_, _, rfl⟩)⟩, .of_row hg2 (rowOf_at HV.out.at_ rfl) (by omega)⟩
      have HS2 := Lib.hid (HST.out.trans hst2)
      have HN2 := Lib.hid (HNR.out.trans (Near.of_row hg2))
      clear a2 hr2 hg2 hst2 hr HV HST HNR
      go_wp2_with fail
      have HA3 := Lib.hid (HA2.out.set 5 (.slice (some ⟨k, 0, none⟩) n c))
      have HR3 := Lib.hid (HR2.out.kept (grown_set w2 g 5 (.slice (some ⟨k, 0, none⟩) n c)) (.inr (by simp [Value.ownBlock]; omega)))
      have HS3 : Hid (Stay B g w (w2.setCell ⟨g, 5, none⟩ (.slice (some ⟨k, 0, none⟩) n c))) := Lib.hid (HS2.out.trans ⟨⟨below_of_grownBy (Below.refl _ _) (grown_set _ _ _ _) (by have := HS2.out.size; omega) hBg, Kept.of_grown (grown_set _ _ _ _) HA2.out (.inl ⟨_, _, rfl⟩)⟩, .of_own (grown_set _ _ _ _) ((rowOf_at HA3.out rfl).trans (rowOf_at HA2.out rfl).symm)⟩)
      have HN3 : Hid (Near g (some k) w (w2.setCell ⟨g, 5, none⟩ (.slice (some ⟨k, 0, none⟩) n c))) := Lib.hid (HN2.out.trans (Near.of_grown (grown_set _ _ _ _)))
      clear q5 q6 q7 f5 f6 f7 HA2 HR2 HS2 HN2 hclr g5
      generalize w2.setCell ⟨g, 5, none⟩ (.slice (some ⟨k, 0, none⟩) n c) = w3 at *
      have q6 : w3.cell? ⟨g, 6, none⟩ = some (.int .i64 s.sure) := HA3.out.cell 6
      have q7 : w3.cell? ⟨g, 7, none⟩ = some (.int .i64 s.pos) := HA3.out.cell 7
      have f6 := HA3.out.frozen 6
      have f7 := HA3.out.frozen 7
      go_region
      have HD := Lib.hid (cut_done (s := s) (n := n) HA3.out (by rw [← cells3_take] at HR3; exact HR3.out) hBg (by rw [HN.out]; exact hnl))
      clear q6 q7 f6 f7
      go_end0
      exact ⟨rfl, ⟨_, HD.out.1⟩, HS3.out.trans HD.out.2.1, HN3.out.trans (Near.of_grown HD.out.2.2)⟩

set_option maxRecDepth 100000 in
set_option maxHeartbeats 1000000 in
theorem cut_all {w : World} {B g : Nat} {s : VS} {v : Value} (h : VolAt w B g s v) (ok : s.ok) (n : Nat) (hn : n = s.l.length) :
    Calls Tryd.prog 53 #[.pointer (some ⟨g, 0, none⟩), .int .i64 (n : Int)] w (CutEnds w B g (s.cut n) v.ownBlock) := by
  have hln := ok.len
  obtain ⟨A, c, rfl, hc, hcm, hnil, hsome⟩ := h.form
  have H := Lib.hid h
  have c5 : w.cell? ⟨g, 5, none⟩ = some (.slice A s.l.length c) := h.at_.cell 5
  have f5 := h.at_.frozen 5
  have hbz := h.bz
  have hBg := h.gB
  rw [← hn] at c5 hc hln
  have HN := Lib.hid hn
  clear hnil hsome h ok hn
  unfold maxLen at hcm
  have hnn : n - n = 0 := by omega
  by_cases hcn : c = n
  · have hclr := fun W => clear_none W A 0 0
    obtain ⟨n', hn'⟩ : ∃ n', n = n' := ⟨_, rfl⟩
    subst hcn
    clear hn'
    go_enter Tryd.func53, Tryd.ntmps53
    go_wp2_with fail
    go_loopw [13] (fun i wr => i = .int .i64 0 ∧ w = wr) (fun _ _ => 0)
    case atStart => exact ⟨rfl, by simp⟩
    case round =>
      obtain ⟨rfl, rfl⟩ := hrel
      have HA2 := Lib.hid H.out.at_
      have HR2 := Lib.hid H.out.row
      have hr2 : w.ownsRow B 101 3 (.slice A c c) c (cells3 (s.l.take c)) := by
        have := H.out.row
        rw [HN.out]
        rw [List.take_length]
        rw [← HN.out]
        rw [← HN.out] at this
        exact this
      have HRT := Lib.hid hr2
      have hat : At w g 51 (volCells s ((wsum (s.l.take c) : Nat) : Int) (.slice A c c)) := by
        have := H.out.at_
        rw [HN.out, List.take_length]
        rw [← HN.out]
        rw [← HN.out] at this
        exact this
      have HAT := Lib.hid hat
      clear hr2 hat
      go_wp2_with fail
      have HA3 := Lib.hid (HAT.out.set 5 (.slice A c c))
      have HR3 := Lib.hid (HRT.out.kept (grown_set w g 5 (.slice A c c)) (by have := H.out.ne; rw [← HN.out] at this; exact this))
      have HN3 : Hid (∀ o, Near g o w (w.setCell ⟨g, 5, none⟩ (.slice A c c))) := Lib.hid (fun o => Near.of_grown (grown_set _ _ _ _))
      have HS3 : Hid (Stay B g w (w.setCell ⟨g, 5, none⟩ (.slice A c c))) := Lib.hid ⟨⟨below_of_grownBy (Below.refl _ _) (grown_set _ _ _ _) hbz hBg, Kept.of_grown (grown_set _ _ _ _) HAT.out (.inl ⟨_, _, rfl⟩)⟩, .of_own (grown_set _ _ _ _) ((rowOf_at HA3.out rfl).trans (rowOf_at HAT.out rfl).symm)⟩
      clear c5 f5 hclr
      generalize w.setCell ⟨g, 5, none⟩ (.slice A c c) = w3 at *
      have q6 : w3.cell? ⟨g, 6, none⟩ = some (.int .i64 s.sure) := HA3.out.cell 6
      have q7 : w3.cell? ⟨g, 7, none⟩ = some (.int .i64 s.pos) := HA3.out.cell 7
      have f6 := HA3.out.frozen 6
      have f7 := HA3.out.frozen 7
      go_region
      have HD := Lib.hid (cut_done (s := s) (n := c) HA3.out HR3.out hBg (by rw [HN.out]; exact Nat.le_refl _))
      clear q6 q7 f6 f7
      go_end0
      exact ⟨rfl, ⟨_, HD.out.1⟩, HS3.out.trans HD.out.2.1, (HN3.out _).trans (Near.of_grown HD.out.2.2)⟩
  · have hA : ∃ k, A = some ⟨k, 0, none⟩ := by
      obtain ⟨A', c', e, _, _, h1, h2⟩ := H.out.form
      simp only [Value.slice.injEq] at e
      obtain ⟨rfl, _, rfl⟩ := e
      cases A with
      | none => exact absurd (h1 rfl).2 (by have := HN.out; have := (h1 rfl).1; intro e; apply hcn; rw [e, HN.out, this]; rfl)
      | some a => obtain ⟨k, hk, _⟩ := h2 _ rfl; exact ⟨k, by rw [hk]⟩
    obtain ⟨k, rfl⟩ := hA
    have hclr := fun W a => clear_none W a (c - n) 0
    have hba : (⟨k, 0, none⟩ : Addr).add (n * 3) = ⟨k, n * 3, none⟩ := by unfold Addr.add; split <;> simp_all
    go_enter Tryd.func53, Tryd.ntmps53
    go_wp2_with fail
    go_loopw [13] (fun i wr => i = .int .i64 0 ∧ w = wr) (fun _ _ => 0)
    case atStart => exact ⟨rfl, by simp⟩
    case round =>
      obtain ⟨rfl, rfl⟩ := hrel
      have HA2 := Lib.hid H.out.at_
      have HR2 := Lib.hid H.out.row
      have hr2 : w.ownsRow B 101 3 (.slice (some ⟨k, 0, none⟩) n c) n (cells3 (s.l.take n)) := by
        have := H.out.row
        rw [HN.out]
        rw [List.take_length]
        rw [← HN.out]
        rw [← HN.out] at this
        exact this
      have HRT := Lib.hid hr2
      have hat : At w g 51 (volCells s ((wsum (s.l.take n) : Nat) : Int) (.slice (some ⟨k, 0, none⟩) n c)) := by
        have := H.out.at_
        rw [HN.out, List.take_length]
        rw [← HN.out]
        rw [← HN.out] at this
        exact this
      have HAT := Lib.hid hat
      clear hr2 hat
      go_wp2_with fail
      have HA3 := Lib.hid (HAT.out.set 5 (.slice (some ⟨k, 0, none⟩) n c))
      have HR3 := Lib.hid (HRT.out.kept (grown_set w g 5 (.slice (some ⟨k, 0, none⟩) n c)) (by have := H.out.ne; rw [← HN.out] at this; exact this))
      have HN3 : Hid (∀ o, Near g o w (w.setCell ⟨g, 5, none⟩ (.slice (some ⟨k, 0, none⟩) n c))) := Lib.hid (fun o => Near.of_grown (grown_set _ _ _ _))
      have HS3 : Hid (Stay B g w (w.setCell ⟨g, 5, none⟩ (.slice (some ⟨k, 0, none⟩) n c))) := Lib.hid ⟨⟨below_of_grownBy (Below.refl _ _) (grown_set _ _ _ _) hbz hBg, Kept.of_grown (grown_set _ _ _ _) HAT.out (.inl ⟨_, _, rfl⟩)⟩, .of_own (grown_set _ _ _ _) ((rowOf_at HA3.out rfl).trans (rowOf_at HAT.out rfl).symm)⟩
      clear c5 f5 hclr
      generalize w.setCell ⟨g, 5, none⟩ (.slice (some ⟨k, 0, none⟩) n c) = w3 at *
      have q6 : w3.cell? ⟨g, 6, none⟩ = some (.int .i64 s.sure) := HA3.out.cell 6
      have q7 : w3.cell? ⟨g, 7, none⟩ = some (.int .i64 s.pos) := HA3.out.cell 7
      have f6 := HA3.out.frozen 6
      have f7 := HA3.out.frozen 7
      go_region
      have HD := Lib.hid (cut_done (s := s) (n := n) HA3.out HR3.out hBg (by rw [HN.out]; exact Nat.le_refl _))
      clear q6 q7 f6 f7
      go_end0
      exact ⟨rfl, ⟨_, HD.out.1⟩, HS3.out.trans HD.out.2.1, (HN3.out _).trans (Near.of_grown HD.out.2.2)⟩

theorem cut_vol {w : World} {B g : Nat} {s : VS} {v : Value} (h : VolAt w B g s v) (ok : s.ok) (n : Nat) (hn : n ≤ s.l.length) :
    Calls Tryd.prog 53 #[.pointer (some ⟨g, 0, none⟩), .int .i64 (n : Int)] w (CutEnds w B g (s.cut n) v.ownBlock) := by
  by_cases h' : n < s.l.length
  · exact cut_some h ok n h'
  · exact cut_all h ok n (by omega)
end Go.Proofs.YtniecodpdmjppaaDoor
