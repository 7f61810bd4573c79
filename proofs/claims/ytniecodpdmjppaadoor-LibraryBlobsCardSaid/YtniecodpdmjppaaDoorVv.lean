/- A volume in memory: its block of ten cells, and the row of its blocks. -/
import Derived.Test.YtniecodpdmjppaaDoorVm
import Derived.Test.YtniecodpdmjppaaDoorCl
namespace Go.Proofs.YtniecodpdmjppaaDoor
open Go.RowKit
set_option linter.unusedVariables false

abbrev volCells (s : VS) (u : Int) (v : Value) : Array Value := #[.int .i64 s.rm, .int .i64 u, .bool s.lo, .int .i64 s.lf, .string s.lab, v, .int .i64 s.sure, .int .i64 s.pos, .int .i64 s.er, .bool s.pr]

/-- block g is the volume s; v: the slice of its blocks; all lies at block B or behind -/
structure VolAt (w : World) (B g : Nat) (s : VS) (v : Value) : Prop where
  at_ : At w g 51 (volCells s (wsum s.l : Nat) v)
  row : w.ownsRow B 101 3 v s.l.length (cells3 s.l)
  gB : B ≤ g
def Vol (w : World) (B g : Nat) (s : VS) : Prop := s.ok ∧ ∃ v, VolAt w B g s v

/-- blocks that are no volume and no row of blocks stay -/
def Kept (w w' : World) : Prop := ∀ (k : Nat) (o : Obj), w.heap[k]? = some o → (∀ cs fz, o ≠ .cells cs 51 fz) → (∀ cs fz, o ≠ .cells cs 101 fz) → w'.heap[k]? = some o
structure Stay0 (B : Nat) (w w' : World) : Prop where
  below : Below B w w'
  kept : Kept w w'

/-- the block of the row of a volume's blocks, as the volume says itself -/
def rowOf (w : World) (g : Nat) : Option Nat := match w.cell? ⟨g, 5, none⟩ with | some v => v.ownBlock | none => none
/-- but for block g, a volume, and its row, all that was there stays; another row than that is new -/
def Foot (g : Nat) (w w' : World) : Prop := g < w.heap.size → (∀ k, k < w.heap.size → k ≠ g → rowOf w g ≠ some k → w'.heap[k]? = w.heap[k]?) ∧ ∀ k, rowOf w' g = some k → rowOf w g = some k ∨ w.heap.size ≤ k
structure Stay (B g : Nat) (w w' : World) : Prop extends Stay0 B w w' where
  foot : Foot g w w'

section
variable {w w' w'' : World} {B g : Nat} {s : VS} {v : Value}

theorem Kept.trans (h : Kept w w') (h' : Kept w' w'') : Kept w w'' := fun k o hk h1 h2 => h' k o (h k o hk h1 h2) h1 h2
theorem Kept.of_below (h : Below w.heap.size w w') : Kept w w' := fun k o hk _ _ => (h.block k (Array.getElem?_eq_some_iff.1 hk).1).trans hk
theorem Kept.of_grown {b : Nat} (h : w.grownBy w' (some b)) {o : Obj} (hb : w.heap[b]? = some o) (ht : (∃ cs fz, o = .cells cs 51 fz) ∨ ∃ cs fz, o = .cells cs 101 fz) : Kept w w' := fun k o' hk h1 h2 => by
  by_cases e : k = b
  · subst e
    rw [hb] at hk
    cases hk
    rcases ht with ⟨cs, fz, e⟩ | ⟨cs, fz, e⟩
    · exact absurd e (h1 cs fz)
    · exact absurd e (h2 cs fz)
  · exact (h.block k (Array.getElem?_eq_some_iff.1 hk).1 (by simpa using e)).trans hk
theorem Kept.of_none (h : w.grownBy w' none) : Kept w w' := fun k o hk _ _ => (h.block k (Array.getElem?_eq_some_iff.1 hk).1 (by simp)).trans hk

theorem Stay0.refl (B : Nat) (w : World) : Stay0 B w w := ⟨Below.refl _ _, fun _ _ h _ _ => h⟩
theorem Stay0.trans (h : Stay0 B w w') (h' : Stay0 B w' w'') : Stay0 B w w'' := ⟨h.below.trans h'.below, h.kept.trans h'.kept⟩
theorem Stay0.of_below (h : Below w.heap.size w w') (hB : B ≤ w.heap.size) : Stay0 B w w' := ⟨h.mono hB, Kept.of_below h⟩
theorem Stay0.size (h : Stay0 B w w') : w.heap.size ≤ w'.heap.size := h.below.size
/-- rows of other elements stay -/
theorem Stay0.row {B' n z : Nat} {e : TypeId} {u : Value} {xs : List Value} (h : Stay0 B w w') (hr : w.ownsRow B' e z u n xs) (h1 : e ≠ 51) (h2 : e ≠ 101) : w'.ownsRow B' e z u n xs := by
  refine ⟨hr.1, ?_⟩
  rcases hr.2 with h' | ⟨k, cap, cur, e1, e2, e3, e4⟩
  · exact .inl h'
  · exact .inr ⟨k, cap, cur, e1, e2, h.kept k _ e3 (by rintro cs fz e; injection e with _ e _; exact h1 e) (by rintro cs fz e; injection e with _ e _; exact h2 e), e4⟩
theorem Stay0.at_ {k : Nat} {t : TypeId} {cs : Array Value} (h : Stay0 B w w') (ha : At w k t cs) (h1 : t ≠ 51) (h2 : t ≠ 101) : At w' k t cs :=
  h.kept k _ ha (by rintro cs fz e; injection e with _ e _; exact h1 e) (by rintro cs fz e; injection e with _ e _; exact h2 e)

theorem Foot.refl (g : Nat) (w : World) : Foot g w w := fun _ => ⟨fun _ _ _ _ => rfl, fun k h => .inl h⟩
theorem Foot.trans (h : Foot g w w') (hs : w.heap.size ≤ w'.heap.size) (h' : Foot g w' w'') : Foot g w w'' := fun hg => by
  obtain ⟨a1, a2⟩ := h hg
  obtain ⟨b1, b2⟩ := h' (by omega)
  refine ⟨fun k hk h1 h2 => (b1 k (by omega) h1 fun e => ?_).trans (a1 k hk h1 h2), fun k e => ?_⟩
  · rcases a2 k e with e | e
    · exact h2 e
    · omega
  · rcases b2 k e with e | e
    · exact a2 k e
    · exact .inr (by omega)
theorem Foot.of_same (hb : ∀ k, k < w.heap.size → k ≠ g → rowOf w g ≠ some k → w'.heap[k]? = w.heap[k]?) (hr : rowOf w' g = rowOf w g) : Foot g w w' := fun _ => ⟨hb, fun k e => .inl (by rw [← hr]; exact e)⟩
theorem Foot.of_below (h : Below w.heap.size w w') : Foot g w w' := fun hg => ⟨fun k hk _ _ => h.block k hk, fun k e => .inl (by
  have e5 : w'.cell? ⟨g, 5, none⟩ = w.cell? ⟨g, 5, none⟩ := h.cell (p := ⟨g, 5, none⟩) hg
  unfold rowOf at e ⊢
  rw [e5] at e
  exact e)⟩
theorem Foot.of_own (hm : w.grownBy w' (some g)) (hr : rowOf w' g = rowOf w g) : Foot g w w' := .of_same (fun k hk h1 _ => hm.block k hk (by simpa using h1)) hr
theorem Foot.of_row {k : Nat} (hm : w.grownBy w' (some k)) (hk : rowOf w g = some k) (hne : g ≠ k) : Foot g w w' := fun hg => by
  have e5 : w'.cell? ⟨g, 5, none⟩ = w.cell? ⟨g, 5, none⟩ := World.cell?_of_block (hm.block g hg (by simpa using hne))
  refine ⟨fun j hj _ h2 => hm.block j hj (by intro e; exact h2 (hk.trans e.symm)), fun j e => .inl ?_⟩
  unfold rowOf at e ⊢
  rw [e5] at e
  exact e
theorem rowOf_at {t : TypeId} {cs : Array Value} (h : At w g t cs) {v : Value} (h5 : cs[5]? = some v) : rowOf w g = v.ownBlock := by
  unfold rowOf
  rw [h.cell 5, h5]

theorem Stay.refl {g : Nat} (B : Nat) (w : World) : Stay B g w w := ⟨.refl _ _, .refl _ _⟩
theorem Stay.trans (h : Stay B g w w') (h' : Stay B g w' w'') : Stay B g w w'' := ⟨h.toStay0.trans h'.toStay0, h.foot.trans h.below.size h'.foot⟩
theorem Stay.of_below (h : Below w.heap.size w w') (hB : B ≤ w.heap.size) : Stay B g w w' := ⟨.of_below h hB, .of_below h⟩
theorem Stay.size (h : Stay B g w w') : w.heap.size ≤ w'.heap.size := h.below.size
theorem Stay.alloc {g : Nat} (w : World) (o : Obj) (hB : B ≤ w.heap.size) : Stay B g w (w.alloc o) := .of_below ((Below.refl _ w).alloc (Nat.le_refl _) o) hB
theorem Stay.drewN {g : Nat} (w : World) (n : Nat) : Stay B g w (w.drewN n) := ⟨⟨⟨rfl, rfl, rfl, Nat.le_refl _, fun _ _ => rfl⟩, fun _ _ h _ _ => h⟩, .of_same (fun _ _ _ _ => rfl) rfl⟩
/-- the cells alone count -/
theorem Stay.again {a b : World} (h : Stay B g w a) (hos : b.os = a.os) (htp : b.tape = a.tape) (hout : b.output = a.output) (hh : b.heap = a.heap) : Stay B g w b := by
  refine ⟨⟨⟨hos.trans h.below.os, htp.trans h.below.tape, hout.trans h.below.output, by rw [hh]; exact h.below.size, fun k hk => by rw [hh]; exact h.below.block k hk⟩, fun k o hk h1 h2 => by rw [hh]; exact h.kept k o hk h1 h2⟩, fun hg => ?_⟩
  obtain ⟨a1, a2⟩ := h.foot hg
  refine ⟨fun k hk h1 h2 => by rw [hh]; exact a1 k hk h1 h2, fun k e => a2 k ?_⟩
  have e5 : b.cell? ⟨g, 5, none⟩ = a.cell? ⟨g, 5, none⟩ := World.cell?_of_block (by rw [hh])
  unfold rowOf at e ⊢
  rw [e5] at e
  exact e

theorem VolAt.lt (h : VolAt w B g s v) : g < w.heap.size := h.at_.lt
theorem VolAt.bz (h : VolAt w B g s v) : B ≤ w.heap.size := Nat.le_trans h.gB (Nat.le_of_lt h.lt)
theorem Vol.bz (h : Vol w B g s) : B ≤ w.heap.size := h.2.elim fun _ h => h.bz
theorem VolAt.ne (h : VolAt w B g s v) : v.ownBlock = none ∨ v.ownBlock ≠ some g := by
  rcases h.row.2 with ⟨rfl, _⟩ | ⟨k, cap, cur, rfl, hB, hk, _⟩
  · exact .inl rfl
  · refine .inr ?_
    simp only [Value.ownBlock, ne_eq, Option.some.injEq]
    exact At.differ hk h.at_ (by decide)
theorem VolAt.of_block (h : VolAt w B g s v) (hg : w'.heap[g]? = w.heap[g]?) (hr : ∀ k, v.ownBlock = some k → w'.heap[k]? = w.heap[k]?) : VolAt w' B g s v := by
  refine ⟨hg.trans h.at_, ⟨h.row.1, ?_⟩, h.gB⟩
  rcases h.row.2 with h1 | ⟨k, cap, cur, rfl, h2, h3, h4⟩
  · exact .inl h1
  · exact .inr ⟨k, cap, cur, rfl, h2, (hr k rfl).trans h3, h4⟩
theorem VolAt.row_lt (h : VolAt w B g s v) : ∀ k, v.ownBlock = some k → B ≤ k ∧ k < w.heap.size := h.row.lt
theorem VolAt.below (h : VolAt w B g s v) (hb : Below w.heap.size w w') : VolAt w' B g s v := h.of_block (hb.block g h.lt) fun k hk => hb.block k (h.row_lt k hk).2
theorem VolAt.alloc (h : VolAt w B g s v) (o : Obj) : VolAt (w.alloc o) B g s v := h.below ((Below.refl _ w).alloc (Nat.le_refl _) o)
theorem VolAt.drewN (h : VolAt w B g s v) (n : Nat) : VolAt (w.drewN n) B g s v := h.of_block rfl fun _ _ => rfl
theorem Vol.below (h : Vol w B g s) (hb : Below w.heap.size w w') : Vol w' B g s := ⟨h.1, h.2.elim fun v h => ⟨v, h.below hb⟩⟩
theorem Vol.alloc (h : Vol w B g s) (o : Obj) : Vol (w.alloc o) B g s := h.below ((Below.refl _ w).alloc (Nat.le_refl _) o)
/-- another block was written, of another kind -/
theorem Vol.other {k : Nat} {o : Obj} (h : Vol w B g s) (hg : w.grownBy w' (some k)) (hk : w.heap[k]? = some o) (h1 : ∀ cs fz, o ≠ .cells cs 51 fz) (h2 : ∀ cs fz, o ≠ .cells cs 101 fz) : Vol w' B g s := by
  obtain ⟨hok, v, hv⟩ := h
  refine ⟨hok, v, hv.of_block (hg.block g hv.lt ?_) fun j hj => hg.block j (hv.row_lt j hj).2 ?_⟩
  · intro e
    have e' : g = k := by simpa using e
    subst e'
    have := hv.at_
    unfold At at this
    rw [hk] at this
    cases this
    exact h1 _ _ rfl
  · intro e
    have e' : j = k := by simpa using e
    subst e'
    rcases hv.row.2 with ⟨rfl, _⟩ | ⟨j', cap, cur, rfl, _, h3, _⟩
    · cases hj
    · have e2 : j' = j := by simpa [Value.ownBlock] using hj
      subst e2
      rw [hk] at h3
      cases h3
      exact h2 _ _ rfl

/-- a cell of the volume's own block was written -/
theorem VolAt.own (h : VolAt w B g s v) {s' : VS} (hl : s'.l = s.l) (hm : w.grownBy w' (some g)) (hat : At w' g 51 (volCells s' (wsum s'.l : Nat) v)) : VolAt w' B g s' v :=
  ⟨hat, by rw [hl]; exact h.row.kept hm h.ne, h.gB⟩
theorem VolAt.rowEq (h : VolAt w B g s v) : rowOf w g = v.ownBlock := rowOf_at h.at_ rfl
theorem VolAt.stay (h : VolAt w B g s v) (hm : w.grownBy w' (some g)) (hr : rowOf w' g = v.ownBlock) : Stay B g w w' :=
  ⟨⟨below_of_grownBy (Below.refl B w) hm h.bz h.gB, Kept.of_grown hm h.at_ (.inl ⟨_, _, rfl⟩)⟩, .of_own hm (hr.trans h.rowEq.symm)⟩

theorem VolAt.luck (h : VolAt w B g s v) (ok : s.ok) : LuckAt w g 2 s.lo s.lf := ⟨h.at_.cell 2, h.at_.cell 3, h.at_.frozen 2, h.at_.frozen 3, ok.lpos, ok.ltop⟩
theorem VolAt.meter (h : VolAt w B g s v) (ok : s.ok) : MeterAt w g s.rm (wsum s.l : Nat) := ⟨h.at_.cell 0, h.at_.cell 1, h.at_.frozen 1, ok.sum, by omega, ok.top⟩

theorem try_vol (h : VolAt w B g s v) (ok : s.ok) : Calls Tryd.prog 52 #[.pointer (some ⟨g, 2, none⟩)] w fun e w' =>
    e = .returned (.int .i64 s.err) ∧ VolAt w' B g s.tried v ∧ Stay B g w w' ∧ w.grownBy w' (some g) := by
  refine (try_any (h.luck ok)).mono ?_
  have h0 := ok.lpos
  have hc := h.at_
  unfold VS.err VS.tried
  rintro e w' (⟨h1, rfl, rfl⟩ | ⟨h1, h2, rfl, rfl⟩ | ⟨h1, h2, rfl, rfl⟩ | ⟨h1, h2, rfl, rfl⟩)
  · rw [show tryR s.lo s.lf = (s.lf, 14) by unfold tryR; rw [if_pos h1]]
    exact ⟨rfl, h, Stay.refl _ _, grown_refl _ _⟩
  · rw [show tryR s.lo s.lf = (s.lf, 0) by unfold tryR; rw [if_neg (by rw [h1]; decide), if_pos h2]]
    exact ⟨rfl, h, Stay.refl _ _, grown_refl _ _⟩
  · rw [show tryR s.lo s.lf = (0, 8) by unfold tryR; rw [if_neg (by rw [h1]; decide), if_neg (by omega), if_pos h2]]
    exact ⟨rfl, h.own rfl (grown_set _ _ _ _) (hc.set 3 _), h.stay (grown_set _ _ _ _) (rowOf_at (hc.set 3 _) rfl), grown_set _ _ _ _⟩
  · rw [show tryR s.lo s.lf = (s.lf - 1, 0) by unfold tryR; rw [if_neg (by rw [h1]; decide), if_neg (by omega), if_neg (by omega)]]
    exact ⟨rfl, h.own rfl (grown_set _ _ _ _) (hc.set 3 _), h.stay (grown_set _ _ _ _) (rowOf_at (hc.set 3 _) rfl), grown_set _ _ _ _⟩
end
end Go.Proofs.YtniecodpdmjppaaDoor
