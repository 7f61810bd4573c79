/- tapefmt.Read: what its walk stands on. Written by gen_tr.py. -/
import Derived.Test.YtcbeikiglccgaaaDoorTn
import Derived.Test.YtcbeikiglccgaaaDoorJn
import Derived.Lib.OthersKept
namespace Go.Proofs.YtcbeikiglccgaaaDoor
open Go.RowKit
open Sm
set_option linter.unusedVariables false
set_option linter.unusedSimpArgs false

/-- what is known of a piece that was read -/
structure Pc.Got (p : Pc) : Prop where
  data : p.data.size ≤ 200
  size : p.size ≤ 4000
  parts : p.parts ≤ 1048576
  some_ : 1 ≤ p.parts
  part : p.part ≤ 1048576
  blk : p.blk ≤ 1073741824
  lab : p.lab.size ≤ 32
  id : p.id < 18446744073709551616
theorem Curs.facts {tx : List UInt8} {a : (List UInt8 × Nat) × List UInt8} {b c d f gg h : (List UInt8 × Nat) × Nat} {k : (List UInt8 × Nat) × List UInt8} (C : Curs tx a b c d f gg h k) : k.2.length ≤ 200 ∧ gg.2 ≤ 4000 ∧ f.2 ≤ 1048576 ∧ b.2 ≤ 1073741824 ∧ a.2.length ≤ 32 ∧ c.2 < 18446744073709551616 :=
  ⟨by rw [← C.ek]; exact curS_most _ _, by rw [← C.eg]; exact curI_most _ _, by rw [← C.ef]; exact curI_most _ _, by rw [← C.eb]; exact curI_most _ _, by rw [← C.ea]; exact curS_most _ _, by rw [← C.ec]; exact curU_bound _⟩
theorem took_facts (tx : List UInt8) : (took tx).k.2.length ≤ 200 ∧ (took tx).g.2 ≤ 4000 ∧ (took tx).f.2 ≤ 1048576 ∧ (took tx).b.2 ≤ 1073741824 ∧ (took tx).a.2.length ≤ 32 ∧ (took tx).c.2 < 18446744073709551616 := by
  have C : Curs tx _ _ _ _ _ _ _ _ := ⟨rfl, rfl, rfl, rfl, rfl, rfl, rfl, rfl⟩
  have hf := C.facts
  rw [C.took]
  exact hf
theorem took_got (t : Took) (h3 : t.err = 0) (a : t.k.2.length ≤ 200 ∧ t.g.2 ≤ 4000 ∧ t.f.2 ≤ 1048576 ∧ t.b.2 ≤ 1073741824 ∧ t.a.2.length ≤ 32 ∧ t.c.2 < 18446744073709551616) : t.pc.Got := by
  obtain ⟨⟨⟨a0, a1⟩, a2⟩, ⟨b0, b2⟩, ⟨c0, c2⟩, ⟨d0, d2⟩, ⟨f0, f2⟩, ⟨g0, g2⟩, ⟨h0, h2⟩, ⟨⟨k0, k1⟩, k2⟩⟩ := t
  simp only at a
  obtain ⟨x1, x2, x3, x4, x5, x6⟩ := a
  have hp : d2 < f2 := by
    unfold Took.err parseErr doneErr at h3
    simp only at h3
    rcases Nat.lt_or_ge d2 f2 with h | h
    · exact h
    · exfalso
      have hc : (4294967295 < h2 ∨ f2 ≤ d2) = True := eq_true (.inr h)
      simp only [hc, if_true] at h3
      have hx : (if k1 = 0 then 3 else k1) ≠ 0 := by split <;> omega
      generalize (if k1 = 0 then 3 else k1) = x at *
      split at h3 <;> first | exact hx h3 | (rw [if_neg hx] at h3; exact hx h3)
  exact ⟨by show (⟨k2.toArray⟩ : ByteArray).size ≤ _; rw [str_len]; exact x1, x2, x3, by show 1 ≤ f2; omega, by show d2 ≤ _; omega, x4, by show (⟨a2.toArray⟩ : ByteArray).size ≤ _; rw [str_len]; exact x5, x6⟩
theorem parseL_got {l : List UInt8} (h : (parseL l).2 = 0) : (parseL l).1.Got := by
  have hf := took_facts (onlyL l).1
  unfold parseL at h ⊢
  generalize took (onlyL l).1 = t at *
  by_cases h1 : (onlyL l).2 ≠ 0
  · rw [if_pos h1] at h; exact absurd h h1
  · rw [if_neg h1] at h ⊢
    by_cases h2 : t.err ≠ 0
    · rw [if_pos h2] at h; exact absurd h h2
    · rw [if_neg h2]
      exact took_got t (by omega) hf
theorem rdGo_cons (lab : ByteArray) (from_ id : Nat) (b : Blk) (r : List Blk) (part : Nat) (acc : List UInt8) : rdGo lab from_ id (b :: r) part acc =
    if b.torn = true then ([], 4) else
    if b.mark = true then ([], 3) else
    if (parseL b.t.data.toList).2 ≠ 0 then ([], (parseL b.t.data.toList).2) else
    if (parseL b.t.data.toList).1.lab ≠ lab ∨ (parseL b.t.data.toList).1.blk ≠ from_ + part ∨ (parseL b.t.data.toList).1.id ≠ id ∨ (parseL b.t.data.toList).1.part ≠ part ∨ (parseL b.t.data.toList).1.parts ≠ partsOf (parseL b.t.data.toList).1.size then ([], 3) else
    if part + 1 = (parseL b.t.data.toList).1.parts then wholeP (parseL b.t.data.toList).1 (acc ++ (parseL b.t.data.toList).1.data.data.toList)
    else rdGo lab from_ id r (part + 1) (acc ++ (parseL b.t.data.toList).1.data.data.toList) := rfl

theorem rd_next {s : VS} (hc : s.Calm) (hpos : s.pos ≤ s.l.length) (lab : ByteArray) (from_ id k : Nat) (acc : List UInt8) :
    (∃ (e : Nat) (p : Pc) (q : Nat), e ≠ 0 ∧ s.nextP = ({ s with pos := q }, p, (e : Int)) ∧ rdGo lab from_ id (s.l.drop s.pos) k acc = ([], e)) ∨
    (∃ p : Pc, s.pos < s.l.length ∧ p.Got ∧ s.nextP = ({ s with pos := s.pos + 1 }, p, 0) ∧ rdGo lab from_ id (s.l.drop s.pos) k acc =
      (if p.lab ≠ lab ∨ p.blk ≠ from_ + k ∨ p.id ≠ id ∨ p.part ≠ k ∨ p.parts ≠ partsOf p.size then ([], 3) else
       if k + 1 = p.parts then wholeP p (acc ++ p.data.data.toList) else rdGo lab from_ id (s.l.drop (s.pos + 1)) (k + 1) (acc ++ p.data.data.toList))) := by
  have hr := hc.read
  unfold VS.nextP
  rw [hr]
  by_cases hlt : s.pos < s.l.length
  · rw [List.getElem?_eq_getElem hlt, List.drop_eq_getElem_cons hlt]
    simp only
    generalize s.l[s.pos] = b
    rw [rdGo_cons]
    by_cases ht : b.torn = true
    · left
      rw [if_pos ht, if_pos ht]
      exact ⟨4, .no, s.pos, by decide, rfl, rfl⟩
    · rw [if_neg ht, if_neg ht]
      by_cases hm : b.mark = true
      · left
        rw [if_pos hm]
        simp only
        rw [if_neg (by simp), if_pos hm]
        exact ⟨3, .no, s.pos + 1, by decide, rfl, rfl⟩
      · rw [if_neg hm]
        simp only
        rw [if_neg (by simp), if_neg hm]
        by_cases he : (parseL b.t.data.toList).2 ≠ 0
        · left
          rw [if_pos he]
          exact ⟨(parseL b.t.data.toList).2, (parseL b.t.data.toList).1, s.pos + 1, he, rfl, rfl⟩
        · right
          have he0 : (parseL b.t.data.toList).2 = 0 := by omega
          refine ⟨(parseL b.t.data.toList).1, hlt, parseL_got he0, by rw [he0]; rfl, ?_⟩
          rw [if_neg he]
  · left
    rw [List.getElem?_eq_none (by omega), List.drop_of_length_le (by omega)]
    exact ⟨2, .no, s.pos, by decide, rfl, rfl⟩

abbrev BdIs (w : World) (b : Nat) (acc : List UInt8) : Prop := Lib.IsBuilderF 96 5 b b (Lib.byteCells acc) w
theorem bdF_same {w w' : World} {b : Nat} {p : Value} {bs : List Value} (h : Lib.BuilderAtF 96 5 b b p bs w) (hk : ∀ (k : Nat) (o : Obj), w.heap[k]? = some o → (∃ cs fz, o = .cells cs 96 fz ∨ o = .cells cs 5 fz) → w'.heap[k]? = some o) : Lib.BuilderAtF 96 5 b b p bs w' := by
  obtain ⟨hB, v, hb, hown, hne⟩ := h
  refine ⟨hB, v, hk b _ hb ⟨_, _, .inl rfl⟩, ⟨hown.1, ?_⟩, hne⟩
  rcases hown.2 with h1 | ⟨g, cap, cur, fz, h1, h2, h3, h4⟩
  · exact .inl h1
  · exact .inr ⟨g, cap, cur, fz, h1, h2, hk g _ h3 ⟨_, _, .inr rfl⟩, h4⟩
theorem BdIs.same {w w' : World} {b : Nat} {acc : List UInt8} (h : BdIs w b acc) (hk : ∀ (k : Nat) (o : Obj), w.heap[k]? = some o → (∃ cs fz, o = .cells cs 96 fz ∨ o = .cells cs 5 fz) → w'.heap[k]? = some o) : BdIs w' b acc :=
  h.elim (fun x => .inl (bdF_same x hk)) (fun x => .inr (bdF_same x hk))
theorem BdIs.stay {w w' : World} {b B : Nat} {acc : List UInt8} (h : BdIs w b acc) (hs : Stay0 B w w') : BdIs w' b acc :=
  h.same fun k o hk ho => hs.kept k o hk (by obtain ⟨cs, fz, rfl | rfl⟩ := ho <;> (rintro cs' fz' e; injection e with _ e _; revert e; decide)) (by obtain ⟨cs, fz, rfl | rfl⟩ := ho <;> (rintro cs' fz' e; injection e with _ e _; revert e; decide))
theorem BdIs.below {w w' : World} {b : Nat} {acc : List UInt8} (h : BdIs w b acc) (hb : Below w.heap.size w w') : BdIs w' b acc := h.same fun k o hk _ => (hb.block k (Array.getElem?_eq_some_iff.1 hk).1).trans hk
theorem BdIs.lt {w : World} {b : Nat} {acc : List UInt8} (h : BdIs w b acc) : b < w.heap.size := by
  rcases h with ⟨_, v, hb, _⟩ | ⟨_, v, hb, _⟩
  all_goals exact (Array.getElem?_eq_some_iff.1 hb).1
theorem BdIs.at_ {w : World} {b : Nat} {acc : List UInt8} (h : BdIs w b acc) : ∃ cs, At w b 96 cs := by
  rcases h with ⟨_, v, hb, _⟩ | ⟨_, v, hb, _⟩
  all_goals exact ⟨_, hb⟩
theorem BdIs.new (w : World) : BdIs (w.alloc (.cells #[.pointer none, .slice none 0 0] 96)) w.heap.size [] :=
  .inl ⟨Nat.le_refl _, .slice none 0 0, heap_alloc_new w _, World.ownsRowF_nil _ _ _ _, by simp [Value.ownBlock]⟩

/-- what a call on the builder leaves of other things -/
theorem vol_others {w w' : World} {B g b : Nat} {t : VS} {acc : List UInt8} (h : Vol w B g t) (hb : BdIs w b acc) (ho : Lib.OthersKept 5 (some b) w w') : Vol w' B g t ∧ rowOf w' g = rowOf w g := by
  obtain ⟨ok, v, hv⟩ := h
  obtain ⟨cs, hcs⟩ := hb.at_
  have hgb : g ≠ b := hv.at_.differ hcs (by decide)
  have e1 : w'.heap[g]? = w.heap[g]? := (ho g _ hv.at_ (by simpa using hgb) (by rintro cs fz e; injection e with _ e _; revert e; decide)).trans hv.at_.symm
  refine ⟨⟨ok, v, hv.of_block e1 fun k hk => ?_⟩, ?_⟩
  · rcases hv.row.2 with ⟨rfl, _⟩ | ⟨k', cap, cur, rfl, _, h3, _⟩
    · cases hk
    · have e2 : k' = k := by simpa [Value.ownBlock] using hk
      subst e2
      have hkb : k' ≠ b := At.differ h3 hcs (by decide)
      exact (ho k' _ h3 (by simpa using hkb) (by rintro cs fz e; injection e with _ e _; revert e; decide)).trans h3.symm
  · unfold rowOf
    rw [World.cell?_of_block e1]

structure RdT (w : World) (B g : Nat) (t : VS) (b : Nat) (acc : List UInt8) (X : Nat) (C : Array Value) (w' : World) : Prop where
  vol : Vol w' B g t
  stay : Stay B g w w'
  steps : Steps w'
  bd : BdIs w' b acc
  at_ : At w' X 90 C
  low : w.heap.size ≤ b
section
variable {w w' w'' : World} {B g b X : Nat} {t : VS} {acc : List UInt8} {C : Array Value}
theorem RdT.after (h : RdT w B g t b acc X C w') (hb : Below w'.heap.size w' w'') : RdT w B g t b acc X C w'' :=
  ⟨h.vol.below hb, h.stay.trans (Stay.of_below hb h.vol.bz), h.steps.below hb h.steps.1, h.bd.below hb, h.at_.below hb h.at_.lt, h.low⟩
theorem RdT.drew (h : RdT w B g t b acc X C w') : RdT w B g t b acc X C w'.drew := h.after (Below.drew (Below.refl _ w'))
@[simp] theorem RdT.drew_iff : RdT w B g t b acc X C w'.drew ↔ RdT w B g t b acc X C w' := ⟨fun h => h.after (w'' := w') ⟨rfl, rfl, rfl, Nat.le_refl _, fun _ _ => rfl⟩, RdT.drew⟩
theorem RdT.others {acc' : List UInt8} (h : RdT w B g t b acc X C w') (hB : B ≤ w.heap.size) (h0 : 0 < w.heap.size) (hbd : BdIs w'' b acc') (hb : Below b w' w'') (ho : Lib.OthersKept 5 (some b) w' w'') : RdT w B g t b acc' X C w'' := by
  obtain ⟨v, hr⟩ := vol_others h.vol h.bd ho
  obtain ⟨cs, hcs⟩ := h.bd.at_
  have hXb : X ≠ b := h.at_.differ hcs (by decide)
  exact ⟨v, h.stay.low hB (hb.mono h.low) hr, h.steps.below hb (by have := h.low; omega), hbd, ho X _ h.at_ (by simpa using hXb) (by rintro cs fz e; injection e with _ e _; revert e; decide), h.low⟩
end

theorem eqs {a b : Nat} (h : a = b) : (a == b) = true ∧ ((a : Int) == (b : Int)) = true ∧ ((a : Int) != (b : Int)) = false ∧ (a != b) = false := by subst h; simp
theorem neqs {a b : Nat} (h : a ≠ b) : (a == b) = false ∧ ((a : Int) == (b : Int)) = false ∧ ((a : Int) != (b : Int)) = true ∧ (a != b) = true := by
  refine ⟨by simpa using h, by rw [beq_eq_false_iff_ne]; omega, by rw [bne_iff_ne]; omega, by simpa using h⟩

def ReadRet (w : World) (B g : Nat) (s : VS) (r : List UInt8 × Nat) (e : Ending) (w' : World) : Prop := e = .returned (.tuple #[.string ⟨r.1.toArray⟩, .int .i64 (r.2 : Nat)]) ∧ (∃ pos, Vol w' B g { s with pos := pos }) ∧ Stay B g w w'
end Go.Proofs.YtcbeikiglccgaaaDoor
