/- Strings that came in; blocks of bytes written one behind the other. -/
import Derived.Test.YtchpdeogmbbjgaaVl
import Derived.Test.YtchpdeogmbbjgaaCu
namespace Go.Proofs.Ytchpdeogmbbjgaa
open Go.RowKit
set_option linter.unusedVariables false

theorem Lies.str {w : World} {B : Nat} {A : Option Addr} {l : List ByteArray} (h : Lies w B A (l.map Value.string)) {k : Nat} (hk : k < l.length) : ∃ ad, A = some ad ∧ ad.block < B ∧ w.cell? (ad.add k) = some (.string l[k]) := by
  obtain ⟨ad, h1, h2, h3⟩ := h.round (k := k) (by simpa using hk)
  exact ⟨ad, h1, h2, by rw [h3]; simp⟩

/-- blocks of bytes -/
def texts (l : List ByteArray) : List Blk := l.map fun t => ⟨t, false, false⟩
theorem texts_length (l : List ByteArray) : (texts l).length = l.length := by unfold texts; simp
theorem texts_append (a b : List ByteArray) : texts (a ++ b) = texts a ++ texts b := by unfold texts; simp
theorem texts_get {l : List ByteArray} {k : Nat} (h : k < l.length) : (texts l)[k]'(by rw [texts_length]; exact h) = ⟨l[k], false, false⟩ := by unfold texts; simp
theorem texts_get? (l : List ByteArray) (k : Nat) : (texts l)[k]? = (l[k]?).map fun t => ⟨t, false, false⟩ := by unfold texts; simp
/-- what l of at most m bytes each weigh -/
theorem texts_sum {l : List ByteArray} {m : Nat} (h : ∀ t ∈ l, t.size ≤ m) : wsum (texts l) ≤ l.length * (m + 4) := by
  induction l with
  | nil => simp [texts, wsum]
  | cons a l ih =>
    have e : texts (a :: l) = ⟨a, false, false⟩ :: texts l := rfl
    rw [e, wsum_cons, List.length_cons]
    have h1 := h a (by simp)
    have h2 := ih (fun t ht => h t (by simp [ht]))
    have e2 : Blk.wt ⟨a, false, false⟩ = a.size + 4 := rfl
    have e3 : (l.length + 1) * (m + 4) = l.length * (m + 4) + (m + 4) := by rw [Nat.succ_mul]
    omega

/-- a fresh volume of 100000 bytes on which the texts lie -/
structure VS.Has (s : VS) (ts : List ByteArray) : Prop where
  fresh : s.Fresh 100000
  l : s.l = texts ts
  short : ∀ t ∈ ts, t.size ≤ 60
theorem VS.Has.new : (VS.new 100000).Has [] := ⟨.new _, rfl, by simp⟩
theorem VS.Has.add {s : VS} {ts : List ByteArray} (h : s.Has ts) (hn : ts.length ≤ 100) (t : ByteArray) (ht : t.size ≤ 60) : s.add ⟨t, false, false⟩ = ({ s with l := s.l ++ [⟨t, false, false⟩], pos := s.pos + 1 }, 0) ∧ VS.Has { s with l := s.l ++ [⟨t, false, false⟩], pos := s.pos + 1 } (ts ++ [t]) := by
  have h1 := texts_sum h.short
  have h2 : ts.length * (60 + 4) ≤ 100 * 64 := Nat.mul_le_mul hn (by omega)
  have e : Blk.wt ⟨t, false, false⟩ = t.size + 4 := rfl
  refine ⟨?_, h.fresh.more _ rfl, ?_, ?_⟩
  · rw [h.fresh.add, if_neg (by rw [h.l, e]; omega)]
  · show s.l ++ [⟨t, false, false⟩] = texts (ts ++ [t])
    rw [h.l, texts_append]; rfl
  · intro u hu
    rcases List.mem_append.1 hu with h' | h'
    · exact h.short u h'
    · rw [List.mem_singleton.1 h']; exact ht
theorem VS.Has.length {s : VS} {ts : List ByteArray} (h : s.Has ts) : s.l.length = ts.length := by rw [h.l, texts_length]
theorem VS.Has.torn {s : VS} {ts : List ByteArray} (h : s.Has ts) : ∀ k (hk : k < s.l.length), s.l[k].torn = false ∧ s.l[k].mark = false := fun k hk => by
  have hk' : k < ts.length := by rw [← h.length]; exact hk
  have e : s.l[k]? = some ⟨ts[k], false, false⟩ := by rw [h.l, texts_get?, List.getElem?_eq_getElem hk']; rfl
  rw [List.getElem?_eq_getElem hk] at e
  cases e' : s.l[k] with
  | mk t m r =>
    rw [e'] at e
    cases e
    exact ⟨rfl, rfl⟩

theorem Vol.rows {w w' : World} {B g : Nat} {s : VS} {B' n z : Nat} {e : TypeId} {v : Value} {xs : List Value} (h : Vol w B g s) (hr : w.ownsRow B' e z v n xs) (h1 : e ≠ 45) (h2 : e ≠ 81) (hg : w.grownBy w' v.ownBlock) : Vol w' B g s := by
  rcases hr.2 with ⟨rfl, _⟩ | ⟨k, cap, cur, rfl, _, h3, _⟩
  · exact h.below ⟨hg.os, hg.tape, hg.output, hg.size, fun k hk => hg.block k hk (by simp [Value.ownBlock])⟩
  · exact h.other hg h3 (by rintro cs fz e; injection e with _ e _; exact h1 e) (by rintro cs fz e; injection e with _ e _; exact h2 e)
/-- a row that grew: what it leaves -/
theorem below_rows {w w' : World} {B B' n z : Nat} {e : TypeId} {v : Value} {xs : List Value} (hr : w.ownsRow B' e z v n xs) (hB : B ≤ B') (hw : B ≤ w.heap.size) (hg : w.grownBy w' v.ownBlock) : Below B w w' := by
  rcases hr.2 with ⟨rfl, _⟩ | ⟨k, cap, cur, rfl, h2, h3, _⟩
  · exact ⟨hg.os, hg.tape, hg.output, hg.size, fun k hk => hg.block k (by omega) (by simp [Value.ownBlock])⟩
  · exact below_of_grownBy (Below.refl _ _) hg hw (Nat.le_trans hB h2)
theorem row_new (W : World) (e : TypeId) (z : Nat) : (W.alloc (.cells #[] e)).ownsRow W.heap.size e z (.slice (some ⟨W.heap.size, 0, none⟩) 0 0) 0 [] :=
  ⟨by simp, .inr ⟨W.heap.size, 0, #[], rfl, Nat.le_refl _, (At.new W e #[] : _), Nat.le_refl _, by unfold maxLen; omega, by simp, by simp⟩⟩
/-- a slice of the call's own, as a slice that is read -/
theorem row_slice {w : World} {B n : Nat} {e : TypeId} {v : Value} {xs : List Value} (h : w.ownsRow B e 1 v n xs) : ∃ A c, v = .slice A n c ∧ Lies w w.heap.size A xs ∧ n ≤ c := by
  rcases h.2 with ⟨rfl, rfl⟩ | ⟨g, cap, cur, rfl, hB, hg, hn, _⟩
  · have : xs = [] := List.eq_nil_of_length_eq_zero (by simpa using h.1)
    subst this
    exact ⟨none, 0, rfl, Lies.nil, Nat.le_refl _⟩
  · exact ⟨some ⟨g, 0, none⟩, cap, rfl, fun j u hj => ⟨_, rfl, (h.lt g rfl).2, h.cells (g := g) rfl j u hj⟩, hn⟩
theorem row_below {w w' : World} {B n z : Nat} {e : TypeId} {v : Value} {xs : List Value} (h : w.ownsRow B e z v n xs) (hb : Below w.heap.size w w') : w'.ownsRow B e z v n xs := by
  refine ⟨h.1, ?_⟩
  rcases h.2 with h' | ⟨k, cap, cur, e1, e2, e3, e4⟩
  · exact .inl h'
  · exact .inr ⟨k, cap, cur, e1, e2, (hb.block k (At.lt e3)).trans e3, e4⟩

theorem info_intx : (Try.prog.info? 3).map (fun i => (i.zero, i.size, i.bytes)) = some (some (.int .i64 0), 1, 8) := by kernel_rfl
theorem info_strx : (Try.prog.info? 9).map (fun i => (i.zero, i.size, i.bytes)) = some (some (.string ⟨#[]⟩), 1, 16) := by kernel_rfl
def natCells (l : List Nat) : List Value := l.map fun (n : Nat) => Value.int .i64 (n : Int)
theorem Lies.nat {w : World} {B : Nat} {A : Option Addr} {l : List Nat} (h : Lies w B A (natCells l)) {k : Nat} (hk : k < l.length) : ∃ ad, A = some ad ∧ ad.block < B ∧ w.cell? (ad.add k) = some (.int .i64 ((l[k] : Nat) : Int)) := by
  obtain ⟨ad, h1, h2, h3⟩ := h.round (k := k) (by simpa [natCells] using hk)
  exact ⟨ad, h1, h2, by rw [h3]; simp [natCells]⟩

/-- the place behind the j-th mark -/
def prev (E : List Nat) : Nat → Nat
  | 0 => 0
  | j + 1 => E.getD j 0
theorem marked_append {l r : List Blk} {k : Nat} (h : marked l = some k) : marked (l ++ r) = some k := by
  unfold marked at h ⊢
  rw [List.findIdx?_append, h]
  rfl
theorem marked_group {xs : List Blk} {m : Blk} (h : ∀ x ∈ xs, x.mark = false) (hm : m.mark = true) : marked (xs ++ [m]) = some xs.length := by
  unfold marked
  rw [List.findIdx?_append]
  have : List.findIdx? (fun x => x.mark) xs = none := List.findIdx?_eq_none_iff.2 (fun x hx => by simpa using h x hx)
  rw [this]
  simp [hm]
structure Grp (L : List Blk) (E : List Nat) : Prop where
  step : ∀ j (h : j < E.length), prev E j < E[j] ∧ E[j] ≤ L.length ∧ marked (L.drop (prev E j)) = some (E[j] - prev E j - 1)
  last : L.length = prev E E.length
theorem Grp.nil : Grp [] [] := ⟨fun j h => by simp at h, rfl⟩
theorem prev_append {E : List Nat} {x j : Nat} (h : j ≤ E.length) : prev (E ++ [x]) j = prev E j := by
  cases j with
  | zero => rfl
  | succ j =>
    unfold prev
    simp only [List.getD_eq_getElem?_getD]
    rw [List.getElem?_append_left (by omega)]
theorem prev_succ {E : List Nat} {j : Nat} (h : j < E.length) : prev E (j + 1) = E[j] := by
  unfold prev
  simp only [List.getD_eq_getElem?_getD]
  rw [List.getElem?_eq_getElem h]; rfl
theorem Grp.more {L : List Blk} {E : List Nat} (h : Grp L E) {xs : List Blk} {m : Blk} (hx : ∀ x ∈ xs, x.mark = false) (hm : m.mark = true) : Grp (L ++ xs ++ [m]) (E ++ [L.length + xs.length + 1]) := by
  refine ⟨fun j hj => ?_, ?_⟩
  · rw [List.length_append] at hj
    simp only [List.length_singleton] at hj
    rw [prev_append (by omega)]
    by_cases hlt : j < E.length
    · obtain ⟨h1, h2, h3⟩ := h.step j hlt
      rw [List.getElem_append_left hlt]
      refine ⟨h1, by simp; omega, ?_⟩
      rw [List.append_assoc, List.drop_append_of_le_length (by omega)]
      exact marked_append h3
    · obtain rfl : j = E.length := by omega
      rw [List.getElem_append_right (Nat.le_refl _)]
      simp only [Nat.sub_self, List.getElem_singleton]
      rw [← h.last]
      refine ⟨by omega, by simp; omega, ?_⟩
      rw [List.append_assoc, List.drop_append_of_le_length (Nat.le_refl _), List.drop_length, List.nil_append, marked_group hx hm]
      congr 1
      omega
  · have e : (E ++ [L.length + xs.length + 1]).length = E.length + 1 := by simp
    rw [e, prev_succ (by simp)]
    rw [List.getElem_append_right (Nat.le_refl _)]
    simp
    omega
end Go.Proofs.Ytchpdeogmbbjgaa
