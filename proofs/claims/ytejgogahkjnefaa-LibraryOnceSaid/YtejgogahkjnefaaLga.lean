/- A library in memory: its block, the row of its volumes, the row of its drives. -/
import Derived.Test.YtejgogahkjnefaaVl
import Derived.Test.YtejgogahkjnefaaVa
namespace Go.Proofs.Ytejgogahkjnefaa
open Go.RowKit
set_option linter.unusedVariables false
set_option linter.unusedSimpArgs false

/-- a drive -/
structure Dr where
  vol : Int
  last : Int
  holds : Int
  br : Bool
def Dr.cells (d : Dr) : Array Value := #[.int .i64 d.vol, .int .i64 d.last, .int .i64 d.holds, .bool d.br]
def Dr.no (b : Bool) : Dr := ⟨-1, 0, 0, b⟩
def drCells (l : List Dr) : List Value := l.flatMap fun d => d.cells.toList
theorem drCells_cons (a : Dr) (l : List Dr) : drCells (a :: l) = a.cells.toList ++ drCells l := by unfold drCells; rw [List.flatMap_cons]
theorem drCells_append (a b : List Dr) : drCells (a ++ b) = drCells a ++ drCells b := by unfold drCells; rw [List.flatMap_append]
theorem drCells_len (l : List Dr) : (drCells l).length = l.length * 4 := by
  induction l with
  | nil => rfl
  | cons a l ih => rw [drCells_cons, List.length_append, ih, List.length_cons]; show 4 + _ = _; omega
theorem drCells_get : ∀ (l : List Dr) (i j : Nat) (x : Dr) (u : Value), l[i]? = some x → x.cells.toList[j]? = some u → (drCells l)[i * 4 + j]? = some u := by
  intro l
  induction l with
  | nil => intro i j x u h; simp at h
  | cons a r ih =>
    intro i j x u h hj
    have ha : a.cells.toList.length = 4 := rfl
    cases i with
    | zero =>
      obtain rfl : a = x := by simpa using h
      have hj3 : j < 4 := by have := (List.getElem?_eq_some_iff.1 hj).1; omega
      rw [drCells_cons, Nat.zero_mul, Nat.zero_add, List.getElem?_append_left (by omega)]
      exact hj
    | succ i =>
      have := ih i j x u (by simpa using h) hj
      rw [drCells_cons, List.getElem?_append_right (by omega), ha, show (i + 1) * 4 + j - 4 = i * 4 + j by omega]
      exact this
theorem drCells_set : ∀ (l : List Dr) (i j : Nat) (h : i < l.length) (x : Dr) (u : Value), j < 4 → x.cells.toList = l[i].cells.toList.set j u → (drCells l).set (i * 4 + j) u = drCells (l.set i x) := by
  intro l
  induction l with
  | nil => intro i j h; exact absurd h (Nat.not_lt_zero _)
  | cons a r ih =>
    intro i j h x u hj hx
    have ha : a.cells.toList.length = 4 := rfl
    cases i with
    | zero =>
      rw [List.set_cons_zero, drCells_cons, drCells_cons, Nat.zero_mul, Nat.zero_add, List.set_append_left _ _ (by omega), hx]
      rfl
    | succ i =>
      have := ih i j (by simpa using h) x u hj (by simpa using hx)
      rw [List.set_cons_succ, drCells_cons, drCells_cons, List.set_append_right _ _ (by omega), ha, show (i + 1) * 4 + j - 4 = i * 4 + j by omega, this]

def ptrs (gs : List Nat) : List Value := gs.map fun g => .pointer (some ⟨g, 0, none⟩)

/-- w' is w but for new blocks, and for blocks of F -/
structure Shift (w w' : World) (F : Nat → Prop) : Prop where
  os : w'.os = w.os
  tape : w'.tape = w.tape
  output : w'.output = w.output
  size : w.heap.size ≤ w'.heap.size
  block : ∀ k, k < w.heap.size → ¬F k → w'.heap[k]? = w.heap[k]?
section
variable {w w' w'' : World} {F F' : Nat → Prop} {B : Nat}
theorem Shift.refl (w : World) (F : Nat → Prop) : Shift w w F := ⟨rfl, rfl, rfl, Nat.le_refl _, fun _ _ _ => rfl⟩
theorem Shift.trans (h : Shift w w' F) (h' : Shift w' w'' F) : Shift w w'' F :=
  ⟨h'.os.trans h.os, h'.tape.trans h.tape, h'.output.trans h.output, Nat.le_trans h.size h'.size, fun k hk hn => (h'.block k (Nat.lt_of_lt_of_le hk h.size) hn).trans (h.block k hk hn)⟩
theorem Shift.mono (h : Shift w w' F) (hF : ∀ k, F k → F' k) : Shift w w' F' := ⟨h.os, h.tape, h.output, h.size, fun k hk hn => h.block k hk (fun hf => hn (hF k hf))⟩
theorem Shift.of_grown {row : Option Nat} (h : w.grownBy w' row) (hF : ∀ k, row = some k → F k) : Shift w w' F := ⟨h.os, h.tape, h.output, h.size, fun k hk hn => h.block k hk (fun e => hn (hF k e.symm))⟩
theorem Shift.of_below (h : Below w.heap.size w w') : Shift w w' F := ⟨h.os, h.tape, h.output, h.size, fun k hk _ => h.block k hk⟩
theorem Shift.below (h : Shift w w' F) (hB : B ≤ w.heap.size) (hF : ∀ k, F k → B ≤ k) : Below B w w' := ⟨h.os, h.tape, h.output, h.size, fun k hk => h.block k (by omega) (fun hf => by have := hF k hf; omega)⟩
end
theorem row_keep {w w' : World} {B n z : Nat} {e : TypeId} {v : Value} {xs : List Value} (h : w.ownsRow B e z v n xs) (hb : ∀ k, v.ownBlock = some k → w'.heap[k]? = w.heap[k]?) : w'.ownsRow B e z v n xs := by
  obtain ⟨h1, h2 | ⟨g, cap, cur, rfl, hk, hat, h3⟩⟩ := h
  · exact ⟨h1, .inl h2⟩
  · exact ⟨h1, .inr ⟨g, cap, cur, rfl, hk, (hb g rfl).trans hat, h3⟩⟩
theorem row_at {w : World} {B n z : Nat} {e : TypeId} {v : Value} {xs : List Value} (h : w.ownsRow B e z v n xs) {k : Nat} (hk : v.ownBlock = some k) : ∃ cur, At w k e cur := by
  rcases h.2 with ⟨rfl, _⟩ | ⟨k', cap, cur, rfl, _, h3, _⟩
  · cases hk
  · have e2 : k' = k := by simpa [Value.ownBlock] using hk
    subst e2
    exact ⟨cur, h3⟩
theorem row_slice {w : World} {B n z : Nat} {e : TypeId} {v : Value} {xs : List Value} (h : w.ownsRow B e z v n xs) : ∃ A c, v = .slice A n c ∧ n ≤ c ∧ (0 < n → ∃ k, A = some ⟨k, 0, none⟩) := by
  rcases h.2 with ⟨rfl, rfl⟩ | ⟨k, cap, cur, rfl, _, _, hc, _⟩
  · exact ⟨none, 0, rfl, Nat.le_refl _, fun h => absurd h (Nat.lt_irrefl _)⟩
  · exact ⟨_, cap, rfl, hc, fun _ => ⟨k, rfl⟩⟩

/-- block g is a library with the volumes gs and the drives ds -/
structure LibAt (w : World) (B g : Nat) (v1 v2 : Value) (gs : List Nat) (ds : List Dr) (mv mt : Int) : Prop where
  at_ : At w g 43 #[v1, v2, .int .i64 mv, .int .i64 mt]
  vrow : w.ownsRow B 44 1 v1 gs.length (ptrs gs)
  drow : w.ownsRow B 47 4 v2 ds.length (drCells ds)
  gB : B ≤ g
/-- what its calls write -/
def LFoot (g : Nat) (v2 : Value) (k : Nat) : Prop := k = g ∨ v2.ownBlock = some k
section
variable {w w' : World} {B g : Nat} {v1 v2 : Value} {gs : List Nat} {ds : List Dr} {mv mt : Int} {F : Nat → Prop}
theorem LibAt.keep (h : LibAt w B g v1 v2 gs ds mv mt) (h0 : w'.heap[g]? = w.heap[g]?) (h1 : ∀ k, v1.ownBlock = some k → w'.heap[k]? = w.heap[k]?) (h2 : ∀ k, v2.ownBlock = some k → w'.heap[k]? = w.heap[k]?) : LibAt w' B g v1 v2 gs ds mv mt :=
  ⟨h0.trans h.at_, row_keep h.vrow h1, row_keep h.drow h2, h.gB⟩
theorem LibAt.below (h : LibAt w B g v1 v2 gs ds mv mt) (hb : Below w.heap.size w w') : LibAt w' B g v1 v2 gs ds mv mt :=
  h.keep (hb.block g h.at_.lt) (fun k hk => hb.block k (h.vrow.lt k hk).2) (fun k hk => hb.block k (h.drow.lt k hk).2)
theorem LibAt.shift (h : LibAt w B g v1 v2 gs ds mv mt) (hm : Shift w w' F) (h0 : ¬F g) (h1 : ∀ k, v1.ownBlock = some k → ¬F k) (h2 : ∀ k, v2.ownBlock = some k → ¬F k) : LibAt w' B g v1 v2 gs ds mv mt :=
  h.keep (hm.block g h.at_.lt h0) (fun k hk => hm.block k (h.vrow.lt k hk).2 (h1 k hk)) (fun k hk => hm.block k (h.drow.lt k hk).2 (h2 k hk))
theorem LibAt.foot_kind (h : LibAt w B g v1 v2 gs ds mv mt) {k : Nat} (hk : LFoot g v2 k) : (∃ cs, At w k 43 cs) ∨ ∃ cs, At w k 47 cs := by
  rcases hk with rfl | hk
  · exact .inl ⟨_, h.at_⟩
  · exact .inr (row_at h.drow hk)
theorem LibAt.footB (h : LibAt w B g v1 v2 gs ds mv mt) : ∀ k, LFoot g v2 k → B ≤ k := by
  rintro k (rfl | hk)
  · exact h.gB
  · exact (h.drow.lt k hk).1
theorem LibAt.vol (h : LibAt w B g v1 v2 gs ds mv mt) (hm : Shift w w' (LFoot g v2)) {C gv : Nat} {s : VS} (hv : Vol w C gv s) : Vol w' C gv s := by
  obtain ⟨ok, v, hv⟩ := hv
  have n1 : ¬LFoot g v2 gv := fun e => by
    rcases h.foot_kind e with ⟨cs, hc⟩ | ⟨cs, hc⟩
    · exact At.differ hv.at_ hc (by decide) rfl
    · exact At.differ hv.at_ hc (by decide) rfl
  refine ⟨ok, v, hv.of_block (hm.block gv hv.lt n1) fun k hk => hm.block k (hv.row_lt k hk).2 fun e => ?_⟩
  obtain ⟨cur, hc⟩ := row_at hv.row hk
  rcases h.foot_kind e with ⟨cs, hc2⟩ | ⟨cs, hc2⟩
  · exact At.differ hc hc2 (by decide) rfl
  · exact At.differ hc hc2 (by decide) rfl
theorem LibAt.drive {k c : Nat} (h : LibAt w B g v1 (.slice (some ⟨k, 0, none⟩) ds.length c) gs ds mv mt) {j : Nat} (hj : j < ds.length) : w.rangeAt k (j * 4) ds[j].cells.toList := by
  intro q u hq
  have := h.drow.cells (g := k) rfl (j * 4 + q) u (drCells_get _ j q _ u (List.getElem?_eq_getElem hj) hq)
  rw [show (⟨k, 0, none⟩ : Addr).add (j * 4 + q) = ⟨k, j * 4 + q, none⟩ by rw [Addr.add_mid, Nat.zero_add]] at this
  exact this
theorem LibAt.volume {k c : Nat} (h : LibAt w B g (.slice (some ⟨k, 0, none⟩) gs.length c) v2 gs ds mv mt) {j : Nat} (hj : j < gs.length) : w.cell? ((⟨k, 0, none⟩ : Addr).add j) = some (.pointer (some ⟨gs[j], 0, none⟩)) := by
  refine h.vrow.cells (g := k) rfl j _ ?_
  unfold ptrs
  rw [List.getElem?_map, List.getElem?_eq_getElem hj]
  rfl
end

/-- where a volume is -/
def inF (ds : List Dr) (v : Int) : Int := if v = -1 then -1 else match ds.findIdx? (fun d => d.vol == v) with | some i => (i : Int) | none => -1
theorem inF_hit {ds : List Dr} {v : Int} (hv : v ≠ -1) {j : Nat} (hj : j < ds.length) (h : ds[j].vol = v) (hb : ∀ i (hi : i < j), ds[i].vol ≠ v) : inF ds v = (j : Int) := by
  unfold inF
  rw [if_neg hv]
  have : ds.findIdx? (fun d => d.vol == v) = some j := by
    rw [List.findIdx?_eq_some_iff_getElem]
    exact ⟨hj, by simpa using h, fun i hi => by simpa using hb i hi⟩
  rw [this]
theorem inF_miss {ds : List Dr} {v : Int} (h : v = -1 ∨ ∀ i (hi : i < ds.length), ds[i].vol ≠ v) : inF ds v = -1 := by
  unfold inF
  by_cases hv : v = -1
  · rw [if_pos hv]
  · rw [if_neg hv]
    rcases h with h | h
    · exact absurd h hv
    have : ds.findIdx? (fun d => d.vol == v) = none := by
      rw [List.findIdx?_eq_none_iff]
      intro d hd
      obtain ⟨i, hi, rfl⟩ := List.getElem_of_mem hd
      simpa using h i hi
    rw [this]
theorem inF_le (ds : List Dr) (v : Int) : -1 ≤ inF ds v ∧ inF ds v < ds.length := by
  unfold inF
  split
  · omega
  · split
    · rename_i i hi
      rw [List.findIdx?_eq_some_iff_getElem] at hi
      obtain ⟨h, _⟩ := hi
      omega
    · omega
/-- the drive into which the next volume goes -/
def nextStep (ds : List Dr) (b : Int) (n : Nat) : Int :=
  if (ds.getD n (.no false)).br = true ∨ 0 < (ds.getD n (.no false)).holds then b
  else if b = -1 ∨ (ds.getD n (.no false)).last < (ds.getD b.toNat (.no false)).last then (n : Int) else b
def nextUp (ds : List Dr) : Nat → Int
  | 0 => -1
  | k + 1 => nextStep ds (nextUp ds k) k
def nextF (ds : List Dr) : Int := nextUp ds ds.length
theorem nextUp_le (ds : List Dr) (k : Nat) : -1 ≤ nextUp ds k ∧ nextUp ds k < k := by
  induction k with
  | zero => exact ⟨by simp [nextUp], by simp [nextUp]⟩
  | succ k ih =>
    unfold nextUp nextStep
    split
    · omega
    · split <;> omega
end Go.Proofs.Ytejgogahkjnefaa
