/- Lga, Lgb, Lgc, Lgd, Lge, Lgf: merged (a claim holds few files). -/
import Derived.Test.YtniecodpdmjppaaDoorVl
import Derived.Test.YtniecodpdmjppaaDoorVa
import Derived.Test.YtniecodpdmjppaaDoorVz
import Derived.Deep.QuietTactic
import Derived.BigQuiet
import Derived.Deep.RegionLaw
import Derived.Test.YtniecodpdmjppaaDoorCl
/- A library in memory: its block, the row of its volumes, the row of its drives. -/
namespace Go.Proofs.YtniecodpdmjppaaDoor
open Go.RowKit
set_option linter.unusedVariables false
set_option linter.unusedSimpArgs false

/-- a drive -/
structure Dr where
  vol : Int
  last : Int
  holds : Int
  br : Bool
def Dr.cells (d : Dr) : Array Value := #[.int .i64 d.vol, .int .i64 d.last, .int .i64 d.holds, .bool d.br]
def Dr.no (b : Bool) : Dr := ⟨-1, 0, 0, b⟩
def drCells (l : List Dr) : List Value := l.flatMap fun d => d.cells.toList
theorem drCells_cons (a : Dr) (l : List Dr) : drCells (a :: l) = a.cells.toList ++ drCells l := by unfold drCells; rw [List.flatMap_cons]
theorem drCells_append (a b : List Dr) : drCells (a ++ b) = drCells a ++ drCells b := by unfold drCells; rw [List.flatMap_append]
theorem drCells_len (l : List Dr) : (drCells l).length = l.length * 4 := by
  induction l with
  | nil => rfl
  | cons a l ih => rw [drCells_cons, List.length_append, ih, List.length_cons]; show 4 + _ = _; omega
theorem drCells_get : ∀ (l : List Dr) (i j : Nat) (x : Dr) (u : Value), l[i]? = some x → x.cells.toList[j]? = some u → (drCells l)[i * 4 + j]? = some u := by
  intro l
  induction l with
  | nil => intro i j x u h; simp at h
  | cons a r ih =>
    intro i j x u h hj
    have ha : a.cells.toList.length = 4 := rfl
    cases i with
    | zero =>
      obtain rfl : a = x := by simpa using h
      have hj3 : j < 4 := by have := (List.getElem?_eq_some_iff.1 hj).1; omega
      rw [drCells_cons, Nat.zero_mul, Nat.zero_add, List.getElem?_append_left (by omega)]
      exact hj
    | succ i =>
      have := ih i j x u (by simpa using h) hj
      rw [drCells_cons, List.getElem?_append_right (by omega), ha, show (i + 1) * 4 + j - 4 = i * 4 + j by omega]
      exact this
theorem drCells_set : ∀ (l : List Dr) (i j : Nat) (h : i < l.length) (x : Dr) (u : Value), j < 4 → x.cells.toList = l[i].cells.toList.set j u → (drCells l).set (i * 4 + j) u = drCells (l.set i x) := by
  intro l
  induction l with
  | nil => intro i j h; exact absurd h (Nat.not_lt_zero _)
  | cons a r ih =>
    intro i j h x u hj hx
    have ha : a.cells.toList.length = 4 := rfl
    cases i with
    | zero =>
      rw [List.set_cons_zero, drCells_cons, drCells_cons, Nat.zero_mul, Nat.zero_add, List.set_append_left _ _ (by omega), hx]
      rfl
    | succ i =>
      have := ih i j (by simpa using h) x u hj (by simpa using hx)
      rw [List.set_cons_succ, drCells_cons, drCells_cons, List.set_append_right _ _ (by omega), ha, show (i + 1) * 4 + j - 4 = i * 4 + j by omega, this]

def ptrs (gs : List Nat) : List Value := gs.map fun g => .pointer (some ⟨g, 0, none⟩)

/-- w' is w but for new blocks, and for blocks of F -/
structure Shift (w w' : World) (F : Nat → Prop) : Prop where
  os : w'.os = w.os
  tape : w'.tape = w.tape
  output : w'.output = w.output
  size : w.heap.size ≤ w'.heap.size
  block : ∀ k, k < w.heap.size → ¬F k → w'.heap[k]? = w.heap[k]?
section
variable {w w' w'' : World} {F F' : Nat → Prop} {B : Nat}
theorem Shift.refl (w : World) (F : Nat → Prop) : Shift w w F := ⟨rfl, rfl, rfl, Nat.le_refl _, fun _ _ _ => rfl⟩
theorem Shift.trans (h : Shift w w' F) (h' : Shift w' w'' F) : Shift w w'' F :=
  ⟨h'.os.trans h.os, h'.tape.trans h.tape, h'.output.trans h.output, Nat.le_trans h.size h'.size, fun k hk hn => (h'.block k (Nat.lt_of_lt_of_le hk h.size) hn).trans (h.block k hk hn)⟩
theorem Shift.mono (h : Shift w w' F) (hF : ∀ k, F k → F' k) : Shift w w' F' := ⟨h.os, h.tape, h.output, h.size, fun k hk hn => h.block k hk (fun hf => hn (hF k hf))⟩
theorem Shift.of_grown {row : Option Nat} (h : w.grownBy w' row) (hF : ∀ k, row = some k → F k) : Shift w w' F := ⟨h.os, h.tape, h.output, h.size, fun k hk hn => h.block k hk (fun e => hn (hF k e.symm))⟩
theorem Shift.of_below (h : Below w.heap.size w w') : Shift w w' F := ⟨h.os, h.tape, h.output, h.size, fun k hk _ => h.block k hk⟩
theorem Shift.below (h : Shift w w' F) (hB : B ≤ w.heap.size) (hF : ∀ k, F k → B ≤ k) : Below B w w' := ⟨h.os, h.tape, h.output, h.size, fun k hk => h.block k (by omega) (fun hf => by have := hF k hf; omega)⟩
end
theorem row_keep {w w' : World} {B n z : Nat} {e : TypeId} {v : Value} {xs : List Value} (h : w.ownsRow B e z v n xs) (hb : ∀ k, v.ownBlock = some k → w'.heap[k]? = w.heap[k]?) : w'.ownsRow B e z v n xs := by
  obtain ⟨h1, h2 | ⟨g, cap, cur, rfl, hk, hat, h3⟩⟩ := h
  · exact ⟨h1, .inl h2⟩
  · exact ⟨h1, .inr ⟨g, cap, cur, rfl, hk, (hb g rfl).trans hat, h3⟩⟩
theorem row_at {w : World} {B n z : Nat} {e : TypeId} {v : Value} {xs : List Value} (h : w.ownsRow B e z v n xs) {k : Nat} (hk : v.ownBlock = some k) : ∃ cur, At w k e cur := by
  rcases h.2 with ⟨rfl, _⟩ | ⟨k', cap, cur, rfl, _, h3, _⟩
  · cases hk
  · have e2 : k' = k := by simpa [Value.ownBlock] using hk
    subst e2
    exact ⟨cur, h3⟩
theorem row_slice {w : World} {B n z : Nat} {e : TypeId} {v : Value} {xs : List Value} (h : w.ownsRow B e z v n xs) : ∃ A c, v = .slice A n c ∧ n ≤ c ∧ (0 < n → ∃ k, A = some ⟨k, 0, none⟩) := by
  rcases h.2 with ⟨rfl, rfl⟩ | ⟨k, cap, cur, rfl, _, _, hc, _⟩
  · exact ⟨none, 0, rfl, Nat.le_refl _, fun h => absurd h (Nat.lt_irrefl _)⟩
  · exact ⟨_, cap, rfl, hc, fun _ => ⟨k, rfl⟩⟩

/-- block g is a library with the volumes gs and the drives ds -/
structure LibAt (w : World) (B g : Nat) (v1 v2 : Value) (gs : List Nat) (ds : List Dr) (mv mt : Int) : Prop where
  at_ : At w g 59 #[v1, v2, .int .i64 mv, .int .i64 mt]
  vrow : w.ownsRow B 40 1 v1 gs.length (ptrs gs)
  drow : w.ownsRow B 61 4 v2 ds.length (drCells ds)
  gB : B ≤ g
/-- what its calls write -/
def LFoot (g : Nat) (v2 : Value) (k : Nat) : Prop := k = g ∨ v2.ownBlock = some k
section
variable {w w' : World} {B g : Nat} {v1 v2 : Value} {gs : List Nat} {ds : List Dr} {mv mt : Int} {F : Nat → Prop}
theorem LibAt.keep (h : LibAt w B g v1 v2 gs ds mv mt) (h0 : w'.heap[g]? = w.heap[g]?) (h1 : ∀ k, v1.ownBlock = some k → w'.heap[k]? = w.heap[k]?) (h2 : ∀ k, v2.ownBlock = some k → w'.heap[k]? = w.heap[k]?) : LibAt w' B g v1 v2 gs ds mv mt :=
  ⟨h0.trans h.at_, row_keep h.vrow h1, row_keep h.drow h2, h.gB⟩
theorem LibAt.below (h : LibAt w B g v1 v2 gs ds mv mt) (hb : Below w.heap.size w w') : LibAt w' B g v1 v2 gs ds mv mt :=
  h.keep (hb.block g h.at_.lt) (fun k hk => hb.block k (h.vrow.lt k hk).2) (fun k hk => hb.block k (h.drow.lt k hk).2)
theorem LibAt.shift (h : LibAt w B g v1 v2 gs ds mv mt) (hm : Shift w w' F) (h0 : ¬F g) (h1 : ∀ k, v1.ownBlock = some k → ¬F k) (h2 : ∀ k, v2.ownBlock = some k → ¬F k) : LibAt w' B g v1 v2 gs ds mv mt :=
  h.keep (hm.block g h.at_.lt h0) (fun k hk => hm.block k (h.vrow.lt k hk).2 (h1 k hk)) (fun k hk => hm.block k (h.drow.lt k hk).2 (h2 k hk))
theorem LibAt.foot_kind (h : LibAt w B g v1 v2 gs ds mv mt) {k : Nat} (hk : LFoot g v2 k) : (∃ cs, At w k 59 cs) ∨ ∃ cs, At w k 61 cs := by
  rcases hk with rfl | hk
  · exact .inl ⟨_, h.at_⟩
  · exact .inr (row_at h.drow hk)
theorem LibAt.footB (h : LibAt w B g v1 v2 gs ds mv mt) : ∀ k, LFoot g v2 k → B ≤ k := by
  rintro k (rfl | hk)
  · exact h.gB
  · exact (h.drow.lt k hk).1
theorem LibAt.vol (h : LibAt w B g v1 v2 gs ds mv mt) (hm : Shift w w' (LFoot g v2)) {C gv : Nat} {s : VS} (hv : Vol w C gv s) : Vol w' C gv s := by
  obtain ⟨ok, v, hv⟩ := hv
  have n1 : ¬LFoot g v2 gv := fun e => by
    rcases h.foot_kind e with ⟨cs, hc⟩ | ⟨cs, hc⟩
    · exact At.differ hv.at_ hc (by decide) rfl
    · exact At.differ hv.at_ hc (by decide) rfl
  refine ⟨ok, v, hv.of_block (hm.block gv hv.lt n1) fun k hk => hm.block k (hv.row_lt k hk).2 fun e => ?_⟩
  obtain ⟨cur, hc⟩ := row_at hv.row hk
  rcases h.foot_kind e with ⟨cs, hc2⟩ | ⟨cs, hc2⟩
  · exact At.differ hc hc2 (by decide) rfl
  · exact At.differ hc hc2 (by decide) rfl
theorem LibAt.drive {k c : Nat} (h : LibAt w B g v1 (.slice (some ⟨k, 0, none⟩) ds.length c) gs ds mv mt) {j : Nat} (hj : j < ds.length) : w.rangeAt k (j * 4) ds[j].cells.toList := by
  intro q u hq
  have := h.drow.cells (g := k) rfl (j * 4 + q) u (drCells_get _ j q _ u (List.getElem?_eq_getElem hj) hq)
  rw [show (⟨k, 0, none⟩ : Addr).add (j * 4 + q) = ⟨k, j * 4 + q, none⟩ by rw [Addr.add_mid, Nat.zero_add]] at this
  exact this
theorem LibAt.volume {k c : Nat} (h : LibAt w B g (.slice (some ⟨k, 0, none⟩) gs.length c) v2 gs ds mv mt) {j : Nat} (hj : j < gs.length) : w.cell? ((⟨k, 0, none⟩ : Addr).add j) = some (.pointer (some ⟨gs[j], 0, none⟩)) := by
  refine h.vrow.cells (g := k) rfl j _ ?_
  unfold ptrs
  rw [List.getElem?_map, List.getElem?_eq_getElem hj]
  rfl
end

/-- where a volume is -/
def inF (ds : List Dr) (v : Int) : Int := if v = -1 then -1 else match ds.findIdx? (fun d => d.vol == v) with | some i => (i : Int) | none => -1
theorem inF_hit {ds : List Dr} {v : Int} (hv : v ≠ -1) {j : Nat} (hj : j < ds.length) (h : ds[j].vol = v) (hb : ∀ i (hi : i < j), ds[i].vol ≠ v) : inF ds v = (j : Int) := by
  unfold inF
  rw [if_neg hv]
  have : ds.findIdx? (fun d => d.vol == v) = some j := by
    rw [List.findIdx?_eq_some_iff_getElem]
    exact ⟨hj, by simpa using h, fun i hi => by simpa using hb i hi⟩
  rw [this]
theorem inF_miss {ds : List Dr} {v : Int} (h : v = -1 ∨ ∀ i (hi : i < ds.length), ds[i].vol ≠ v) : inF ds v = -1 := by
  unfold inF
  by_cases hv : v = -1
  · rw [if_pos hv]
  · rw [if_neg hv]
    rcases h with h | h
    · exact absurd h hv
    have : ds.findIdx? (fun d => d.vol == v) = none := by
      rw [List.findIdx?_eq_none_iff]
      intro d hd
      obtain ⟨i, hi, rfl⟩ := List.getElem_of_mem hd
      simpa using h i hi
    rw [this]
theorem inF_le (ds : List Dr) (v : Int) : -1 ≤ inF ds v ∧ inF ds v < ds.length := by
  unfold inF
  split
  · omega
  · split
    · rename_i i hi
      rw [List.findIdx?_eq_some_iff_getElem] at hi
      obtain ⟨h, _⟩ := hi
      omega
    · omega
/-- the drive into which the next volume goes -/
def nextStep (ds : List Dr) (b : Int) (n : Nat) : Int :=
  if (ds.getD n (.no false)).br = true ∨ 0 < (ds.getD n (.no false)).holds then b
  else if b = -1 ∨ (ds.getD n (.no false)).last < (ds.getD b.toNat (.no false)).last then (n : Int) else b
def nextUp (ds : List Dr) : Nat → Int
  | 0 => -1
  | k + 1 => nextStep ds (nextUp ds k) k
def nextF (ds : List Dr) : Int := nextUp ds ds.length
theorem nextUp_le (ds : List Dr) (k : Nat) : -1 ≤ nextUp ds k ∧ nextUp ds k < k := by
  induction k with
  | zero => exact ⟨by simp [nextUp], by simp [nextUp]⟩
  | succ k ih =>
    unfold nextUp nextStep
    split
    · omega
    · split <;> omega
end Go.Proofs.YtniecodpdmjppaaDoor

/- library.has, In, next: their walks. -/
namespace Go.Proofs.YtniecodpdmjppaaDoor
open Go.RowKit
set_option linter.unusedVariables false
set_option linter.unusedSimpArgs false
section
variable {w : World} {B g : Nat} {v1 v2 : Value} {gs : List Nat} {ds : List Dr} {mv mt : Int}

set_option maxRecDepth 100000 in
set_option maxHeartbeats 400000 in
theorem has_any (h : LibAt w B g v1 v2 gs ds mv mt) (v : Int) :
    Calls Tryd.prog 32 #[.pointer (some ⟨g, 0, none⟩), .int .i64 v] w fun e w' => e = .returned (.bool (decide (0 ≤ v) && decide (v < gs.length))) ∧ w = w' := by
  obtain ⟨A, c, rfl, hc, hA⟩ := row_slice h.vrow
  have c0 : w.cell? ⟨g, 0, none⟩ = some (.slice A gs.length c) := h.at_.cell 0
  clear h
  by_cases h0 : 0 ≤ v
  · have e0 : decide (0 ≤ v) = true := by simpa using h0
    go_enter Tryd.func32, Tryd.ntmps32
    go_wp2
    go_ret
    exact ⟨by simp [e0], rfl⟩
  · have e0 : decide (0 ≤ v) = false := by simpa using h0
    go_enter Tryd.func32, Tryd.ntmps32
    go_wp2
    go_ret
    exact ⟨by simp [e0], rfl⟩

set_option maxRecDepth 100000 in
set_option maxHeartbeats 1000000 in
theorem in_any (h : LibAt w B g v1 v2 gs ds mv mt) (v : Int) (hlen : ds.length ≤ 1000) :
    Calls Tryd.prog 19 #[.pointer (some ⟨g, 0, none⟩), .int .i64 v] w fun e w' => e = .returned (.int .i64 (inF ds v)) ∧ Below w.heap.size w w' := by
  obtain ⟨A, c, rfl, hc, hA⟩ := row_slice h.drow
  have c1 : w.cell? ⟨g, 1, none⟩ = some (.slice A ds.length c) := h.at_.cell 1
  have hI4 : (Tryd.prog.info? 61).map (·.size) = some 4 := by kernel_rfl
  have HI4 := Lib.hid hI4
  have H := Lib.hid h
  clear h hI4
  go_enter Tryd.func19, Tryd.ntmps19
  go_wp2
  go_loopw [12] (fun i wr => ∃ j : Nat, j ≤ ds.length ∧ i = .int .i64 (j : Int) ∧ Hid (v = -1 ∨ ∀ i (hi : i < j) (hi2 : i < ds.length), ds[i].vol ≠ v) ∧ Hid (Below w.heap.size w wr)) (fun i _ => ds.length - (intOf i).toNat)
  case atStart => exact ⟨0, by omega, rfl, Lib.hid (.inr fun i hi => absurd hi (Nat.not_lt_zero _)), Lib.hid (Below.refl _ _)⟩
  case round =>
    obtain ⟨j, hj, rfl, HN, HB⟩ := hrel
    by_cases hjL : j < ds.length
    · have q0 : decide ((j : Int) < (ds.length : Int)) = true := by simpa using hjL
      obtain ⟨k, rfl⟩ := hA (by omega)
      have hra := (H.out.below HB.out).drive hjL
      have HRA := Lib.hid hra
      have HX := Lib.hid (At.new wr 61 #[.int .i64 0, .int .i64 0, .int .i64 0, .bool false])
      clear hra
      have HD := Lib.hid (Eq.refl ds[j].vol)
      obtain ⟨dv, hdv⟩ : ∃ d, ds[j] = d := ⟨_, rfl⟩
      rw [hdv] at HRA HD
      have hC1 : dv.cells.all (·.oneCell') = true := by simp [Dr.cells, Value.oneCell']
      have HC1 := Lib.hid hC1
      have HDV := Lib.hid hdv
      clear hC1 hdv
      go_upto_region 4 with (first | refine wpList_load_part rfl 61 _ rfl k (j * 4) rfl dv.cells _ HRA.out Tryd.underlying61 rfl HI4.out ?_ | (refine wpList_store_whole rfl 61 _ _ rfl wr.heap.size dv.cells rfl rfl 61 _ HX.out HI4.out rfl HC1.out ?_; intro w4 hZ4 hG4; replace hZ4 := Lib.hid hZ4; replace hG4 := Lib.hid hG4))
      have hb4 : Below w.heap.size w w4 := below_of_grownBy (HB.out.alloc HB.out.size _) hG4.out (by have := HB.out.size; simp; omega) HB.out.size
      have HB4 := Lib.hid hb4
      have x0 : w4.cell? ⟨wr.heap.size, 0, none⟩ = some (.int .i64 dv.vol) := hZ4.out.cell 0
      clear hb4 HB hG4 hZ4 HRA HX HC1
      generalize wr.heap.size = X at *
      by_cases hev : dv.vol = v
      · by_cases hv1 : v = -1
        · have q1 : (dv.vol == v) = true := by simpa using hev
          have q2 : (v != -1) = false := by simpa using hv1
          have HV1 : Hid (v = -1) := Lib.hid hv1
          clear hv1 hev
          go_wp2
          go_roundw
          case rel => exact ⟨j + 1, by omega, by go_num, Lib.hid (.inl HV1.out), HB4⟩
          case measure => simp [intOf]; omega
        · have q1 : (dv.vol == v) = true := by simpa using hev
          have q2 : (v != -1) = true := by simpa using hv1
          have hin : inF ds v = (j : Int) := inF_hit hv1 hjL (by rw [HDV.out]; exact hev) fun i hi => (HN.out.resolve_left hv1) i hi (by omega)
          have HIN := Lib.hid hin
          clear hin
          go_wp2
          go_ret
          exact ⟨by rw [HIN.out]; rfl, HB4.out⟩
      · have q1 : (dv.vol == v) = false := by simpa using hev
        have hnx : v = -1 ∨ ∀ i (hi : i < j + 1) (hi2 : i < ds.length), ds[i].vol ≠ v := HN.out.imp id fun h i hi hi2 => by
          by_cases e : i = j
          · subst e; rw [HDV.out]; exact hev
          · exact h i (by omega) hi2
        have HNX := Lib.hid hnx
        clear hnx
        go_wp2
        go_roundw
        case rel => exact ⟨j + 1, by omega, by go_num, HNX, HB4⟩
        case measure => simp [intOf]; omega
    · have q0 : decide ((j : Int) < (ds.length : Int)) = false := by simpa using hjL
      have hin : inF ds v = -1 := inF_miss (HN.out.imp id fun h i hi => h i (by omega) hi)
      have HIN := Lib.hid hin
      clear hin
      go_wp2
      go_ret
      exact ⟨by rw [HIN.out]; rfl, HB.out⟩

theorem nextUp_skip {j : Nat} (hj : j < ds.length) (h : ds[j].br = true ∨ 0 < ds[j].holds) : nextUp ds (j + 1) = nextUp ds j := by
  show nextStep ds (nextUp ds j) j = _
  unfold nextStep
  rw [List.getD_eq_getElem?_getD, List.getElem?_eq_getElem hj]
  exact if_pos h
theorem nextUp_take {j : Nat} (hj : j < ds.length) (h : ¬(ds[j].br = true ∨ 0 < ds[j].holds)) (h2 : nextUp ds j = -1 ∨ ds[j].last < (ds.getD (nextUp ds j).toNat (.no false)).last) : nextUp ds (j + 1) = (j : Int) := by
  show nextStep ds (nextUp ds j) j = _
  unfold nextStep
  have e : ds.getD j (.no false) = ds[j] := by rw [List.getD_eq_getElem?_getD, List.getElem?_eq_getElem hj]; rfl
  rw [e, if_neg h, if_pos h2]
theorem nextUp_leave {j : Nat} (hj : j < ds.length) (h : ¬(ds[j].br = true ∨ 0 < ds[j].holds)) (h2 : ¬(nextUp ds j = -1 ∨ ds[j].last < (ds.getD (nextUp ds j).toNat (.no false)).last)) : nextUp ds (j + 1) = nextUp ds j := by
  show nextStep ds (nextUp ds j) j = _
  unfold nextStep
  have e : ds.getD j (.no false) = ds[j] := by rw [List.getD_eq_getElem?_getD, List.getElem?_eq_getElem hj]; rfl
  rw [e, if_neg h, if_neg h2]

set_option maxRecDepth 100000 in
set_option maxHeartbeats 1000000 in
theorem libnext_any (h : LibAt w B g v1 v2 gs ds mv mt) (hlen : ds.length ≤ 1000) :
    Calls Tryd.prog 35 #[.pointer (some ⟨g, 0, none⟩)] w fun e w' => e = .returned (.int .i64 (nextF ds)) ∧ Below w.heap.size w w' := by
  obtain ⟨A, c, rfl, hc, hA⟩ := row_slice h.drow
  have c1 : w.cell? ⟨g, 1, none⟩ = some (.slice A ds.length c) := h.at_.cell 1
  have hI4 : (Tryd.prog.info? 61).map (·.size) = some 4 := by kernel_rfl
  have HI4 := Lib.hid hI4
  have H := Lib.hid h
  clear h hI4
  go_enter Tryd.func35, Tryd.ntmps35
  go_wp2
  go_loopw [3, 11] (fun b i wr => ∃ j : Nat, j ≤ ds.length ∧ i = .int .i64 (j : Int) ∧ b = .int .i64 (nextUp ds j) ∧ Hid (Below w.heap.size w wr)) (fun _ i _ => ds.length - (intOf i).toNat)
  case atStart => exact ⟨0, by omega, rfl, by simp [nextUp], Lib.hid (Below.refl _ _)⟩
  case round =>
    obtain ⟨j, hj, rfl, rfl, HB⟩ := hrel
    by_cases hjL : j < ds.length
    · have q0 : decide ((j : Int) < (ds.length : Int)) = true := by simpa using hjL
      obtain ⟨k, rfl⟩ := hA (by omega)
      have hra := (H.out.below HB.out).drive hjL
      have HRA := Lib.hid hra
      have HX := Lib.hid (At.new wr 61 #[.int .i64 0, .int .i64 0, .int .i64 0, .bool false])
      have hle := nextUp_le ds j
      clear hra
      obtain ⟨dv, hdv⟩ : ∃ d, ds[j] = d := ⟨_, rfl⟩
      rw [hdv] at HRA
      have hC1 : dv.cells.all (·.oneCell') = true := by simp [Dr.cells, Value.oneCell']
      have HC1 := Lib.hid hC1
      have hsk := nextUp_skip hjL
      have htk := nextUp_take hjL
      have hlv := nextUp_leave hjL
      rw [hdv] at hsk htk hlv
      clear hC1 hdv
      go_upto_region 5 with (first | refine wpList_load_part rfl 61 _ rfl k (j * 4) rfl dv.cells _ HRA.out Tryd.underlying61 rfl HI4.out ?_ | (refine wpList_store_whole rfl 61 _ _ rfl wr.heap.size dv.cells rfl rfl 61 _ HX.out HI4.out rfl HC1.out ?_; intro w4 hZ4 hG4; replace hZ4 := Lib.hid hZ4; replace hG4 := Lib.hid hG4))
      have hb4 : Below w.heap.size w w4 := below_of_grownBy (HB.out.alloc HB.out.size _) hG4.out (by have := HB.out.size; simp; omega) HB.out.size
      have HB4 := Lib.hid hb4
      have hL4 := H.out.below hb4
      have x1 : w4.cell? ⟨wr.heap.size, 1, none⟩ = some (.int .i64 dv.last) := hZ4.out.cell 1
      have x2 : w4.cell? ⟨wr.heap.size, 2, none⟩ = some (.int .i64 dv.holds) := hZ4.out.cell 2
      have x3 : w4.cell? ⟨wr.heap.size, 3, none⟩ = some (.bool dv.br) := hZ4.out.cell 3
      have y1 : w4.cell? ⟨g, 1, none⟩ = some (.slice (some ⟨k, 0, none⟩) ds.length c) := hL4.at_.cell 1
      have HL4 := Lib.hid hL4
      clear hb4 HB hG4 hZ4 HRA HX HC1 hL4 c1
      generalize wr.heap.size = X at *
      by_cases hs : dv.br = true ∨ 0 < dv.holds
      · have hn := hsk hs
        have HN := Lib.hid hn
        clear hn hsk htk hlv
        rcases (show dv.br = true ∨ (dv.br = false ∧ 0 < dv.holds) by
          cases hbr : dv.br with
          | true => exact .inl rfl
          | false => exact .inr ⟨rfl, hs.resolve_left (by rw [hbr]; decide)⟩) with h1 | ⟨h1, h2⟩
        · go_wp2
          go_roundw
          case rel => exact ⟨j + 1, by omega, by go_num, by rw [HN.out], HB4⟩
          case measure => simp [intOf]; omega
        · have q2 : decide (0 < dv.holds) = true := by simpa using h2
          go_wp2
          go_roundw
          case rel => exact ⟨j + 1, by omega, by go_num, by rw [HN.out], HB4⟩
          case measure => simp [intOf]; omega
      · have h1 : dv.br = false := by cases hbr : dv.br with
          | true => exact absurd (.inl hbr) hs
          | false => rfl
        have q2 : decide (0 < dv.holds) = false := by simp; omega
        by_cases hb1 : nextUp ds j = -1
        · have hn := htk hs (.inl hb1)
          have q3 : (nextUp ds j == -1) = true := by simpa using hb1
          have HN := Lib.hid hn
          clear hn hsk htk hlv
          obtain ⟨b, hb⟩ : ∃ b, nextUp ds j = b := ⟨_, rfl⟩
          rw [hb] at hb1 q3 ⊢
          subst hb1
          go_upto_region 6 with fail
          go_quiet (fail)
          go_wp2
          go_roundw
          case rel => exact ⟨j + 1, by omega, by go_num, by rw [HN.out], Lib.hid (below_drewN HB4.out _)⟩
          case measure => simp [intOf]; omega
        · obtain ⟨bn, hbn⟩ : ∃ bn : Nat, nextUp ds j = (bn : Int) := ⟨(nextUp ds j).toNat, by omega⟩
          have hbl : bn < ds.length := by omega
          have hcl := HL4.out.drive hbl
          have e : (ds.getD bn (.no false)) = ds[bn] := by rw [List.getD_eq_getElem?_getD, List.getElem?_eq_getElem hbl]; rfl
          rw [hbn] at htk hlv hsk ⊢
          rw [Int.toNat_natCast, e] at htk hlv
          have z1 : w4.cell? ⟨k, bn * 4 + 1, none⟩ = some (.int .i64 ds[bn].last) := hcl 1 _ rfl
          have q3 : ((bn : Int) == -1) = false := by simp
          by_cases hlt : dv.last < ds[bn].last
          · have hn := htk hs (.inr hlt)
            have q4 : decide (dv.last < ds[bn].last) = true := by simpa using hlt
            have HN := Lib.hid hn
            clear hn hsk htk hlv hcl e
            generalize ds[bn].last = lb at *
            go_upto_region 6 with fail
            go_quiet (fail)
            go_wp2
            go_roundw
            case rel => exact ⟨j + 1, by omega, by go_num, by rw [HN.out], Lib.hid (below_drewN HB4.out _)⟩
            case measure => simp [intOf]; omega
          · have hn := hlv hs (by rintro (h | h) <;> omega)
            have q4 : decide (dv.last < ds[bn].last) = false := by simp; omega
            have HN := Lib.hid hn
            clear hn hsk htk hlv hcl e
            generalize ds[bn].last = lb at *
            go_upto_region 6 with fail
            go_quiet (fail)
            go_wp2
            go_roundw
            case rel => exact ⟨j + 1, by omega, by go_num, by rw [HN.out], Lib.hid (below_drewN HB4.out _)⟩
            case measure => simp [intOf]; omega
    · have q0 : decide ((j : Int) < (ds.length : Int)) = false := by simpa using hjL
      obtain rfl : j = ds.length := by omega
      obtain ⟨r, hr⟩ : ∃ r, nextUp ds ds.length = r := ⟨_, rfl⟩
      have HR : Hid (nextF ds = r) := Lib.hid hr
      rw [hr]
      clear hr
      go_wp2
      go_ret
      exact ⟨by rw [HR.out]; rfl, HB.out⟩
end
end Go.Proofs.YtniecodpdmjppaaDoor

/- library.Mount: its walk. -/
namespace Go.Proofs.YtniecodpdmjppaaDoor
open Go.RowKit
set_option linter.unusedVariables false
set_option linter.unusedSimpArgs false
section
variable {w w' : World} {B g : Nat} {v1 v2 : Value} {gs : List Nat} {ds : List Dr} {mv mt : Int}

theorem LibAt.ne_row (h : LibAt w B g v1 v2 gs ds mv mt) {k : Nat} (hk : v2.ownBlock = some k) : k ≠ g ∧ v1.ownBlock ≠ some k := by
  obtain ⟨cur, hc⟩ := row_at h.drow hk
  refine ⟨At.differ hc h.at_ (by decide), fun e => ?_⟩
  obtain ⟨cur2, hc2⟩ := row_at h.vrow e
  exact At.differ hc hc2 (by decide) rfl
theorem LibAt.ne_vrow (h : LibAt w B g v1 v2 gs ds mv mt) : v1.ownBlock ≠ some g ∧ v2.ownBlock ≠ some g := by
  refine ⟨fun e => ?_, fun e => ?_⟩
  · obtain ⟨cur2, hc2⟩ := row_at h.vrow e
    exact At.differ h.at_ hc2 (by decide) rfl
  · obtain ⟨cur2, hc2⟩ := row_at h.drow e
    exact At.differ h.at_ hc2 (by decide) rfl
theorem far_heap (w : World) (k i : Nat) (u : Value) {b : Nat} (hb : b ≠ k) : (w.setCell ⟨k, i, none⟩ u).heap[b]? = w.heap[b]? := Below.heap_setCell w ⟨k, i, none⟩ u b hb
theorem LibAt.store {kd c n j : Nat} (h : LibAt w B g v1 (.slice (some ⟨kd, 0, none⟩) ds.length c) gs ds mv mt) (hn : n < ds.length) (hj : j < 4) (x : Dr) (u : Value) (hx : x.cells.toList = ds[n].cells.toList.set j u) :
    LibAt (w.setCell ⟨kd, n * 4 + j, none⟩ u) B g v1 (.slice (some ⟨kd, 0, none⟩) ds.length c) gs (ds.set n x) mv mt ∧ Shift w (w.setCell ⟨kd, n * 4 + j, none⟩ u) (LFoot g (.slice (some ⟨kd, 0, none⟩) ds.length c)) := by
  obtain ⟨n1, n2⟩ := h.ne_row (k := kd) rfl
  refine ⟨⟨(far_heap w kd _ u (Ne.symm n1)).trans h.at_, row_keep h.vrow fun k hk => far_heap w kd _ u (fun e => n2 (by rw [← e]; exact hk)), ?_, h.gB⟩, ?_⟩
  · have hs := h.drow.stored (n * 4 + j) u
    rw [drCells_set ds n j hn x u hj hx] at hs
    rw [List.length_set]
    exact hs.1
  · exact ⟨rfl, rfl, rfl, by simp [World.setCell], fun k _ hk => far_heap w kd _ u (fun e => hk (.inr (by rw [e]; rfl)))⟩
theorem LibAt.driveN {k c N : Nat} (hN : ds.length = N) (h : LibAt w B g v1 (.slice (some ⟨k, 0, none⟩) N c) gs ds mv mt) {j : Nat} (hj : j < ds.length) : w.rangeAt k (j * 4) ds[j].cells.toList := by subst hN; exact h.drive hj
theorem LibAt.frozenN {k c N : Nat} (hN : ds.length = N) (h : LibAt w B g v1 (.slice (some ⟨k, 0, none⟩) N c) gs ds mv mt) (j : Nat) : w.frozen? ⟨k, j, none⟩ = false := by subst hN; exact h.drow.frozenAt j
theorem LibAt.storeN {kd c n j N : Nat} (hN : ds.length = N) (h : LibAt w B g v1 (.slice (some ⟨kd, 0, none⟩) N c) gs ds mv mt) (hn : n < ds.length) (hj : j < 4) (x : Dr) (u : Value) (hx : x.cells.toList = ds[n].cells.toList.set j u) :
    LibAt (w.setCell ⟨kd, n * 4 + j, none⟩ u) B g v1 (.slice (some ⟨kd, 0, none⟩) N c) gs (ds.set n x) mv mt ∧ Shift w (w.setCell ⟨kd, n * 4 + j, none⟩ u) (LFoot g (.slice (some ⟨kd, 0, none⟩) N c)) := by subst hN; exact h.store hn hj x u hx
theorem LibAt.number (h : LibAt w B g v1 v2 gs ds mv mt) (mv' mt' : Int) (i : Nat) (u : Value) (hx : (#[v1, v2, .int .i64 mv, .int .i64 mt] : Array Value).setIfInBounds i u = #[v1, v2, .int .i64 mv', .int .i64 mt']) :
    LibAt (w.setCell ⟨g, i, none⟩ u) B g v1 v2 gs ds mv' mt' ∧ Shift w (w.setCell ⟨g, i, none⟩ u) (LFoot g v2) := by
  obtain ⟨n1, n2⟩ := h.ne_vrow
  refine ⟨⟨?_, row_keep h.vrow fun k hk => far_heap w g _ u (fun e => n1 (by rw [← e]; exact hk)), row_keep h.drow fun k hk => far_heap w g _ u (fun e => n2 (by rw [← e]; exact hk)), h.gB⟩, ?_⟩
  · have := h.at_.set i u
    rw [hx] at this
    exact this
  · exact ⟨rfl, rfl, rfl, by simp [World.setCell], fun k _ hk => far_heap w g _ u (fun e => hk (.inl e))⟩
theorem LibAt.drewN (h : LibAt w B g v1 v2 gs ds mv mt) (n : Nat) : LibAt (w.drewN n) B g v1 v2 gs ds mv mt := h.below (below_drewN (Below.refl _ w) n)
end

theorem set_twice {ds ds6 : List Dr} {n : Nat} {v : Int} (hn : n < ds.length) (h : ds.set n { ds[n] with vol := v } = ds6) (m : Int) (h6 : n < ds6.length) : ds.set n { ds[n] with vol := v, last := m } = ds6.set n { ds6[n] with last := m } := by
  subst h
  simp
theorem set_once {ds ds6 : List Dr} {n : Nat} (hn : n < ds.length) (h : ds = ds6) (m : Int) (h6 : n < ds6.length) : ds.set n { ds[n] with last := m } = ds6.set n { ds6[n] with last := m } := by
  subst h
  rfl
structure MR where
  i : Int
  e : Int
  ds : List Dr
  mv : Int
  mt : Int
def drOf (ds : List Dr) (i : Int) : Dr := ds.getD i.toNat (.no false)
def mountF (n : Nat) (ds : List Dr) (mv mt v : Int) : MR :=
  if 0 ≤ v ∧ v < n then
    if inF ds v = -1 then
      if nextF ds = -1 then ⟨-1, 10, ds, mv, mt⟩
      else ⟨nextF ds, 0, ds.set (nextF ds).toNat { drOf ds (nextF ds) with vol := v, last := mt + 1 }, mv + 1, mt + 1⟩
    else ⟨inF ds v, 0, ds.set (inF ds v).toNat { drOf ds (inF ds v) with last := mt + 1 }, mv, mt + 1⟩
  else ⟨-1, 1, ds, mv, mt⟩
def MountEnds (w : World) (B g : Nat) (v1 v2 : Value) (gs : List Nat) (r : MR) (e : Ending) (w' : World) : Prop :=
  e = .returned (.tuple #[.int .i64 r.i, .int .i64 r.e]) ∧ LibAt w' B g v1 v2 gs r.ds r.mv r.mt ∧ Shift w w' (LFoot g v2)
/-- the volumes are not lost -/
def Here (w : World) (gs : List Nat) : Prop := ∀ i (h : i < gs.length), ∃ C s, Vol w C gs[i] s ∧ s.lo = false

section
variable {w : World} {B g : Nat} {v1 v2 : Value} {gs : List Nat} {ds : List Dr} {mv mt : Int}
theorem Here.below {w' : World} (h : Here w gs) (hb : Below w.heap.size w w') : Here w' gs := fun i hi => by
  obtain ⟨C, s, hv, hl⟩ := h i hi
  exact ⟨C, s, hv.below hb, hl⟩
theorem Here.shift {w' : World} {gs' : List Nat} (h : Here w gs') (hl : LibAt w B g v1 v2 gs ds mv mt) (hm : Shift w w' (LFoot g v2)) : Here w' gs' := fun i hi => by
  obtain ⟨C, s, hv, hlo⟩ := h i hi
  exact ⟨C, s, hl.vol hm hv, hlo⟩

theorem lost_vol {C gv : Nat} {s : VS} (h : Vol w C gv s) (hlo : s.lo = false) : Calls Tryd.prog 34 #[.pointer (some ⟨gv, 2, none⟩)] w fun e w' => e = .returned (.bool false) ∧ w' = w := by
  obtain ⟨ok, v, hv⟩ := h
  have := lost_any (hv.luck ok)
  rw [hlo] at this
  exact this

set_option maxRecDepth 100000 in
set_option maxHeartbeats 2000000 in
theorem mount_any (h : LibAt w B g v1 v2 gs ds mv mt) (hB : B ≤ w.heap.size) (hh : Here w gs) (hlen : ds.length ≤ 1000) (hmv : 0 ≤ mv ∧ mv ≤ 1000000000000) (hmt : 0 ≤ mt ∧ mt ≤ 1000000000000) (v : Int) :
    Calls Tryd.prog 16 #[.pointer (some ⟨g, 0, none⟩), .int .i64 v] w (MountEnds w B g v1 v2 gs (mountF gs.length ds mv mt v)) := by
  have hH := has_any h v
  by_cases hv : 0 ≤ v ∧ v < gs.length
  · obtain ⟨vi, rfl⟩ : ∃ vi : Nat, v = (vi : Int) := ⟨v.toNat, by omega⟩
    have hvi : vi < gs.length := by omega
    have hq : (decide ((0 : Int) ≤ (vi : Int)) && decide ((vi : Int) < (gs.length : Int))) = true := by simp; omega
    rw [hq] at hH
    obtain ⟨A1, c1, rfl, hc1, hA1⟩ := row_slice h.vrow
    obtain ⟨kv, rfl⟩ := hA1 (by omega)
    obtain ⟨C, s, hvol, hlo⟩ := hh vi hvi
    have hL := lost_vol hvol hlo
    have hI := in_any h (vi : Int) hlen
    have z0 : w.cell? ⟨g, 0, none⟩ = some (.slice (some ⟨kv, 0, none⟩) gs.length c1) := h.at_.cell 0
    have z1 : w.cell? ⟨kv, vi, none⟩ = some (.pointer (some ⟨gs[vi], 0, none⟩)) := by
      have := h.volume hvi
      rw [Addr.add_mid, Nat.zero_add] at this
      exact this
    have hIle := inF_le ds (vi : Int)
    have hNle := nextUp_le ds ds.length
    have hM : mountF gs.length ds mv mt (vi : Int) = if inF ds (vi : Int) = -1 then
      if nextF ds = -1 then ⟨-1, 10, ds, mv, mt⟩
      else ⟨nextF ds, 0, ds.set (nextF ds).toNat { drOf ds (nextF ds) with vol := (vi : Int), last := mt + 1 }, mv + 1, mt + 1⟩
      else ⟨inF ds (vi : Int), 0, ds.set (inF ds (vi : Int)).toNat { drOf ds (inF ds (vi : Int)) with last := mt + 1 }, mv, mt + 1⟩ := if_pos hv
    rw [hM]
    generalize gs[vi] = gv at *
    have H := Lib.hid h
    have HL := Lib.hid hL
    have HI := Lib.hid hI
    clear hM h hL hI hh hvol hlo hv hq
    by_cases hin : inF ds (vi : Int) = -1
    · rw [if_pos hin]
      rw [hin] at HI
      by_cases hnx : nextF ds = -1
      · rw [if_pos hnx]
        go_enter Tryd.func16, Tryd.ntmps16
        go_wp2_with fail
        refine hH.mono ?_
        rintro e w1 ⟨rfl, rfl⟩
        clear hH
        go_wp2_with fail
        refine HL.out.mono ?_
        rintro e w2 ⟨rfl, rfl⟩
        go_wp2_with fail
        refine HI.out.mono ?_
        rintro e w3 ⟨rfl, hb3⟩
        have h3 := H.out.below hb3
        have hN := libnext_any h3 hlen
        rw [hnx] at hN
        have H3 := Lib.hid h3
        have HB3 := Lib.hid hb3
        clear h3 hb3 z0 z1
        go_wp2_with fail
        refine hN.mono ?_
        rintro e w4 ⟨rfl, hb4⟩
        have H4 := Lib.hid (H3.out.below hb4)
        have S4 : Hid (Shift w2 w4 (LFoot g v2)) := Lib.hid (Shift.of_below (HB3.out.trans (hb4.mono HB3.out.size)))
        clear hb4 hN H3 HB3
        go_wp2
        go_ret2
        exact ⟨rfl, H4.out, S4.out⟩
      · rw [if_neg hnx]
        obtain ⟨n, hn⟩ : ∃ n : Nat, nextF ds = (n : Int) := ⟨(nextF ds).toNat, by have : nextF ds = nextUp ds ds.length := rfl; omega⟩
        have hnl : n < ds.length := by have : nextF ds = nextUp ds ds.length := rfl; omega
        obtain ⟨A2, c2, rfl, hc2, hA2⟩ := row_slice H.out.drow
        obtain ⟨kd, rfl⟩ := hA2 (by omega)
        have hdo : drOf ds (nextF ds) = ds[n] := by unfold drOf; rw [hn, Int.toNat_natCast, List.getD_eq_getElem?_getD, List.getElem?_eq_getElem hnl]; rfl
        rw [hdo, hn, Int.toNat_natCast]
        go_enter Tryd.func16, Tryd.ntmps16
        go_wp2_with fail
        refine hH.mono ?_
        rintro e w1 ⟨rfl, rfl⟩
        clear hH
        go_wp2_with fail
        refine HL.out.mono ?_
        rintro e w2 ⟨rfl, rfl⟩
        go_wp2_with fail
        refine HI.out.mono ?_
        rintro e w3 ⟨rfl, hb3⟩
        have h3 := H.out.below hb3
        have hN := libnext_any h3 hlen
        rw [hn] at hN
        have H3 := Lib.hid h3
        have HB3 := Lib.hid hb3
        clear h3 hb3 z0 z1
        go_wp2_with fail
        refine hN.mono ?_
        rintro e w4 ⟨rfl, hb4⟩
        have h4 := H3.out.below hb4
        have s4 : Shift w2 w4 (LFoot g (.slice (some ⟨kd, 0, none⟩) ds.length c2)) := Shift.of_below (HB3.out.trans (hb4.mono HB3.out.size))
        obtain ⟨h5, s5⟩ := h4.store hnl (j := 0) (by omega) { ds[n] with vol := (vi : Int) } (.int .i64 (vi : Int)) rfl
        have y1 : w4.cell? ⟨g, 1, none⟩ = some (.slice (some ⟨kd, 0, none⟩) ds.length c2) := h4.at_.cell 1
        have y2 := h4.drive hnl 0 _ rfl
        have y3 : w4.frozen? ⟨kd, n * 4 + 0, none⟩ = false := h4.drow.frozenAt _
        have H5 := Lib.hid h5
        have S5 := Lib.hid (s4.trans s5)
        clear h4 h5 hb4 hN H3 HB3 s4 s5
        simp only [Nat.add_zero] at y2 y3 H5 S5
        have k2 : (w4.setCell ⟨kd, n * 4, none⟩ (.int .i64 (vi : Int))).cell? ⟨g, 2, none⟩ = some (.int .i64 mv) := H5.out.at_.cell 2
        have k2f : (w4.setCell ⟨kd, n * 4, none⟩ (.int .i64 (vi : Int))).frozen? ⟨g, 2, none⟩ = false := H5.out.at_.frozen 2
        have hvw : IntKind.i64.wrap (mv + 1) = mv + 1 := IntWalk.i64_in _ ⟨by omega, by omega⟩
        go_upto_region 11 with fail
        generalize w4.setCell ⟨kd, n * 4, none⟩ (.int .i64 (vi : Int)) = w5 at *
        obtain ⟨h6, s6⟩ := H5.out.number (mv + 1) mt 2 (.int .i64 (mv + 1)) rfl
        have H6 := Lib.hid h6
        have S6 := Lib.hid (S5.out.trans s6)
        have m3 : (w5.setCell ⟨g, 2, none⟩ (.int .i64 (mv + 1))).cell? ⟨g, 3, none⟩ = some (.int .i64 mt) := h6.at_.cell 3
        have m3f : (w5.setCell ⟨g, 2, none⟩ (.int .i64 (mv + 1))).frozen? ⟨g, 3, none⟩ = false := h6.at_.frozen 3
        have hmw : IntKind.i64.wrap (mt + 1) = mt + 1 := IntWalk.i64_in _ ⟨by omega, by omega⟩
        clear h6 s6 H5 S5 y1 y2 y3
        go_upto_region 12 with fail
        generalize w5.setCell ⟨g, 2, none⟩ (.int .i64 (mv + 1)) = w6 at *
        clear k2 k2f
        obtain ⟨ds6, hd6⟩ : ∃ d, ds.set n { ds[n] with vol := (vi : Int) } = d := ⟨_, rfl⟩
        obtain ⟨mv6, hm6⟩ : ∃ d, mv + 1 = d := ⟨_, rfl⟩
        have hN6 : ds6.length = ds.length := by rw [← hd6, List.length_set]
        have hx6 := set_twice hnl hd6 (mt + 1) (by omega)
        rw [hd6, hm6] at H6
        have HX6 := Lib.hid hx6
        have HM6 := Lib.hid hm6
        clear hx6 hd6 hm6
        have m3 : w6.cell? ⟨g, 3, none⟩ = some (.int .i64 mt) := H6.out.at_.cell 3
        have m3f : w6.frozen? ⟨g, 3, none⟩ = false := H6.out.at_.frozen 3
        have hmw : IntKind.i64.wrap (mt + 1) = mt + 1 := IntWalk.i64_in _ ⟨by omega, by omega⟩
        obtain ⟨h7, s7⟩ := H6.out.number mv6 (mt + 1) 3 (.int .i64 (mt + 1)) rfl
        have H7 := Lib.hid h7
        have S7 := Lib.hid (S6.out.trans s7)
        clear h7 s7 H6 S6
        go_upto_region 13 with fail
        generalize w6.setCell ⟨g, 3, none⟩ (.int .i64 (mt + 1)) = w7 at *
        clear m3 m3f
        have n3 : w7.cell? ⟨g, 3, none⟩ = some (.int .i64 (mt + 1)) := H7.out.at_.cell 3
        have n1 : w7.cell? ⟨g, 1, none⟩ = some (.slice (some ⟨kd, 0, none⟩) ds.length c2) := H7.out.at_.cell 1
        have y2 : w7.cell? ⟨kd, n * 4 + 1, none⟩ = some (.int .i64 ds6[n].last) := H7.out.driveN hN6 (by omega) 1 _ rfl
        have y3 : w7.frozen? ⟨kd, n * 4 + 1, none⟩ = false := H7.out.frozenN hN6 _
        go_region
        obtain ⟨h8, s8⟩ := H7.out.storeN hN6 (by omega : n < ds6.length) (j := 1) (by omega) { ds6[n] with last := mt + 1 } (.int .i64 (mt + 1)) rfl
        have H8 := Lib.hid (h8.below (Below.drew (Below.refl _ _)))
        have S8 := Lib.hid ((S7.out.trans s8).trans (Shift.of_below (Below.drew (Below.refl _ _))))
        clear h8 s8 H7 S7 n3 n1 y2 y3
        go_wp2
        go_ret2
        exact ⟨rfl, by show LibAt _ B g _ _ gs (ds.set n { ds[n] with vol := (vi : Int), last := mt + 1 }) (mv + 1) (mt + 1); rw [HX6.out, HM6.out]; exact H8.out, S8.out⟩
    · rw [if_neg hin]
      obtain ⟨n, hn⟩ : ∃ n : Nat, inF ds (vi : Int) = (n : Int) := ⟨(inF ds (vi : Int)).toNat, by omega⟩
      have hnl : n < ds.length := by omega
      obtain ⟨A2, c2, rfl, hc2, hA2⟩ := row_slice H.out.drow
      obtain ⟨kd, rfl⟩ := hA2 (by omega)
      have hdo : drOf ds (inF ds (vi : Int)) = ds[n] := by unfold drOf; rw [hn, Int.toNat_natCast, List.getD_eq_getElem?_getD, List.getElem?_eq_getElem hnl]; rfl
      rw [hdo, hn, Int.toNat_natCast]
      rw [hn] at HI
      have q3 : ((n : Int) == -1) = false := by simp
      clear hin hIle hNle hdo
      go_enter Tryd.func16, Tryd.ntmps16
      go_wp2_with fail
      refine hH.mono ?_
      rintro e w1 ⟨rfl, rfl⟩
      clear hH
      go_wp2_with fail
      refine HL.out.mono ?_
      rintro e w2 ⟨rfl, rfl⟩
      go_wp2_with fail
      refine HI.out.mono ?_
      rintro e w6 ⟨rfl, hb3⟩
      have H6 := Lib.hid (H.out.below hb3)
      have S6 : Hid (Shift w2 w6 (LFoot g (.slice (some ⟨kd, 0, none⟩) ds.length c2))) := Lib.hid (Shift.of_below hb3)
      clear hb3 z0 z1 HL HI
      obtain ⟨ds6, hd6⟩ : ∃ d, ds = d := ⟨_, rfl⟩
      obtain ⟨mv6, hm6⟩ : ∃ d, mv = d := ⟨_, rfl⟩
      have hN6 : ds6.length = ds.length := by rw [hd6]
      have hx6 := set_once hnl hd6 (mt + 1) (by omega)
      have H6 : Hid (LibAt w6 B g (.slice (some ⟨kv, 0, none⟩) gs.length c1) (.slice (some ⟨kd, 0, none⟩) ds.length c2) gs ds6 mv6 mt) := Lib.hid (by have := H6.out; rw [← hm6]; rw [← hd6]; exact this)
      have HX6 := Lib.hid hx6
      have HM6 := Lib.hid hm6
      clear hx6 hd6 hm6
      go_upto_region 12 with fail
      have m3 : w6.cell? ⟨g, 3, none⟩ = some (.int .i64 mt) := H6.out.at_.cell 3
      have m3f : w6.frozen? ⟨g, 3, none⟩ = false := H6.out.at_.frozen 3
      have hmw : IntKind.i64.wrap (mt + 1) = mt + 1 := IntWalk.i64_in _ ⟨by omega, by omega⟩
      obtain ⟨h7, s7⟩ := H6.out.number mv6 (mt + 1) 3 (.int .i64 (mt + 1)) rfl
      have H7 := Lib.hid h7
      have S7 := Lib.hid (S6.out.trans s7)
      clear h7 s7 H6 S6
      go_upto_region 13 with fail
      generalize w6.setCell ⟨g, 3, none⟩ (.int .i64 (mt + 1)) = w7 at *
      clear m3 m3f
      have n3 : w7.cell? ⟨g, 3, none⟩ = some (.int .i64 (mt + 1)) := H7.out.at_.cell 3
      have n1 : w7.cell? ⟨g, 1, none⟩ = some (.slice (some ⟨kd, 0, none⟩) ds.length c2) := H7.out.at_.cell 1
      have y2 : w7.cell? ⟨kd, n * 4 + 1, none⟩ = some (.int .i64 ds6[n].last) := H7.out.driveN hN6 (by omega) 1 _ rfl
      have y3 : w7.frozen? ⟨kd, n * 4 + 1, none⟩ = false := H7.out.frozenN hN6 _
      go_region
      obtain ⟨h8, s8⟩ := H7.out.storeN hN6 (by omega : n < ds6.length) (j := 1) (by omega) { ds6[n] with last := mt + 1 } (.int .i64 (mt + 1)) rfl
      have H8 := Lib.hid (h8.below (Below.drew (Below.refl _ _)))
      have S8 := Lib.hid ((S7.out.trans s8).trans (Shift.of_below (Below.drew (Below.refl _ _))))
      clear h8 s8 H7 S7 n3 n1 y2 y3
      go_wp2
      go_ret2
      exact ⟨rfl, by show LibAt _ B g _ _ gs (ds.set n { ds[n] with last := mt + 1 }) mv (mt + 1); rw [HX6.out, HM6.out]; exact H8.out, S8.out⟩
  · have hq : (decide ((0 : Int) ≤ v) && decide (v < gs.length)) = false := by
      by_cases h0 : 0 ≤ v
      · have : ¬ v < gs.length := fun e => hv ⟨h0, e⟩
        simp [this]
      · simp [h0]
    rw [hq] at hH
    rw [show mountF gs.length ds mv mt v = ⟨-1, 1, ds, mv, mt⟩ from if_neg hv]
    have H := Lib.hid h
    clear h hv hq hh
    go_enter Tryd.func16, Tryd.ntmps16
    go_wp2_with fail
    refine hH.mono ?_
    rintro e w1 ⟨rfl, rfl⟩
    clear hH
    go_wp2
    go_ret2
    exact ⟨rfl, H.out, Shift.refl _ _⟩
end
end Go.Proofs.YtniecodpdmjppaaDoor

/- library.unused, New: their walks. -/
namespace Go.Proofs.YtniecodpdmjppaaDoor
open Go.RowKit
set_option linter.unusedVariables false
set_option linter.unusedSimpArgs false

set_option maxRecDepth 100000 in
theorem unused_any (b : Bool) (w : World) : Calls Tryd.prog 21 #[.bool b] w fun e w' => e = .returned (.agg (Dr.no b).cells) ∧ Below w.heap.size w w' := by
  have HX := Lib.hid (At.new w 61 #[.int .i64 0, .int .i64 0, .int .i64 0, .bool false])
  have hI4 : (Tryd.prog.info? 61).map (·.size) = some 4 := by kernel_rfl
  have HI4 := Lib.hid hI4
  clear hI4
  go_enter Tryd.func21, Tryd.ntmps21
  go_wp2_with (refine wpList_store_whole rfl 61 _ _ rfl w.heap.size (Dr.no b).cells rfl rfl 61 _ HX.out HI4.out rfl (by simp [Dr.cells, Dr.no, Value.oneCell']) ?_; intro w4 hZ4 hG4; replace hZ4 := Lib.hid hZ4; replace hG4 := Lib.hid hG4)
  have hb4 : Below w.heap.size w w4 := below_of_grownBy ((Below.refl _ w).alloc (Nat.le_refl _) _) hG4.out (by simp) (Nat.le_refl _)
  have HB4 := Lib.hid hb4
  clear hb4
  refine bodyPost_ret (results_cell_row rfl _ _ _ _ _ _ _ rfl (unhid hZ4) Tryd.underlying61 rfl (by kernel_rfl)) rfl ⟨rfl, HB4.out⟩

/-- volumes beside each other: none holds what another one does -/
structure Vols (W : World) (B : Nat) (gs : List Nat) (ss : List VS) : Prop where
  len : gs.length = ss.length
  vol : ∀ i (h : i < gs.length) (h2 : i < ss.length), Vol W B gs[i] ss[i]
  apart : ∀ i j (hi : i < gs.length) (hj : j < gs.length), i ≠ j → gs[i] ≠ gs[j] ∧ ∀ k, rowOf W gs[i] = some k → rowOf W gs[j] ≠ some k
section
variable {W W' : World} {B : Nat} {gs : List Nat} {ss : List VS}
theorem Vol.kindV {g : Nat} {s : VS} (x : Vol W B g s) : ∃ cs, At W g 51 cs := by
  obtain ⟨ok, v, hv⟩ := x
  exact ⟨_, hv.at_⟩
theorem Vol.kindR {g : Nat} {s : VS} (x : Vol W B g s) {k : Nat} (hk : rowOf W g = some k) : B ≤ k ∧ ∃ cur, At W k 101 cur := by
  obtain ⟨ok, v, hv⟩ := x
  rw [hv.rowEq] at hk
  exact ⟨(hv.row_lt k hk).1, row_at hv.row hk⟩
theorem Vol.less {g : Nat} {s : VS} {B' : Nat} (x : Vol W B g s) (hB : B' ≤ B) : Vol W B' g s := by
  obtain ⟨ok, v, hv⟩ := x
  exact ⟨ok, v, hv.at_, ⟨hv.row.1, hv.row.2.imp id fun ⟨k, cap, cur, h1, h2, h3⟩ => ⟨k, cap, cur, h1, Nat.le_trans hB h2, h3⟩⟩, Nat.le_trans hB hv.gB⟩
theorem Vol.gB {g : Nat} {s : VS} (x : Vol W B g s) : B ≤ g := by obtain ⟨ok, v, hv⟩ := x; exact hv.gB
theorem rowOf_same {g : Nat} (h : W'.heap[g]? = W.heap[g]?) : rowOf W' g = rowOf W g := by unfold rowOf; rw [World.cell?_of_block h]
theorem Vols.keep (h : Vols W B gs ss) (hk : ∀ k, ((∃ cs, At W k 51 cs) ∨ ∃ cs, At W k 101 cs) → W'.heap[k]? = W.heap[k]?) : Vols W' B gs ss := by
  have h1 : ∀ i (hi : i < gs.length), W'.heap[gs[i]]? = W.heap[gs[i]]? := fun i hi => hk _ (.inl (h.vol i hi (by rw [← h.len]; exact hi)).kindV)
  refine ⟨h.len, fun i hi h2 => ?_, fun i j hi hj hne => ⟨(h.apart i j hi hj hne).1, fun k e => ?_⟩⟩
  · obtain ⟨ok, v, hv⟩ := h.vol i hi h2
    exact ⟨ok, v, hv.of_block (h1 i hi) fun k hk2 => hk k (.inr (row_at hv.row hk2))⟩
  · rw [rowOf_same (h1 i hi)] at e
    rw [rowOf_same (h1 j hj)]
    exact (h.apart i j hi hj hne).2 k e
theorem Vols.below (h : Vols W B gs ss) (hb : Below W.heap.size W W') : Vols W' B gs ss := h.keep fun k hk => by
  rcases hk with ⟨cs, hc⟩ | ⟨cs, hc⟩ <;> exact hb.block k hc.lt
theorem Vols.less {B' : Nat} (h : Vols W B gs ss) (hB : B' ≤ B) : Vols W B' gs ss := ⟨h.len, fun i hi h2 => (h.vol i hi h2).less hB, h.apart⟩
theorem Vols.nil (W : World) (B : Nat) : Vols W B [] [] := ⟨rfl, fun i h => absurd h (Nat.not_lt_zero _), fun i j h => absurd h (Nat.not_lt_zero _)⟩
/-- one more is made -/
theorem Vols.made {g : Nat} {s : VS} (h : Vols W B gs ss) (hBW : B ≤ W.heap.size) (hv : Vol W' W.heap.size g s) (hb : Below W.heap.size W W') : Vols W' B (gs ++ [g]) (ss ++ [s]) := by
  have h' := h.below hb
  have hold : ∀ i (hi : i < gs.length), gs[i] < W.heap.size ∧ ∀ k, rowOf W' gs[i] = some k → k < W.heap.size := fun i hi => by
    have hvi := h.vol i hi (by rw [← h.len]; exact hi)
    obtain ⟨cs, hc⟩ := hvi.kindV
    refine ⟨hc.lt, fun k e => ?_⟩
    rw [rowOf_same (hb.block _ hc.lt)] at e
    obtain ⟨_, cur, hcu⟩ := hvi.kindR e
    exact hcu.lt
  refine ⟨by rw [List.length_append, List.length_append, h.len]; rfl, fun i hi h2 => ?_, fun i j hi hj hne => ?_⟩
  · by_cases e : i < gs.length
    · rw [List.getElem_append_left e, List.getElem_append_left (by rw [← h.len]; exact e)]
      exact h'.vol i e _
    · have e1 : i = gs.length := by rw [List.length_append] at hi; simp at hi; omega
      subst e1
      rw [List.getElem_append_right (Nat.le_refl _), List.getElem_append_right (by rw [h.len]; exact Nat.le_refl _)]
      simp only [h.len, Nat.sub_self, List.getElem_cons_zero]
      exact hv.less hBW
  · rw [List.length_append] at hi hj
    simp at hi hj
    by_cases e : i < gs.length
    · by_cases e2 : j < gs.length
      · rw [List.getElem_append_left e, List.getElem_append_left e2]
        exact h'.apart i j e e2 hne
      · have e3 : j = gs.length := by omega
        subst e3
        rw [List.getElem_append_left e, List.getElem_append_right (Nat.le_refl _)]
        simp only [Nat.sub_self, List.getElem_cons_zero]
        obtain ⟨a1, a2⟩ := hold i e
        refine ⟨by have := hv.gB; omega, fun k e4 e5 => ?_⟩
        have := a2 k e4
        have := (hv.kindR e5).1
        omega
    · have e3 : i = gs.length := by omega
      subst e3
      have e2 : j < gs.length := by omega
      rw [List.getElem_append_left e2, List.getElem_append_right (Nat.le_refl _)]
      simp only [Nat.sub_self, List.getElem_cons_zero]
      obtain ⟨a1, a2⟩ := hold j e2
      refine ⟨by have := hv.gB; omega, fun k e4 e5 => ?_⟩
      have := a2 k e5
      have := (hv.kindR e4).1
      omega
/-- something is done with one of them -/
theorem Vols.step (h : Vols W B gs ss) {i : Nat} (hi : i < gs.length) {s' : VS} (hv : Vol W' B gs[i] s') (hst : Stay B gs[i] W W') : Vols W' B gs (ss.set i s') := by
  have hvi := h.vol i hi (by rw [← h.len]; exact hi)
  obtain ⟨cg, hg⟩ := hvi.kindV
  obtain ⟨f1, f2⟩ := hst.foot hg.lt
  have other : ∀ j (hj : j < gs.length), j ≠ i → W'.heap[gs[j]]? = W.heap[gs[j]]? ∧ Vol W' B gs[j] (ss[j]'(by rw [← h.len]; exact hj)) := fun j hj hne => by
    have hvj := h.vol j hj (by rw [← h.len]; exact hj)
    obtain ⟨ch, hh⟩ := hvj.kindV
    have n1 : rowOf W gs[i] ≠ some gs[j] := fun e => by
      obtain ⟨_, cur, hc⟩ := hvi.kindR e
      exact At.differ hc hh (by decide) rfl
    have e1 : W'.heap[gs[j]]? = W.heap[gs[j]]? := f1 _ hh.lt (h.apart j i hj hi hne).1 n1
    refine ⟨e1, ?_⟩
    obtain ⟨ok, v, hvb⟩ := hvj
    refine ⟨ok, v, hvb.of_block e1 fun k hk => ?_⟩
    have hk' : rowOf W gs[j] = some k := by rw [hvb.rowEq]; exact hk
    obtain ⟨cur, hc⟩ := row_at hvb.row hk
    exact f1 k hc.lt (fun e => by subst e; exact At.differ hc hg (by decide) rfl) (fun e => (h.apart i j hi hj (Ne.symm hne)).2 k e hk')
  refine ⟨by rw [List.length_set]; exact h.len, fun j hj h2 => ?_, fun a b ha hb hab => ⟨(h.apart a b ha hb hab).1, fun k h1 h2 => ?_⟩⟩
  · rw [List.getElem_set]
    split
    · rename_i e
      subst e
      exact hv
    · rename_i e
      exact (other j hj (Ne.symm e)).2
  · by_cases ea : a = i
    · subst ea
      rw [rowOf_same (other b hb (Ne.symm hab)).1] at h2
      rcases f2 k h1 with h3 | h3
      · exact (h.apart a b ha hb hab).2 k h3 h2
      · obtain ⟨_, cur, hc⟩ := (h.vol b hb (by rw [← h.len]; exact hb)).kindR h2
        have := hc.lt
        omega
    · rw [rowOf_same (other a ha ea).1] at h1
      by_cases eb : b = i
      · subst eb
        rcases f2 k h2 with h3 | h3
        · exact (h.apart a b ha hb hab).2 k h1 h3
        · obtain ⟨_, cur, hc⟩ := (h.vol a ha (by rw [← h.len]; exact ha)).kindR h1
          have := hc.lt
          omega
      · rw [rowOf_same (other b hb eb).1] at h2
        exact (h.apart a b ha hb hab).2 k h1 h2
theorem Vols.here (h : Vols W B gs ss) (hl : ∀ s ∈ ss, s.lo = false) : Here W gs := fun i hi => ⟨B, _, h.vol i hi (by rw [← h.len]; exact hi), hl _ (List.getElem_mem _)⟩
/-- the library's own blocks are written -/
theorem Vols.lib {g : Nat} {v1 v2 : Value} {gs' : List Nat} {ds : List Dr} {mv mt : Int} {C : Nat} (h : Vols W B gs ss) (hl : LibAt W C g v1 v2 gs' ds mv mt) (hm : Shift W W' (LFoot g v2)) : Vols W' B gs ss := h.keep fun k hk => by
  have hlt : k < W.heap.size := by rcases hk with ⟨cs, hc⟩ | ⟨cs, hc⟩ <;> exact hc.lt
  refine hm.block k hlt fun e => ?_
  rcases hl.foot_kind e with ⟨cs, hc⟩ | ⟨cs, hc⟩ <;> rcases hk with ⟨cs2, hc2⟩ | ⟨cs2, hc2⟩ <;> exact At.differ hc2 hc (by decide) rfl
end
end Go.Proofs.YtniecodpdmjppaaDoor

/- library.New: its walk. Written by gen_lge.py. -/
namespace Go.Proofs.YtniecodpdmjppaaDoor
open Go.RowKit
set_option linter.unusedVariables false
set_option linter.unusedSimpArgs false

theorem info_pvol : (Tryd.prog.info? 40).map (fun i => (i.zero, i.size, i.bytes)) = some (some (.pointer none), 1, 8) := by kernel_rfl
theorem info_drive : (Tryd.prog.info? 61).map (fun i => (i.zero, i.size, i.bytes)) = some (some (.agg #[.int .i64 0, .int .i64 0, .int .i64 0, .bool false]), 4, 32) := by kernel_rfl
theorem ptrs_append (a b : List Nat) : ptrs (a ++ b) = ptrs a ++ ptrs b := by unfold ptrs; rw [List.map_append]
theorem ptrs_len (a : List Nat) : (ptrs a).length = a.length := by unfold ptrs; simp

/-- the rooms of the new volumes -/
def freshOf (l : List Int) : List VS := l.map fun r => VS.new (max r 0)
theorem freshOf_next {l : List Int} {k : Nat} (h : k < l.length) : freshOf (l.take (k + 1)) = freshOf (l.take k) ++ [VS.new (max l[k] 0)] := by
  unfold freshOf
  rw [List.take_succ_eq_append_getElem h, List.map_append]
  rfl
section
variable {w w' w'' : World} {B g : Nat} {v1 v2 : Value} {gs : List Nat} {ds : List Dr} {mv mt : Int}
/-- a volume more -/
theorem LibAt.moreV {v1' : Value} {gv : Nat} (h : LibAt w B g v1 v2 gs ds mv mt) (hg : w.grownBy w' v1.ownBlock) (ho : w'.ownsRow B 40 1 v1' (gs.length + 1) (ptrs gs ++ [.pointer (some ⟨gv, 0, none⟩)])) :
    LibAt (w'.setCell ⟨g, 0, none⟩ v1') B g v1' v2 (gs ++ [gv]) ds mv mt := by
  have n1 : v1.ownBlock ≠ some g := h.ne_vrow.1
  have hat : At w' g 59 #[v1, v2, .int .i64 mv, .int .i64 mt] := h.at_.grown hg (Ne.symm n1)
  refine ⟨hat.set 0 v1', ?_, ?_, h.gB⟩
  · rw [List.length_append, ptrs_append]
    refine row_keep ho fun k hk => far_heap w' g 0 v1' fun e => ?_
    subst e
    obtain ⟨cur, hc⟩ := row_at ho hk
    exact At.differ hat hc (by decide) rfl
  · refine row_keep h.drow fun k hk => ?_
    obtain ⟨n2, n3⟩ := h.ne_row hk
    rw [far_heap w' g 0 v1' n2]
    exact hg.block k (h.drow.lt k hk).2 (Ne.symm n3)
/-- a drive more -/
theorem LibAt.moreD {v2' : Value} {d : Dr} (h : LibAt w B g v1 v2 gs ds mv mt) (hg : w.grownBy w' v2.ownBlock) (ho : w'.ownsRow B 61 4 v2' (ds.length + 1) (drCells ds ++ d.cells.toList)) :
    LibAt (w'.setCell ⟨g, 1, none⟩ v2') B g v1 v2' gs (ds ++ [d]) mv mt := by
  have n1 : v2.ownBlock ≠ some g := h.ne_vrow.2
  have hat : At w' g 59 #[v1, v2, .int .i64 mv, .int .i64 mt] := h.at_.grown hg (Ne.symm n1)
  refine ⟨hat.set 1 v2', ?_, ?_, h.gB⟩
  · refine row_keep h.vrow fun k hk => ?_
    have n2 : k ≠ g := fun e => h.ne_vrow.1 (by rw [← e]; exact hk)
    rw [far_heap w' g 1 v2' n2]
    exact hg.block k (h.vrow.lt k hk).2 fun e => (h.ne_row e.symm).2 hk
  · rw [List.length_append, drCells_append]
    refine row_keep (by rw [show drCells [d] = d.cells.toList from List.append_nil _]; exact ho) fun k hk => far_heap w' g 1 v2' fun e => ?_
    subst e
    obtain ⟨cur, hc⟩ := row_at ho hk
    exact At.differ hat hc (by decide) rfl
theorem Vols.row {ss : List VS} {C n z : Nat} {e : TypeId} {v : Value} {xs : List Value} (h : Vols w B gs ss) (hr : w.ownsRow C e z v n xs) (h1 : e ≠ 51) (h2 : e ≠ 101) (hg : w.grownBy w' v.ownBlock) : Vols w' B gs ss := h.keep fun k hk => by
  have hlt : k < w.heap.size := by rcases hk with ⟨cs, hc⟩ | ⟨cs, hc⟩ <;> exact hc.lt
  refine hg.block k hlt fun e2 => ?_
  obtain ⟨cur, hc⟩ := row_at hr e2.symm
  rcases hk with ⟨cs2, hc2⟩ | ⟨cs2, hc2⟩
  · exact At.differ hc hc2 h1 rfl
  · exact At.differ hc hc2 h2 rfl
theorem Vols.cell {ss : List VS} {gl i : Nat} {cs : Array Value} (h : Vols w B gs ss) (hl : At w gl 59 cs) (u : Value) : Vols (w.setCell ⟨gl, i, none⟩ u) B gs ss := h.keep fun k hk => far_heap w gl i u fun e => by
  subst e
  rcases hk with ⟨cs2, hc2⟩ | ⟨cs2, hc2⟩ <;> exact At.differ hl hc2 (by decide) rfl
end

theorem grown_cell (w : World) (k i : Nat) (u : Value) : w.grownBy (w.setCell ⟨k, i, none⟩ u) (some k) := ⟨rfl, rfl, rfl, by simp [World.setCell], fun j hj hne => far_heap w k i u fun e => hne (by rw [e])⟩
set_option maxRecDepth 100000 in
set_option maxHeartbeats 4000000 in
theorem newlib_any (A : Option Addr) (c : Nat) (l : List Int) (nd : Int) (w : World) (hL : Lies w w.heap.size A (ints l)) (hl : ∀ x ∈ l, x ≤ 9223372036854775807) (hlen : l.length ≤ 1000) (k3 : Nat) (hk3 : max 0 (min nd 3) = (k3 : Int)) :
    Calls Tryd.prog 6 #[.slice A l.length c, .int .i64 nd] w fun e w' => ∃ g v1 v2 gs, e = .returned (.pointer (some ⟨g, 0, none⟩)) ∧ LibAt w' w.heap.size g v1 v2 gs (List.replicate k3 (Dr.no false)) 0 0 ∧ Vols w' w.heap.size gs (freshOf l) ∧ Below w.heap.size w w' := by
  obtain ⟨i0, hie, hz0, hz1, hz2⟩ := info_parts info_pvol
  obtain ⟨j0, jie, jz0, jz1, jz2⟩ := info_parts info_drive
  have HIE := Lib.hid hie
  have HZ0 := Lib.hid hz0
  have HZ1 := Lib.hid hz1
  have HZ2 := Lib.hid hz2
  have JIE := Lib.hid jie
  have JZ0 := Lib.hid jz0
  have JZ1 := Lib.hid jz1
  have JZ2 := Lib.hid jz2
  clear hie hz0 hz1 hz2 jie jz0 jz1 jz2
  obtain ⟨B, hB⟩ : ∃ B, w.heap.size = B := ⟨_, rfl⟩
  rw [hB] at hL ⊢
  have HL := Lib.hid hL
  clear hL
  have hk33 : k3 ≤ 3 := by omega
  go_enter Tryd.func6, Tryd.ntmps6
  go_upto_region 2 with fail
  have hl0 : LibAt (w.alloc (.cells #[.slice none 0 0, .slice none 0 0, .int .i64 0, .int .i64 0] 59)) B B (.slice none 0 0) (.slice none 0 0) [] [] 0 0 :=
    ⟨by rw [← hB]; exact At.new w _ _, World.ownsRow_nil _ _ _ _, World.ownsRow_nil _ _ _ _, Nat.le_refl _⟩
  have hb0 : Below B w (w.alloc (.cells #[.slice none 0 0, .slice none 0 0, .int .i64 0, .int .i64 0] 59)) := by rw [← hB]; exact (Below.refl _ w).alloc (Nat.le_refl _) _
  have hs0 : (w.alloc (.cells #[.slice none 0 0, .slice none 0 0, .int .i64 0, .int .i64 0] 59)).heap.size = B + 1 := by rw [← hB]; simp
  have HL0 := Lib.hid hl0
  have HB0 := Lib.hid hb0
  have hs1 : B ≤ (w.alloc (.cells #[.slice none 0 0, .slice none 0 0, .int .i64 0, .int .i64 0] 59)).heap.size := by omega
  have HVV := Lib.hid (Vols.nil (w.alloc (.cells #[.slice none 0 0, .slice none 0 0, .int .i64 0, .int .i64 0] 59)) B)
  clear hl0 hb0 hs0
  try rw [hB]
  generalize w.alloc (.cells #[.slice none 0 0, .slice none 0 0, .int .i64 0, .int .i64 0] 59) = w1 at *
  go_wp2
  go_loopw [12] (fun i wr => ∃ (k : Nat) (v1 : Value) (gs : List Nat), k ≤ l.length ∧ gs.length = k ∧ i = .int .i64 (k : Int) ∧ Hid (LibAt wr B B v1 (.slice none 0 0) gs [] 0 0) ∧ Hid (Vols wr B gs (freshOf (l.take k))) ∧ Hid (Below B w wr))
    (fun i _ => l.length - (intOf i).toNat)
  case atStart => exact ⟨0, _, [], by omega, rfl, rfl, HL0, HVV, HB0⟩
  case round =>
    clear HL0 HVV HB0
    obtain ⟨k, v1, gs, hk, hgs, rfl, HLB, HVS, HB⟩ := hrel
    have hwB : B ≤ wr.heap.size := by have := HB.out.size; omega
    by_cases hlt : k < l.length
    · have q0 : decide ((k : Int) < (l.length : Int)) = true := by simpa using hlt
      obtain ⟨ad, rfl, hadB, hc⟩ := (HL.out.below HB.out).round (k := k) (by simpa [ints] using hlt)
      have hval : ((ints l)[k]'(by simpa [ints] using hlt)) = .int .i64 (l[k]) := by simp [ints]
      rw [hval] at hc
      have hx := hl _ (List.getElem_mem hlt)
      have hfn := freshOf_next hlt
      clear hval
      generalize l[k] = x at *
      have hN := fun W => new_vol x (max x 0) hx rfl W
      have c0 : wr.cell? ⟨B, 0, none⟩ = some v1 := HLB.out.at_.cell 0
      have c0d : wr.drew.cell? ⟨B, 0, none⟩ = some v1 := HLB.out.at_.cell 0
      have HN := Lib.hid hN
      have HFN := Lib.hid hfn
      clear hN hfn
      go_upto_region 5 with fail
      go_region_law (first
        | (refine step_append_lies _ (by rfl) _ _ _ (by rfl) B 40 i0 _ 1 8 Tryd.underlying56 HIE.out HZ0.out HZ1.out HZ2.out rfl (by omega) v1 gs.length (ptrs gs) (by rfl) (h4.vrow.alloc _)
              ⟨w4.heap.size, 0, none⟩ 1 1 [.pointer (some ⟨gv, 0, none⟩)] (by rfl) (by rfl) (World.news_of_block (cs := #[.pointer (some ⟨gv, 0, none⟩)]) (t := 40) (fr := (0, 0)) (heap_alloc_new w4 _)) (by simp [Value.oneCell'])
              (by omega) (by unfold maxLen; omega) (by omega) (by simp; omega) (w4.heap.size + 1) (by simp) ?_; intro gg cap w5 hown hgrow hat hlt5; have hgr5 : (w4.alloc (.cells #[.pointer (some ⟨gv, 0, none⟩)] 40)).grownBy w5 v1.ownBlock := ⟨hgrow.os, hgrow.tape, hgrow.output, hgrow.size, hgrow.block⟩; have hA5 := (h4.at_.alloc (.cells #[.pointer (some ⟨gv, 0, none⟩)] 40)).grown hgr5 (Ne.symm h4.ne_vrow.1); have q5 : w5.cell? ⟨B, 0, none⟩ = some v1 := hA5.cell 0; have qf : w5.frozen? ⟨B, 0, none⟩ = false := hA5.frozen 0)
        | (go_simp; go_wp2_with (go_at_call 20; refine (HN.out _).mono ?_; rintro e w4 ⟨gv, rfl, hv4, hb4⟩; have h4 : LibAt w4 B B v1 (.slice none 0 0) gs [] 0 0 := HLB.out.below ⟨hb4.os, hb4.tape, hb4.output, hb4.size, hb4.block⟩; have c4 : w4.cell? ⟨B, 0, none⟩ = some v1 := h4.at_.cell 0; have c4a : ∀ o, (w4.alloc o).cell? ⟨B, 0, none⟩ = some v1 := fun o => (h4.at_.alloc o).cell 0; have hs4 : B ≤ w4.heap.size := Nat.le_trans hwB hb4.size)))
      all_goals
        have hb4' : Below wr.heap.size wr w4 := ⟨hb4.os, hb4.tape, hb4.output, hb4.size, hb4.block⟩
        have hV4 := HVS.out.made hwB hv4 hb4'
        have hV5 := (hV4.below ((Below.refl _ w4).alloc (Nat.le_refl _) (.cells #[.pointer (some ⟨gv, 0, none⟩)] 40))).row (h4.vrow.alloc _) (by decide) (by decide) hgr5
        have hL6 := (h4.below ((Below.refl _ w4).alloc (Nat.le_refl _) (.cells #[.pointer (some ⟨gv, 0, none⟩)] 40))).moreV hgr5 hown
        have hV6 := hV5.cell (i := 0) hA5 (.slice (some ⟨gg, 0, none⟩) (gs.length + 1) cap)
        have hb5 : Below B w w5 := ((HB.out.trans (hb4'.mono hwB)).alloc hs4 (.cells #[.pointer (some ⟨gv, 0, none⟩)] 40)).grown hgr5 (by simp; omega) fun k hk => (h4.vrow.lt k hk).1
        have hb6 := below_of_grownBy hb5 (grown_cell w5 B 0 (.slice (some ⟨gg, 0, none⟩) (gs.length + 1) cap)) (Nat.le_trans hs4 (by have := hgr5.size; simp at this; omega)) (Nat.le_refl _)
        rw [hgs] at hL6 hV6 hb6
        rw [← HFN.out] at hV6
        have HL6 := Lib.hid hL6
        have HV6 := Lib.hid hV6
        have HB6 := Lib.hid hb6
        clear hb4' hV4 hV5 hL6 hV6 hb5 hb6 hgr5 hA5 h4 hown hgrow hat hlt5 q5 qf hv4 hb4 HLB HVS HB HN HFN c0 c0d c4 c4a
        go_wp2
        go_roundw
        case rel => exact ⟨k + 1, _, gs ++ [gv], by omega, by rw [List.length_append, hgs]; rfl, by go_num, HL6, HV6, HB6⟩
        case measure => simp [intOf] <;> omega
    · have q0 : decide ((k : Int) < (l.length : Int)) = false := by simpa using hlt
      obtain rfl : k = l.length := by omega
      rw [List.take_length] at HVS
      have HJ0 : Hid (LibAt wr B B v1 (.slice none 0 0) gs (List.replicate 0 (Dr.no false)) 0 0) := HLB
      clear HLB
      go_upto_region 8 with fail
      · have e3 : (k3 : Int) = 3 := by omega
        go_loopw [31] (fun i wq => ∃ (j : Nat) (v2 : Value), j ≤ k3 ∧ i = .int .i64 (j : Int) ∧ Hid (LibAt wq B B v1 v2 gs (List.replicate j (Dr.no false)) 0 0) ∧ Hid (Vols wq B gs (freshOf l)) ∧ Hid (Below B w wq))
          (fun i _ => k3 - (intOf i).toNat)
        case atStart => exact ⟨0, _, by omega, rfl, HJ0, HVS, HB⟩
        case round =>
          clear HJ0 HVS HB
          obtain ⟨j, v2, hj, rfl, HLB, HVS, HB⟩ := hrel
          have hwB : B ≤ wr.heap.size := by have := HB.out.size; omega
          by_cases hjt : j < k3
          · have q1 : decide ((j : Int) < 3) = true := by simp <;> omega
            obtain ⟨D, hD⟩ : ∃ D, List.replicate j (Dr.no false) = D := ⟨_, rfl⟩
            have hDl : D.length = j := by rw [← hD]; simp
            have hD1 : List.replicate (j + 1) (Dr.no false) = D ++ [Dr.no false] := by rw [← hD, List.replicate_succ']
            rw [hD] at HLB
            have HD1 := Lib.hid hD1
            clear hD hD1
            have c0 : wr.cell? ⟨B, 1, none⟩ = some v2 := HLB.out.at_.cell 1
            have c0d : wr.drew.cell? ⟨B, 1, none⟩ = some v2 := HLB.out.at_.cell 1
            have hU : ∀ W, Calls Tryd.prog 21 #[.bool false] W fun e w' => e = .returned (.agg #[.int .i64 (-1), .int .i64 0, .int .i64 0, .bool false]) ∧ Below W.heap.size W w' := fun W => unused_any false W
            have HU := Lib.hid hU
            clear hU
            go_upto_region 9 with fail
            go_region_law (first
              | (refine step_append_lies _ (by rfl) _ _ _ (by rfl) B 61 j0 _ 4 32 Tryd.underlying57 JIE.out JZ0.out JZ1.out JZ2.out rfl (by omega) v2 D.length (drCells D) (by rfl) (h4.drow.alloc _)
                    ⟨w4.heap.size, 0, none⟩ 1 1 [.int .i64 (-1), .int .i64 0, .int .i64 0, .bool false] (by rfl) (by rfl) (World.news_of_block (cs := #[.int .i64 (-1), .int .i64 0, .int .i64 0, .bool false]) (t := 61) (fr := (0, 0)) (heap_alloc_new w4 _)) (by simp [Value.oneCell'])
                    (by omega) (by unfold maxLen; omega) (by omega) (by simp; omega) (w4.heap.size + 1) (by simp) ?_; intro gg cap w5 hown hgrow hat hlt5; have hgr5 : (w4.alloc (.cells #[.int .i64 (-1), .int .i64 0, .int .i64 0, .bool false] 61)).grownBy w5 v2.ownBlock := ⟨hgrow.os, hgrow.tape, hgrow.output, hgrow.size, hgrow.block⟩; have hA5 := (h4.at_.alloc (.cells #[.int .i64 (-1), .int .i64 0, .int .i64 0, .bool false] 61)).grown hgr5 (Ne.symm h4.ne_vrow.2); have q5 : w5.cell? ⟨B, 1, none⟩ = some v2 := hA5.cell 1; have qf : w5.frozen? ⟨B, 1, none⟩ = false := hA5.frozen 1)
              | (go_simp; go_wp2_with (go_at_call 21; refine (HU.out _).mono ?_; rintro e w4 ⟨rfl, hb4⟩; have h4 : LibAt w4 B B v1 v2 gs D 0 0 := HLB.out.below ⟨hb4.os, hb4.tape, hb4.output, hb4.size, hb4.block⟩; have c4 : w4.cell? ⟨B, 1, none⟩ = some v2 := h4.at_.cell 1; have c4a : ∀ o, (w4.alloc o).cell? ⟨B, 1, none⟩ = some v2 := fun o => (h4.at_.alloc o).cell 1; have hs4 : B ≤ w4.heap.size := Nat.le_trans hwB hb4.size)))
            all_goals
              have hb4' : Below wr.heap.size wr w4 := ⟨hb4.os, hb4.tape, hb4.output, hb4.size, hb4.block⟩
              have hV4 := HVS.out.below hb4'
              have hV5 := (hV4.below ((Below.refl _ w4).alloc (Nat.le_refl _) (.cells #[.int .i64 (-1), .int .i64 0, .int .i64 0, .bool false] 61))).row (h4.drow.alloc _) (by decide) (by decide) hgr5
              have hL6 := (h4.below ((Below.refl _ w4).alloc (Nat.le_refl _) (.cells #[.int .i64 (-1), .int .i64 0, .int .i64 0, .bool false] 61))).moreD (d := Dr.no false) hgr5 hown
              have hV6 := hV5.cell (i := 1) hA5 (.slice (some ⟨gg, 0, none⟩) (D.length + 1) cap)
              have hb5 : Below B w w5 := ((HB.out.trans (hb4'.mono hwB)).alloc hs4 (.cells #[.int .i64 (-1), .int .i64 0, .int .i64 0, .bool false] 61)).grown hgr5 (by simp; omega) fun k hk => (h4.drow.lt k hk).1
              have hb6 := below_of_grownBy hb5 (grown_cell w5 B 1 (.slice (some ⟨gg, 0, none⟩) (D.length + 1) cap)) (Nat.le_trans hs4 (by have := hgr5.size; simp at this; omega)) (Nat.le_refl _)
              rw [hDl] at hL6 hV6 hb6
              rw [← HD1.out] at hL6
              have HL6 := Lib.hid hL6
              have HV6 := Lib.hid hV6
              have HB6 := Lib.hid hb6
              clear hb4' hV4 hV5 hL6 hV6 hb5 hb6 hgr5 hA5 h4 hown hgrow hat hlt5 q5 qf hb4 HLB HVS HB HU HD1 c0 c0d c4 c4a
              go_wp2
              go_roundw
              case rel => exact ⟨j + 1, _, by omega, by go_num, HL6, HV6, HB6⟩
              case measure => simp [intOf] <;> omega
          · have q1 : decide ((j : Int) < 3) = false := by simp <;> omega
            obtain rfl : j = k3 := by omega
            go_wp2
            go_ret
            exact ⟨B, v1, v2, gs, rfl, HLB.out, HVS.out, HB.out⟩
      · have e3 : (k3 : Int) = nd := by omega
        go_loopw [31] (fun i wq => ∃ (j : Nat) (v2 : Value), j ≤ k3 ∧ i = .int .i64 (j : Int) ∧ Hid (LibAt wq B B v1 v2 gs (List.replicate j (Dr.no false)) 0 0) ∧ Hid (Vols wq B gs (freshOf l)) ∧ Hid (Below B w wq))
          (fun i _ => k3 - (intOf i).toNat)
        case atStart => exact ⟨0, _, by omega, rfl, HJ0, HVS, HB⟩
        case round =>
          clear HJ0 HVS HB
          obtain ⟨j, v2, hj, rfl, HLB, HVS, HB⟩ := hrel
          have hwB : B ≤ wr.heap.size := by have := HB.out.size; omega
          by_cases hjt : j < k3
          · have q1 : decide ((j : Int) < nd) = true := by simp <;> omega
            obtain ⟨D, hD⟩ : ∃ D, List.replicate j (Dr.no false) = D := ⟨_, rfl⟩
            have hDl : D.length = j := by rw [← hD]; simp
            have hD1 : List.replicate (j + 1) (Dr.no false) = D ++ [Dr.no false] := by rw [← hD, List.replicate_succ']
            rw [hD] at HLB
            have HD1 := Lib.hid hD1
            clear hD hD1
            have c0 : wr.cell? ⟨B, 1, none⟩ = some v2 := HLB.out.at_.cell 1
            have c0d : wr.drew.cell? ⟨B, 1, none⟩ = some v2 := HLB.out.at_.cell 1
            have hU : ∀ W, Calls Tryd.prog 21 #[.bool false] W fun e w' => e = .returned (.agg #[.int .i64 (-1), .int .i64 0, .int .i64 0, .bool false]) ∧ Below W.heap.size W w' := fun W => unused_any false W
            have HU := Lib.hid hU
            clear hU
            go_upto_region 9 with fail
            go_region_law (first
              | (refine step_append_lies _ (by rfl) _ _ _ (by rfl) B 61 j0 _ 4 32 Tryd.underlying57 JIE.out JZ0.out JZ1.out JZ2.out rfl (by omega) v2 D.length (drCells D) (by rfl) (h4.drow.alloc _)
                    ⟨w4.heap.size, 0, none⟩ 1 1 [.int .i64 (-1), .int .i64 0, .int .i64 0, .bool false] (by rfl) (by rfl) (World.news_of_block (cs := #[.int .i64 (-1), .int .i64 0, .int .i64 0, .bool false]) (t := 61) (fr := (0, 0)) (heap_alloc_new w4 _)) (by simp [Value.oneCell'])
                    (by omega) (by unfold maxLen; omega) (by omega) (by simp; omega) (w4.heap.size + 1) (by simp) ?_; intro gg cap w5 hown hgrow hat hlt5; have hgr5 : (w4.alloc (.cells #[.int .i64 (-1), .int .i64 0, .int .i64 0, .bool false] 61)).grownBy w5 v2.ownBlock := ⟨hgrow.os, hgrow.tape, hgrow.output, hgrow.size, hgrow.block⟩; have hA5 := (h4.at_.alloc (.cells #[.int .i64 (-1), .int .i64 0, .int .i64 0, .bool false] 61)).grown hgr5 (Ne.symm h4.ne_vrow.2); have q5 : w5.cell? ⟨B, 1, none⟩ = some v2 := hA5.cell 1; have qf : w5.frozen? ⟨B, 1, none⟩ = false := hA5.frozen 1)
              | (go_simp; go_wp2_with (go_at_call 21; refine (HU.out _).mono ?_; rintro e w4 ⟨rfl, hb4⟩; have h4 : LibAt w4 B B v1 v2 gs D 0 0 := HLB.out.below ⟨hb4.os, hb4.tape, hb4.output, hb4.size, hb4.block⟩; have c4 : w4.cell? ⟨B, 1, none⟩ = some v2 := h4.at_.cell 1; have c4a : ∀ o, (w4.alloc o).cell? ⟨B, 1, none⟩ = some v2 := fun o => (h4.at_.alloc o).cell 1; have hs4 : B ≤ w4.heap.size := Nat.le_trans hwB hb4.size)))
            all_goals
              have hb4' : Below wr.heap.size wr w4 := ⟨hb4.os, hb4.tape, hb4.output, hb4.size, hb4.block⟩
              have hV4 := HVS.out.below hb4'
              have hV5 := (hV4.below ((Below.refl _ w4).alloc (Nat.le_refl _) (.cells #[.int .i64 (-1), .int .i64 0, .int .i64 0, .bool false] 61))).row (h4.drow.alloc _) (by decide) (by decide) hgr5
              have hL6 := (h4.below ((Below.refl _ w4).alloc (Nat.le_refl _) (.cells #[.int .i64 (-1), .int .i64 0, .int .i64 0, .bool false] 61))).moreD (d := Dr.no false) hgr5 hown
              have hV6 := hV5.cell (i := 1) hA5 (.slice (some ⟨gg, 0, none⟩) (D.length + 1) cap)
              have hb5 : Below B w w5 := ((HB.out.trans (hb4'.mono hwB)).alloc hs4 (.cells #[.int .i64 (-1), .int .i64 0, .int .i64 0, .bool false] 61)).grown hgr5 (by simp; omega) fun k hk => (h4.drow.lt k hk).1
              have hb6 := below_of_grownBy hb5 (grown_cell w5 B 1 (.slice (some ⟨gg, 0, none⟩) (D.length + 1) cap)) (Nat.le_trans hs4 (by have := hgr5.size; simp at this; omega)) (Nat.le_refl _)
              rw [hDl] at hL6 hV6 hb6
              rw [← HD1.out] at hL6
              have HL6 := Lib.hid hL6
              have HV6 := Lib.hid hV6
              have HB6 := Lib.hid hb6
              clear hb4' hV4 hV5 hL6 hV6 hb5 hb6 hgr5 hA5 h4 hown hgrow hat hlt5 q5 qf hb4 HLB HVS HB HU HD1 c0 c0d c4 c4a
              go_wp2
              go_roundw
              case rel => exact ⟨j + 1, _, by omega, by go_num, HL6, HV6, HB6⟩
              case measure => simp [intOf] <;> omega
          · have q1 : decide ((j : Int) < nd) = false := by simp <;> omega
            obtain rfl : j = k3 := by omega
            go_wp2
            go_ret
            exact ⟨B, v1, v2, gs, rfl, HLB.out, HVS.out, HB.out⟩
      · have e3 : (k3 : Int) = 0 := by omega
        go_loopw [31] (fun i wq => ∃ (j : Nat) (v2 : Value), j ≤ k3 ∧ i = .int .i64 (j : Int) ∧ Hid (LibAt wq B B v1 v2 gs (List.replicate j (Dr.no false)) 0 0) ∧ Hid (Vols wq B gs (freshOf l)) ∧ Hid (Below B w wq))
          (fun i _ => k3 - (intOf i).toNat)
        case atStart => exact ⟨0, _, by omega, rfl, HJ0, HVS, HB⟩
        case round =>
          clear HJ0 HVS HB
          obtain ⟨j, v2, hj, rfl, HLB, HVS, HB⟩ := hrel
          have hwB : B ≤ wr.heap.size := by have := HB.out.size; omega
          by_cases hjt : j < k3
          · have q1 : decide ((j : Int) < 0) = true := by simp <;> omega
            obtain ⟨D, hD⟩ : ∃ D, List.replicate j (Dr.no false) = D := ⟨_, rfl⟩
            have hDl : D.length = j := by rw [← hD]; simp
            have hD1 : List.replicate (j + 1) (Dr.no false) = D ++ [Dr.no false] := by rw [← hD, List.replicate_succ']
            rw [hD] at HLB
            have HD1 := Lib.hid hD1
            clear hD hD1
            have c0 : wr.cell? ⟨B, 1, none⟩ = some v2 := HLB.out.at_.cell 1
            have c0d : wr.drew.cell? ⟨B, 1, none⟩ = some v2 := HLB.out.at_.cell 1
            have hU : ∀ W, Calls Tryd.prog 21 #[.bool false] W fun e w' => e = .returned (.agg #[.int .i64 (-1), .int .i64 0, .int .i64 0, .bool false]) ∧ Below W.heap.size W w' := fun W => unused_any false W
            have HU := Lib.hid hU
            clear hU
            go_upto_region 9 with fail
            go_region_law (first
              | (refine step_append_lies _ (by rfl) _ _ _ (by rfl) B 61 j0 _ 4 32 Tryd.underlying57 JIE.out JZ0.out JZ1.out JZ2.out rfl (by omega) v2 D.length (drCells D) (by rfl) (h4.drow.alloc _)
                    ⟨w4.heap.size, 0, none⟩ 1 1 [.int .i64 (-1), .int .i64 0, .int .i64 0, .bool false] (by rfl) (by rfl) (World.news_of_block (cs := #[.int .i64 (-1), .int .i64 0, .int .i64 0, .bool false]) (t := 61) (fr := (0, 0)) (heap_alloc_new w4 _)) (by simp [Value.oneCell'])
                    (by omega) (by unfold maxLen; omega) (by omega) (by simp; omega) (w4.heap.size + 1) (by simp) ?_; intro gg cap w5 hown hgrow hat hlt5; have hgr5 : (w4.alloc (.cells #[.int .i64 (-1), .int .i64 0, .int .i64 0, .bool false] 61)).grownBy w5 v2.ownBlock := ⟨hgrow.os, hgrow.tape, hgrow.output, hgrow.size, hgrow.block⟩; have hA5 := (h4.at_.alloc (.cells #[.int .i64 (-1), .int .i64 0, .int .i64 0, .bool false] 61)).grown hgr5 (Ne.symm h4.ne_vrow.2); have q5 : w5.cell? ⟨B, 1, none⟩ = some v2 := hA5.cell 1; have qf : w5.frozen? ⟨B, 1, none⟩ = false := hA5.frozen 1)
              | (go_simp; go_wp2_with (go_at_call 21; refine (HU.out _).mono ?_; rintro e w4 ⟨rfl, hb4⟩; have h4 : LibAt w4 B B v1 v2 gs D 0 0 := HLB.out.below ⟨hb4.os, hb4.tape, hb4.output, hb4.size, hb4.block⟩; have c4 : w4.cell? ⟨B, 1, none⟩ = some v2 := h4.at_.cell 1; have c4a : ∀ o, (w4.alloc o).cell? ⟨B, 1, none⟩ = some v2 := fun o => (h4.at_.alloc o).cell 1; have hs4 : B ≤ w4.heap.size := Nat.le_trans hwB hb4.size)))
            all_goals
              have hb4' : Below wr.heap.size wr w4 := ⟨hb4.os, hb4.tape, hb4.output, hb4.size, hb4.block⟩
              have hV4 := HVS.out.below hb4'
              have hV5 := (hV4.below ((Below.refl _ w4).alloc (Nat.le_refl _) (.cells #[.int .i64 (-1), .int .i64 0, .int .i64 0, .bool false] 61))).row (h4.drow.alloc _) (by decide) (by decide) hgr5
              have hL6 := (h4.below ((Below.refl _ w4).alloc (Nat.le_refl _) (.cells #[.int .i64 (-1), .int .i64 0, .int .i64 0, .bool false] 61))).moreD (d := Dr.no false) hgr5 hown
              have hV6 := hV5.cell (i := 1) hA5 (.slice (some ⟨gg, 0, none⟩) (D.length + 1) cap)
              have hb5 : Below B w w5 := ((HB.out.trans (hb4'.mono hwB)).alloc hs4 (.cells #[.int .i64 (-1), .int .i64 0, .int .i64 0, .bool false] 61)).grown hgr5 (by simp; omega) fun k hk => (h4.drow.lt k hk).1
              have hb6 := below_of_grownBy hb5 (grown_cell w5 B 1 (.slice (some ⟨gg, 0, none⟩) (D.length + 1) cap)) (Nat.le_trans hs4 (by have := hgr5.size; simp at this; omega)) (Nat.le_refl _)
              rw [hDl] at hL6 hV6 hb6
              rw [← HD1.out] at hL6
              have HL6 := Lib.hid hL6
              have HV6 := Lib.hid hV6
              have HB6 := Lib.hid hb6
              clear hb4' hV4 hV5 hL6 hV6 hb5 hb6 hgr5 hA5 h4 hown hgrow hat hlt5 q5 qf hb4 HLB HVS HB HU HD1 c0 c0d c4 c4a
              go_wp2
              go_roundw
              case rel => exact ⟨j + 1, _, by omega, by go_num, HL6, HV6, HB6⟩
              case measure => simp [intOf] <;> omega
          · have q1 : decide ((j : Int) < 0) = false := by simp <;> omega
            obtain rfl : j = k3 := by omega
            go_wp2
            go_ret
            exact ⟨B, v1, v2, gs, rfl, HLB.out, HVS.out, HB.out⟩
end Go.Proofs.YtniecodpdmjppaaDoor

/- library.Moves, Len, Hold; glacierlaw08.awake: their walks. -/
namespace Go.Proofs.YtniecodpdmjppaaDoor
open Go.RowKit
set_option linter.unusedVariables false
set_option linter.unusedSimpArgs false
section
variable {w : World} {B g : Nat} {v1 v2 : Value} {gs : List Nat} {ds : List Dr} {mv mt : Int}
set_option maxRecDepth 100000 in
theorem moves_any (h : LibAt w B g v1 v2 gs ds mv mt) : Calls Tryd.prog 18 #[.pointer (some ⟨g, 0, none⟩)] w fun e w' => e = .returned (.int .i64 mv) ∧ w = w' := by
  have c2 : w.cell? ⟨g, 2, none⟩ = some (.int .i64 mv) := h.at_.cell 2
  clear h
  go_enter Tryd.func18, Tryd.ntmps18
  go_wp2
  go_ret
  exact ⟨rfl, rfl⟩
set_option maxRecDepth 100000 in
theorem liblen_any (h : LibAt w B g v1 v2 gs ds mv mt) : Calls Tryd.prog 15 #[.pointer (some ⟨g, 0, none⟩)] w fun e w' => e = .returned (.int .i64 (gs.length : Nat)) ∧ w = w' := by
  obtain ⟨A, c, rfl, hc, hA⟩ := row_slice h.vrow
  have c0 : w.cell? ⟨g, 0, none⟩ = some (.slice A gs.length c) := h.at_.cell 0
  clear h
  go_enter Tryd.func15, Tryd.ntmps15
  go_wp2
  go_ret
  exact ⟨rfl, rfl⟩

theorem mountF_ok (n : Nat) (ds : List Dr) (mv mt v : Int) : (mountF n ds mv mt v).ds.length = ds.length ∧ ((mountF n ds mv mt v).e = 0 → 0 ≤ (mountF n ds mv mt v).i ∧ (mountF n ds mv mt v).i < ds.length) := by
  have h1 := inF_le ds v
  have h2 : -1 ≤ nextF ds ∧ nextF ds < ds.length := nextUp_le ds ds.length
  unfold mountF
  split
  · split
    · split
      · exact ⟨rfl, fun h => by simp at h⟩
      · exact ⟨by simp, fun _ => by show 0 ≤ nextF ds ∧ nextF ds < _; omega⟩
    · exact ⟨by simp, fun _ => by show 0 ≤ inF ds v ∧ inF ds v < _; omega⟩
  · exact ⟨rfl, fun h => by simp at h⟩
theorem mountF_e (n : Nat) (ds : List Dr) (mv mt v : Int) : (mountF n ds mv mt v).e = 0 ∨ (mountF n ds mv mt v).e = 1 ∨ (mountF n ds mv mt v).e = 10 := by
  unfold mountF
  split
  · split
    · split
      · exact .inr (.inr rfl)
      · exact .inl rfl
    · exact .inl rfl
  · exact .inr (.inl rfl)
/-- Hold -/
def holdF (n : Nat) (ds : List Dr) (mv mt v : Int) : MR :=
  if (mountF n ds mv mt v).e = 0 then { mountF n ds mv mt v with ds := (mountF n ds mv mt v).ds.set (mountF n ds mv mt v).i.toNat { drOf (mountF n ds mv mt v).ds (mountF n ds mv mt v).i with holds := (drOf (mountF n ds mv mt v).ds (mountF n ds mv mt v).i).holds + 1 } }
  else mountF n ds mv mt v
def HoldEnds (w : World) (B g : Nat) (v1 v2 : Value) (gs : List Nat) (r : MR) (e : Ending) (w' : World) : Prop :=
  e = .returned (.int .i64 r.e) ∧ LibAt w' B g v1 v2 gs r.ds r.mv r.mt ∧ Shift w w' (LFoot g v2)

set_option maxRecDepth 100000 in
set_option maxHeartbeats 1000000 in
theorem hold_any (h : LibAt w B g v1 v2 gs ds mv mt) (hB : B ≤ w.heap.size) (hh : Here w gs) (hlen : ds.length ≤ 1000) (hmv : 0 ≤ mv ∧ mv ≤ 1000000000000) (hmt : 0 ≤ mt ∧ mt ≤ 1000000000000) (v : Int)
    (hho : ∀ d ∈ (mountF gs.length ds mv mt v).ds, 0 ≤ d.holds ∧ d.holds ≤ 1000000000000) :
    Calls Tryd.prog 17 #[.pointer (some ⟨g, 0, none⟩), .int .i64 v] w (HoldEnds w B g v1 v2 gs (holdF gs.length ds mv mt v)) := by
  have hM := mount_any h hB hh hlen hmv hmt v
  obtain ⟨k1, k2⟩ := mountF_ok gs.length ds mv mt v
  have k3 := mountF_e gs.length ds mv mt v
  unfold holdF
  generalize mountF gs.length ds mv mt v = r at *
  obtain ⟨ri, re, rds, rmv, rmt⟩ := r
  simp only at k1 k2 k3 hho ⊢
  unfold MountEnds at hM
  simp only at hM
  clear h hh
  by_cases he : re = 0
  · subst he
    rw [if_pos rfl]
    obtain ⟨a1, a2⟩ := k2 rfl
    obtain ⟨n, rfl⟩ : ∃ n : Nat, ri = (n : Int) := ⟨ri.toNat, by omega⟩
    have hn : n < rds.length := by omega
    have hd : drOf rds (n : Int) = rds[n] := by unfold drOf; rw [Int.toNat_natCast, List.getD_eq_getElem?_getD, List.getElem?_eq_getElem hn]; rfl
    rw [hd, Int.toNat_natCast]
    obtain ⟨b1, b2⟩ := hho _ (List.getElem_mem hn)
    have hHW : IntKind.i64.wrap (rds[n].holds + 1) = rds[n].holds + 1 := IntWalk.i64_in _ ⟨by omega, by omega⟩
    clear k2 k3 hho
    have HM := Lib.hid hM
    clear hM
    go_enter Tryd.func17, Tryd.ntmps17
    go_wp2_with fail
    refine HM.out.mono ?_
    rintro e w1 ⟨rfl, h1, s1⟩
    obtain ⟨A2, c2, rfl, hc2, hA2⟩ := row_slice h1.drow
    obtain ⟨kd, rfl⟩ := hA2 (by omega)
    have c1 : w1.cell? ⟨g, 1, none⟩ = some (.slice (some ⟨kd, 0, none⟩) rds.length c2) := h1.at_.cell 1
    have y2 : w1.cell? ⟨kd, n * 4 + 2, none⟩ = some (.int .i64 rds[n].holds) := h1.drive hn 2 _ rfl
    have y3 : w1.frozen? ⟨kd, n * 4 + 2, none⟩ = false := h1.drow.frozenAt _
    obtain ⟨h2, s2⟩ := h1.store hn (j := 2) (by omega) { rds[n] with holds := rds[n].holds + 1 } (.int .i64 (rds[n].holds + 1)) rfl
    have H2 := Lib.hid h2
    have S2 := Lib.hid (s1.trans s2)
    clear h1 h2 s1 s2 HM hd
    go_wp2
    go_ret
    exact ⟨rfl, H2.out, S2.out⟩
  · rw [if_neg he]
    have q : (re != 0) = true := by simpa using he
    have HM := Lib.hid hM
    clear hM k2 k3 hho
    go_enter Tryd.func17, Tryd.ntmps17
    go_wp2_with fail
    refine HM.out.mono ?_
    rintro e w1 ⟨rfl, h1, s1⟩
    have H1 := Lib.hid h1
    have S1 := Lib.hid s1
    clear h1 s1 HM
    go_wp2
    go_ret
    exact ⟨rfl, H1.out, S1.out⟩
end

set_option maxRecDepth 100000 in
set_option maxHeartbeats 4000000 in
theorem awake8_any (w : World) : Calls Tryd.prog 5 #[] w fun e w' => e = .returned (.bool true) ∧ Below w.heap.size w w' := by
  have hR : Lies (w.alloc (.cells #[.int .i64 100, .int .i64 100] 3)) (w.alloc (.cells #[.int .i64 100, .int .i64 100] 3)).heap.size (some ⟨w.heap.size, 0, none⟩) (ints [100, 100]) := Lies.of_at (At.new w _ _) rfl (by simp)
  have hN := newlib_any (some ⟨w.heap.size, 0, none⟩) 2 [100, 100] 1 _ hR (by simp) (by simp) 1 rfl
  have hb0 : Below w.heap.size w (w.alloc (.cells #[.int .i64 100, .int .i64 100] 3)) := (Below.refl _ w).alloc (Nat.le_refl _) _
  have hs0 : (w.alloc (.cells #[.int .i64 100, .int .i64 100] 3)).heap.size = w.heap.size + 1 := by simp
  clear hR
  have e1 : mountF 2 (List.replicate 1 (Dr.no false)) 0 0 0 = ⟨0, 0, [⟨0, 1, 0, false⟩], 1, 1⟩ := rfl
  have e2 : mountF 2 [⟨0, 1, 0, false⟩] 1 1 1 = ⟨0, 0, [⟨1, 2, 0, false⟩], 2, 2⟩ := rfl
  have e3 : holdF 2 [⟨1, 2, 0, false⟩] 2 2 1 = ⟨0, 0, [⟨1, 3, 1, false⟩], 2, 3⟩ := rfl
  have e3' : (mountF 2 [⟨1, 2, 0, false⟩] 2 2 1).ds = [⟨1, 3, 0, false⟩] := rfl
  have e4 : mountF 2 [⟨1, 3, 1, false⟩] 2 3 0 = ⟨-1, 10, [⟨1, 3, 1, false⟩], 2, 3⟩ := rfl
  have e5 : inF [⟨1, 3, 1, false⟩] 1 = 0 := rfl
  have E1 := Lib.hid e1
  have E2 := Lib.hid e2
  have E3 := Lib.hid e3
  have E3' := Lib.hid e3'
  have E4 := Lib.hid e4
  have E5 := Lib.hid e5
  clear e1 e2 e3 e3' e4 e5
  have HB0 := Lib.hid hb0
  clear hb0
  rw [show ([100, 100] : List Int).length = 2 from rfl] at hN
  go_enter Tryd.func5, Tryd.ntmps5
  go_wp2_with fail
  generalize w.alloc (.cells #[.int .i64 100, .int .i64 100] 3) = w0 at *
  refine hN.mono ?_
  rintro e w1 ⟨g, v1, v2, gs, rfl, h1, hv1, hb1⟩
  have hgl : gs.length = 2 := by rw [hv1.len]; rfl
  have hlo : ∀ s ∈ freshOf [100, 100], s.lo = false := by simp [freshOf, VS.new]
  have hL := liblen_any h1
  rw [hgl] at hL
  have hs1 := hb1.size
  have hM := mount_any h1 hs1 (hv1.here hlo) (by decide) ⟨by decide, by decide⟩ ⟨by decide, by decide⟩ 0
  rw [hgl, E1.out] at hM
  unfold MountEnds at hM
  have H1 := Lib.hid h1
  have HV1 := Lib.hid hv1
  have HB1 := Lib.hid (HB0.out.trans (hb1.mono (by omega)))
  clear h1 hv1 hb1 hN
  generalize hB1 : w0.heap.size = B at *
  go_wp2_with fail
  refine hL.mono ?_
  rintro e w2 ⟨rfl, rfl⟩
  go_wp2_with fail
  refine hM.mono ?_
  rintro e w2 ⟨rfl, h2, s2⟩
  have hv2 := HV1.out.lib H1.out s2
  have hb2 := HB1.out.trans ((s2.below hs1 H1.out.footB).mono (by omega))
  have hs2 := s2.size
  have hM2 := mount_any h2 (by omega) (hv2.here hlo) (by decide) ⟨by decide, by decide⟩ ⟨by decide, by decide⟩ 1
  rw [hgl, E2.out] at hM2
  unfold MountEnds at hM2
  have H2 := Lib.hid h2
  have HV2 := Lib.hid hv2
  have HB2 := Lib.hid hb2
  clear h2 hv2 hb2 hL hM H1 HV1 HB1 s2
  go_wp2_with fail
  refine hM2.mono ?_
  rintro e w3 ⟨rfl, h3, s3⟩
  have hv3 := HV2.out.lib H2.out s3
  have hb3 := HB2.out.trans ((s3.below (by omega) H2.out.footB).mono (by omega))
  have hs3 := s3.size
  have hM3 := hold_any h3 (by omega) (hv3.here hlo) (by decide) ⟨by decide, by decide⟩ ⟨by decide, by decide⟩ 1 (by rw [hgl, E3'.out]; simp)
  rw [hgl, E3.out] at hM3
  unfold HoldEnds at hM3
  have H3 := Lib.hid h3
  have HV3 := Lib.hid hv3
  have HB3 := Lib.hid hb3
  clear h3 hv3 hb3 hM2 H2 HV2 HB2 s3
  go_wp2_with fail
  refine hM3.mono ?_
  rintro e w4 ⟨rfl, h4, s4⟩
  have hv4 := HV3.out.lib H3.out s4
  have hb4 := HB3.out.trans ((s4.below (by omega) H3.out.footB).mono (by omega))
  have hs4 := s4.size
  have hM4 := mount_any h4 (by omega) (hv4.here hlo) (by decide) ⟨by decide, by decide⟩ ⟨by decide, by decide⟩ 0
  rw [hgl, E4.out] at hM4
  unfold MountEnds at hM4
  have H4 := Lib.hid h4
  have HB4 := Lib.hid hb4
  clear h4 hv4 hb4 hM3 H3 HV3 HB3 s4
  go_wp2_with fail
  refine hM4.mono ?_
  rintro e w5 ⟨rfl, h5, s5⟩
  have hb5 := HB4.out.trans ((s5.below (by omega) H4.out.footB).mono (by omega))
  have hs5 := s5.size
  have hMo := moves_any h5
  have hIn := in_any h5 1 (by decide)
  rw [E5.out] at hIn
  have HB5 := Lib.hid hb5
  clear h5 hb5 hM4 H4 HB4 s5
  go_wp2_with fail
  refine hMo.mono ?_
  rintro e w6 ⟨rfl, rfl⟩
  go_wp2_with fail
  refine hIn.mono ?_
  rintro e w7 ⟨rfl, hb7⟩
  have HB7 := Lib.hid (HB5.out.trans (hb7.mono (by omega)))
  clear hb7 hMo hIn HB5
  go_wp2
  go_ret
  exact ⟨rfl, HB7.out⟩
end Go.Proofs.YtniecodpdmjppaaDoor
