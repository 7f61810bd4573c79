/- Sl, Sx, Ol, Ym: merged (a claim holds few files). -/
import Derived.Test.YtplmflagffloeaaDoorSc
import Derived.Test.YtplmflagffloeaaDoorCu
import Derived.Test.YtplmflagffloeaaDoorB2
/- glacierlaw02.awake, Laid: their walks. -/
namespace Go.Proofs.YtplmflagffloeaaDoor
open Go.RowKit
open Sm

/-- frames, one behind the other -/
def frames (fs : List (List UInt8)) : List UInt8 := fs.flatMap frameL
/-- where each ends -/
def endsOf (fs : List (List UInt8)) : List Int := (List.range fs.length).map fun k => ((frames (fs.take (k + 1))).length : Int)

theorem frames_take {fs : List (List UInt8)} {k : Nat} (h : k < fs.length) : frames (fs.take (k + 1)) = frames (fs.take k) ++ frameL fs[k] := by
  unfold frames
  rw [List.take_succ_eq_append_getElem h, List.flatMap_append]
  simp
theorem endsOf_take {fs : List (List UInt8)} {k : Nat} (h : k < fs.length) : endsOf (fs.take (k + 1)) = endsOf (fs.take k) ++ [((frames (fs.take (k + 1))).length : Int)] := by
  unfold endsOf
  have e1 : (fs.take (k + 1)).length = k + 1 := by rw [List.length_take]; omega
  have e2 : (fs.take k).length = k := by rw [List.length_take]; omega
  rw [e1, e2, List.range_succ, List.map_append]
  congr 1
  · apply List.map_congr_left
    intro j hj
    rw [List.mem_range] at hj
    rw [List.take_take, List.take_take, Nat.min_eq_left (by omega), Nat.min_eq_left (by omega)]
  · simp [List.take_take]
theorem frames_len (n : Nat) : ∀ fs : List (List UInt8), (∀ x ∈ fs, x.length ≤ n) → (frames fs).length ≤ (8 + n) * fs.length := by
  intro fs
  induction fs with
  | nil => intro _; simp [frames]
  | cons a fs ih =>
    intro h
    have h1 := ih (fun x hx => h x (by simp [hx]))
    have h2 := h a (by simp)
    unfold frames at h1 ⊢
    rw [List.flatMap_cons, List.length_append, frameL_len, List.length_cons, Nat.mul_add]
    omega

/-- the texts that are laid in frames -/
def laidTexts (l : List ByteArray) : List (List UInt8) := (l.take 6).map fun t => (cutTo t 50).data.toList

theorem laidTexts_len (l : List ByteArray) : (laidTexts l).length ≤ 6 := by unfold laidTexts; rw [List.length_map]; exact List.length_take_le _ _
theorem laidTexts_le (l : List ByteArray) : ∀ x ∈ laidTexts l, x.length ≤ 50 := by
  intro x hx
  unfold laidTexts at hx
  obtain ⟨t, _, rfl⟩ := List.mem_map.1 hx
  rw [size_list]
  exact cutTo_le t 50

def LaidRet (fs : List (List UInt8)) (w : World) (e : Ending) (w' : World) : Prop :=
  ∃ A c, e = .returned (.tuple #[.string ⟨(frames fs).toArray⟩, .slice A fs.length c]) ∧ Lies w' w'.heap.size A (ints (endsOf fs)) ∧ (∀ ad, A = some ad → w.heap.size ≤ ad.block) ∧ Below w.heap.size w w'

theorem info_int : (Tryd.prog.info? 3).map (fun i => (i.zero, i.size, i.bytes)) = some (some (.int .i64 0), 1, 8) := by kernel_rfl

theorem own_slice_ints {w : World} {B n : Nat} {v : Value} {xs : List Int} (h : w.ownsRow B 3 1 v n (ints xs)) : ∃ A c, v = .slice A xs.length c ∧ Lies w w.heap.size A (ints xs) ∧ ∀ ad, A = some ad → B ≤ ad.block := by
  have hn : n = xs.length := by have := h.1; simp [ints] at this; omega
  subst hn
  rcases h.2 with ⟨rfl, h0⟩ | ⟨g, cap, cur, rfl, hB, hg, _⟩
  · have : xs = [] := List.eq_nil_of_length_eq_zero h0
    subst this
    exact ⟨none, 0, rfl, Lies.nil, by simp⟩
  · refine ⟨some ⟨g, 0, none⟩, cap, rfl, fun j u hj => ⟨_, rfl, (h.lt g rfl).2, h.cells (g := g) rfl j u hj⟩, ?_⟩
    intro ad hA
    simp at hA
    subst hA
    exact hB

theorem endsOf_len (fs : List (List UInt8)) : (endsOf fs).length = fs.length := by simp [endsOf]

end Go.Proofs.YtplmflagffloeaaDoor

/- What is scanned of frames: all of them, then what is behind; of frames that are cut off, those that are whole. -/
namespace Go.Proofs.YtplmflagffloeaaDoor
open Sm

theorem frames_cons (x : List UInt8) (fs : List (List UInt8)) : frames (x :: fs) = frameL x ++ frames fs := by simp [frames]

theorem scan_frames (rest : List UInt8) : ∀ fs : List (List UInt8), (∀ x ∈ fs, x.length ≤ 1048576) →
    scanL (frames fs ++ rest) = (fs ++ (scanL rest).1, (frames fs).length + (scanL rest).2) := by
  intro fs
  induction fs with
  | nil => intro _; simp [frames]
  | cons x fs ih =>
    intro h
    have hx := h x (by simp)
    have ho := open_frame x (frames fs ++ rest) hx
    have hd : (frameL x ++ (frames fs ++ rest)).drop (8 + x.length) = frames fs ++ rest := by rw [← frameL_len, List.drop_left]
    rw [frames_cons, List.append_assoc, scanL_go (by rw [ho]; simp), ho]
    simp only
    rw [hd, ih (fun y hy => h y (by simp [hy]))]
    simp only [List.cons_append, List.length_append, frameL_len, Prod.mk.injEq, true_and]
    omega

theorem scan_nil : scanL [] = ([], 0) := scanL_stop (by simp [openL])

theorem scan_all (fs : List (List UInt8)) (h : ∀ x ∈ fs, x.length ≤ 1048576) : scanL (frames fs) = (fs, (frames fs).length) := by
  have := scan_frames [] fs h
  rw [List.append_nil, scan_nil] at this
  simpa using this

/-- a frame that is cut off -/
theorem open_short (x : List UInt8) (c : Nat) (h : x.length ≤ 1048576) (hc : c < (frameL x).length) : (openL ((frameL x).take c)).2.2 ≠ 0 := by
  rw [frameL_len] at hc
  have hl : ((frameL x).take c).length = c := by rw [List.length_take, frameL_len]; omega
  unfold openL
  rw [hl]
  by_cases h8 : c < 8
  · rw [if_pos h8]; simp
  · rw [if_neg h8]
    have ht : ((frameL x).take c).take 4 = four4 x.length := by
      rw [List.take_take, Nat.min_eq_left (by omega)]
      unfold frameL
      rw [List.append_assoc]
      exact List.take_left' rfl
    rw [ht, be_four _ (by omega), if_neg (by omega), if_pos (by omega)]
    simp

/-- how many frames are whole in the first c bytes -/
def wholeL : List (List UInt8) → Nat → Nat
  | [], _ => 0
  | x :: fs, c => if (frameL x).length ≤ c then 1 + wholeL fs (c - (frameL x).length) else 0

theorem wholeL_le : ∀ (fs : List (List UInt8)) (c : Nat), wholeL fs c ≤ fs.length := by
  intro fs
  induction fs with
  | nil => intro c; simp [wholeL]
  | cons x fs ih =>
    intro c
    unfold wholeL
    have := ih (c - (frameL x).length)
    split
    · simp; omega
    · simp

theorem whole_iff : ∀ (fs : List (List UInt8)) (c i : Nat), i < fs.length → ((frames (fs.take (i + 1))).length ≤ c ↔ i < wholeL fs c) := by
  intro fs
  induction fs with
  | nil => intro c i h; simp at h
  | cons x fs ih =>
    intro c i h
    unfold wholeL
    rw [List.take_succ_cons, frames_cons, List.length_append]
    cases i with
    | zero =>
      rw [List.take_zero, show frames [] = [] from rfl]
      split
      · rename_i hx
        simp only [List.length_nil]; omega
      · rename_i hx
        simp only [List.length_nil]; omega
    | succ i =>
      have := ih (c - (frameL x).length) i (by simpa using h)
      split
      · omega
      · omega

theorem scan_cut : ∀ (fs : List (List UInt8)) (c : Nat), (∀ x ∈ fs, x.length ≤ 1048576) → scanL ((frames fs).take c) = (fs.take (wholeL fs c), (frames (fs.take (wholeL fs c))).length) := by
  intro fs
  induction fs with
  | nil => intro c _; simp [frames, scan_nil, wholeL]
  | cons x fs ih =>
    intro c h
    have hx := h x (by simp)
    rw [frames_cons]
    unfold wholeL
    split
    · rename_i hc
      have e : (frameL x ++ frames fs).take c = frames [x] ++ (frames fs).take (c - (frameL x).length) := by
        rw [List.take_append, List.take_of_length_le hc]
        simp [frames]
      rw [e, scan_frames _ [x] (by simpa using hx), ih _ (fun y hy => h y (by simp [hy])), Nat.add_comm 1, List.take_succ_cons, frames_cons]
      simp [frames]
    · rename_i hc
      rw [List.take_append_of_le_length (by omega), scanL_stop (open_short x c hx (by omega))]
      simp [frames]
end Go.Proofs.YtplmflagffloeaaDoor

/- seal.Only of a frame. -/
namespace Go.Proofs.YtplmflagffloeaaDoor
open Go.RowKit
open Sm
set_option linter.unusedVariables false

theorem only_len (l : List UInt8) : (onlyL l).1.length ≤ l.length := by
  unfold onlyL
  split
  · exact Nat.zero_le _
  · split
    · exact Nat.zero_le _
    · unfold openL
      split
      · exact Nat.zero_le _
      · split
        · exact Nat.zero_le _
        · split
          · exact Nat.zero_le _
          · split
            · exact Nat.zero_le _
            · simp only [List.length_take, List.length_drop]; omega
theorem only_frame (x : List UInt8) (h : x.length ≤ 1048576) : onlyL (frameL x) = (x, 0) := by
  have ho := open_frame x [] h
  rw [List.append_nil] at ho
  unfold onlyL
  rw [ho, frameL_len]
  simp
end Go.Proofs.YtplmflagffloeaaDoor

/- The mathematics of a Raft node's log: entries, their frames, what is read of them. -/
namespace Go.Proofs.YtplmflagffloeaaDoor
open Go.RowKit
open Wm (num tk)
open Sm
set_option linter.unusedVariables false

structure En where
  idx : Nat
  tm : Nat
  cmd : ByteArray
def En.cells (x : En) : List Value := [.int .i64 (x.idx : Int), .int .i64 (x.tm : Int), .string x.cmd]
def enCells (l : List En) : List Value := l.flatMap En.cells
structure En.ok (x : En) : Prop where
  idx : x.idx ≤ 1099511627776
  tm : x.tm ≤ 1099511627776
  cmd : x.cmd.size ≤ 100000
def En.enc (x : En) : List UInt8 := num x.idx ++ num x.tm ++ text x.cmd
def encs (l : List En) : List (List UInt8) := l.map En.enc
/-- the bytes of a log -/
def logOf (l : List En) : List UInt8 := frames (encs l)

theorem enc_max {x : En} (h : x.ok) : x.enc.length ≤ 30 + x.cmd.size := by
  have h1 := Wm.num_len x.idx (by have := h.idx; omega)
  have h2 := Wm.num_len x.tm (by have := h.tm; omega)
  have h3 := Wm.num_len x.cmd.size (by have := h.cmd; omega)
  unfold En.enc
  simp only [List.length_append, text_len]
  omega
theorem encs_len (l : List En) : (encs l).length = l.length := by unfold encs; simp
theorem encs_le {l : List En} (h : ∀ x ∈ l, x.ok) : ∀ y ∈ encs l, y.length ≤ 1048576 := by
  intro y hy
  unfold encs at hy
  obtain ⟨x, hx, rfl⟩ := List.mem_map.1 hy
  have := enc_max (h x hx)
  have := (h x hx).cmd
  omega
theorem logOf_append (l r : List En) : logOf (l ++ r) = logOf l ++ logOf r := by unfold logOf encs frames; rw [List.map_append, List.flatMap_append]
theorem logOf_nil : logOf [] = [] := rfl
theorem logOf_take {l : List En} {k : Nat} (h : k < l.length) : logOf (l.take (k + 1)) = logOf (l.take k) ++ frameL l[k].enc := by
  rw [List.take_succ_eq_append_getElem h, logOf_append]
  unfold logOf encs frames
  simp
theorem logOf_len (n : Nat) {l : List En} (h : ∀ x ∈ l, x.ok) (hn : ∀ x ∈ l, x.cmd.size ≤ n) : (logOf l).length ≤ (38 + n) * l.length := by
  have := frames_len (30 + n) (encs l) (fun y hy => by
    unfold encs at hy
    obtain ⟨x, hx, rfl⟩ := List.mem_map.1 hy
    have h1 := enc_max (h x hx)
    have h2 := hn x hx
    omega)
  rw [encs_len] at this
  rwa [show 8 + (30 + n) = 38 + n by omega] at this
theorem scan_log {l : List En} (h : ∀ x ∈ l, x.ok) : scanL (logOf l) = (encs l, (logOf l).length) := scan_all _ (encs_le h)
theorem read_en {x : En} (h : x.ok) : curI (x.enc, 0) 1099511627776 = ((num x.tm ++ text x.cmd, 0), x.idx) ∧ curI (num x.tm ++ text x.cmd, 0) 1099511627776 = ((text x.cmd, 0), x.tm) ∧ curS (text x.cmd, 0) 100000 = (([], 0), x.cmd.data.toList) := by
  have h1 := h.idx
  have h2 := h.tm
  have e1 := curI_num x.idx 1099511627776 (num x.tm ++ text x.cmd) (by omega) h1
  have e2 := curI_num x.tm 1099511627776 (text x.cmd) (by omega) h2
  have e3 := curS_text x.cmd [] 100000 h.cmd (by omega)
  rw [List.append_nil] at e3
  rw [← List.append_assoc] at e1
  exact ⟨e1, e2, e3⟩

/-- entries that go on behind a number -/
def behind (l : List En) (n : Nat) : List En := l.foldl (fun acc x => if x.idx = n + acc.length + 1 then acc ++ [x] else acc) []
theorem behind_take {l : List En} {k : Nat} (h : k < l.length) (n : Nat) : behind (l.take (k + 1)) n = if l[k].idx = n + (behind (l.take k) n).length + 1 then behind (l.take k) n ++ [l[k]] else behind (l.take k) n := by
  unfold behind
  rw [List.take_succ_eq_append_getElem h, List.foldl_append]
  rfl
theorem behind_le (l : List En) (n : Nat) : ∀ k, k ≤ l.length → (behind (l.take k) n).length ≤ k := by
  intro k
  induction k with
  | zero => intro _; simp [behind]
  | succ k ih =>
    intro hk
    have := ih (by omega)
    rw [behind_take (by omega)]
    split
    · rw [List.length_append]; simp; omega
    · omega
theorem behind_row {l : List En} {a n : Nat} (hl : ∀ i (h : i < l.length), l[i].idx = a + 1 + i) (ha : a ≤ n) : behind l n = l.drop (n - a) := by
  have key : ∀ k, k ≤ l.length → behind (l.take k) n = (l.take k).drop (n - a) := by
    intro k
    induction k with
    | zero => intro _; simp [behind]
    | succ k ih =>
      intro hk
      have hlt : k < l.length := by omega
      have e := ih (by omega)
      rw [behind_take hlt, e, hl k hlt, List.take_succ_eq_append_getElem hlt]
      have hlen : ((l.take k).drop (n - a)).length = k - (n - a) := by rw [List.length_drop, List.length_take]; omega
      rw [hlen]
      by_cases hc : n - a ≤ k
      · rw [if_pos (by omega), List.drop_append_of_le_length (by rw [List.length_take]; omega)]
      · rw [if_neg (by omega), List.drop_of_length_le (by rw [List.length_take]; omega), List.drop_of_length_le (by rw [List.length_append, List.length_take]; simp; omega)]
  have := key l.length (Nat.le_refl _)
  rwa [List.take_length] at this
theorem enCells_len (l : List En) : (enCells l).length = 3 * l.length := by
  induction l with
  | nil => rfl
  | cons x r ih => unfold enCells at ih ⊢; rw [List.flatMap_cons, List.length_append, ih, List.length_cons]; show 3 + _ = _; omega
theorem enCells_append (l r : List En) : enCells (l ++ r) = enCells l ++ enCells r := by unfold enCells; rw [List.flatMap_append]
theorem enCells_get : ∀ (l : List En) (i j : Nat) (x : En) (u : Value), l[i]? = some x → x.cells[j]? = some u → (enCells l)[i * 3 + j]? = some u := by
  intro l
  induction l with
  | nil => intro i j x u h; simp at h
  | cons a r ih =>
    intro i j x u h hj
    have ha : a.cells.length = 3 := rfl
    have e : enCells (a :: r) = a.cells ++ enCells r := by unfold enCells; rw [List.flatMap_cons]
    cases i with
    | zero =>
      obtain rfl : a = x := by simpa using h
      have hj3 : j < 3 := by have := (List.getElem?_eq_some_iff.1 hj).1; omega
      rw [e, Nat.zero_mul, Nat.zero_add, List.getElem?_append_left (by omega)]
      exact hj
    | succ i =>
      have := ih i j x u (by simpa using h) hj
      rw [e, List.getElem?_append_right (by omega), ha, show (i + 1) * 3 + j - 3 = i * 3 + j by omega]
      exact this
end Go.Proofs.YtplmflagffloeaaDoor
