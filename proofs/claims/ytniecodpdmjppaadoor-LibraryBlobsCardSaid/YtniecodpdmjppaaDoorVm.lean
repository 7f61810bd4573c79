/- The mathematics of a volume: its blocks, and what each call makes of it. -/
import Derived.Test.YtniecodpdmjppaaDoorPk
namespace Go.Proofs.YtniecodpdmjppaaDoor
open Go.RowKit
set_option linter.unusedVariables false

/-- a block: its bytes; is it a mark; is it torn -/
structure Blk where
  t : ByteArray
  mark : Bool
  torn : Bool
def Blk.no : Blk := ⟨⟨#[]⟩, false, false⟩
def Blk.wt (b : Blk) : Nat := b.t.size + 4
def Blk.cells (b : Blk) : List Value := [.string b.t, .bool b.mark, .bool b.torn]
/-- what a block of a volume is -/
def Blk.ok (b : Blk) : Prop := b.t.size ≤ 1000000 ∧ (b.mark = true → b.t.size = 0)
def wsum (l : List Blk) : Nat := (l.map Blk.wt).sum
def cells3 (l : List Blk) : List Value := l.flatMap Blk.cells
def lastTorn (l : List Blk) : Bool := match l.getLast? with | some b => b.torn | none => false

theorem wsum_nil : wsum [] = 0 := rfl
theorem wsum_append (a b : List Blk) : wsum (a ++ b) = wsum a + wsum b := by unfold wsum; rw [List.map_append, List.sum_append]
theorem wsum_cons (x : Blk) (l : List Blk) : wsum (x :: l) = x.wt + wsum l := rfl
theorem wsum_one (x : Blk) : wsum [x] = x.wt := by unfold wsum; simp
theorem wsum_take_drop (l : List Blk) (n : Nat) : wsum (l.take n) + wsum (l.drop n) = wsum l := by rw [← wsum_append, List.take_append_drop]
theorem wsum_take_le (l : List Blk) (n : Nat) : wsum (l.take n) ≤ wsum l := by have := wsum_take_drop l n; omega
theorem wsum_step {l : List Blk} {k : Nat} (h : k < l.length) : wsum (l.take (k + 1)) = wsum (l.take k) + l[k].wt := by
  rw [List.take_succ_eq_append_getElem h, wsum_append, wsum_one]
theorem wsum_drop_step {l : List Blk} {k : Nat} (h : k < l.length) : wsum (l.drop k) = l[k].wt + wsum (l.drop (k + 1)) := by
  rw [List.drop_eq_getElem_cons h, wsum_cons]
theorem wsum_len (l : List Blk) : 4 * l.length ≤ wsum l := by
  induction l with
  | nil => simp [wsum]
  | cons a l ih => rw [wsum_cons, List.length_cons]; unfold Blk.wt; omega
theorem wsum_get_le {l : List Blk} {k : Nat} (h : k < l.length) : l[k].wt ≤ wsum l := by
  have h1 := wsum_drop_step h
  have h2 := wsum_take_drop l k
  omega

theorem cells3_length (l : List Blk) : (cells3 l).length = l.length * 3 := by
  unfold cells3
  induction l with
  | nil => rfl
  | cons a l ih => rw [List.flatMap_cons, List.length_append, ih]; simp [Blk.cells]; omega
theorem cells3_append (a b : List Blk) : cells3 (a ++ b) = cells3 a ++ cells3 b := by unfold cells3; simp
theorem cells3_cons (x : Blk) (l : List Blk) : cells3 (x :: l) = x.cells ++ cells3 l := rfl
theorem cells3_one (x : Blk) : cells3 [x] = x.cells := by unfold cells3; simp
theorem cells3_take (l : List Blk) (n : Nat) : cells3 (l.take n) = (cells3 l).take (n * 3) := by
  induction l generalizing n with
  | nil => simp [cells3]
  | cons a l ih =>
    cases n with
    | zero => simp [cells3]
    | succ n =>
      rw [List.take_succ_cons, cells3_cons, cells3_cons, ih]
      have h1 : a.cells.length = 3 := rfl
      have e : (n + 1) * 3 = a.cells.length + n * 3 := by omega
      rw [e, List.take_append, List.take_of_length_le (by omega : a.cells.length ≤ a.cells.length + n * 3), Nat.add_sub_cancel_left]
theorem cells3_drop (l : List Blk) (n : Nat) : cells3 (l.drop n) = (cells3 l).drop (n * 3) := by
  induction l generalizing n with
  | nil => simp [cells3]
  | cons a l ih =>
    cases n with
    | zero => simp
    | succ n =>
      have h1 : a.cells.length = 3 := rfl
      have e : (n + 1) * 3 = a.cells.length + n * 3 := by omega
      rw [List.drop_succ_cons, cells3_cons, ih, e, List.drop_append, List.drop_of_length_le (by omega : a.cells.length ≤ a.cells.length + n * 3), List.nil_append, Nat.add_sub_cancel_left]
/-- the cells of block k -/
theorem cells3_get {l : List Blk} {k : Nat} (h : k < l.length) : (cells3 l)[k * 3]? = some (.string l[k].t) ∧ (cells3 l)[k * 3 + 1]? = some (.bool l[k].mark) ∧ (cells3 l)[k * 3 + 2]? = some (.bool l[k].torn) := by
  have key : ∀ j, (cells3 l)[k * 3 + j]? = (cells3 (l.drop k))[j]? := fun j => by rw [cells3_drop, List.getElem?_drop]
  refine ⟨(key 0).trans ?_, (key 1).trans ?_, (key 2).trans ?_⟩ <;> (rw [List.drop_eq_getElem_cons h, cells3_cons]; rfl)

theorem lastTorn_nil : lastTorn [] = false := rfl
theorem lastTorn_get {l : List Blk} (h : 0 < l.length) : lastTorn l = (l[l.length - 1]'(by omega)).torn := by
  unfold lastTorn
  rw [List.getLast?_eq_getElem?, List.getElem?_eq_getElem (by omega)]
theorem lastTorn_append (l : List Blk) (b : Blk) : lastTorn (l ++ [b]) = b.torn := by
  unfold lastTorn
  simp

/-- a volume, but for what it uses: that is the sum of its blocks -/
structure VS where
  rm : Int
  lo : Bool
  lf : Int
  lab : ByteArray
  l : List Blk
  sure : Nat
  pos : Nat
  er : Int
  pr : Bool

structure VS.ok (s : VS) : Prop where
  blk : ∀ b ∈ s.l, b.ok
  sum : (wsum s.l : Int) ≤ s.rm
  top : s.rm ≤ 9223372036854775807
  lpos : 0 ≤ s.lf
  ltop : s.lf ≤ 1073741825
  sure : s.sure ≤ s.l.length
  pos : s.pos ≤ s.l.length
  len : s.l.length ≤ 1000000
  lab : s.lab.size ≤ 1000000
  er : 0 ≤ s.er ∧ s.er ≤ 1000000

/-- Try: what it leaves, and the error's number -/
def VS.tried (s : VS) : VS := { s with lf := (tryR s.lo s.lf).1 }
def VS.err (s : VS) : Int := (tryR s.lo s.lf).2

def VS.put (s : VS) (b : Blk) : VS := { s with l := s.l ++ [b] }
/-- Write, Mark -/
def VS.add (s : VS) (b : Blk) : VS × Int :=
  if s.err ≠ 0 then (s.tried, s.err) else
  if s.pr = true then (s.tried, 15) else
  if s.pos < s.l.length ∨ lastTorn s.l = true then (s.tried, 16) else
  if s.rm - wsum s.l < b.wt then (s.tried, 7) else
  ({ s.tried with l := s.l ++ [b], pos := s.pos + 1 }, 0)
def VS.flush (s : VS) : VS × Int := if s.err ≠ 0 then (s.tried, s.err) else ({ s.tried with sure := s.l.length }, 0)
/-- Read: the bytes, is it a mark, the error's number -/
def VS.read (s : VS) : VS × Blk × Int :=
  if s.err ≠ 0 then (s.tried, .no, s.err) else
  match s.l[s.pos]? with
  | none => (s.tried, .no, 2)
  | some b => if b.torn = true then (s.tried, .no, 4) else ({ s.tried with pos := s.pos + 1 }, b, 0)
def VS.seek (s : VS) (n : Int) : VS × Int :=
  if s.err ≠ 0 then (s.tried, s.err) else
  if n < 0 ∨ (s.l.length : Int) < n then (s.tried, 1) else ({ s.tried with pos := n.toNat }, 0)
/-- where the first mark is -/
def marked (l : List Blk) : Option Nat := l.findIdx? (·.mark)
def VS.skip (s : VS) : VS × Int :=
  if s.err ≠ 0 then (s.tried, s.err) else
  match marked (s.l.drop s.pos) with
  | none => (s.tried, 2)
  | some k => ({ s.tried with pos := s.pos + k + 1 }, 0)
def VS.cut (s : VS) (n : Nat) : VS := { s with l := s.l.take n, sure := min s.sure n, pos := min s.pos n }
def VS.trim (s : VS) : VS × Int :=
  if s.err ≠ 0 then (s.tried, s.err) else
  if lastTorn s.l = false then (s.tried, 5) else
  if s.pr = true then (s.tried, 15) else (s.tried.cut (s.l.length - 1), 0)
def VS.erase (s : VS) (lab : ByteArray) : VS × Int :=
  if s.err ≠ 0 then (s.tried, s.err) else
  if s.pr = true then (s.tried, 15) else ({ s.tried.cut 0 with lab := lab, er := s.er + 1 }, 0)
/-- how many blocks a crash keeps; how many bytes of the next one -/
def VS.kept (s : VS) (c : Int → Int → Int) : Nat := s.sure + (c 0 ((s.l.length : Int) - s.sure + 1)).toNat
def VS.part (s : VS) (c : Int → Int → Int) : Nat := (c 1 (((s.l[s.kept c]?.getD .no).t.size : Nat) : Int)).toNat
def VS.left (s : VS) (c : Int → Int → Int) : List Blk :=
  if s.part c = 0 then s.l.take (s.kept c) else s.l.take (s.kept c) ++ [⟨(s.l[s.kept c]?.getD .no).t.extract 0 (s.part c), false, true⟩]
def VS.crash (s : VS) (c : Int → Int → Int) : VS := { s with l := s.left c, sure := (s.left c).length, pos := 0 }

theorem VS.ok.tried {s : VS} (h : s.ok) : s.tried.ok := by
  have h0 := h.lpos
  have h1 := h.ltop
  have hr : 0 ≤ (tryR s.lo s.lf).1 ∧ (tryR s.lo s.lf).1 ≤ 1073741825 := by
    unfold tryR
    repeat' split
    all_goals omega
  exact ⟨h.blk, h.sum, h.top, hr.1, hr.2, h.sure, h.pos, h.len, h.lab, h.er⟩
theorem VS.ok.cut {s : VS} (h : s.ok) {n : Nat} (hn : n ≤ s.l.length) : (s.cut n).ok := by
  have h1 := wsum_take_le s.l n
  have h2 := h.sum
  have h3 := h.len
  refine ⟨fun b hb => h.blk b (List.mem_of_mem_take hb), ?_, h.top, h.lpos, h.ltop, ?_, ?_, ?_, h.lab, h.er⟩
  · show (wsum (s.l.take n) : Int) ≤ s.rm; omega
  · show min s.sure n ≤ (s.l.take n).length; rw [List.length_take]; omega
  · show min s.pos n ≤ (s.l.take n).length; rw [List.length_take]; omega
  · show (s.l.take n).length ≤ 1000000; rw [List.length_take]; omega
end Go.Proofs.YtniecodpdmjppaaDoor
