/- A volume that is neither lost, nor armed, nor protected. -/
import Derived.Test.YtniecodpdmjppaaDoorVe
namespace Go.Proofs.YtniecodpdmjppaaDoor
open Go.RowKit
set_option linter.unusedVariables false

structure VS.Calm (s : VS) : Prop where
  lo : s.lo = false
  lf : s.lf = 0
  pr : s.pr = false
section
variable {s : VS}
theorem VS.Calm.tried (h : s.Calm) : s.tried = s := by
  obtain ⟨rm, lo, lf, lab, l, sure, pos, er, pr⟩ := s
  obtain ⟨h1, h2, h3⟩ := h
  simp only at h1 h2 h3
  subst h1 h2 h3
  rfl
theorem VS.Calm.err (h : s.Calm) : s.err = 0 := by
  unfold VS.err
  rw [h.lo, h.lf]
  rfl
theorem VS.Calm.new (rm : Int) : (VS.new rm).Calm := ⟨rfl, rfl, rfl⟩
theorem VS.Calm.add (h : s.Calm) (b : Blk) : s.add b = if s.pos < s.l.length ∨ lastTorn s.l = true then (s, 16) else if s.rm - wsum s.l < b.wt then (s, 7) else ({ s with l := s.l ++ [b], pos := s.pos + 1 }, 0) := by
  unfold VS.add
  rw [if_neg (by simp [h.err]), if_neg (by rw [h.pr]; decide), h.tried]
theorem VS.Calm.add_end (h : s.Calm) (b : Blk) (hp : s.pos = s.l.length) (ht : lastTorn s.l = false) (hf : (wsum s.l : Int) + b.wt ≤ s.rm) : s.add b = ({ s with l := s.l ++ [b], pos := s.pos + 1 }, 0) := by
  rw [h.add, if_neg (by rw [ht, hp]; simp), if_neg (by omega)]
theorem VS.Calm.flush (h : s.Calm) : s.flush = ({ s with sure := s.l.length }, 0) := by
  unfold VS.flush
  rw [if_neg (by simp [h.err]), h.tried]
theorem VS.Calm.seek (h : s.Calm) (n : Int) : s.seek n = if n < 0 ∨ (s.l.length : Int) < n then (s, 1) else ({ s with pos := n.toNat }, 0) := by
  unfold VS.seek
  rw [if_neg (by simp [h.err]), h.tried]
theorem VS.Calm.read (h : s.Calm) : s.read = match s.l[s.pos]? with
  | none => (s, .no, 2)
  | some b => if b.torn = true then (s, .no, 4) else ({ s with pos := s.pos + 1 }, b, 0) := by
  unfold VS.read
  rw [if_neg (by simp [h.err]), h.tried]
  rfl
theorem VS.Calm.skip (h : s.Calm) : s.skip = match marked (s.l.drop s.pos) with
  | none => (s, 2)
  | some k => ({ s with pos := s.pos + k + 1 }, 0) := by
  unfold VS.skip
  rw [if_neg (by simp [h.err]), h.tried]
  rfl
theorem VS.Calm.trim (h : s.Calm) : s.trim = if lastTorn s.l = false then (s, 5) else (s.cut (s.l.length - 1), 0) := by
  unfold VS.trim
  rw [if_neg (by simp [h.err]), if_neg (show ¬ s.pr = true by rw [h.pr]; decide), h.tried]

/-- blocks of bytes, none torn, written one behind the other; the position at their end -/
structure VS.Fresh (s : VS) (rm : Int) : Prop where
  calm : s.Calm
  rm : s.rm = rm
  pos : s.pos = s.l.length
  torn : lastTorn s.l = false
theorem VS.Fresh.new (rm : Int) : (VS.new rm).Fresh rm := ⟨.new rm, rfl, rfl, rfl⟩
theorem VS.Fresh.more {rm : Int} (h : s.Fresh rm) (b : Blk) (hb : b.torn = false) : VS.Fresh { s with l := s.l ++ [b], pos := s.pos + 1 } rm :=
  ⟨⟨h.calm.lo, h.calm.lf, h.calm.pr⟩, h.rm, by show s.pos + 1 = (s.l ++ [b]).length; rw [h.pos, List.length_append]; rfl, by show lastTorn (s.l ++ [b]) = false; rw [lastTorn_append, hb]⟩
theorem VS.Fresh.add {rm : Int} (h : s.Fresh rm) (b : Blk) : s.add b = if rm < (wsum s.l : Int) + b.wt then (s, 7) else ({ s with l := s.l ++ [b], pos := s.pos + 1 }, 0) := by
  rw [h.calm.add, if_neg (by rw [h.torn, h.pos]; simp), h.rm]
  by_cases hf : rm - wsum s.l < b.wt
  · rw [if_pos hf, if_pos (by omega)]
  · rw [if_neg hf, if_neg (by omega)]
end
end Go.Proofs.YtniecodpdmjppaaDoor
