/- Tsm, By, Vsp, Spm: merged (a claim holds few files). -/
import Derived.Test.YteobachhanjmfaaDoorQ3
import Derived.Test.YteobachhanjmfaaDoorMem
import Derived.Test.YteobachhanjmfaaDoorProg
import Derived.Test.YteobachhanjmfaaDoorChecked
import Derived.WalkKit
import Derived.Laws.IdiomStrings
import Derived.Test.YteobachhanjmfaaDoorVl
import Derived.Deep.QuietTactic
import Derived.RegionTactic
import Derived.Deep.Cut
/- A byte of a block is another one: its blob is not read; the others are as they were. -/
namespace Go.Proofs.YteobachhanjmfaaDoor
open Go.RowKit
open Sm
set_option linter.unusedVariables false
set_option linter.unusedSimpArgs false

theorem be_inj {a b : List UInt8} (ha : a.length = 4) (hb : b.length = 4) (h : be a = be b) : a = b := by
  match a, ha, b, hb with
  | [a0, a1, a2, a3], _, [b0, b1, b2, b3], _ =>
    have x0 := a0.toNat_lt; have x1 := a1.toNat_lt; have x2 := a2.toNat_lt; have x3 := a3.toNat_lt
    have y0 := b0.toNat_lt; have y1 := b1.toNat_lt; have y2 := b2.toNat_lt; have y3 := b3.toNat_lt
    have h2 : a0.toNat * 16777216 + a1.toNat * 65536 + a2.toNat * 256 + a3.toNat = b0.toNat * 16777216 + b1.toNat * 65536 + b2.toNat * 256 + b3.toNat := h
    have e0 : a0 = b0 := UInt8.toNat_inj.1 (by omega)
    have e1 : a1 = b1 := UInt8.toNat_inj.1 (by omega)
    have e2 : a2 = b2 := UInt8.toNat_inj.1 (by omega)
    have e3 : a3 = b3 := UInt8.toNat_inj.1 (by omega)
    rw [e0, e1, e2, e3]
/-- what opens as the only frame -/
theorem only_zero {l : List UInt8} (h : (onlyL l).2 = 0) : 8 ≤ l.length ∧ l.length = 8 + be (l.take 4) ∧ be ((l.drop 4).take 4) = crc (l.take 4 ++ (l.drop 8).take (be (l.take 4))) := by
  unfold onlyL at h
  by_cases h1 : (openL l).2.2 ≠ 0
  · rw [if_pos h1] at h; exact absurd h h1
  · rw [if_neg h1] at h
    by_cases h2 : (openL l).2.1 < l.length
    · rw [if_pos h2] at h; exact absurd h (by simp)
    · unfold openL at h1 h2
      by_cases c1 : l.length < 8
      · rw [if_pos c1] at h1; simp at h1
      · rw [if_neg c1] at h1 h2
        by_cases c2 : 1048576 < be (l.take 4)
        · rw [if_pos c2] at h1; simp at h1
        · rw [if_neg c2] at h1 h2
          by_cases c3 : l.length < 8 + be (l.take 4)
          · rw [if_pos c3] at h1; simp at h1
          · rw [if_neg c3] at h1 h2
            by_cases c4 : be ((l.drop 4).take 4) ≠ crc (l.take 4 ++ (l.drop 8).take (be (l.take 4)))
            · rw [if_pos c4] at h1; simp at h1
            · rw [if_neg c4] at h2
              refine ⟨by omega, ?_, Classical.not_not.1 c4⟩
              simp only at h2
              omega
theorem set_split {l : List UInt8} {p : Nat} (hp : p < l.length) (b : UInt8) : l = l.take p ++ [l[p]] ++ l.drop (p + 1) ∧ l.set p b = l.take p ++ [b] ++ l.drop (p + 1) := by
  constructor
  · rw [List.append_assoc, List.singleton_append, List.getElem_cons_drop, List.take_append_drop]
  · rw [List.set_eq_take_append_cons_drop, if_pos hp, List.append_assoc, List.singleton_append]
/-- a frame of which one byte is another one -/
theorem only_spoilt {l : List UInt8} {p : Nat} {b : UInt8} (h : (onlyL l).2 = 0) (hp : p < l.length) (hb : b ≠ l[p]) : (onlyL (l.set p b)).2 ≠ 0 := by
  intro h'
  obtain ⟨a1, a2, a3⟩ := only_zero h
  obtain ⟨b1, b2, b3⟩ := only_zero h'
  rw [List.length_set] at b1 b2
  have e4 : (l.set p b).take 4 = l.take 4 := be_inj (by rw [List.length_take, List.length_set]; omega) (by rw [List.length_take]; omega) (by omega)
  rw [e4] at b3
  have hp4 : 4 ≤ p := by
    rcases Nat.lt_or_ge p 4 with h4 | h4
    · exfalso
      have := congrArg (fun t => t[p]?) e4
      simp only [List.getElem?_take_of_lt h4] at this
      rw [List.getElem?_set_self hp, List.getElem?_eq_getElem hp] at this
      exact hb (Option.some.inj this)
    · exact h4
  obtain ⟨q, rfl⟩ : ∃ q, p = 4 + q := ⟨p - 4, by omega⟩
  have hd4 : (l.set (4 + q) b).drop 4 = (l.drop 4).set q b := by
    rw [List.drop_set, if_neg (by omega)]
    congr 1
    omega
  have hql : q < (l.drop 4).length := by rw [List.length_drop]; omega
  have hqe : (l.drop 4)[q] = l[4 + q] := by rw [List.getElem_drop]
  have hd8 : ∀ x : List UInt8, x.drop 8 = (x.drop 4).drop 4 := fun x => by rw [List.drop_drop]
  rw [hd8, hd4] at b3
  rw [hd8] at a3
  have ha4 : 4 ≤ (l.drop 4).length := by rw [List.length_drop]; omega
  have hl4 : (l.drop 4).length = 4 + be (l.take 4) := by rw [List.length_drop]; omega
  generalize l.drop 4 = m at *
  rw [← hqe] at hb
  clear hqe hd8 hd4 h h' e4 a2 b2 hp4 hp a1 b1
  rcases Nat.lt_or_ge q 4 with h4 | h4
  · have e : (m.set q b).drop 4 = m.drop 4 := by rw [List.drop_set, if_pos (by omega)]
    rw [e, ← a3] at b3
    have e4 : (m.set q b).take 4 = m.take 4 := be_inj (by rw [List.length_take, List.length_set]; omega) (by rw [List.length_take]; omega) b3
    have := congrArg (fun t => t[q]?) e4
    simp only [List.getElem?_take_of_lt h4] at this
    rw [List.getElem?_set_self hql, List.getElem?_eq_getElem hql] at this
    exact hb (Option.some.inj this)
  · obtain ⟨r, rfl⟩ : ∃ r, q = 4 + r := ⟨q - 4, by omega⟩
    have e : (m.set (4 + r) b).drop 4 = (m.drop 4).set r b := by
      rw [List.drop_set, if_neg (by omega)]
      congr 1
      omega
    have e4 : (m.set (4 + r) b).take 4 = m.take 4 := by rw [List.take_set_of_le (by omega)]
    have hrl : r < (m.drop 4).length := by rw [List.length_drop]; omega
    have hre : (m.drop 4)[r] = m[4 + r] := by rw [List.getElem_drop]
    rw [e, e4, a3] at b3
    have hlen : (m.drop 4).length = be (l.take 4) := by rw [List.length_drop]; omega
    rw [show (m.drop 4).take (be (l.take 4)) = m.drop 4 from List.take_of_length_le (by omega), show ((m.drop 4).set r b).take (be (l.take 4)) = (m.drop 4).set r b from List.take_of_length_le (by rw [List.length_set]; omega)] at b3
    rw [← hre] at hb
    generalize m.drop 4 = x at *
    obtain ⟨s1, s2⟩ := set_split hrl b
    rw [s2] at b3
    conv at b3 => lhs; rw [s1]
    have hct := crc_told (l.take 4 ++ x.take r) [x[r]] [b] (x.drop (r + 1)) rfl (by simp) (by intro e; exact hb (by injection e with e _; exact e.symm))
    apply hct
    simpa [List.append_assoc] using b3
theorem parse_spoilt {p : Pc} (h : p.ok) {i : Nat} {b : UInt8} (hi : i < p.spell.length) (hb : b ≠ p.spell[i]) : (parseL (p.spell.set i b)).2 ≠ 0 := by
  have he := enc_max h
  have h0 : (onlyL p.spell).2 = 0 := by unfold Pc.spell; rw [only_frame p.enc (by omega)]
  have h1 := only_spoilt h0 hi hb
  unfold parseL
  rw [if_pos h1]
  exact h1
/-- a blob of which block q can't be told -/
theorem rd_bad {lab : ByteArray} {first id : Nat} {d : List UInt8} (hl : lab.size ≤ 32) (hf : first + 20 ≤ 1000000) (hid : id < 18446744073709551616) (hd : d.length ≤ 4000) {q : Nat} (hq : q < partsOf d.length) {x : Blk} (hx : x.torn = false) (hm : x.mark = false) (he : (parseL x.t.data.toList).2 ≠ 0) (rest : List Blk) :
    ∀ (m k : Nat), k + m = q → ∃ e, e ≠ 0 ∧ rdGo lab first id (((blobBlks lab first id d).set q x).drop k ++ rest) k (d.take (200 * k)) = ([], e) := by
  have h20 := partsOf_le hd
  intro m
  induction m with
  | zero =>
    intro k hk
    obtain rfl : k = q := by omega
    have hlen := blobBlks_len lab first id d
    have hdr : ((blobBlks lab first id d).set k x).drop k = x :: (blobBlks lab first id d).drop (k + 1) := by
      rw [List.drop_eq_getElem_cons (by rw [List.length_set]; omega), List.getElem_set_self, List.drop_set, if_pos (by omega)]
    rw [hdr, List.cons_append, rdGo_cons, if_neg (by simp [hx]), if_neg (by simp [hm]), if_pos he]
    exact ⟨_, he, rfl⟩
  | succ m ih =>
    intro k hk
    have hkl : k < partsOf d.length := by omega
    have hlen := blobBlks_len lab first id d
    obtain ⟨g1, g2⟩ := List.getElem?_eq_some_iff.1 (blobBlks_get (lab := lab) (first := first) (id := id) hkl)
    have hdr : ((blobBlks lab first id d).set q x).drop k = pieceBlk (pieceOf lab first id d k) :: ((blobBlks lab first id d).set q x).drop (k + 1) := by
      rw [List.drop_eq_getElem_cons (by rw [List.length_set]; omega), List.getElem_set_ne (by omega), g2]
    have hps := parse_spell (pieceOf_ok hl (by omega : first + k ≤ 1000000) hid hd hkl)
    have hbt : (pieceBlk (pieceOf lab first id d k)).t.data.toList = (pieceOf lab first id d k).spell := rfl
    have hdt : (pieceOf lab first id d k).data.data.toList = chunkOf d k := rfl
    rw [hdr, List.cons_append]
    unfold rdGo
    rw [hbt, hps, if_neg (by simp [pieceBlk]), if_neg (by simp [pieceBlk]), if_neg (by simp), if_neg (by simp [pieceOf])]
    simp only [hdt]
    rw [chunk_take, if_neg (show ¬ k + 1 = (pieceOf lab first id d k).parts by show ¬ k + 1 = partsOf d.length; omega)]
    exact ih (k + 1) (by omega)
end Go.Proofs.YteobachhanjmfaaDoor

/- A block of bytes, as '[]byte(s)' makes it: the cells that are known, none of them frozen. -/
namespace Go.Proofs.YteobachhanjmfaaDoor
open Go.RowKit

/-- block g begins with the bytes B; those cells are not frozen -/
def BytesAt (w : World) (g : Nat) (t : TypeId) (B : List UInt8) : Prop :=
  ∃ cs lo hi, w.heap[g]? = some (.cells cs t (lo, hi)) ∧ B.length ≤ lo ∧ ∀ i (h : i < B.length), cs[i]? = some (.int .u8 ((B[i]).toNat : Int))

section
variable {w w' : World} {g : Nat} {t : TypeId} {B : List UInt8}
theorem BytesAt.lt (h : BytesAt w g t B) : g < w.heap.size := by
  obtain ⟨cs, lo, hi, h, -, -⟩ := h
  exact (Array.getElem?_eq_some_iff.1 h).1
theorem BytesAt.cell (h : BytesAt w g t B) {i : Nat} (hi : i < B.length) : w.cell? ⟨g, i, none⟩ = some (.int .u8 ((B[i]).toNat : Int)) := by
  obtain ⟨cs, lo, hh, h, -, hc⟩ := h
  simp [World.cell?, h, hc i hi]
theorem BytesAt.frozen (h : BytesAt w g t B) {i : Nat} (hi : i < B.length) : w.frozen? ⟨g, i, none⟩ = false := by
  obtain ⟨cs, lo, hh, h, hl, -⟩ := h
  have : ¬ lo ≤ i := by omega
  simp [World.frozen?, h, this]
theorem BytesAt.set (h : BytesAt w g t B) {i : Nat} (_hi : i < B.length) (b : UInt8) : BytesAt (w.setCell ⟨g, i, none⟩ (.int .u8 (b.toNat : Int))) g t (B.set i b) := by
  obtain ⟨cs, lo, hh, h, hl, hc⟩ := h
  refine ⟨cs.setIfInBounds i (.int .u8 (b.toNat : Int)), lo, hh, by simp [World.setCell, Array.getElem?_modify, h], by simpa using hl, fun j hj => ?_⟩
  rw [List.length_set] at hj
  rw [Array.getElem?_setIfInBounds, List.getElem_set]
  by_cases hij : i = j
  · subst hij
    have : i < cs.size := by
      have := hc i hj
      exact (Array.getElem?_eq_some_iff.1 this).1
    simp [this]
  · simp [hij, hc j hj]
theorem BytesAt.drewN (h : BytesAt w g t B) (n : Nat) : BytesAt (w.drewN n) g t B := h
theorem BytesAt.new (w : World) (s : ByteArray) (cap : Nat) (g : Nat) (hg : g = w.heap.size) : BytesAt (w.drew.alloc (.cells (bytesRow s cap) t ((bytesRow s cap).size, (bytesRow s cap).size + 1))) g t s.data.toList := by
  subst hg
  refine ⟨bytesRow s cap, _, _, heap_alloc_new w.drew _, by simp [bytesRow], fun i hi => ?_⟩
  rw [bytesRow_at s cap i (by simpa using hi)]
  simp
end
end Go.Proofs.YteobachhanjmfaaDoor

/- (*Volume).Spoil: its walk. -/
namespace Go.Proofs.YteobachhanjmfaaDoor
open Go.RowKit
set_option linter.unusedVariables false
set_option linter.unusedSimpArgs false

/-- a block of which byte p is another one -/
def Blk.spoilt (b : Blk) (p : Nat) (y : UInt8) : Blk := ⟨⟨(b.t.data.toList.set p ((b.t.data.toList.getD p 0) ^^^ y)).toArray⟩, b.mark, b.torn⟩
def VS.spoil (s : VS) (n at_ : Int) (y : UInt8) : VS × Bool :=
  if n < 0 ∨ (s.l.length : Int) ≤ n ∨ at_ < 0 ∨ ((s.l[n.toNat]?.getD .no).t.size : Int) ≤ at_ then (s, false)
  else ({ s with l := s.l.set n.toNat ((s.l[n.toNat]?.getD .no).spoilt at_.toNat y) }, true)
theorem spoilt_size (b : Blk) (p : Nat) (y : UInt8) : (b.spoilt p y).t.size = b.t.size := by
  show (⟨(b.t.data.toList.set p _).toArray⟩ : ByteArray).size = _
  rw [ByteArray.size]
  simp
theorem spoilt_wt (b : Blk) (p : Nat) (y : UInt8) : (b.spoilt p y).wt = b.wt := by unfold Blk.wt; rw [spoilt_size]
theorem wsum_set {l : List Blk} {k : Nat} (h : k < l.length) {b : Blk} (hb : b.wt = l[k].wt) : wsum (l.set k b) = wsum l := by
  unfold wsum
  have : (l.set k b).map Blk.wt = l.map Blk.wt := by
    rw [List.map_set, hb]
    apply List.ext_getElem?
    intro i
    rw [List.getElem?_set]
    by_cases e : k = i
    · subst e
      rw [if_pos rfl]
      simp [h]
    · rw [if_neg e]
  rw [this]
theorem cells3_set : ∀ (l : List Blk) (k : Nat) (h : k < l.length) (t : ByteArray), cells3 (l.set k ⟨t, l[k].mark, l[k].torn⟩) = (cells3 l).set (k * 3) (.string t) := by
  intro l
  induction l with
  | nil => intro k h; exact absurd h (Nat.not_lt_zero _)
  | cons a r ih =>
    intro k h t
    have hc : (Blk.cells a).length = 3 := rfl
    cases k with
    | zero => rw [List.set_cons_zero, cells3_cons, cells3_cons]; rfl
    | succ k =>
      rw [List.set_cons_succ, cells3_cons, cells3_cons, List.set_append, if_neg (by omega)]
      have := ih k (by simpa using h) t
      simp only [List.getElem_cons_succ]
      rw [this, hc, show (k + 1) * 3 - 3 = k * 3 by omega]
theorem spoil_vs {w : World} {B g : Nat} {s : VS} {v : Value} (h : VolAt w B g s v) (ok : s.ok) {k q c : Nat} (hk : k < s.l.length) (hv : v = .slice (some ⟨q, 0, none⟩) s.l.length c) (hqg : q ≠ g) (b' : Blk) (hb : b'.t.size = s.l[k].t.size) (hm : b'.mark = s.l[k].mark) (ht : b'.torn = s.l[k].torn) :
    Vol (w.setCell ⟨q, k * 3, none⟩ (.string b'.t)) B g { s with l := s.l.set k b' } ∧ Stay B g w (w.setCell ⟨q, k * 3, none⟩ (.string b'.t)) := by
  subst hv
  have hw : b'.wt = s.l[k].wt := by unfold Blk.wt; rw [hb]
  have hs := wsum_set hk hw
  obtain ⟨hst, hgr⟩ := h.row.stored (k * 3) (.string b'.t)
  have hb' : b' = ⟨b'.t, s.l[k].mark, s.l[k].torn⟩ := by rw [← hm, ← ht]
  have hcs : cells3 (s.l.set k b') = (cells3 s.l).set (k * 3) (.string b'.t) := by
    conv => lhs; rw [hb']
    exact cells3_set s.l k hk b'.t
  have hg9 : (w.setCell ⟨q, k * 3, none⟩ (.string b'.t)).heap[g]? = w.heap[g]? := hgr.block g h.lt (by simpa using Ne.symm hqg)
  have hrw := h.rowEq
  have hqB : B ≤ q := (h.row_lt q rfl).1
  have hqo : ∃ cur, w.heap[q]? = some (.cells cur 107 (0, 0)) := by
    rcases h.row.2 with ⟨h', _⟩ | ⟨q', cap', cur, h', _, hat, _⟩
    · cases h'
    · have e : q = q' := by injection h' with e _ _; injection e with e; injection e
      subst e
      exact ⟨cur, hat⟩
  obtain ⟨cur, hat⟩ := hqo
  have hok : VS.ok { s with l := s.l.set k b' } := by
    refine ⟨fun b hbm => ?_, ?_, ok.top, ok.lpos, ok.ltop, ?_, ?_, ?_, ok.lab, ok.er⟩
    · rcases List.mem_or_eq_of_mem_set hbm with h1 | rfl
      · exact ok.blk b h1
      · have := ok.blk _ (List.getElem_mem hk)
        exact ⟨by rw [hb]; exact this.1, fun e => by rw [hb]; exact this.2 (by rw [← hm]; exact e)⟩
    · show (wsum (s.l.set k b') : Int) ≤ s.rm
      rw [hs]; exact ok.sum
    · show s.sure ≤ (s.l.set k b').length
      rw [List.length_set]; exact ok.sure
    · show s.pos ≤ (s.l.set k b').length
      rw [List.length_set]; exact ok.pos
    · show (s.l.set k b').length ≤ _
      rw [List.length_set]; exact ok.len
  refine ⟨⟨hok, .slice (some ⟨q, 0, none⟩) s.l.length c, ⟨?_, ?_, h.gB⟩⟩, ⟨⟨below_of_grownBy (Below.refl _ w) hgr (Nat.le_trans h.gB (Nat.le_of_lt h.lt)) hqB, Kept.of_grown hgr hat (.inr ⟨_, _, rfl⟩)⟩, Foot.of_row hgr hrw (Ne.symm hqg)⟩⟩
  · show At _ g _ (volCells { s with l := s.l.set k b' } ((wsum (s.l.set k b') : Nat) : Int) _)
    rw [hs]
    exact hg9.trans h.at_
  · show (w.setCell _ _).ownsRow B _ 3 _ (s.l.set k b').length (cells3 (s.l.set k b'))
    rw [hcs, List.length_set]
    exact hst

def SpoilEnds (w : World) (B g : Nat) (r : VS × Bool) (e : Ending) (w' : World) : Prop := e = .returned (.bool r.2) ∧ Vol w' B g r.1 ∧ Stay B g w w'

set_option maxRecDepth 100000 in
set_option maxHeartbeats 2000000 in
theorem spoil_vol {w : World} {B g : Nat} {s : VS} (h : Vol w B g s) (n at_ : Int) (y : UInt8) :
    Calls Tryd.prog 22 #[.pointer (some ⟨g, 0, none⟩), .int .i64 n, .int .i64 at_, .int .u8 (y.toNat : Int)] w (SpoilEnds w B g (s.spoil n at_ y)) := by
  have H := Lib.hid h
  obtain ⟨ok, v, h⟩ := h
  have hbz := h.gB
  have hln := ok.len
  by_cases h1 : n < 0
  · have hr : s.spoil n at_ y = (s, false) := by unfold VS.spoil; rw [if_pos (.inl h1)]
    rw [hr]
    have e1 : decide (n < 0) = true := by simpa using h1
    clear hr h ok
    go_enter Tryd.func22, Tryd.ntmps22
    go_wp2
    go_ret
    exact ⟨rfl, H.out, Stay.refl _ _⟩
  · have e1 : decide (n < 0) = false := by simpa using h1
    by_cases h2 : (s.l.length : Int) ≤ n
    · have hr : s.spoil n at_ y = (s, false) := by unfold VS.spoil; rw [if_pos (.inr (.inl h2))]
      rw [hr]
      obtain ⟨A, c, rfl, hc, _, _, _⟩ := h.form
      have c5 : w.cell? ⟨g, 5, none⟩ = some (.slice A s.l.length c) := h.at_.cell 5
      have e2 : decide ((s.l.length : Int) ≤ n) = true := by simpa using h2
      clear hr h ok
      generalize s.l.length = z at *
      go_enter Tryd.func22, Tryd.ntmps22
      go_wp2
      go_ret
      exact ⟨rfl, H.out, Stay.refl _ _⟩
    · obtain ⟨k, rfl⟩ := Int.eq_ofNat_of_zero_le (show 0 ≤ n by omega)
      have hk : k < s.l.length := by omega
      obtain ⟨q, c, rfl, hc, hq, hqg, hBq, k0, k1, k2⟩ := h.next hk
      have c5 : w.cell? ⟨g, 5, none⟩ = some (.slice (some ⟨q, 0, none⟩) s.l.length c) := h.at_.cell 5
      have e2 : decide ((s.l.length : Int) ≤ (k : Int)) = false := by simp; omega
      have i0 : (0 : Int) ≤ (k : Int) := by omega
      have i1 : (k : Int) < (s.l.length : Int) := by omega
      have hge : s.l[k]?.getD .no = s.l[k] := by rw [List.getElem?_eq_getElem hk]; rfl
      have hbk := ok.blk _ (List.getElem_mem hk)
      by_cases h3 : at_ < 0
      · have hr : s.spoil k at_ y = (s, false) := by unfold VS.spoil; rw [if_pos (.inr (.inr (.inl h3)))]
        rw [hr]
        have e3 : decide (at_ < 0) = true := by simpa using h3
        clear hr h ok hge hbk k1 k2
        generalize s.l[k].t = tx at *
        generalize s.l.length = z at *
        go_enter Tryd.func22, Tryd.ntmps22
        go_wp2
        go_ret
        exact ⟨rfl, H.out, Stay.refl _ _⟩
      · have e3 : decide (at_ < 0) = false := by simpa using h3
        by_cases h4 : (s.l[k].t.size : Int) ≤ at_
        · have hr : s.spoil k at_ y = (s, false) := by unfold VS.spoil; rw [Int.toNat_natCast, hge, if_pos (.inr (.inr (.inr h4)))]
          rw [hr]
          have e4 : decide ((s.l[k].t.size : Int) ≤ at_) = true := by simpa using h4
          clear hr h ok hge hbk k1 k2
          generalize s.l[k].t = tx at *
          generalize s.l.length = z at *
          go_enter Tryd.func22, Tryd.ntmps22
          go_wp2
          go_ret
          exact ⟨rfl, H.out, Stay.refl _ _⟩
        · obtain ⟨p, rfl⟩ := Int.eq_ofNat_of_zero_le (show 0 ≤ at_ by omega)
          have e4 : decide ((s.l[k].t.size : Int) ≤ (p : Int)) = false := by simp; omega
          have hps : p < s.l[k].t.size := by omega
          have hr : s.spoil k p y = ({ s with l := s.l.set k (s.l[k].spoilt p y) }, true) := by
            unfold VS.spoil
            rw [Int.toNat_natCast, Int.toNat_natCast, hge, if_neg (by rintro (h | h | h | h) <;> omega)]
          rw [hr]
          have HF : Hid (∀ w', VolAt w' B g s (.slice (some ⟨q, 0, none⟩) s.l.length c) → Vol (w'.setCell ⟨q, k * 3, none⟩ (.string (s.l[k].spoilt p y).t)) B g { s with l := s.l.set k (s.l[k].spoilt p y) } ∧ Stay B g w' (w'.setCell ⟨q, k * 3, none⟩ (.string (s.l[k].spoilt p y).t))) := Lib.hid fun w' h' => spoil_vs h' ok hk rfl hqg _ (spoilt_size _ _ _) rfl rfl
          have hpl : p < s.l[k].t.data.toList.length := by simpa using hps
          have HV := Lib.hid h
          obtain ⟨tx, htx⟩ : ∃ tx, s.l[k].t = tx := ⟨_, rfl⟩
          obtain ⟨t2, ht2⟩ : ∃ t2, (s.l[k].spoilt p y).t = t2 := ⟨_, rfl⟩
          have hsp : (⟨(tx.data.toList.set p ((tx.data.toList.getD p 0) ^^^ y)).toArray⟩ : ByteArray) = t2 := by rw [← ht2, ← htx]; rfl
          have hts : tx.size ≤ 1000000 := by rw [← htx]; exact hbk.1
          rw [htx] at k0 e4 hps hpl
          rw [ht2] at HF
          obtain ⟨s', hs'⟩ : ∃ s', ({ s with l := s.l.set k (s.l[k].spoilt p y) } : VS) = s' := ⟨_, rfl⟩
          rw [hs'] at HF ⊢
          have HSP := Lib.hid hsp
          have hcv := fun W => run_bytes_of_string (P := Tryd.prog) W 9 82 5 tx Tryd.underlying9 Tryd.underlying82 Tryd.underlying5
          clear hr hge hbk hsp ok h H hs' ht2 htx k1 k2 h4
          generalize s.l.length = z at *
          go_enter Tryd.func22, Tryd.ntmps22
          go_upto_region 3 with fail
          go_upto_region 4 with fail
          have BA := Lib.hid (BytesAt.new (t := 5) w tx (grownCap w tx.size 0 5) w.heap.size rfl)
          have hb3 : Below w.heap.size w (w.alloc (.cells (bytesRow tx (grownCap w tx.size 0 5)) 5 ((bytesRow tx (grownCap w tx.size 0 5)).size, (bytesRow tx (grownCap w tx.size 0 5)).size + 1))).drew := Below.drew ((Below.refl _ w).alloc (Nat.le_refl _) _)
          have BA3 : Hid (BytesAt (w.alloc (.cells (bytesRow tx (grownCap w tx.size 0 5)) 5 ((bytesRow tx (grownCap w tx.size 0 5)).size, (bytesRow tx (grownCap w tx.size 0 5)).size + 1))).drew w.heap.size 5 tx.data.toList) := Lib.hid BA.out
          have HB3 := Lib.hid hb3
          clear BA hb3 hcv
          generalize grownCap w tx.size 0 5 = cap at *
          generalize (w.alloc (.cells (bytesRow tx cap) 5 ((bytesRow tx cap).size, (bytesRow tx cap).size + 1))).drew = W3 at *
          obtain ⟨G, hG⟩ : ∃ G, w.heap.size = G := ⟨_, rfl⟩
          have HG := Lib.hid hG
          rw [hG] at BA3 HB3 ⊢
          clear hG
          have hcell := BA3.out.cell hpl
          have hfro := BA3.out.frozen hpl
          have BS := Lib.hid (BytesAt.set BA3.out hpl (tx.data.toList[p] ^^^ y))
          have hgd : tx.data.toList.getD p 0 = tx.data.toList[p] := by rw [List.getD_eq_getElem?_getD, List.getElem?_eq_getElem hpl]; rfl
          have hsp := HSP.out
          rw [hgd] at hsp
          generalize tx.data.toList[p] = b0 at *
          have HSP2 := Lib.hid hsp
          have hxb : bits .xor .u8 (b0.toNat : Int) (y.toNat : Int) = ((b0 ^^^ y).toNat : Int) := by rw [u8_xor_nat _ _ (b0.toNat_lt) (UInt8.toNat_lt _), UInt8.toNat_xor]
          have i2 : (0 : Int) ≤ (p : Int) := by omega
          have i3 : (p : Int) < (tx.size : Int) := by omega
          clear hsp hgd HSP
          go_upto_region 5 with fail
          try rw [show ((b0.toNat ^^^ y.toNat : Nat) : Int) = ((b0 ^^^ y).toNat : Int) by rw [UInt8.toNat_xor]]
          have hb4 : Below G w (W3.setCell ⟨G, p, none⟩ (.int .u8 ((b0 ^^^ y).toNat : Int))) := HB3.out.setCell (Nat.le_refl _) _
          have HB4 := Lib.hid hb4
          clear hcell hfro BA3 hb4 HB3 i2 i3
          generalize W3.setCell ⟨G, p, none⟩ (.int .u8 ((b0 ^^^ y).toNat : Int)) = W4 at *
          have hva : VolAt W4 B g s (.slice (some ⟨q, 0, none⟩) z c) := HV.out.below (by rw [HG.out]; exact HB4.out)
          have c5 : W4.cell? ⟨g, 5, none⟩ = some (.slice (some ⟨q, 0, none⟩) z c) := hva.at_.cell 5
          have hqb : W4.heap[q]? = w.heap[q]? := HB4.out.block q (by rw [← HG.out]; exact hq)
          have hkq : W4.cell? ⟨q, k * 3, none⟩ = some (.string tx) := (World.cell?_of_block hqb).trans k0
          have hfq : W4.frozen? ⟨q, k * 3, none⟩ = false := by
            rcases hva.row.2 with ⟨h', _⟩ | ⟨q', cap', cur, h', _, hat, _⟩
            · cases h'
            · have e : q = q' := by injection h' with e _ _; injection e with e; injection e
              subst e
              exact At.frozen hat _
          have hln2 : tx.data.toList.length = tx.size := by simp
          have hcb : (convert 82 9 (.slice (some ⟨G, 0, none⟩) tx.size cap)).run Tryd.prog W4.drew = .ok (.string t2) W4.drew := by
            have := run_convert_bytes_back (P := Tryd.prog) W4.drew 82 9 5 ⟨G, 0, none⟩ cap (tx.data.toList.set p (b0 ^^^ y)) Tryd.underlying82 Tryd.underlying5 Tryd.underlying9 (fun j hj => by
              have e : (⟨G, 0, none⟩ : Addr).add j = ⟨G, j, none⟩ := by simp [Addr.add]; omega
              rw [e]
              exact BytesAt.cell (BytesAt.drewN BS.out 1) hj)
            rw [List.length_set, hln2, HSP2.out] at this
            exact this
          have HVA := Lib.hid hva
          clear hva hqb hln2 BS HSP2 k0 HV
          go_region
          go_wp2
          go_ret
          obtain ⟨hv, hst⟩ := HF.out W4 HVA.out
          have hB : B ≤ w.heap.size := Nat.le_trans hBq (Nat.le_of_lt hq)
          have hd : Below (W4.setCell ⟨q, k * 3, none⟩ (.string t2)).heap.size (W4.setCell ⟨q, k * 3, none⟩ (.string t2)) (W4.setCell ⟨q, k * 3, none⟩ (.string t2)).drew := Below.drew (Below.refl _ _)
          have h04 : Stay B g w W4 := Stay.of_below (by rw [HG.out]; exact HB4.out) hB
          exact ⟨rfl, hv.below hd, (h04.trans hst).trans (Stay.of_below hd hv.bz)⟩
end Go.Proofs.YteobachhanjmfaaDoor

/- glacierlaw07.TapefmtSpoilt: what is read behind Spoil. Written by gen_spw.py. -/
namespace Go.Proofs.YteobachhanjmfaaDoor
open Go.RowKit
open Sm
set_option linter.unusedVariables false
set_option linter.unusedSimpArgs false

theorem VS.spoil_kept (s : VS) (n a : Int) (y : UInt8) : (s.spoil n a y).1.lab = s.lab ∧ (s.spoil n a y).1.l.length = s.l.length ∧ (s.Calm → (s.spoil n a y).1.Calm) := by
  unfold VS.spoil
  split
  · exact ⟨rfl, rfl, id⟩
  · exact ⟨rfl, List.length_set .., fun h => ⟨h.lo, h.lf, h.pr⟩⟩
theorem xor_ne {a y : UInt8} (h : y ≠ 0) : a ^^^ y ≠ a := by
  intro e
  apply h
  have : a ^^^ (a ^^^ y) = a ^^^ a := by rw [e]
  rw [← UInt8.xor_assoc, UInt8.xor_self, UInt8.zero_xor] at this
  exact this
theorem spoilt_zero (b : Blk) (p : Nat) (h : p < b.t.size) : b.spoilt p 0 = b := by
  have hl : p < b.t.data.toList.length := by simpa using h
  unfold Blk.spoilt
  rw [UInt8.xor_zero, List.getD_eq_getElem?_getD, List.getElem?_eq_getElem hl]
  simp only [Option.getD_some, List.set_getElem_self]
/-- what is read of a blob behind Spoil -/
theorem spoil_read {s : VS} {lab : ByteArray} {l : List (Nat × List UInt8)} (h : s.Blobs lab l) (hl : lab.size ≤ 32) (hn : l.length ≤ 20) (n a : Int) (y : UInt8) {i : Nat} (hi : i < l.length) :
    ((s.spoil n a y).2 = true → y ≠ 0 → (tapeN (l.take i) : Int) ≤ n → n < (tapeN (l.take i) : Int) + (partsOf l[i].2.length : Nat) → ∃ e, e ≠ 0 ∧ rdGo lab (tapeN (l.take i)) l[i].1 ((s.spoil n a y).1.l.drop (tapeN (l.take i))) 0 [] = ([], e)) ∧
    (¬ ((s.spoil n a y).2 = true ∧ y ≠ 0 ∧ (tapeN (l.take i) : Int) ≤ n ∧ n < (tapeN (l.take i) : Int) + (partsOf l[i].2.length : Nat)) → rdGo lab (tapeN (l.take i)) l[i].1 ((s.spoil n a y).1.l.drop (tapeN (l.take i))) 0 [] = (l[i].2, 0)) := by
  have h4 := tapeN_le l h.ok
  have h5 := tapeN_append (l.take i) (l.drop i)
  rw [List.take_append_drop] at h5
  obtain ⟨hid, hd6⟩ := h.ok _ (List.getElem_mem hi)
  have hd : l[i].2.length ≤ 4000 := by omega
  have hf : tapeN (l.take i) + 20 ≤ 1000000 := by omega
  obtain ⟨rest, hr⟩ := tape_split (lab := lab) hi
  have hsl : s.l = tapeL lab 0 (l.take i) ++ (blobBlks lab (tapeN (l.take i)) l[i].1 l[i].2 ++ rest) := h.l.trans hr
  have hpl : (tapeL lab 0 (l.take i)).length = tapeN (l.take i) := tapeL_len lab _ 0
  generalize tapeL lab 0 (l.take i) = pre at *
  generalize tapeN (l.take i) = ps at *
  generalize l[i].1 = id at *
  generalize l[i].2 = d at *
  have hbl := blobBlks_len lab ps id d
  have hsame : rdGo lab ps id (s.l.drop ps) 0 [] = (d, 0) := by
    rw [hsl, ← hpl, List.drop_left]
    exact rd_whole hl (by omega) hid hd rest
  unfold VS.spoil
  by_cases hc : n < 0 ∨ (s.l.length : Int) ≤ n ∨ a < 0 ∨ ((s.l[n.toNat]?.getD .no).t.size : Int) ≤ a
  · rw [if_pos hc]
    exact ⟨fun h1 => absurd h1 (by simp), fun _ => hsame⟩
  · rw [if_neg hc]
    simp only [not_or, Int.not_lt, Int.not_le] at hc
    obtain ⟨c1, c2, c3, c4⟩ := hc
    obtain ⟨k, rfl⟩ := Int.eq_ofNat_of_zero_le c1
    obtain ⟨p, rfl⟩ := Int.eq_ofNat_of_zero_le c3
    simp only [Int.toNat_natCast] at c4 ⊢
    have hk : k < s.l.length := by omega
    have hge : s.l[k]?.getD .no = s.l[k] := by rw [List.getElem?_eq_getElem hk]; rfl
    rw [hge] at c4 ⊢
    have hpz : p < s.l[k].t.size := by omega
    have inside : ps ≤ k → k < ps + partsOf d.length → ∃ q, k = ps + q ∧ q < partsOf d.length ∧ s.l[k] = pieceBlk (pieceOf lab ps id d q) ∧ (s.l.set k (s.l[k].spoilt p y)).drop ps = (blobBlks lab ps id d).set q (s.l[k].spoilt p y) ++ rest := fun x1 x2 => by
      refine ⟨k - ps, by omega, by omega, ?_, ?_⟩
      · have e : s.l[k]? = some (pieceBlk (pieceOf lab ps id d (k - ps))) := by
          rw [hsl, List.getElem?_append_right (by omega), hpl, List.getElem?_append_left (by omega), blobBlks_get (by omega)]
        rw [List.getElem?_eq_getElem hk] at e
        exact Option.some.inj e
      · generalize s.l[k].spoilt p y = x
        rw [hsl, List.set_append, if_neg (by omega), hpl, List.set_append, if_pos (by omega), ← hpl, List.drop_left]
    have outside : ¬ (ps ≤ k ∧ k < ps + partsOf d.length) → rdGo lab ps id ((s.l.set k (s.l[k].spoilt p y)).drop ps) 0 [] = (d, 0) := fun x1 => by
      generalize s.l[k].spoilt p y = x
      by_cases x2 : k < ps
      · rw [List.drop_set, if_pos x2]
        exact hsame
      · rw [hsl, List.set_append, if_neg (by omega), hpl, List.set_append, if_neg (by omega), ← hpl, List.drop_left]
        exact rd_whole (first := pre.length) hl (by omega) hid hd _
    refine ⟨fun _ hy x1 x2 => ?_, fun hn => ?_⟩
    · obtain ⟨q, e1, e2, e3, e4⟩ := inside (by omega) (by omega)
      rw [e4]
      have h20 := partsOf_le hd
      have hpq : ps + q ≤ 1000000 := by omega
      have hok := pieceOf_ok hl hpq hid hd e2
      have hbad : (parseL (s.l[k].spoilt p y).t.data.toList).2 ≠ 0 := by
        rw [e3] at hpz ⊢
        have hps : p < (pieceOf lab ps id d q).spell.length := by
          have : (pieceBlk (pieceOf lab ps id d q)).t.size = (pieceOf lab ps id d q).spell.length := by show (⟨_⟩ : ByteArray).size = _; rw [str_len]
          omega
        have hb : (pieceOf lab ps id d q).spell.getD p 0 = (pieceOf lab ps id d q).spell[p] := by rw [List.getD_eq_getElem?_getD, List.getElem?_eq_getElem hps]; rfl
        have := parse_spoilt hok (i := p) (b := (pieceOf lab ps id d q).spell.getD p 0 ^^^ y) hps (by rw [hb]; exact xor_ne hy)
        exact this
      obtain ⟨e, he, hr⟩ := rd_bad hl hf hid hd e2 (x := s.l[k].spoilt p y) (by rw [e3]; rfl) (by rw [e3]; rfl) hbad rest q 0 (by omega)
      rw [List.drop_zero] at hr
      exact ⟨e, he, by simpa using hr⟩
    · by_cases x1 : ps ≤ k ∧ k < ps + partsOf d.length
      · have hy : y = 0 := Classical.byContradiction fun hy => hn ⟨by simp, hy, by omega, by omega⟩
        subst hy
        rw [spoilt_zero _ _ hpz, List.set_getElem_self]
        exact hsame
      · exact outside x1
end Go.Proofs.YteobachhanjmfaaDoor
