/- Tnm, Tno, Tnp, Tnr, Tnu: merged (a claim holds few files). -/
import Derived.Test.YtejgogahkjnefaaDoorMT3
import Derived.Test.YtejgogahkjnefaaDoorVe
import Derived.Deep.QuietTactic
import Derived.BigQuiet
/- What a Write that fails, a crash and Mend leave: the blobs ahead, and a beginning of the last one. -/
namespace Go.Proofs.YtejgogahkjnefaaDoor
open Go.RowKit
open Sm
set_option linter.unusedVariables false
set_option linter.unusedSimpArgs false

/-- the blocks of a blob and its mark -/
def blobM (lab : ByteArray) (n id : Nat) (d : List UInt8) : List Blk := blobBlks lab n id d ++ [markBlk]
theorem blobM_len (lab : ByteArray) (n id : Nat) (d : List UInt8) : (blobM lab n id d).length = partsOf d.length + 1 := by
  unfold blobM; rw [List.length_append, blobBlks_len]; rfl
theorem blobM_torn {lab : ByteArray} {n id : Nat} {d : List UInt8} : ∀ b ∈ blobM lab n id d, b.torn = false := by
  intro b hb
  unfold blobM blobBlks at hb
  rcases List.mem_append.1 hb with hb | hb
  · obtain ⟨i, _, rfl⟩ := List.mem_map.1 hb
    rfl
  · rw [List.mem_singleton.1 hb]; rfl

/-- only a beginning of a blob is there: its end is missed -/
theorem rd_part {lab : ByteArray} {first id : Nat} {d : List UInt8} (hl : lab.size ≤ 32) (hf : first + 20 ≤ 1000000) (hid : id < 18446744073709551616) (hd : d.length ≤ 4000) :
    ∀ (m k q : Nat) (acc : List UInt8), k + m = q → q < partsOf d.length → rdGo lab first id (((blobBlks lab first id d).take q).drop k) k acc = ([], 2) := by
  intro m
  have h20 := partsOf_le hd
  induction m with
  | zero =>
    intro k q acc hk hq
    rw [List.drop_of_length_le (by rw [List.length_take, blobBlks_len]; omega)]
    rfl
  | succ m ih =>
    intro k q acc hk hq
    have hkl : k < partsOf d.length := by omega
    have hps := parse_spell (pieceOf_ok hl (by omega : first + k ≤ 1000000) hid hd hkl)
    have hbt : (pieceBlk (pieceOf lab first id d k)).t.data.toList = (pieceOf lab first id d k).spell := rfl
    have hdr : ((blobBlks lab first id d).take q).drop k = pieceBlk (pieceOf lab first id d k) :: ((blobBlks lab first id d).take q).drop (k + 1) := by
      have h0 : k < ((blobBlks lab first id d).take q).length := by rw [List.length_take, blobBlks_len]; omega
      have e : ((blobBlks lab first id d).take q)[k]? = some (pieceBlk (pieceOf lab first id d k)) := by
        rw [List.getElem?_take_of_lt (by omega), blobBlks_get hkl]
      obtain ⟨h1, h2⟩ := List.getElem?_eq_some_iff.1 e
      have := List.drop_eq_getElem_cons h0
      rw [h2] at this
      exact this
    rw [hdr, rdGo_cons, hbt, hps, if_neg (by simp [pieceBlk]), if_neg (by simp [pieceBlk]), if_neg (by simp), if_neg (by simp [pieceOf]), if_neg (by show ¬ k + 1 = partsOf d.length; omega)]
    exact ih (k + 1) q _ (by omega) hq
/-- at a later block of a blob none begins -/
theorem rd_later {lab : ByteArray} {first id : Nat} {d : List UInt8} (hl : lab.size ≤ 32) (hf : first + 20 ≤ 1000000) (hid : id < 18446744073709551616) (hd : d.length ≤ 4000) {j : Nat} (hj : 0 < j) (hjp : j < partsOf d.length) (rest : List Blk) :
    rdGo lab (first + j) id (pieceBlk (pieceOf lab first id d j) :: rest) 0 [] = ([], 3) := by
  have h20 := partsOf_le hd
  have hps := parse_spell (pieceOf_ok hl (by omega : first + j ≤ 1000000) hid hd hjp)
  have hbt : (pieceBlk (pieceOf lab first id d j)).t.data.toList = (pieceOf lab first id d j).spell := rfl
  rw [rdGo_cons, hbt, hps, if_neg (by simp [pieceBlk]), if_neg (by simp [pieceBlk]), if_neg (by simp), if_pos (.inr (.inr (.inr (.inl (by show j ≠ 0; omega)))))]
theorem item_part {lab : ByteArray} {id n q j : Nat} {d : List UInt8} {pre : List Blk} (hl : lab.size ≤ 32) (hf : n + 20 ≤ 1000000) (hid : id < 18446744073709551616) (hd : d.length ≤ 4000) (hn : pre.length = n) (hq : q < partsOf d.length) (hj : j < q) :
    (itemAt lab (pre ++ (blobBlks lab n id d).take q) (n + j)).2 ≠ 0 := by
  subst hn
  have h20 := partsOf_le hd
  have hjp : j < partsOf d.length := by omega
  have hps := parse_spell (pieceOf_ok hl (by omega : pre.length + j ≤ 1000000) hid hd hjp)
  have hg : (pre ++ (blobBlks lab pre.length id d).take q)[pre.length + j]? = some (pieceBlk (pieceOf lab pre.length id d j)) := by
    rw [List.getElem?_append_right (by omega), show pre.length + j - pre.length = j by omega, List.getElem?_take_of_lt hj, blobBlks_get hjp]
  have hbt : (pieceBlk (pieceOf lab pre.length id d j)).t.data.toList = (pieceOf lab pre.length id d j).spell := rfl
  have hid' : (pieceOf lab pre.length id d j).id = id := rfl
  unfold itemAt
  rw [hg]
  simp only
  rw [hbt, hps, if_neg (by simp [pieceBlk]), if_neg (by simp [pieceBlk]), if_neg (by simp), hid']
  have hdrop : (pre ++ (blobBlks lab pre.length id d).take q).drop (pre.length + j) = ((blobBlks lab pre.length id d).take q).drop j := by
    rw [List.drop_append]
    rw [List.drop_of_length_le (by omega), List.nil_append, show pre.length + j - pre.length = j by omega]
  rw [hdrop]
  by_cases h0 : j = 0
  · subst h0
    have := rd_part (lab := lab) (first := pre.length) (id := id) (d := d) hl hf hid hd q 0 q [] (by omega) hq
    rw [show pre.length + 0 = pre.length from rfl, this, if_pos (by simp)]
    simp
  · have hdr : ((blobBlks lab pre.length id d).take q).drop j = pieceBlk (pieceOf lab pre.length id d j) :: ((blobBlks lab pre.length id d).take q).drop (j + 1) := by
      have h0 : j < ((blobBlks lab pre.length id d).take q).length := by rw [List.length_take, blobBlks_len]; omega
      have e : ((blobBlks lab pre.length id d).take q)[j]? = some (pieceBlk (pieceOf lab pre.length id d j)) := by
        rw [List.getElem?_take_of_lt (by omega), blobBlks_get hjp]
      obtain ⟨h1, h2⟩ := List.getElem?_eq_some_iff.1 e
      have := List.drop_eq_getElem_cons h0
      rw [h2] at this
      exact this
    rw [hdr, rd_later hl hf hid hd (by omega) hjp, if_pos (by simp)]
    simp
/-- blocks where no blob begins -/
theorem scan_none {lab : ByteArray} {l : List Blk} : ∀ (m n e : Nat), n + m = l.length → (∀ j, n ≤ j → j < l.length → (itemAt lab l j).2 ≠ 0) → scanF lab l n e = ([], e) := by
  intro m
  induction m with
  | zero => intro n e hm _; exact scanF_end (by omega)
  | succ m ih =>
    intro n e hm hi
    rw [scanF_miss (by omega) (hi n (Nat.le_refl _) (by omega))]
    exact ih (n + 1) e (by omega) fun j h1 h2 => hi j (by omega) h2
/-- a beginning of a blob and its mark, behind any blocks -/
theorem scan_rest {lab : ByteArray} (hl : lab.size ≤ 32) {id : Nat} {d : List UInt8} {pre : List Blk} (e k : Nat) (hf : pre.length + 20 ≤ 1000000) (hid : id < 18446744073709551616) (hd : d.length ≤ 4000) (hk : k ≤ partsOf d.length + 1) :
    (scanF lab (pre ++ (blobM lab pre.length id d).take k) pre.length e).1 = if partsOf d.length ≤ k then [⟨id, pre.length, d.length⟩] else [] := by
  have hbl := blobBlks_len lab pre.length id d
  have hp := partsOf_pos d.length
  by_cases hc : partsOf d.length ≤ k
  · rw [if_pos hc]
    have ht : (blobM lab pre.length id d).take k = blobBlks lab pre.length id d ++ [markBlk].take (k - partsOf d.length) := by
      unfold blobM
      rw [List.take_append, hbl, List.take_of_length_le (by omega)]
    have hit : itemAt lab (pre ++ (blobBlks lab pre.length id d ++ [markBlk].take (k - partsOf d.length))) pre.length = (⟨id, pre.length, d.length⟩, 0) := item_blob hl hf hid hd rfl
    rw [ht, scanF_hit (by rw [List.length_append, List.length_append, hbl]; omega) (by rw [hit]), hit]
    simp only
    rw [show ∀ (a : It) (l : List It), a :: l = [a] ++ l from fun _ _ => rfl]
    rw [scan_none ((k - partsOf d.length)) _ _ (by rw [List.length_append, List.length_append, hbl, List.length_take]; simp; omega) ?_]
    · rfl
    · intro j h1 h2
      rw [List.length_append, List.length_append, hbl, List.length_take] at h2
      simp at h2
      have hj : j = pre.length + partsOf d.length := by omega
      have hk1 : k - partsOf d.length = 1 := by omega
      subst hj
      rw [hk1]
      rw [item_mark (by
        rw [List.getElem?_append_right (by omega), List.getElem?_append_right (by omega), hbl]
        rw [show pre.length + partsOf d.length - pre.length - partsOf d.length = 0 by omega]
        rfl)]
      decide
  · rw [if_neg hc]
    have ht : (blobM lab pre.length id d).take k = (blobBlks lab pre.length id d).take k := by
      unfold blobM
      rw [List.take_append, hbl, show k - partsOf d.length = 0 by omega]
      simp
    rw [ht, scan_none k _ _ (by rw [List.length_append, List.length_take, hbl]; omega) ?_]
    intro j h1 h2
    rw [List.length_append, List.length_take, hbl] at h2
    obtain ⟨i, rfl⟩ := Nat.exists_eq_add_of_le h1
    exact item_part hl hf hid hd rfl (by omega) (by omega)
/-- blobs, and whatever stands behind them -/
theorem scan_then {lab : ByteArray} (hl : lab.size ≤ 32) : ∀ (l : List (Nat × List UInt8)) (pre rest : List Blk) (e : Nat), pre.length + tapeN l + 20 ≤ 1000000 → (∀ x ∈ l, x.1 < 18446744073709551616 ∧ x.2.length ≤ 4000) →
    scanF lab (pre ++ (tapeL lab pre.length l ++ rest)) pre.length e = (itemsOf pre.length l ++ (scanF lab (pre ++ (tapeL lab pre.length l ++ rest)) (pre.length + tapeN l) (endOf pre.length e l)).1, (scanF lab (pre ++ (tapeL lab pre.length l ++ rest)) (pre.length + tapeN l) (endOf pre.length e l)).2) := by
  intro l
  induction l with
  | nil =>
    intro pre rest e _ _
    rfl
  | cons x r ih =>
    intro pre rest e hn hx
    obtain ⟨h1, h2⟩ := hx x (by simp)
    rw [tapeN] at hn
    have hp := partsOf_pos x.2.length
    have hbl := blobBlks_len lab pre.length x.1 x.2
    have e0 : pre ++ (tapeL lab pre.length (x :: r) ++ rest) = pre ++ (blobBlks lab pre.length x.1 x.2 ++ (markBlk :: (tapeL lab (pre.length + partsOf x.2.length + 1) r ++ rest))) := by
      rw [tapeL]; simp
    have hit : itemAt lab (pre ++ (blobBlks lab pre.length x.1 x.2 ++ (markBlk :: (tapeL lab (pre.length + partsOf x.2.length + 1) r ++ rest)))) pre.length = (⟨x.1, pre.length, x.2.length⟩, 0) := item_blob hl (by omega) h1 h2 rfl
    have hmk : (pre ++ (blobBlks lab pre.length x.1 x.2 ++ (markBlk :: (tapeL lab (pre.length + partsOf x.2.length + 1) r ++ rest))))[pre.length + partsOf x.2.length]? = some markBlk := by
      rw [List.getElem?_append_right (by omega), List.getElem?_append_right (by omega), hbl]
      rw [show pre.length + partsOf x.2.length - pre.length - partsOf x.2.length = 0 by omega]
      rfl
    have e1 : pre ++ (blobBlks lab pre.length x.1 x.2 ++ (markBlk :: (tapeL lab (pre.length + partsOf x.2.length + 1) r ++ rest))) = (pre ++ (blobBlks lab pre.length x.1 x.2 ++ [markBlk])) ++ (tapeL lab (pre.length + partsOf x.2.length + 1) r ++ rest) := by simp
    have e2 : (pre ++ (blobBlks lab pre.length x.1 x.2 ++ [markBlk])).length = pre.length + partsOf x.2.length + 1 := by
      rw [List.length_append, List.length_append, hbl]; simp; omega
    have := ih (pre ++ (blobBlks lab pre.length x.1 x.2 ++ [markBlk])) rest (pre.length + partsOf x.2.length) (by rw [e2]; omega) (fun y hy => hx y (by simp [hy]))
    rw [e2, ← e1] at this
    have e3 : pre.length + partsOf x.2.length + 1 + tapeN r = pre.length + tapeN (x :: r) := by rw [tapeN]; omega
    rw [e3] at this
    rw [e0]
    conv => lhs; rw [scanF_hit (by rw [List.length_append, List.length_append, hbl]; omega) (by rw [hit]), hit]
    simp only
    rw [scanF_miss (by rw [List.length_append, List.length_append, List.length_cons, hbl]; omega) (by rw [item_mark hmk]; decide)]
    rw [this]
    rfl
end Go.Proofs.YtejgogahkjnefaaDoor

/- A Write of an armed volume, a crash and Mend: what they leave. -/
namespace Go.Proofs.YtejgogahkjnefaaDoor
open Go.RowKit
open Sm
set_option linter.unusedVariables false
set_option linter.unusedSimpArgs false

/-- t is s with a beginning of some blocks behind -/
structure Begun (s t : VS) (bs : List Blk) (k : Nat) : Prop where
  l : t.l = s.l ++ bs.take k
  k : k ≤ bs.length
  rm : t.rm = s.rm
  lo : t.lo = s.lo
  lab : t.lab = s.lab
  pr : t.pr = s.pr
  er : t.er = s.er
/-- the error of a device that isn't lost -/
theorem add_cases (s : VS) (b : Blk) (hpr : s.pr = false) (hp : s.pos = s.l.length) (ht : lastTorn s.l = false) (hr : (wsum s.l : Int) + b.wt ≤ s.rm) :
    (∃ c, s.add b = (s.tried, c) ∧ c ≠ 0) ∨ s.add b = ({ s.tried with l := s.l ++ [b], pos := s.pos + 1 }, 0) := by
  unfold VS.add
  by_cases h : s.err ≠ 0
  · exact .inl ⟨s.err, by rw [if_pos h], h⟩
  · refine .inr ?_
    rw [if_neg h, if_neg (by rw [hpr]; decide), if_neg (by rw [hp, ht]; simp), if_neg (by omega)]
theorem wgo_beg : ∀ (bs : List Blk) (s : VS), s.pr = false → s.pos = s.l.length → lastTorn s.l = false → (∀ b ∈ bs, b.torn = false) → (wsum s.l : Int) + wsum bs ≤ s.rm →
    ∃ k, Begun s (s.wgo bs).1 bs k ∧ (s.wgo bs).1.sure = s.sure ∧ ((s.wgo bs).2 = 0 → k = bs.length ∧ (s.wgo bs).1.pos = (s.wgo bs).1.l.length ∧ lastTorn (s.wgo bs).1.l = false) := by
  intro bs
  induction bs with
  | nil =>
    intro s hpr hp ht _ _
    exact ⟨0, ⟨by show s.l = _; simp, Nat.le_refl _, rfl, rfl, rfl, rfl, rfl⟩, rfl, fun _ => ⟨rfl, hp, ht⟩⟩
  | cons b r ih =>
    intro s hpr hp ht hb hw
    rw [wsum_cons] at hw
    unfold VS.wgo
    rcases add_cases s b hpr hp ht (by omega) with ⟨c, hc, hc0⟩ | hc
    · rw [hc, if_pos hc0]
      exact ⟨0, ⟨by show s.l = _; simp, Nat.zero_le _, rfl, rfl, rfl, rfl, rfl⟩, rfl, fun h => absurd h hc0⟩
    · rw [hc, if_neg (by simp)]
      obtain ⟨k, hk, hs, h0⟩ := ih { s.tried with l := s.l ++ [b], pos := s.pos + 1 } hpr (by show s.pos + 1 = (s.l ++ [b]).length; rw [List.length_append, hp]; rfl) (by show lastTorn (s.l ++ [b]) = false; rw [lastTorn_append]; exact hb b (by simp)) (fun x hx => hb x (by simp [hx])) (by show (wsum (s.l ++ [b]) : Int) + _ ≤ s.rm; rw [wsum_append, wsum_one]; omega)
      refine ⟨k + 1, ⟨?_, by have := hk.k; simp; omega, hk.rm, hk.lo, hk.lab, hk.pr, hk.er⟩, hs, fun h => ?_⟩
      · rw [hk.l]
        show (s.l ++ [b]) ++ _ = _
        rw [List.take_succ_cons, List.append_assoc]; rfl
      · obtain ⟨h1, h2, h3⟩ := h0 h
        exact ⟨by rw [h1]; rfl, h2, h3⟩
/-- Write, on whatever device that isn't lost -/
theorem wblob_beg {s : VS} {lab : ByteArray} (hpr : s.pr = false) (ht : lastTorn s.l = false) (hlab : s.lab = lab) (hl : lab.size ≤ 32) (hf : s.l.length + 20 ≤ 1000000) {id : Nat} (hid : id < 18446744073709551616) {d : List UInt8} (hd : d.length ≤ 4000) (hw : (wsum s.l : Int) + weightOf d.length ≤ s.rm) (hsu : s.sure = s.l.length) :
    ∃ k, Begun s (s.wblob id d).1 (blobM lab s.l.length id d) k ∧ s.l.length ≤ (s.wblob id d).1.sure ∧ ((s.wblob id d).2.2 = 0 → k = partsOf d.length + 1 ∧ (s.wblob id d).1.sure = (s.wblob id d).1.l.length) := by
  have hbs := blob_sum (lab := lab) (first := s.l.length) (id := id) (d := d) hl hf hid hd
  have hbl := blobBlks_len lab s.l.length id d
  have hml := blobM_len lab s.l.length id d
  have z : ∀ t : VS, t.l = s.l → t.rm = s.rm → t.lo = s.lo → t.lab = s.lab → t.pr = s.pr → t.er = s.er → Begun s t (blobM lab s.l.length id d) 0 := fun t h1 h2 h3 h4 h5 h6 => ⟨by rw [h1]; simp, Nat.zero_le _, h2, h3, h4, h5, h6⟩
  unfold VS.wblob
  rw [if_neg (by omega)]
  by_cases h1 : (s.seek s.l.length).2 ≠ 0
  · rw [if_pos h1]
    refine ⟨0, ?_, ?_, fun h => absurd h h1⟩
    · unfold VS.seek
      split
      · exact z _ rfl rfl rfl rfl rfl rfl
      · split <;> exact z _ rfl rfl rfl rfl rfl rfl
    · show _ ≤ (s.seek s.l.length).1.sure
      unfold VS.seek
      split
      · exact Nat.le_of_eq hsu.symm
      · split <;> exact Nat.le_of_eq hsu.symm
  rw [if_neg h1]
  have hsk : s.seek s.l.length = ({ s.tried with pos := s.l.length }, 0) := by
    by_cases he : s.err ≠ 0
    · exact absurd (by unfold VS.seek; rw [if_pos he]; exact he) h1
    · unfold VS.seek
      rw [if_neg he, if_neg (by omega), Int.toNat_natCast]
  rw [hsk]
  simp only
  rw [if_neg (by show ¬ s.rm - (wsum s.l : Int) < _; omega), hlab]
  have hnt : ∀ b ∈ blobBlks lab s.l.length id d, b.torn = false := fun b hb => blobM_torn (lab := lab) (n := s.l.length) (id := id) (d := d) b (by unfold blobM; simp [hb])
  obtain ⟨k, hk, hs, h0⟩ := wgo_beg (blobBlks lab s.l.length id d) { s.tried with pos := s.l.length } hpr rfl ht hnt (by show (wsum s.l : Int) + _ ≤ s.rm; omega)
  generalize hR : VS.wgo { s.tried with pos := s.l.length } (blobBlks lab s.l.length id d) = R at *
  obtain ⟨t, c⟩ := R
  simp only at hk hs h0 ⊢
  have hkk := hk.k
  have htl : t.l = s.l ++ (blobBlks lab s.l.length id d).take k := hk.l
  have key : ∀ u : VS, u.l = t.l → u.rm = t.rm → u.lo = t.lo → u.lab = t.lab → u.pr = t.pr → u.er = t.er → Begun s u (blobM lab s.l.length id d) k := by
    intro u e1 e2 e3 e4 e5 e6
    refine ⟨?_, by omega, e2.trans hk.rm, e3.trans hk.lo, e4.trans hk.lab, e5.trans hk.pr, e6.trans hk.er⟩
    rw [e1, htl]
    congr 1
    unfold blobM
    rw [List.take_append, show k - (blobBlks lab s.l.length id d).length = 0 by omega]
    simp
  by_cases hc : c ≠ 0
  · rw [if_pos hc]
    exact ⟨k, key t rfl rfl rfl rfl rfl rfl, by show _ ≤ t.sure; rw [hs]; exact Nat.le_of_eq hsu.symm, fun h => absurd h hc⟩
  rw [if_neg hc]
  obtain ⟨h2, h3, h4⟩ := h0 (by simpa using hc)
  have htl' : t.l = s.l ++ blobBlks lab s.l.length id d := by rw [htl, h2, List.take_length]
  have hmw : markBlk.wt = 4 := rfl
  have hsut : t.sure = s.sure := hs
  have htrm : t.rm = s.rm := hk.rm
  rcases add_cases t markBlk (hk.pr.trans hpr) h3 h4 (by rw [htl', wsum_append, hmw, htrm]; omega) with ⟨c2, hc2, hn2⟩ | hc2
  · rw [hc2]
    simp only
    rw [if_pos hn2]
    exact ⟨k, key _ rfl rfl rfl rfl rfl rfl, by show _ ≤ t.sure; rw [hs]; exact Nat.le_of_eq hsu.symm, fun h => absurd h hn2⟩
  · rw [hc2]
    simp only
    rw [if_neg (by simp)]
    have key2 : ∀ u : VS, u.l = t.l ++ [markBlk] → u.rm = t.rm → u.lo = t.lo → u.lab = t.lab → u.pr = t.pr → u.er = t.er → Begun s u (blobM lab s.l.length id d) (partsOf d.length + 1) := by
      intro u e1 e2 e3 e4 e5 e6
      refine ⟨?_, by omega, e2.trans hk.rm, e3.trans hk.lo, e4.trans hk.lab, e5.trans hk.pr, e6.trans hk.er⟩
      rw [e1, htl', List.append_assoc, List.take_of_length_le (by omega)]
      rfl
    generalize hT : ({ t.tried with l := t.l ++ [markBlk], pos := t.pos + 1 } : VS) = T
    have e1 : T.l = t.l ++ [markBlk] := by rw [← hT]
    have e2 : T.rm = t.rm := by rw [← hT]; rfl
    have e3 : T.lo = t.lo := by rw [← hT]; rfl
    have e4 : T.lab = t.lab := by rw [← hT]; rfl
    have e5 : T.pr = t.pr := by rw [← hT]; rfl
    have e6 : T.er = t.er := by rw [← hT]; rfl
    have e7 : T.sure = t.sure := by rw [← hT]; rfl
    by_cases hfl : T.err ≠ 0
    · have : T.flush = (T.tried, T.err) := by unfold VS.flush; rw [if_pos hfl]
      rw [this]
      simp only
      rw [if_pos hfl]
      exact ⟨_, key2 T.tried e1 e2 e3 e4 e5 e6, by show _ ≤ T.sure; rw [e7, hsut]; exact Nat.le_of_eq hsu.symm, fun h => absurd h hfl⟩
    · have : T.flush = ({ T.tried with sure := T.l.length }, 0) := by unfold VS.flush; rw [if_neg hfl]
      rw [this]
      simp only
      rw [if_neg (by simp)]
      refine ⟨_, key2 { T.tried with sure := T.l.length } e1 e2 e3 e4 e5 e6, ?_, fun _ => ⟨rfl, rfl⟩⟩
      show _ ≤ T.l.length
      rw [e1, htl', List.length_append, List.length_append]
      omega

theorem lastTorn_all {l : List Blk} (h : ∀ b ∈ l, b.torn = false) : lastTorn l = false := by
  unfold lastTorn
  cases e : l.getLast? with
  | none => rfl
  | some b => exact h b (List.mem_of_getLast? e)
theorem tapeL_torn {lab : ByteArray} : ∀ (l : List (Nat × List UInt8)) (n : Nat), ∀ b ∈ tapeL lab n l, b.torn = false := by
  intro l
  induction l with
  | nil => intro n b hb; cases hb
  | cons x r ih =>
    intro n b hb
    rw [tapeL] at hb
    rcases List.mem_append.1 hb with hb | hb
    · exact blobM_torn (lab := lab) (n := n) (id := x.1) (d := x.2) b (by unfold blobM; simp [hb])
    · rcases List.mem_cons.1 hb with hb | hb
      · rw [hb]; rfl
      · exact ih _ b hb
/-- behind a crash, and a Trim -/
theorem crash_trimmed {t : VS} (hc : t.Calm) (ok : t.ok) (hnt : ∀ b ∈ t.l, b.torn = false) (c : List Int) :
    ∃ kp e s2, (t.crash (pickR c)).trim = (s2, e) ∧ (e = 0 ∨ e = 5) ∧ s2.l = t.l.take kp ∧ s2.Calm ∧ kp ≤ t.l.length ∧ t.sure ≤ kp ∧ s2.rm = t.rm ∧ s2.lab = t.lab ∧ lastTorn s2.l = false := by
  have hk := t.kept_le ok c
  have hr0 := (pick_range c 0 ((t.l.length : Int) - t.sure + 1)).1
  have hr := (pick_range c 0 ((t.l.length : Int) - t.sure + 1)).2 (by have := ok.sure; omega)
  have hcm : (t.crash (pickR c)).Calm := ⟨hc.lo, hc.lf, hc.pr⟩
  have hnt' : ∀ n, lastTorn (t.l.take n) = false := fun n => lastTorn_all fun b hb => hnt b (List.mem_of_mem_take hb)
  by_cases hp : t.part (pickR c) = 0
  · have e : (t.crash (pickR c)).l = t.l.take (t.kept (pickR c)) := by
      show t.left (pickR c) = _
      unfold VS.left; rw [if_pos hp]
    refine ⟨t.kept (pickR c), 5, t.crash (pickR c), ?_, .inr rfl, e, hcm, hk.2, by omega, rfl, rfl, by rw [e]; exact hnt' _⟩
    rw [hcm.trim, if_pos (by rw [e]; exact hnt' _)]
  · have e : (t.crash (pickR c)).l = t.l.take (t.kept (pickR c)) ++ [⟨(t.l[t.kept (pickR c)]?.getD .no).t.extract 0 (t.part (pickR c)), false, true⟩] := by
      show t.left (pickR c) = _
      unfold VS.left; rw [if_neg hp]
    have e2 : ((t.crash (pickR c)).cut ((t.crash (pickR c)).l.length - 1)).l = t.l.take (t.kept (pickR c)) := by
      show (t.crash (pickR c)).l.take ((t.crash (pickR c)).l.length - 1) = _
      rw [e]
      simp
    refine ⟨t.kept (pickR c), 0, (t.crash (pickR c)).cut ((t.crash (pickR c)).l.length - 1), ?_, .inl rfl, e2, ⟨hcm.lo, hcm.lf, hcm.pr⟩, hk.2, by omega, rfl, rfl, by rw [e2]; exact hnt' _⟩
    rw [hcm.trim, if_neg (by rw [e, lastTorn_append]; simp)]
end Go.Proofs.YtejgogahkjnefaaDoor

/- Mend; a volume with blobs and a beginning of one more: Scan, Read, Write. -/
namespace Go.Proofs.YtejgogahkjnefaaDoor
open Go.RowKit
open Sm
set_option linter.unusedVariables false
set_option linter.unusedSimpArgs false

section
variable {w : World} {B g : Nat} {s : VS}
set_option maxRecDepth 100000 in
set_option maxHeartbeats 1000000 in
theorem mend_any (h : Vol w B g s) (c : Int) (t : VS) (hs : s.trim = (t, c)) (hc : c = 0 ∨ c = 5) (ht : t.Calm) :
    Calls Tryd.prog 14 #[.pointer (some ⟨g, 0, none⟩)] w (VolEnds w B g ({ t with pos := t.l.length }, 0)) := by
  have hT := trim_vol h
  rw [hs] at hT
  have hsk : ∀ n : Nat, n = t.l.length → t.seek n = ({ t with pos := t.l.length }, 0) := by
    rintro n rfl
    rw [ht.seek, if_neg (by omega), Int.toNat_natCast]
  clear h hs ht
  rcases hc with rfl | rfl
  all_goals
    go_enter Tryd.func14, Tryd.ntmps14
    go_wp2_with fail
    refine hT.mono ?_
    rintro e w1 ⟨rfl, h1, st1⟩
    have hL := len_vol h1
    have hK := seek_vol h1 (t.l.length : Nat)
    rw [hsk _ rfl] at hK
    generalize t.l.length = nn at *
    clear hsk h1
    have ST := Lib.hid st1
    clear st1
    go_wp2_with fail
    refine hL.mono ?_
    rintro e w2 ⟨rfl, rfl⟩
    go_wp2_with fail
    refine hK.mono ?_
    rintro e w3 ⟨rfl, h3, st3⟩
    have H3 := Lib.hid h3
    have ST3 := Lib.hid st3
    clear h3 st3
    go_wp2
    go_ret
    exact ⟨rfl, H3.out, ST.out.trans ST3.out⟩
end
end Go.Proofs.YtejgogahkjnefaaDoor

/- A volume with blobs and a beginning of one more: what Scan finds, what Read reads, what Write makes of it. -/
namespace Go.Proofs.YtejgogahkjnefaaDoor
open Go.RowKit
open Sm
set_option linter.unusedVariables false
set_option linter.unusedSimpArgs false

structure VS.Part (s : VS) (lab : ByteArray) (m : List (Nat × List UInt8)) (id : Nat) (d : List UInt8) (k : Nat) : Prop where
  good : s.Good 100000 lab
  l : s.l = tapeL lab 0 m ++ (blobM lab (tapeN m) id d).take k
  k : k ≤ partsOf d.length + 1
  sum : wsum s.l ≤ m.length * 900 + 900
/-- behind an armed Write, a crash and Trim -/
theorem VS.Blobs.part {s : VS} {lab : ByteArray} {m : List (Nat × List UInt8)} (h : s.Blobs lab m) (hl : lab.size ≤ 32) (hn : m.length ≤ 20) (hsu : s.sure = s.l.length) {id : Nat} (hid : id < 18446744073709551616) {d : List UInt8} (hd : d.length ≤ 600) (a : Int) (t : VS) (ht : t = ({ s with lf := a }.wblob id d).1) (ok : VS.ok { t with lf := 0 }) (c : List Int) :
    ∃ k e s2, (VS.crash { t with lf := 0 } (pickR c)).trim = (s2, e) ∧ (e = 0 ∨ e = 5) ∧ s2.Calm ∧ VS.Part { s2 with pos := s2.l.length } lab m id d k ∧ (({ s with lf := a }.wblob id d).2.2 = 0 → k = partsOf d.length + 1) := by
  have h4 := tapeN_le m h.ok
  have hsl : s.l.length = tapeN m := h.len
  have h3 : weightOf d.length ≤ 900 := by unfold weightOf partsOf; omega
  have hrm := h.good.rm
  have hsum := h.sum
  have hbs := blob_sum (lab := lab) (first := s.l.length) (id := id) (d := d) hl (by omega) hid (by omega)
  obtain ⟨k, hk, hs1, hs2⟩ := wblob_beg (s := { s with lf := a }) (lab := lab) h.good.calm.pr h.good.torn h.good.lab hl (by show s.l.length + 20 ≤ _; omega) hid (by omega : d.length ≤ 4000) (by show (wsum s.l : Int) + _ ≤ s.rm; omega) hsu
  generalize VS.wblob { s with lf := a } id d = R at *
  subst ht
  obtain ⟨t, b, e⟩ := R
  simp only at hk hs1 hs2 ok ⊢
  have htl : t.l = s.l ++ (blobM lab s.l.length id d).take k := hk.l
  have hkk : k ≤ (blobM lab s.l.length id d).length := hk.k
  have hml := blobM_len lab s.l.length id d
  have hnt : ∀ b ∈ t.l, b.torn = false := by
    intro b hb
    rw [htl, h.l] at hb
    rcases List.mem_append.1 hb with hb | hb
    · exact tapeL_torn _ _ b hb
    · exact blobM_torn b (List.mem_of_mem_take hb)
  have hcm : VS.Calm { t with lf := 0 } := ⟨hk.lo.trans h.good.calm.lo, rfl, hk.pr.trans h.good.calm.pr⟩
  obtain ⟨kp, e2, s2, g1, g2, g3, g4, g5, g6, g7, g8, g9⟩ := crash_trimmed hcm ok hnt c
  have hlen : t.l.length = s.l.length + k := by rw [htl, List.length_append, List.length_take]; omega
  have hs1' : s.l.length ≤ t.sure := hs1
  have g5' : kp ≤ t.l.length := g5
  have g6' : t.sure ≤ kp := g6
  have e3 : s2.l = tapeL lab 0 m ++ (blobM lab (tapeN m) id d).take (kp - s.l.length) := by
    rw [g3]
    show t.l.take kp = _
    rw [htl, List.take_append, List.take_of_length_le (by omega), List.take_take, show min (kp - s.l.length) k = kp - s.l.length by omega, hsl, ← h.l]
  refine ⟨kp - s.l.length, e2, s2, g1, g2, g4, ⟨⟨⟨g4.lo, g4.lf, g4.pr⟩, ?_, g9, ?_⟩, e3, by omega, ?_⟩, fun he => ?_⟩
  · exact g7.trans (hk.rm.trans hrm)
  · exact g8.trans (hk.lab.trans h.good.lab)
  · show wsum s2.l ≤ _
    have q1 := wsum_take_le (blobM lab (tapeN m) id d) (kp - s.l.length)
    have q2 : wsum (blobM lab (tapeN m) id d) = wsum (blobBlks lab (tapeN m) id d) + 4 := by unfold blobM; rw [wsum_append, wsum_one]; rfl
    rw [hsl] at hbs
    rw [e3, wsum_append, ← h.l, hsl] 
    rw [hsl] at q1
    omega
  · obtain ⟨q1, q2⟩ := hs2 he
    omega

/-- what is found of it -/
def partIt (m : List (Nat × List UInt8)) (id : Nat) (d : List UInt8) (k : Nat) : List It := itemsOf 0 m ++ (if partsOf d.length ≤ k then [⟨id, tapeN m, d.length⟩] else [])
theorem VS.Part.scan {s : VS} {lab : ByteArray} {m : List (Nat × List UInt8)} {id : Nat} {d : List UInt8} {k : Nat} (h : s.Part lab m id d k) (hm : ∀ x ∈ m, x.1 < 18446744073709551616 ∧ x.2.length ≤ 600) (hl : lab.size ≤ 32) (hn : m.length ≤ 20) (hid : id < 18446744073709551616) (hd : d.length ≤ 600) : (scanF s.lab s.l 0 0).1 = partIt m id d k := by
  have h4 := tapeN_le m hm
  have h1 := scan_then hl m [] ((blobM lab (tapeN m) id d).take k) 0 (by show 0 + tapeN m + 20 ≤ _; omega) (fun x hx => ⟨(hm x hx).1, by have := (hm x hx).2; omega⟩)
  have h2 := scan_rest (pre := tapeL lab 0 m) hl (id := id) (d := d) (endOf 0 0 m) k (by rw [tapeL_len]; omega) hid (by omega) h.k
  rw [tapeL_len] at h2
  simp only [List.nil_append, List.length_nil, Nat.zero_add] at h1
  rw [h.good.lab, h.l, h1]
  unfold partIt
  rw [← h2]

section
variable {w : World} {B g : Nat} {s : VS} {lab : ByteArray} {m : List (Nat × List UInt8)} {id : Nat} {d : List UInt8} {k : Nat}
theorem VS.Part.len (h : s.Part lab m id d k) : s.l.length ≤ tapeN m + partsOf d.length + 1 := by
  rw [h.l, List.length_append, tapeL_len, List.length_take, blobM_len]; omega
/-- one of the blobs ahead -/
theorem part_read (h : Vol w B g s) (hg : s.Part lab m id d k) (hm : ∀ x ∈ m, x.1 < 18446744073709551616 ∧ x.2.length ≤ 600) (hS : Steps w) (hB : 0 < B) (hl : lab.size ≤ 32) (hn : m.length ≤ 20) (hd : d.length ≤ 600) {i : Nat} (hi : i < m.length) :
    Calls Tryd.prog 16 #[.pointer (some ⟨g, 0, none⟩), .int .i64 (tapeN (m.take i) : Nat), .int .u64 (m[i].1 : Int)] w fun e w' => e = .returned (.tuple #[.string ⟨m[i].2.toArray⟩, .int .i64 0]) ∧ (∃ pos, Vol w' B g { s with pos := pos }) ∧ Stay B g w w' := by
  have h4 := tapeN_le m hm
  have h5 := hg.len
  have h6 : partsOf d.length ≤ 3 := by unfold partsOf; omega
  obtain ⟨h1, h2⟩ := hm _ (List.getElem_mem hi)
  obtain ⟨rest, hr⟩ := tape_split (lab := lab) hi
  have := read_good h hg.good hS hB hl (by omega) m[i].1 h1 ⟨m[i].2.toArray⟩ (by rw [str_len]; omega) (tapeL lab 0 (m.take i)) (rest ++ (blobM lab (tapeN m) id d).take k) (by rw [hg.l, hr, tapeL_len]; simp)
  rw [tapeL_len] at this
  exact this
/-- that one, where it is whole -/
theorem part_last (h : Vol w B g s) (hg : s.Part lab m id d k) (hm : ∀ x ∈ m, x.1 < 18446744073709551616 ∧ x.2.length ≤ 600) (hS : Steps w) (hB : 0 < B) (hl : lab.size ≤ 32) (hn : m.length ≤ 20) (hid : id < 18446744073709551616) (hd : d.length ≤ 600) (hk : partsOf d.length ≤ k) :
    Calls Tryd.prog 16 #[.pointer (some ⟨g, 0, none⟩), .int .i64 (tapeN m : Nat), .int .u64 (id : Int)] w fun e w' => e = .returned (.tuple #[.string ⟨d.toArray⟩, .int .i64 0]) ∧ (∃ pos, Vol w' B g { s with pos := pos }) ∧ Stay B g w w' := by
  have h4 := tapeN_le m hm
  have h5 := hg.len
  have h6 : partsOf d.length ≤ 3 := by unfold partsOf; omega
  have ht : (blobM lab (tapeN m) id d).take k = blobBlks lab (tapeN m) id d ++ [markBlk].take (k - partsOf d.length) := by
    unfold blobM
    rw [List.take_append, blobBlks_len, List.take_of_length_le (by rw [blobBlks_len]; exact hk)]
  have := read_good h hg.good hS hB hl (by omega) id hid ⟨d.toArray⟩ (by rw [str_len]; omega) (tapeL lab 0 m) ([markBlk].take (k - partsOf d.length)) (by rw [hg.l, ht, tapeL_len])
  rw [tapeL_len] at this
  exact this
/-- more is written behind -/
theorem part_write (h : Vol w B g s) (hg : s.Part lab m id d k) (hm : ∀ x ∈ m, x.1 < 18446744073709551616 ∧ x.2.length ≤ 600) (hS : Steps w) (hB : 0 < B) (hl : lab.size ≤ 32) (hn : m.length ≤ 20) (hd : d.length ≤ 600) (id' : Nat) (hid' : id' < 18446744073709551616) (d' : ByteArray) (hd' : d'.size ≤ 600) :
    Calls Tryd.prog 10 #[.pointer (some ⟨g, 0, none⟩), .int .u64 (id' : Int), .string d'] w fun e w' => e = .returned (.tuple #[.int .i64 (s.l.length : Nat), .int .i64 0]) ∧ Vol w' B g (s.wrote id' d'.data.toList) ∧ Stay B g w w' := by
  have h4 := tapeN_le m hm
  have h5 := hg.len
  have h6 : partsOf d.length ≤ 3 := by unfold partsOf; omega
  have h3 : weightOf d'.size ≤ 900 := by unfold weightOf partsOf; omega
  exact write_good h hg.good hS hB hl (by omega) id' hid' d' (by omega) (by have := hg.sum; omega)

set_option maxRecDepth 100000 in
theorem part_more {id' : Nat} {d' : ByteArray} (h : Vol w B g (s.wrote id' d'.data.toList)) (hg : s.Part lab m id d k) (hm : ∀ x ∈ m, x.1 < 18446744073709551616 ∧ x.2.length ≤ 600) (hS : Steps w) (hB : 0 < B) (hl : lab.size ≤ 32) (hn : m.length ≤ 20) (hd : d.length ≤ 600) (hid' : id' < 18446744073709551616) (hd' : d'.size ≤ 600) :
    Calls Tryd.prog 16 #[.pointer (some ⟨g, 0, none⟩), .int .i64 (s.l.length : Nat), .int .u64 (id' : Int)] w fun e w' => e = .returned (.tuple #[.string d', .int .i64 0]) ∧ (∃ pos, Vol w' B g { s.wrote id' d'.data.toList with pos := pos }) ∧ Stay B g w w' := by
  have h4 := tapeN_le m hm
  have h5 := hg.len
  have h6 : partsOf d.length ≤ 3 := by unfold partsOf; omega
  have h7 : partsOf d'.data.toList.length ≤ 3 := by rw [show d'.data.toList.length = d'.size by simp]; unfold partsOf; omega
  have h8 := s.wrote_len id' d'.data.toList
  exact read_good h (hg.good.wrote id' _) hS hB hl (by omega) id' hid' d' (by omega) s.l [markBlk] (by show s.l ++ (blobBlks s.lab _ _ _ ++ _) = _; rw [hg.good.lab])
end
end Go.Proofs.YtejgogahkjnefaaDoor

/- TapefmtTorn: what the loop over the found blobs wants. -/
namespace Go.Proofs.YtejgogahkjnefaaDoor
open Go.RowKit
open Sm
set_option linter.unusedVariables false
set_option linter.unusedSimpArgs false

/-- a whole struct, wherever it lies -/
theorem run_loadVar_addr {P : Program} (w : World) (ad : Addr) (ty : TypeId) (cs : List Value) (d : TypeDesc) (hc : ∀ j v, cs[j]? = some v → w.cell? (ad.add j) = some v)
    (hu : P.underlying ty = some d) (hd : d.isRow = true) (hi : (P.info? ty).map (·.size) = some cs.length) :
    (loadVar ty ad).run P w = .ok (.agg cs.toArray) w := by
  have hl : (loadCells ad cs.length).run P w = .ok cs.toArray w := run_loadCells_list (P := P) w ad cs hc
  cases hq : P.info? ty with
  | none => simp [hq] at hi
  | some i =>
    have hs : i.size = cs.length := by simpa [hq] using hi
    have hagg : (isAgg ty).run P w = .ok true w := by
      unfold isAgg
      rw [Sem.run_bind, run_underlying hu w]
      cases d <;> simp_all
    simp [loadVar, Sem.run_bind, hagg, sizeOf, typeInfo, hq, hs, hl]
theorem wp_load_addr {P : Program} {op : Oper} {a : Act} {w : World} {K : Act → World → Prop} {Q : Exit → Act → World → Prop} (ty : TypeId) (x : Operand) (ho : op.op = .load ty x)
    (ad : Addr) (hx : a.eval x = .pointer (some ad)) (cs : List Value) (d : TypeDesc) (hc : ∀ j v, cs[j]? = some v → w.cell? (ad.add j) = some v)
    (hu : P.underlying ty = some d) (hd : d.isRow = true) (hi : (P.info? ty).map (·.size) = some cs.length)
    (h : K (a.put op.dst (.agg cs.toArray)) w) : op.wp P a w K Q := by
  unfold Oper.wp execOp
  simp only [ho, hx, Instr.loadAt, Instr.sureAddr, Sem.run_bind, Sem.run_pure, Result.andThen_ok, run_loadVar_addr w ad ty cs d hc hu hd hi]
  exact h
theorem wpList_load_addr {P : Program} {ops : Array Oper} {rest : List Oper} {op : Oper} {a : Act} {w : World} {Q : Exit → Act → World → Prop} (hgd : op.guard = none) (ty : TypeId) (x : Operand) (ho : op.op = .load ty x)
    (ad : Addr) (hx : a.eval x = .pointer (some ad)) (cs : List Value) (d : TypeDesc) (hc : ∀ j v, cs[j]? = some v → w.cell? (ad.add j) = some v)
    (hu : P.underlying ty = some d) (hd : d.isRow = true) (hi : (P.info? ty).map (·.size) = some cs.length)
    (h : wpList P ops Q rest (a.put op.dst (.agg cs.toArray)) w) : wpList P ops Q (op :: rest) a w :=
  wpList_plain hgd fun _ hK => wp_load_addr ty x ho ad hx cs d hc hu hd hi (hK _ _ h)
theorem cells_three {w : World} {ad : Addr} {a b c : Value} (h : w.cell? ad = some a ∧ w.cell? ⟨ad.block, ad.off + 1, none⟩ = some b ∧ w.cell? ⟨ad.block, ad.off + 2, none⟩ = some c) : ∀ j v, [a, b, c][j]? = some v → w.cell? (ad.add j) = some v := by
  intro j v hj
  match j with
  | 0 => cases hj; exact h.1
  | 1 => cases hj; exact h.2.1
  | 2 => cases hj; exact h.2.2
  | n + 3 => simp at hj

theorem VS.Part.pos {s : VS} {lab : ByteArray} {m : List (Nat × List UInt8)} {id : Nat} {d : List UInt8} {k : Nat} (h : s.Part lab m id d k) (p : Nat) : VS.Part { s with pos := p } lab m id d k := ⟨h.good.pos p, h.l, h.k, h.sum⟩
theorem partIt_lt {m : List (Nat × List UInt8)} {id : Nat} {d : List UInt8} {kk i : Nat} (h : i < m.length) : (partIt m id d kk)[i]? = some ⟨m[i].1, tapeN (m.take i), m[i].2.length⟩ := by
  have hx := itemsOf_get m 0 i h
  rw [Nat.zero_add] at hx
  unfold partIt
  rw [List.getElem?_append_left (by rw [itemsOf_len]; exact h), hx]
theorem partIt_last {m : List (Nat × List UInt8)} {id : Nat} {d : List UInt8} {kk : Nat} (h : partsOf d.length ≤ kk) : (partIt m id d kk)[m.length]? = some ⟨id, tapeN m, d.length⟩ := by
  unfold partIt
  rw [if_pos h, List.getElem?_append_right (by rw [itemsOf_len]; exact Nat.le_refl _), itemsOf_len, Nat.sub_self]
  rfl

/-- between the rounds of the loop over what was found -/
structure BU (w : World) (B C g : Nat) (s : VS) (v : Value) (its : List It) (n Bv X : Nat) (cx : Array Value) (wr : World) : Prop where
  row : wr.ownsRow Bv 49 3 v n (itCells its)
  vol : ∃ pos, Vol wr C g { s with pos := pos }
  below : Below B w wr
  box : At wr X 25 cx
section
variable {w : World} {B C g : Nat} {s : VS} {v : Value} {its : List It} {n Bv X : Nat} {cx : Array Value} {wr w' : World}
theorem BU.drew (h : BU w B C g s v its n Bv X cx wr) : BU w B C g s v its n Bv X cx wr.drew :=
  ⟨h.row.drew, h.vol.elim fun p h => ⟨p, h.below (Below.drew (Below.refl _ wr))⟩, Below.drew h.below, h.box.drew⟩
theorem BU.grow (h : BU w B C g s v its n Bv X cx wr) (hb : Below wr.heap.size wr w') (hB : B ≤ wr.heap.size) : BU w B C g s v its n Bv X cx w' :=
  ⟨rowI_below h.row hb, h.vol.elim fun p h => ⟨p, h.below hb⟩, h.below.trans (hb.mono hB), h.box.below hb h.box.lt⟩
theorem BU.stay (h : BU w B C g s v its n Bv X cx wr) (hs : Stay C g wr w') (hv : ∃ pos, Vol w' C g { s with pos := pos }) (hB : B ≤ C) : BU w B C g s v its n Bv X cx w' :=
  ⟨hs.toStay0.row h.row (by decide) (by decide), hv, h.below.trans (hs.below.mono hB), hs.toStay0.at_ h.box (by decide) (by decide)⟩
theorem BU.item {k c : Nat} (h : BU w B C g s (.slice (some ⟨k, 0, none⟩) n c) its n Bv X cx wr) {j : Nat} {x : It} (hx : its[j]? = some x) : wr.rangeAt k (j * 3) x.cells.toList := by
  intro q u hq
  have := h.row.cells (g := k) rfl (j * 3 + q) u (itCells_get _ j q _ u hx hq)
  rw [show (⟨k, 0, none⟩ : Addr).add (j * 3 + q) = ⟨k, j * 3 + q, none⟩ by rw [Addr.add_mid, Nat.zero_add]] at this
  exact this
end
end Go.Proofs.YtejgogahkjnefaaDoor
