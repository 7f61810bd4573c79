/- Frames of which up to four bytes in a row are others: what is scanned of them. -/
import Derived.Test.YtjpdfedebemjfaaDoorSx
namespace Go.Proofs.YtjpdfedebemjfaaDoor
open Sm

/-- the k bytes from p on, each xored with a byte -/
def bendL (l : List UInt8) (p k : Nat) (d : Nat → UInt8) : List UInt8 := l.mapIdx fun i b => if p ≤ i ∧ i < p + k then b ^^^ d (i - p) else b
def xorL (v : List UInt8) (d : Nat → UInt8) : List UInt8 := v.mapIdx fun i b => b ^^^ d i

theorem bendL_len (l : List UInt8) (p k : Nat) (d : Nat → UInt8) : (bendL l p k d).length = l.length := by simp [bendL]
theorem xorL_len (v : List UInt8) (d : Nat → UInt8) : (xorL v d).length = v.length := by simp [xorL]
theorem bendL_at (l : List UInt8) (p k : Nat) (d : Nat → UInt8) (i : Nat) (h : i < l.length) : (bendL l p k d)[i]'(by rw [bendL_len]; exact h) = if p ≤ i ∧ i < p + k then l[i] ^^^ d (i - p) else l[i] := by
  simp [bendL]
theorem bendL_zero (l : List UInt8) (p : Nat) (d : Nat → UInt8) : bendL l p 0 d = l := by
  apply List.ext_getElem (bendL_len ..)
  intro i h1 h2
  rw [bendL_at l p 0 d i h2, if_neg (by omega)]
theorem bendL_get (l : List UInt8) (p k : Nat) (d : Nat → UInt8) (h : p + k < l.length) : (bendL l p k d)[p + k]'(by rw [bendL_len]; exact h) = l[p + k] := by
  rw [bendL_at l p k d _ h, if_neg (by omega)]
theorem bendL_succ (l : List UInt8) (p k : Nat) (d : Nat → UInt8) (h : p + k < l.length) : bendL l p (k + 1) d = (bendL l p k d).set (p + k) (l[p + k] ^^^ d k) := by
  apply List.ext_getElem (by rw [bendL_len, List.length_set, bendL_len])
  intro i h1 h2
  rw [bendL_len] at h1
  rw [bendL_at l p (k + 1) d i h1, List.getElem_set]
  by_cases hi : p + k = i
  · subst hi
    rw [if_pos (by omega), if_pos rfl]
    congr 2
    omega
  · rw [if_neg hi, bendL_at l p k d i h1]
    by_cases hh : p ≤ i ∧ i < p + k
    · rw [if_pos (by omega), if_pos hh]
    · rw [if_neg (by omega), if_neg hh]
theorem bendL_same (l : List UInt8) (p k : Nat) (d : Nat → UInt8) (h : ∀ i, i < k → d i = 0) : bendL l p k d = l := by
  apply List.ext_getElem (bendL_len ..)
  intro i h1 h2
  rw [bendL_at l p k d i h2]
  split
  · rw [h _ (by omega)]; simp
  · rfl
theorem bendL_split (u v z : List UInt8) (p k : Nat) (d : Nat → UInt8) (hu : u.length = p) (hv : v.length = k) : bendL (u ++ v ++ z) p k d = u ++ xorL v d ++ z := by
  subst hu; subst hv
  have h1 : (u.mapIdx fun i b => if u.length ≤ i ∧ i < u.length + v.length then b ^^^ d (i - u.length) else b) = u := by
    apply List.ext_getElem (by simp)
    intro i h1 h2
    rw [List.getElem_mapIdx, if_neg (by omega)]
  have h2 : (v.mapIdx fun i b => if u.length ≤ i + u.length ∧ i + u.length < u.length + v.length then b ^^^ d (i + u.length - u.length) else b) = xorL v d := by
    apply List.ext_getElem (by simp [xorL])
    intro i h1 h2
    rw [List.length_mapIdx] at h1
    simp only [xorL, List.getElem_mapIdx]
    rw [if_pos (by omega), Nat.add_sub_cancel]
  have h3 : (z.mapIdx fun i b => if u.length ≤ i + (u ++ v).length ∧ i + (u ++ v).length < u.length + v.length then b ^^^ d (i + (u ++ v).length - u.length) else b) = z := by
    apply List.ext_getElem (by simp)
    intro i h1 h2
    rw [List.getElem_mapIdx, if_neg (by rw [List.length_append]; omega)]
  unfold bendL
  rw [List.mapIdx_append, List.mapIdx_append, h1, h2, h3]
theorem xorL_ne (v : List UInt8) (d : Nat → UInt8) (h : ∃ i, i < v.length ∧ d i ≠ 0) : xorL v d ≠ v := by
  obtain ⟨i, hi, hd⟩ := h
  intro e
  have h1 : (xorL v d)[i]'(by rw [xorL_len]; exact hi) = v[i] := by simp only [e]
  have h2 : (xorL v d)[i]'(by rw [xorL_len]; exact hi) = v[i] ^^^ d i := by simp [xorL]
  rw [h2] at h1
  apply hd
  have h3 : v[i] ^^^ (v[i] ^^^ d i) = v[i] ^^^ v[i] := by rw [h1]
  rw [← UInt8.xor_assoc, UInt8.xor_self, UInt8.zero_xor] at h3
  exact h3

/-- a sum that is another -/
theorem open_told (n : Nat) (c y r : List UInt8) (hn : n ≤ 1048576) (hc : c.length = 4) (hy : y.length = n) (h : be c ≠ crc (four4 n ++ y)) : (openL (four4 n ++ c ++ y ++ r)).2.2 ≠ 0 := by
  have hl : (four4 n ++ c ++ y ++ r).length = 8 + n + r.length := by simp [four4, hc, hy]; omega
  have e1 : (four4 n ++ c ++ y ++ r).take 4 = four4 n := by
    rw [List.append_assoc, List.append_assoc]
    exact List.take_left' rfl
  have e2 : ((four4 n ++ c ++ y ++ r).drop 4).take 4 = c := by
    rw [List.append_assoc, List.append_assoc, List.drop_left' (show (four4 n).length = 4 from rfl)]
    exact List.take_left' hc
  have e3 : ((four4 n ++ c ++ y ++ r).drop 8).take n = y := by
    rw [List.append_assoc, List.drop_left' (show (four4 n ++ c).length = 8 by simp [four4, hc])]
    exact List.take_left' hy
  unfold openL
  rw [e1, be_four n (by omega), e2, e3, hl, if_neg (by omega), if_neg (by omega), if_neg (by omega), if_pos h]
  simp

theorem be_ne (c : List UInt8) (v : Nat) (hc : c.length = 4) (h : c ≠ four4 v) : be c ≠ v := fun e => h (by rw [← e, four_be c hc])

/-- where the bytes that are others lie, in the frame -/
def fromOf (sum : Bool) : Nat := if sum then 4 else 8
def sizeOf' (sum : Bool) (x : List UInt8) : Nat := if sum then 4 else x.length

theorem cut3 (c : List UInt8) (a m : Nat) (h : a + m ≤ c.length) : ∃ u v z : List UInt8, c = u ++ v ++ z ∧ u.length = a ∧ v.length = m :=
  ⟨c.take a, (c.drop a).take m, (c.drop a).drop m, by rw [List.append_assoc, List.take_append_drop, List.take_append_drop], by rw [List.length_take]; omega, by rw [List.length_take, List.length_drop]; omega⟩

theorem open_bent (x r : List UInt8) (sum : Bool) (a m : Nat) (d : Nat → UInt8) (hx : x.length ≤ 1048576) (hm : m ≤ 4) (ham : a + m ≤ sizeOf' sum x) (hd : ∃ i, i < m ∧ d i ≠ 0) :
    ∃ F, bendL (frameL x) (fromOf sum + a) m d = F ∧ F.length = (frameL x).length ∧ (openL (F ++ r)).2.2 ≠ 0 := by
  refine ⟨_, rfl, bendL_len .., ?_⟩
  have hc4 : ∀ v, (four4 v).length = 4 := fun _ => rfl
  cases sum
  · unfold sizeOf' at ham
    rw [if_neg (by simp)] at ham
    obtain ⟨u, v, z, rfl, hu, hv⟩ := cut3 x a m ham
    have hF : frameL (u ++ v ++ z) = (four4 (u ++ v ++ z).length ++ four4 (crc (four4 (u ++ v ++ z).length ++ (u ++ v ++ z))) ++ u) ++ v ++ z := by simp [frameL]
    rw [hF, bendL_split _ v z _ m d (by simp [four4, fromOf, hu]; omega) hv]
    have e : ∀ N C : List UInt8, N ++ C ++ u ++ xorL v d ++ z ++ r = N ++ C ++ (u ++ xorL v d ++ z) ++ r := fun N C => by simp
    rw [e]
    refine open_told _ _ _ _ hx rfl (by simp [xorL_len]) ?_
    rw [be_four _ (crc_lt _)]
    have ht := crc_told (four4 (u ++ v ++ z).length ++ u) v (xorL v d) z (xorL_len ..).symm (by omega) (xorL_ne v d (by rw [hv]; exact hd)).symm
    simpa using ht
  · unfold sizeOf' at ham
    rw [if_pos rfl] at ham
    generalize hcc : crc (four4 x.length ++ x) = cc
    obtain ⟨u, v, z, hq, hu, hv⟩ := cut3 (four4 cc) a m (by rw [hc4]; exact ham)
    have hF : frameL x = (four4 x.length ++ u) ++ v ++ (z ++ x) := by
      unfold frameL
      rw [hcc, hq]; simp
    rw [hF, bendL_split _ v (z ++ x) _ m d (by simp [four4, fromOf, hu]; omega) hv]
    have e : four4 x.length ++ u ++ xorL v d ++ (z ++ x) ++ r = four4 x.length ++ (u ++ xorL v d ++ z) ++ x ++ r := by simp
    have hl4 : (u ++ xorL v d ++ z).length = 4 := by
      have h1 : (u ++ v ++ z).length = 4 := by rw [← hq]; rfl
      simp [xorL_len] at h1 ⊢
      exact h1
    rw [e]
    refine open_told _ _ _ _ hx hl4 rfl (be_ne _ _ hl4 ?_)
    rw [hcc, hq]
    intro h
    have h1 := List.append_cancel_right h
    have h2 := List.append_cancel_left h1
    exact xorL_ne v d (by rw [hv]; exact hd) h2

theorem frames_append (a b : List (List UInt8)) : frames (a ++ b) = frames a ++ frames b := by simp [frames]

theorem bendL_inner (u v z : List UInt8) (p q k : Nat) (d : Nat → UInt8) (hp : u.length + q = p) (hv : q + k ≤ v.length) : bendL (u ++ (v ++ z)) p k d = u ++ (bendL v q k d ++ z) := by
  obtain ⟨a, b, c, rfl, ha, hb⟩ := cut3 v q k hv
  have e : u ++ (a ++ b ++ c ++ z) = (u ++ a) ++ b ++ (c ++ z) := by simp
  rw [e, bendL_split (u ++ a) b (c ++ z) p k d (by simp; omega) hb, bendL_split a b c q k d ha hb]
  simp

/-- of frames of which one is another, those ahead of it -/
theorem scan_bent (fs : List (List UInt8)) (j : Nat) (hj : j < fs.length) (hx : ∀ x ∈ fs, x.length ≤ 1048576) (sum : Bool) (a m : Nat) (d : Nat → UInt8) (hm : m ≤ 4) (ham : a + m ≤ sizeOf' sum fs[j]) (hd : ∃ i, i < m ∧ d i ≠ 0) :
    scanL (bendL (frames fs) ((frames (fs.take j)).length + fromOf sum + a) m d) = (fs.take j, (frames (fs.take j)).length) := by
  have hsp : frames fs = frames (fs.take j) ++ (frameL fs[j] ++ frames (fs.drop (j + 1))) := by
    rw [← frames_cons, List.getElem_cons_drop, ← frames_append, List.take_append_drop]
  obtain ⟨F, hF, hl, ho⟩ := open_bent fs[j] (frames (fs.drop (j + 1))) sum a m d (hx _ (List.getElem_mem hj)) hm ham hd
  have hs8 : fromOf sum + a + m ≤ (frameL fs[j]).length := by
    rw [frameL_len]
    unfold fromOf
    unfold sizeOf' at ham
    cases sum <;> simp at ham ⊢ <;> omega
  rw [hsp, bendL_inner _ _ _ _ (fromOf sum + a) m d (by omega) (by omega), hF, scan_frames _ _ (fun x h => hx x (List.mem_of_mem_take h)), scanL_stop ho]
  simp
end Go.Proofs.YtjpdfedebemjfaaDoor
