/- glacier/seal.Only, Scan: their walks. -/
import Derived.Test.YtniecodpdmjppaaDoorSo
namespace Go.Proofs.YtniecodpdmjppaaDoor
open Go.RowKit
open Sm

def onlyL (l : List UInt8) : List UInt8 × Nat := if (openL l).2.2 ≠ 0 then ([], (openL l).2.2) else if (openL l).2.1 < l.length then ([], 3) else ((openL l).1, 0)

theorem openL_ok {l : List UInt8} (h : ¬ (openL l).2.2 ≠ 0) : 8 ≤ (openL l).2.1 ∧ (openL l).2.1 ≤ l.length := by
  have h' : (openL l).2.2 = 0 := by omega
  unfold openL at h' ⊢
  split
  · rename_i h1; rw [if_pos h1] at h'; simp at h'
  · rename_i h1
    rw [if_neg h1] at h'
    split
    · rename_i h2; rw [if_pos h2] at h'; simp at h'
    · rename_i h2
      rw [if_neg h2] at h'
      split
      · rename_i h3; rw [if_pos h3] at h'; simp at h'
      · rename_i h3
        rw [if_neg h3] at h'
        split
        · rename_i h4; rw [if_pos h4] at h'; simp at h'
        · simp only; omega

theorem open_frame (x r : List UInt8) (h : x.length ≤ 1048576) : openL (frameL x ++ r) = (x, 8 + x.length, 0) := by
  have hc := crc_lt (four4 x.length ++ x)
  have e1 : (frameL x ++ r).take 4 = four4 x.length := by unfold frameL four4; simp
  have e2 : ((frameL x ++ r).drop 4).take 4 = four4 (crc (four4 x.length ++ x)) := by unfold frameL four4; simp
  have e3 : (frameL x ++ r).drop 8 = x ++ r := by unfold frameL four4; simp
  have hl : (frameL x ++ r).length = 8 + x.length + r.length := by rw [List.length_append, frameL_len]
  unfold openL
  rw [e1, e2, e3, be_four _ (by omega), be_four _ hc, if_neg (by omega), if_neg (by omega), if_neg (by omega), List.take_left, if_neg (by simp)]

/-- the frames at the beginning of l: their contents, how many bytes they have -/
def scanL (l : List UInt8) : List (List UInt8) × Nat :=
  if _h : (openL l).2.2 ≠ 0 then ([], 0) else ((openL l).1 :: (scanL (l.drop (openL l).2.1)).1, (openL l).2.1 + (scanL (l.drop (openL l).2.1)).2)
termination_by l.length
decreasing_by all_goals (have := openL_ok _h; rw [List.length_drop]; omega)

theorem scanL_stop {l : List UInt8} (h : (openL l).2.2 ≠ 0) : scanL l = ([], 0) := by rw [scanL, dif_pos h]
theorem scanL_go {l : List UInt8} (h : ¬ (openL l).2.2 ≠ 0) : scanL l = ((openL l).1 :: (scanL (l.drop (openL l).2.1)).1, (openL l).2.1 + (scanL (l.drop (openL l).2.1)).2) := by rw [scanL, dif_neg h]

def parts (l : List (List UInt8)) : List Value := l.map fun x => Value.string ⟨x.toArray⟩

def ScanRet (t : List (List UInt8) × Nat) (w : World) (e : Ending) (w' : World) : Prop :=
  ∃ A c, e = .returned (.tuple #[.slice A t.1.length c, .int .i64 (t.2 : Nat)]) ∧ Lies w' w'.heap.size A (parts t.1) ∧ (∀ ad, A = some ad → w.heap.size ≤ ad.block) ∧ Below w.heap.size w w'

theorem own_parts {w : World} {B n : Nat} {v : Value} {xs : List (List UInt8)} (h : w.ownsRow B 9 1 v n (parts xs)) : ∃ A c, v = .slice A xs.length c ∧ Lies w w.heap.size A (parts xs) ∧ ∀ ad, A = some ad → B ≤ ad.block := by
  have hn : n = xs.length := by have := h.1; simp [parts] at this; omega
  subst hn
  rcases h.2 with ⟨rfl, h0⟩ | ⟨g, cap, cur, rfl, hB, hg, _⟩
  · have : xs = [] := List.eq_nil_of_length_eq_zero h0
    subst this
    exact ⟨none, 0, rfl, Lies.nil, by simp⟩
  · refine ⟨some ⟨g, 0, none⟩, cap, rfl, fun j u hj => ⟨_, rfl, (h.lt g rfl).2, h.cells (g := g) rfl j u hj⟩, ?_⟩
    intro ad hA
    simp at hA
    subst hA
    exact hB

theorem info_str : (Tryd.prog.info? 9).map (fun i => (i.zero, i.size, i.bytes)) = some (some (.string ⟨#[]⟩), 1, 16) := by kernel_rfl

set_option maxRecDepth 100000 in
set_option maxHeartbeats 2000000 in
theorem only_any (s : ByteArray) (hs : s.size ≤ 140737488355328) (w : World) (hS : Steps w) :
    Calls Tryd.prog 75 #[.string s] w fun e w' => e = .returned (.tuple #[.string ⟨(onlyL s.data.toList).1.toArray⟩, .int .i64 ((onlyL s.data.toList).2 : Nat)]) ∧ Below w.heap.size w w' := by
  have hO := open_any s hs w hS
  have hok := fun h => openL_ok (l := s.data.toList) h
  unfold onlyL
  rw [size_list] at hok ⊢
  clear hS
  generalize openL s.data.toList = t at *
  obtain ⟨x, n, e⟩ := t
  simp only at hO hok ⊢
  unfold OpenRet at hO
  simp only at hO
  by_cases he : e ≠ 0
  · rw [if_pos he]
    have ht : ((e : Int) != 0) = true := by rw [bne_iff_ne]; omega
    clear hok he
    go_enter Tryd.func75, Tryd.ntmps75
    go_wp2_with fail
    refine hO.mono ?_
    rintro z w1 ⟨rfl, hb⟩
    clear hO
    go_wp2
    go_ret2
    exact ⟨rfl, hb⟩
  · rw [if_neg he]
    obtain ⟨h1, h2⟩ := hok he
    obtain rfl : e = 0 := by omega
    clear he hok
    obtain ⟨sx, hsx⟩ : ∃ s, (⟨x.toArray⟩ : ByteArray) = s := ⟨_, rfl⟩
    rw [hsx] at hO
    have HX := Lib.hid hsx; clear hsx
    by_cases hlt : n < s.size
    · rw [if_pos hlt]
      go_enter Tryd.func75, Tryd.ntmps75
      go_wp2_with fail
      refine hO.mono ?_
      rintro z w1 ⟨rfl, hb⟩
      clear hO
      go_wp2
      go_ret2
      exact ⟨rfl, hb⟩
    · rw [if_neg hlt]
      go_enter Tryd.func75, Tryd.ntmps75
      go_wp2_with fail
      refine hO.mono ?_
      rintro z w1 ⟨rfl, hb⟩
      clear hO
      go_wp2
      go_ret2
      exact ⟨by rw [HX.out]; rfl, hb⟩

/-- Frame of texts in a new block -/
theorem frame_new (l : List ByteArray) (cs : Array Value) (n g : Nat) (w : World) (hn : l.length = n) (hcs : cs.toList = strs l) (hg : g = w.heap.size) (hS : Steps w) (hlen : (cat l).length ≤ 1048576) (hl : l.length ≤ 1000) :
    Calls Tryd.prog 61 #[.slice (some ⟨g, 0, none⟩) n n] (w.alloc (.cells cs 9)) fun e w' => e = .returned (.string ⟨(frameL (cat l)).toArray⟩) ∧ Below (w.alloc (.cells cs 9)).heap.size (w.alloc (.cells cs 9)) w' := by
  subst hn; subst hg
  refine frame_any l w.heap.size l.length _ (hS.alloc _) (Nat.le_refl _) (by simp) (fun j x hj => ?_) hlen hl
  rw [Nat.zero_add, (At.new w 9 cs).cell, ← Array.getElem?_toList, hcs]
  unfold strs
  rw [List.getElem?_map, hj]
  rfl
/-- Sum of texts in a new block -/
theorem sum_new (l : List ByteArray) (cs : Array Value) (n g : Nat) (w : World) (hn : l.length = n) (hcs : cs.toList = strs l) (hg : g = w.heap.size) (hS : Steps w) (hl : l.length ≤ 1000) (hz : ∀ s ∈ l, s.size ≤ 9223372036854775807) :
    Calls Tryd.prog 56 #[.slice (some ⟨g, 0, none⟩) n n] (w.alloc (.cells cs 9)) fun e w' => e = .returned (.int .u32 (crc (cat l) : Nat)) ∧ w.alloc (.cells cs 9) = w' := by
  subst hn; subst hg
  exact sum_any l _ _ _ (hS.alloc _) (Lies.new w 9 cs (strs l) _ rfl hcs) (by omega) hz

end Go.Proofs.YtniecodpdmjppaaDoor
