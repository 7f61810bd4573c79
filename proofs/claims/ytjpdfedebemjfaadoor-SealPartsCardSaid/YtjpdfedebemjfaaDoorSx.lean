/- What is scanned of frames: all of them, then what is behind; of frames that are cut off, those that are whole. -/
import Derived.Test.YtjpdfedebemjfaaDoorSl
namespace Go.Proofs.YtjpdfedebemjfaaDoor
open Sm

theorem frames_cons (x : List UInt8) (fs : List (List UInt8)) : frames (x :: fs) = frameL x ++ frames fs := by simp [frames]

theorem scan_frames (rest : List UInt8) : ∀ fs : List (List UInt8), (∀ x ∈ fs, x.length ≤ 1048576) →
    scanL (frames fs ++ rest) = (fs ++ (scanL rest).1, (frames fs).length + (scanL rest).2) := by
  intro fs
  induction fs with
  | nil => intro _; simp [frames]
  | cons x fs ih =>
    intro h
    have hx := h x (by simp)
    have ho := open_frame x (frames fs ++ rest) hx
    have hd : (frameL x ++ (frames fs ++ rest)).drop (8 + x.length) = frames fs ++ rest := by rw [← frameL_len, List.drop_left]
    rw [frames_cons, List.append_assoc, scanL_go (by rw [ho]; simp), ho]
    simp only
    rw [hd, ih (fun y hy => h y (by simp [hy]))]
    simp only [List.cons_append, List.length_append, frameL_len, Prod.mk.injEq, true_and]
    omega

theorem scan_nil : scanL [] = ([], 0) := scanL_stop (by simp [openL])

theorem scan_all (fs : List (List UInt8)) (h : ∀ x ∈ fs, x.length ≤ 1048576) : scanL (frames fs) = (fs, (frames fs).length) := by
  have := scan_frames [] fs h
  rw [List.append_nil, scan_nil] at this
  simpa using this

/-- a frame that is cut off -/
theorem open_short (x : List UInt8) (c : Nat) (h : x.length ≤ 1048576) (hc : c < (frameL x).length) : (openL ((frameL x).take c)).2.2 ≠ 0 := by
  rw [frameL_len] at hc
  have hl : ((frameL x).take c).length = c := by rw [List.length_take, frameL_len]; omega
  unfold openL
  rw [hl]
  by_cases h8 : c < 8
  · rw [if_pos h8]; simp
  · rw [if_neg h8]
    have ht : ((frameL x).take c).take 4 = four4 x.length := by
      rw [List.take_take, Nat.min_eq_left (by omega)]
      unfold frameL
      rw [List.append_assoc]
      exact List.take_left' rfl
    rw [ht, be_four _ (by omega), if_neg (by omega), if_pos (by omega)]
    simp

/-- how many frames are whole in the first c bytes -/
def wholeL : List (List UInt8) → Nat → Nat
  | [], _ => 0
  | x :: fs, c => if (frameL x).length ≤ c then 1 + wholeL fs (c - (frameL x).length) else 0

theorem wholeL_le : ∀ (fs : List (List UInt8)) (c : Nat), wholeL fs c ≤ fs.length := by
  intro fs
  induction fs with
  | nil => intro c; simp [wholeL]
  | cons x fs ih =>
    intro c
    unfold wholeL
    have := ih (c - (frameL x).length)
    split
    · simp; omega
    · simp

theorem whole_iff : ∀ (fs : List (List UInt8)) (c i : Nat), i < fs.length → ((frames (fs.take (i + 1))).length ≤ c ↔ i < wholeL fs c) := by
  intro fs
  induction fs with
  | nil => intro c i h; simp at h
  | cons x fs ih =>
    intro c i h
    unfold wholeL
    rw [List.take_succ_cons, frames_cons, List.length_append]
    cases i with
    | zero =>
      rw [List.take_zero, show frames [] = [] from rfl]
      split
      · rename_i hx
        simp only [List.length_nil]; omega
      · rename_i hx
        simp only [List.length_nil]; omega
    | succ i =>
      have := ih (c - (frameL x).length) i (by simpa using h)
      split
      · omega
      · omega

theorem scan_cut : ∀ (fs : List (List UInt8)) (c : Nat), (∀ x ∈ fs, x.length ≤ 1048576) → scanL ((frames fs).take c) = (fs.take (wholeL fs c), (frames (fs.take (wholeL fs c))).length) := by
  intro fs
  induction fs with
  | nil => intro c _; simp [frames, scan_nil, wholeL]
  | cons x fs ih =>
    intro c h
    have hx := h x (by simp)
    rw [frames_cons]
    unfold wholeL
    split
    · rename_i hc
      have e : (frameL x ++ frames fs).take c = frames [x] ++ (frames fs).take (c - (frameL x).length) := by
        rw [List.take_append, List.take_of_length_le hc]
        simp [frames]
      rw [e, scan_frames _ [x] (by simpa using hx), ih _ (fun y hy => h y (by simp [hy])), Nat.add_comm 1, List.take_succ_cons, frames_cons]
      simp [frames]
    · rename_i hc
      rw [List.take_append_of_le_length (by omega), scanL_stop (open_short x c hx (by omega))]
      simp [frames]
end Go.Proofs.YtjpdfedebemjfaaDoor
