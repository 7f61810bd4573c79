/- glacierlaw02.awake, Laid: their walks. -/
import Derived.Test.YtjpdfedebemjfaaDoorSc
import Derived.Test.YtjpdfedebemjfaaDoorCu
namespace Go.Proofs.YtjpdfedebemjfaaDoor
open Go.RowKit
open Sm

theorem open_frame (x r : List UInt8) (h : x.length ≤ 1048576) : openL (frameL x ++ r) = (x, 8 + x.length, 0) := by
  have hc := crc_lt (four4 x.length ++ x)
  have e1 : (frameL x ++ r).take 4 = four4 x.length := by unfold frameL four4; simp
  have e2 : ((frameL x ++ r).drop 4).take 4 = four4 (crc (four4 x.length ++ x)) := by unfold frameL four4; simp
  have e3 : (frameL x ++ r).drop 8 = x ++ r := by unfold frameL four4; simp
  have hl : (frameL x ++ r).length = 8 + x.length + r.length := by rw [List.length_append, frameL_len]
  unfold openL
  rw [e1, e2, e3, be_four _ (by omega), be_four _ hc, if_neg (by omega), if_neg (by omega), if_neg (by omega), List.take_left, if_neg (by simp)]

def ints (l : List Int) : List Value := l.map (Value.int .i64)
/-- frames, one behind the other -/
def frames (fs : List (List UInt8)) : List UInt8 := fs.flatMap frameL
/-- where each ends -/
def endsOf (fs : List (List UInt8)) : List Int := (List.range fs.length).map fun k => ((frames (fs.take (k + 1))).length : Int)

theorem frames_take {fs : List (List UInt8)} {k : Nat} (h : k < fs.length) : frames (fs.take (k + 1)) = frames (fs.take k) ++ frameL fs[k] := by
  unfold frames
  rw [List.take_succ_eq_append_getElem h, List.flatMap_append]
  simp
theorem endsOf_take {fs : List (List UInt8)} {k : Nat} (h : k < fs.length) : endsOf (fs.take (k + 1)) = endsOf (fs.take k) ++ [((frames (fs.take (k + 1))).length : Int)] := by
  unfold endsOf
  have e1 : (fs.take (k + 1)).length = k + 1 := by rw [List.length_take]; omega
  have e2 : (fs.take k).length = k := by rw [List.length_take]; omega
  rw [e1, e2, List.range_succ, List.map_append]
  congr 1
  · apply List.map_congr_left
    intro j hj
    rw [List.mem_range] at hj
    rw [List.take_take, List.take_take, Nat.min_eq_left (by omega), Nat.min_eq_left (by omega)]
  · simp [List.take_take]
theorem frames_len (n : Nat) : ∀ fs : List (List UInt8), (∀ x ∈ fs, x.length ≤ n) → (frames fs).length ≤ (8 + n) * fs.length := by
  intro fs
  induction fs with
  | nil => intro _; simp [frames]
  | cons a fs ih =>
    intro h
    have h1 := ih (fun x hx => h x (by simp [hx]))
    have h2 := h a (by simp)
    unfold frames at h1 ⊢
    rw [List.flatMap_cons, List.length_append, frameL_len, List.length_cons, Nat.mul_add]
    omega

/-- the texts that are laid in frames -/
def laidTexts (l : List ByteArray) : List (List UInt8) := (l.take 6).map fun t => (cutTo t 50).data.toList

theorem laidTexts_len (l : List ByteArray) : (laidTexts l).length ≤ 6 := by unfold laidTexts; rw [List.length_map]; exact List.length_take_le _ _
theorem laidTexts_le (l : List ByteArray) : ∀ x ∈ laidTexts l, x.length ≤ 50 := by
  intro x hx
  unfold laidTexts at hx
  obtain ⟨t, _, rfl⟩ := List.mem_map.1 hx
  rw [size_list]
  exact cutTo_le t 50

def LaidRet (fs : List (List UInt8)) (w : World) (e : Ending) (w' : World) : Prop :=
  ∃ A c, e = .returned (.tuple #[.string ⟨(frames fs).toArray⟩, .slice A fs.length c]) ∧ Lies w' w'.heap.size A (ints (endsOf fs)) ∧ (∀ ad, A = some ad → w.heap.size ≤ ad.block) ∧ Below w.heap.size w w'

theorem info_int : (Tryd.prog.info? 3).map (fun i => (i.zero, i.size, i.bytes)) = some (some (.int .i64 0), 1, 8) := by kernel_rfl

theorem own_slice_ints {w : World} {B n : Nat} {v : Value} {xs : List Int} (h : w.ownsRow B 3 1 v n (ints xs)) : ∃ A c, v = .slice A xs.length c ∧ Lies w w.heap.size A (ints xs) ∧ ∀ ad, A = some ad → B ≤ ad.block := by
  have hn : n = xs.length := by have := h.1; simp [ints] at this; omega
  subst hn
  rcases h.2 with ⟨rfl, h0⟩ | ⟨g, cap, cur, rfl, hB, hg, _⟩
  · have : xs = [] := List.eq_nil_of_length_eq_zero h0
    subst this
    exact ⟨none, 0, rfl, Lies.nil, by simp⟩
  · refine ⟨some ⟨g, 0, none⟩, cap, rfl, fun j u hj => ⟨_, rfl, (h.lt g rfl).2, h.cells (g := g) rfl j u hj⟩, ?_⟩
    intro ad hA
    simp at hA
    subst hA
    exact hB

theorem endsOf_len (fs : List (List UInt8)) : (endsOf fs).length = fs.length := by simp [endsOf]

set_option maxRecDepth 100000 in
set_option maxHeartbeats 2000000 in
theorem laid_any (l : List ByteArray) (A : Option Addr) (c : Nat) (w : World) (hS : Steps w) (hL : Lies w w.heap.size A (strs l)) :
    Calls Tryd.prog 21 #[.slice A l.length c] w (LaidRet (laidTexts l) w) := by
  obtain ⟨i0, hie, hz0, hz1, hz2⟩ := info_parts info_int
  have HS := Lib.hid hS; clear hS
  have HL := Lib.hid hL; clear hL
  have hfl := laidTexts_len l
  have HFl : Hid (∀ x ∈ laidTexts l, x.length ≤ 50) := Lib.hid (laidTexts_le l)
  have hfk : ∀ k (h1 : k < l.length) (h2 : k < 6), ∃ h : k < (laidTexts l).length, (laidTexts l)[k] = (cutTo l[k] 50).data.toList := fun k h1 h2 => by
    refine ⟨by unfold laidTexts; rw [List.length_map, List.length_take]; omega, ?_⟩
    unfold laidTexts
    rw [List.getElem_map, List.getElem_take]
  have HFk := Lib.hid hfk; clear hfk
  have hfe : ∀ k, k ≤ l.length → k ≤ 6 → (k < l.length → ¬ k < 6) → (laidTexts l).take k = laidTexts l ∧ (laidTexts l).length = k := fun k h1 h2 h3 => by
    have hl : (laidTexts l).length = k := by unfold laidTexts; rw [List.length_map, List.length_take]; omega
    exact ⟨List.take_of_length_le (by omega), hl⟩
  have HFe := Lib.hid hfe; clear hfe
  generalize laidTexts l = fs at *
  go_enter Tryd.func21, Tryd.ntmps21
  go_wp2
  have hown0 : (w.alloc (.cells #[] 3)).ownsRow w.heap.size 3 1 (.slice (some ⟨w.heap.size, 0, none⟩) 0 0) 0 (ints (endsOf (fs.take 0))) := World.ownsRow_made w #[] 0 (Nat.le_refl _) (by unfold maxLen; omega) rfl
  have hB0 : Below w.heap.size w (w.alloc (.cells #[] 3)) := (Below.refl _ w).alloc (Nat.le_refl _) _
  go_loopw [4, 5, 6] (fun ss v i wr => ∃ k : Nat, k ≤ l.length ∧ k ≤ 6 ∧ i = .int .i64 (k : Int) ∧ ss = .string ⟨(frames (fs.take k)).toArray⟩ ∧ Hid (wr.ownsRow w.heap.size 3 1 v k (ints (endsOf (fs.take k)))) ∧ Hid (Below w.heap.size w wr))
    (fun _ _ i _ => 6 - (intOf i).toNat)
  case atStart => exact ⟨0, by omega, by omega, rfl, by simp [frames], Lib.hid hown0, Lib.hid hB0⟩
  case round =>
    clear hown0 hB0
    obtain ⟨k, hk, hk6, rfl, rfl, HO, HB⟩ := hrel
    by_cases hlt : k < l.length ∧ k < 6
    · obtain ⟨hlt, hlt6⟩ := hlt
      obtain ⟨ad, rfl, hadB, hc⟩ := (HL.out.below HB.out).round (k := k) (by simpa [strs] using hlt)
      have hval : ((strs l)[k]'(by simpa [strs] using hlt)) = .string l[k] := by simp [strs]
      rw [hval] at hc
      clear hval
      obtain ⟨hkf, hfk⟩ := HFk.out k hlt hlt6
      have HT := Lib.hid (frames_take hkf)
      have HE := Lib.hid (endsOf_take hkf)
      have hpl : (frames (fs.take k)).length ≤ 348 := by
        have := frames_len 50 (fs.take k) (fun x hx => HFl.out x (List.mem_of_mem_take hx))
        rw [List.length_take] at this
        omega
      rw [hfk] at HT
      clear hfk
      generalize l[k] = x at *
      have hC := cut_any x 50 wr
      have hle := cutTo_le x 50
      generalize cutTo x 50 = y at *
      have hsr := HB.out.size
      obtain ⟨s1, hs1⟩ : ∃ s, (⟨(frames (fs.take k)).toArray⟩ : ByteArray) = s := ⟨_, rfl⟩
      have hz1' : s1.size ≤ 348 := by rw [← hs1, str_len]; exact hpl
      have hF := fun g c W h1 h2 h3 h4 => frame_any [y] g c W h1 h2 h3 h4 (by simp [cat]; omega) (by simp)
      have hcy : cat [y] = y.data.toList := by simp [cat]
      rw [hcy] at hF
      have hfl8 : (frameL y.data.toList).length ≤ 58 := by rw [frameL_len, size_list]; omega
      obtain ⟨s2, hs2⟩ : ∃ s, (⟨(frameL y.data.toList).toArray⟩ : ByteArray) = s := ⟨_, rfl⟩
      have hz2' : s2.size ≤ 58 := by rw [← hs2, str_len]; exact hfl8
      rw [hs2] at hF
      have he : (s1 ++ s2 : ByteArray) = ⟨(frames (fs.take (k + 1))).toArray⟩ := by
        rw [HT.out, ← hs1, ← hs2]
        apply ByteArray.ext
        apply Array.toList_inj.1
        simp
      have hesz : ((s1.size : Int) + (s2.size : Int)) = ((frames (fs.take (k + 1))).length : Int) := by
        rw [HT.out, List.length_append, ← hs1, ← hs2, str_len, str_len]; omega
      rw [hs1]
      have HEQ := Lib.hid he; clear he
      have HES := Lib.hid hesz; clear hesz
      have HF := Lib.hid hF; clear hF
      clear hs1 hs2 hcy
      go_wp2_with fail
      refine hC.mono ?_
      rintro z w' ⟨rfl, rfl⟩
      clear hC hc
      go_wp2_with fail
      have hF1 := HF.out wr.heap.size 1 (wr.alloc (.cells #[.string y] 9)) ((HS.out.below HB.out HS.out.1).alloc _) (by simp) (by simp) (fun j x hj => by
        have hj0 : j = 0 := by
          rcases Nat.eq_zero_or_pos j with h | h
          · exact h
          · rw [List.getElem?_eq_none (by simp; omega)] at hj; cases hj
        subst hj0
        simp at hj
        subst hj
        exact (At.new wr 9 #[.string y]).cell 0)
      refine hF1.mono ?_
      rintro z w2 ⟨rfl, hb2⟩
      have hb2s := hb2.size
      simp at hb2s
      have B2 := Lib.hid ((HB.out.alloc hsr (.cells #[.string y] 9)).trans (hb2.mono (by simp; omega)))
      have O2 := Lib.hid ((HO.out.alloc (.cells #[.string y] 9)).kept (grownBy_of_below (row := none) hb2 rfl) (by
        rcases HO.out.2 with ⟨rfl, _⟩ | ⟨g, c, cur, rfl, _⟩
        · exact .inl rfl
        · exact .inr (by simp [Value.ownBlock])))
      clear hF1 hb2 HO HB
      go_wp2_with (at_builtin; refine wpList_append_own _ rfl _ _ 41 rfl w.heap.size 3 i0 (.int .i64 0) 1 8 Tryd.underlying41 hie hz0 hz1 hz2 rfl (by decide) _ _ _ rfl (O2.out.alloc _) ⟨w2.heap.size, 0, none⟩ 1 1 [.int .i64 ((s1.size : Int) + (s2.size : Int))] rfl rfl ?c1 ?c2 ?c3 ?c4 ?c5 ?_)
      case c1 => exact cell_one_new _ _ _
      case c2 => intro u hu; simp at hu; subst hu; rfl
      case c3 => unfold maxLen; omega
      case c4 => omega
      case c5 => simp; omega
      intro v' w3 hown' hgrow _
      have R1 : Hid (w3.ownsRow w.heap.size 3 1 v' (k + 1) (ints (endsOf (fs.take (k + 1))))) := Lib.hid (by
        rw [HE.out, ← HES.out]
        unfold ints at hown' ⊢
        rw [List.map_append]
        exact hown')
      have R2 : Hid (Below w.heap.size w w3) := Lib.hid ((B2.out.alloc B2.out.size _).grown hgrow (by have := B2.out.size; simp; omega) (fun k hk => (O2.out.lt k hk).1))
      clear hown' hgrow O2 B2
      go_wp2
      go_roundw
      case rel => exact ⟨k + 1, by omega, by omega, by go_num, by rw [← HEQ.out], R1, R2⟩
      case measure => simp [intOf]; omega
    · obtain ⟨he1, he2⟩ := HFe.out k hk hk6 (by omega)
      rw [he1] at HO ⊢
      have hex : (¬ k < l.length) ∨ (k < l.length ∧ ¬ k < 6) := by omega
      obtain ⟨A', c', rfl, hL', hA'⟩ := own_slice_ints HO.out
      rw [endsOf_len]
      have HL' := Lib.hid hL'; clear hL'
      clear hlt
      have HE1 := Lib.hid he1; clear he1
      have HE2 := Lib.hid he2; clear he2
      rcases hex with h1 | ⟨h1, h2⟩
      all_goals
        go_wp2
        all_goals
          go_ret2
          exact ⟨A', c', rfl, HL'.out, hA', HB.out⟩
end Go.Proofs.YtjpdfedebemjfaaDoor
