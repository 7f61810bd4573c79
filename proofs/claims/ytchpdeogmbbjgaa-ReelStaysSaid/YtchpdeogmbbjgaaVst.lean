/- 'what was written stays in its place': glacierlaw05.ReelStays returns true for every input. No condition. -/
import Derived.Test.YtchpdeogmbbjgaaVac
import Derived.Test.YtchpdeogmbbjgaaCu
import Derived.Test.YtchpdeogmbbjgaaLw
import Derived.Test.YtchpdeogmbbjgaaOp
import Derived.Test.YtchpdeogmbbjgaaRows
import Derived.Deep.DeepCutAuto
import Derived.Deep.CutBlock
import Derived.ProofKit
import Derived.OpenShut
namespace Go.Proofs.Ytchpdeogmbbjgaa.reelStays
open Go.ChangeShapes Go.WideShapes Go.ChangeAt Go.RowKit
open Go.ChangeMaps (open_string)
set_option linter.unusedVariables false

theorem own : ownKnob Try.prog.godebug = none := by kernel_rfl


theorem texts_pre {l : List Blk} {fs : List ByteArray} (h : l.take fs.length = texts fs) {k : Nat} (hk : k < fs.length) : ∃ h' : k < l.length, l[k] = ⟨fs[k], false, false⟩ := by
  have e : (l.take fs.length)[k]? = some ⟨fs[k], false, false⟩ := by rw [h, texts_get?, List.getElem?_eq_getElem hk]; rfl
  rw [List.getElem?_take, if_pos hk] at e
  obtain ⟨h', e'⟩ := List.getElem?_eq_some_iff.1 e
  exact ⟨h', e'⟩

/-- what stays, whatever else is done -/
structure Keeps (s : VS) (fs : List ByteArray) (k : Nat) : Prop where
  calm : s.Calm
  pre : s.l.take fs.length = texts fs
  n : fs.length ≤ s.l.length
  sure : fs.length ≤ s.sure
  er : s.er = 0
  len : s.l.length ≤ fs.length + k
section
variable {s : VS} {fs : List ByteArray} {k : Nat}
theorem Keeps.mono (h : Keeps s fs k) {k' : Nat} (hk : k ≤ k') : Keeps s fs k' := ⟨h.calm, h.pre, h.n, h.sure, h.er, by have := h.len; omega⟩
theorem Keeps.pos (h : Keeps s fs k) (p : Nat) : Keeps (VS.mk s.rm s.lo s.lf s.lab s.l s.sure p s.er s.pr) fs k := ⟨⟨h.calm.lo, h.calm.lf, h.calm.pr⟩, h.pre, h.n, h.sure, h.er, h.len⟩
theorem Keeps.add (h : Keeps s fs k) (b : Blk) : Keeps (s.add b).1 fs (k + 1) := by
  rw [h.calm.add]
  split
  · exact h.mono (by omega)
  · split
    · exact h.mono (by omega)
    · refine ⟨⟨h.calm.lo, h.calm.lf, h.calm.pr⟩, ?_, ?_, h.sure, h.er, ?_⟩
      · show (s.l ++ [b]).take fs.length = _
        rw [List.take_append_of_le_length h.n, h.pre]
      · show fs.length ≤ (s.l ++ [b]).length
        have := h.n
        rw [List.length_append]; omega
      · show (s.l ++ [b]).length ≤ _
        have := h.len
        rw [List.length_append]; simp; omega
theorem Keeps.flush (h : Keeps s fs k) : Keeps s.flush.1 fs (k + 1) := by
  rw [h.calm.flush]
  exact ⟨⟨h.calm.lo, h.calm.lf, h.calm.pr⟩, h.pre, h.n, h.n, h.er, by have := h.len; show s.l.length ≤ _; omega⟩
theorem Keeps.seek (h : Keeps s fs k) (n : Int) : Keeps (s.seek n).1 fs (k + 1) := by
  rw [h.calm.seek]
  split
  · exact h.mono (by omega)
  · exact (h.pos _).mono (by omega)
theorem Keeps.read (h : Keeps s fs k) : Keeps s.read.1 fs (k + 1) := by
  rw [h.calm.read]
  split
  · exact h.mono (by omega)
  · split
    · exact h.mono (by omega)
    · exact (h.pos _).mono (by omega)
theorem Keeps.skip (h : Keeps s fs k) : Keeps s.skip.1 fs (k + 1) := by
  rw [h.calm.skip]
  split
  · exact h.mono (by omega)
  · exact (h.pos _).mono (by omega)
theorem Keeps.trim (h : Keeps s fs k) : Keeps s.trim.1 fs (k + 1) := by
  rw [h.calm.trim]
  by_cases ht : lastTorn s.l = false
  · rw [if_pos ht]
    exact h.mono (by omega)
  · rw [if_neg ht]
    have hn := h.n
    have hlt : fs.length < s.l.length := by
      rcases Nat.lt_or_ge fs.length s.l.length with h' | h'
      · exact h'
      · exfalso
        have e : s.l = texts fs := by rw [← h.pre, List.take_of_length_le h']
        apply ht
        rw [e]
        unfold lastTorn texts
        rw [List.getLast?_map]
        cases fs.getLast? <;> rfl
    have hl := h.len
    have hs := h.sure
    refine ⟨⟨h.calm.lo, h.calm.lf, h.calm.pr⟩, ?_, ?_, ?_, h.er, ?_⟩
    · show (s.l.take (s.l.length - 1)).take fs.length = _
      rw [List.take_take, Nat.min_eq_left (by omega), h.pre]
    · show fs.length ≤ (s.l.take (s.l.length - 1)).length
      rw [List.length_take]; omega
    · show fs.length ≤ min s.sure (s.l.length - 1)
      omega
    · show (s.l.take (s.l.length - 1)).length ≤ _
      rw [List.length_take]; omega
theorem Keeps.crash (h : Keeps s fs k) (ok : s.ok) (l : List Int) : Keeps (s.crash (pickR l)) fs (k + 1) := by
  have hk := s.kept_le ok l
  have hr := pick_range l 0 ((s.l.length : Int) - s.sure + 1)
  have hs := h.sure
  have hl := h.len
  have hkn : fs.length ≤ s.kept (pickR l) := by omega
  have hle : (s.left (pickR l)).length ≤ s.l.length + 1 := by
    unfold VS.left
    split
    · rw [List.length_take]; omega
    · rw [List.length_append, List.length_take]; simp; omega
  have hge : fs.length ≤ (s.left (pickR l)).length := by
    unfold VS.left
    split
    · rw [List.length_take]; omega
    · rw [List.length_append, List.length_take]; simp; omega
  have hpre : (s.left (pickR l)).take fs.length = texts fs := by
    have e : (s.l.take (s.kept (pickR l))).take fs.length = texts fs := by rw [List.take_take, Nat.min_eq_left hkn, h.pre]
    unfold VS.left
    split
    · exact e
    · rw [List.take_append_of_le_length (by rw [List.length_take]; omega), e]
  exact ⟨⟨h.calm.lo, h.calm.lf, h.calm.pr⟩, hpre, hge, hge, h.er, by show (s.left (pickR l)).length ≤ _; omega⟩
theorem Keeps.shows (h : Keeps s fs k) : fs.length ≤ (readable s.l).length ∧ ∀ j (h1 : j < fs.length) (h2 : j < (readable s.l).length), (readable s.l)[j] = fs[j] := by
  have key : ∀ (l : List Blk), l.take fs.length = texts fs → ∃ r, readable l = fs ++ r := by
    clear h
    induction fs with
    | nil => intro l _; exact ⟨_, rfl⟩
    | cons f fs ih =>
      intro l hl
      cases l with
      | nil => simp [texts] at hl
      | cons a l =>
        rw [List.length_cons, List.take_succ_cons] at hl
        have e1 : texts (f :: fs) = ⟨f, false, false⟩ :: texts fs := rfl
        rw [e1] at hl
        injection hl with h1 h2
        obtain ⟨r, hr⟩ := ih l h2
        refine ⟨r, ?_⟩
        subst h1
        unfold readable at hr ⊢
        rw [List.takeWhile_cons]
        simp only [Bool.not_false, if_true, List.map_cons]
        rw [hr]
        rfl
  obtain ⟨r, hr⟩ := key s.l h.pre
  rw [hr]
  refine ⟨by simp, fun j h1 h2 => ?_⟩
  rw [List.getElem_append_left h1]
end

theorem step_write {s : VS} {us : List ByteArray} (h : s.Has us) (hn : us.length ≤ 100) (t : ByteArray) (ht : t.size ≤ 60) : ∃ S3, s.add ⟨t, false, false⟩ = (S3, 0) ∧ S3.Has (us ++ [t]) ∧ S3.er = s.er :=
  ⟨_, (h.add hn t ht).1, (h.add hn t ht).2, rfl⟩

set_option maxRecDepth 100000 in
set_option maxHeartbeats 8000000 in
theorem walk (A : Option Addr) (c : Nat) (l : List ByteArray) (Aa : Option Addr) (ca : Nat) (la : List Ac) (w : World) (hL : Lies w w.heap.size A (l.map Value.string)) (hlen : l.length ≤ 9223372036854775807) (hLa : Acts w w.heap.size Aa la) (hna : la.length ≤ 9223372036854775807) :
    Calls Try.prog 4 #[.slice A l.length c, .slice Aa la.length ca] w fun e w' => e = .returned (.bool true) ∧ Below w.heap.size w w' := by
  obtain ⟨i0, hie, hz0, hz1, hz2'⟩ := info_parts info_strx
  have HL := Lib.hid hL; clear hL
  have HLA := Lib.hid hLa; clear hLa
  go_enter Try.func4, Try.ntmps4
  go_wp2_with fail
  refine (new_vol 100000 100000 (by omega) rfl w).mono ?_
  rintro e w1 ⟨g, rfl, h1, hb1⟩
  have hs1 := hb1.size
  generalize hB : w.heap.size = B at *
  have HB := Lib.hid hB; clear hB
  go_wp2_with fail
  refine (awake5_any w1).mono ?_
  rintro e w2 ⟨rfl, hb2⟩
  have H2 := Lib.hid ((h1.below hb2).alloc (.cells #[] 9))
  have hzB : B ≤ w2.heap.size := Nat.le_trans hs1 hb2.size
  have HB2 := Lib.hid ((hb1.trans (hb2.mono hs1)).alloc hzB (.cells #[] 9))
  have HR2 : Hid ((w2.alloc (.cells #[] 9)).ownsRow B 9 1 (.slice (some ⟨w2.heap.size, 0, none⟩) 0 0) ([] : List ByteArray).length (strCells' [])) := Lib.hid (row_low (row_new w2 9 1) hzB)
  clear h1 hb1 hb2 hs1
  go_upto_block 0 with fail
  go_cut [6] (fun v wx => ∃ (ts : List ByteArray) (s : VS), ts.length ≤ 8 ∧ Hid (s.Has ts ∧ s.er = 0) ∧ Hid (wx.ownsRow B 9 1 v ts.length (strCells' ts)) ∧ Hid (Vol wx B g s) ∧ Hid (Below B w wx))
  case first =>
    go_wp2_with fail
    go_loopw [6, 7] (fun v i wr => ∃ (k : Nat) (ts : List ByteArray) (s : VS), k ≤ l.length ∧ k ≤ 8 ∧ i = .int .i64 (k : Int) ∧ ts.length ≤ k ∧ Hid (s.Has ts ∧ s.er = 0) ∧ Hid (wr.ownsRow B 9 1 v ts.length (strCells' ts)) ∧ Hid (Vol wr B g s) ∧ Hid (Below B w wr))
      (fun _ i _ => 8 - (intOf i).toNat)
    case atStart => exact ⟨0, [], VS.new 100000, by omega, by omega, rfl, by simp, Lib.hid ⟨.new, rfl⟩, HR2, H2, HB2⟩
    case round =>
      clear H2 HR2 HB2
      obtain ⟨k, ts, s, hk, hk8, rfl, htk, HS, HR, HV, HBW⟩ := hrel
      by_cases hlt : k < l.length ∧ k < 8
      · obtain ⟨hlt, h8⟩ := hlt
        obtain ⟨ad, rfl, _, hc⟩ := Lies.str (HL.out.below HBW.out) hlt
        generalize l[k] = x at *
        have hC := cut_any x 30 wr
        have hz := cutTo_le x 30
        generalize cutTo x 30 = t at *
        obtain ⟨S3, g1, g2, g3⟩ := step_write HS.out.1 (by omega) t (by omega)
        have hW := write_vol HV.out t (by omega) (by rw [HS.out.1.length]; omega)
        rw [g1] at hW
        have R1 : Hid (S3.Has (ts ++ [t]) ∧ S3.er = 0) := Lib.hid ⟨g2, by rw [g3]; exact HS.out.2⟩
        have HW := Lib.hid hW
        clear g1 g2 g3 hW HS
        go_wp2_with fail
        refine hC.mono ?_
        rintro e w3 ⟨rfl, rfl⟩
        clear hC
        go_wp2_with fail
        refine HW.out.mono ?_
        rintro e w3 ⟨rfl, h3, st3⟩
        have H3 := Lib.hid h3
        have HR3 := Lib.hid (st3.row HR.out (by decide) (by decide))
        have HB3 := Lib.hid (HBW.out.trans st3.below)
        have hzr : B ≤ w3.heap.size := h3.bz
        clear h3 st3 HW HV HR HBW hc
        go_wp2_with (at_builtin; refine wpList_append_own _ rfl _ _ 57 rfl B 9 i0 (.string ⟨#[]⟩) 1 16 Try.underlying57 hie hz0 hz1 hz2' rfl (by decide) _ _ _ rfl (HR3.out.alloc _) ⟨w3.heap.size, 0, none⟩ 1 1 [.string t] rfl rfl ?c1 ?c2 ?c3 ?c4 ?c5 ?_)
        case c1 => exact cell_one_new _ _ _
        case c2 => intro u hu; simp at hu; subst hu; rfl
        case c3 => unfold maxLen; omega
        case c4 => omega
        case c5 => simp; omega
        intro v' w5 hown' hgrow _
        have R3 : Hid (w5.ownsRow B 9 1 v' (ts ++ [t]).length (strCells' (ts ++ [t]))) := Lib.hid (by
          have e1 : (ts ++ [t]).length = ts.length + 1 := by simp
          have e2 : strCells' (ts ++ [t]) = strCells' ts ++ [.string t] := by simp [strCells']
          rw [e1, e2]
          exact hown')
        have R4 := Lib.hid ((H3.out.alloc (.cells #[.string t] 9)).rows (HR3.out.alloc _) (by decide) (by decide) hgrow)
        have R5 : Hid (Below B w w5) := Lib.hid (HB3.out.trans (((Below.refl B w3).alloc hzr (.cells #[.string t] 9)).trans (below_rows (HR3.out.alloc _) (Nat.le_refl _) (by simp; omega) hgrow)))
        have hlen5 : (ts ++ [t]).length = ts.length + 1 := by simp
        have HL5 := Lib.hid hlen5
        clear hown' hgrow HR3 H3 HB3 hzr hlen5
        go_wp2
        go_roundw
        case rel => exact ⟨k + 1, ts ++ [t], S3, by omega, by omega, by go_num, by have := HL5.out; omega, R1, R3, R4, R5⟩
        case measure => simp [intOf]; omega
      · have hex : (¬ k < l.length) ∨ (k < l.length ∧ ¬ k < 8) := by omega
        rcases hex with x1 | ⟨x1, x2⟩
        all_goals
          go_wp2_with fail
          go_meet
          exact ⟨ts, s, by omega, HS, HR, HV, HBW⟩
  case rest =>
    clear H2 HR2 HB2
    obtain ⟨fs, s0, hf8, HS, HR, HV, HBW⟩ := hcut
    obtain ⟨A1, c1, ea, _, _⟩ := row_slice HR.out
    subst ea
    generalize wc = wr0 at *
    have hFl := flush_vol HV.out
    have hfl := HS.out.1.fresh.calm.flush
    rw [hfl] at hFl
    have HF := Lib.hid hFl
    have hK0 : Keeps (VS.mk s0.rm s0.lo s0.lf s0.lab s0.l s0.l.length s0.pos s0.er s0.pr) fs 0 := by
      have h1 := HS.out.1
      have h2 := h1.length
      refine ⟨⟨h1.fresh.calm.lo, h1.fresh.calm.lf, h1.fresh.calm.pr⟩, ?_, by show fs.length ≤ s0.l.length; omega, by show fs.length ≤ s0.l.length; omega, HS.out.2, by show s0.l.length ≤ _; omega⟩
      show s0.l.take fs.length = _
      rw [List.take_of_length_le (by omega), h1.l]
    have HK0 := Lib.hid hK0
    clear hFl hfl hK0
    go_wp2_with fail
    refine HF.out.mono ?_
    rintro e w3 ⟨rfl, h3, st3⟩
    have H3 : Hid (Vol w3 B g (VS.mk s0.rm s0.lo s0.lf s0.lab s0.l s0.l.length s0.pos s0.er s0.pr)) := Lib.hid h3
    have HR3 := Lib.hid (st3.row HR.out (by decide) (by decide))
    have HB3 := Lib.hid (HBW.out.trans st3.below)
    clear h3 st3 HF HV HR HBW HS
    go_wp2
    go_loopw [9] (fun i wr => ∃ (j : Nat) (s : VS), j ≤ 20 ∧ j ≤ la.length ∧ i = .int .i64 (j : Int) ∧ Hid (Keeps s fs j) ∧ Hid (Vol wr B g s) ∧ Hid (wr.ownsRow B 9 1 (.slice A1 fs.length c1) fs.length (strCells' fs)) ∧ Hid (Below B w wr))
      (fun i _ => 20 - (intOf i).toNat)
    case atStart => exact ⟨0, _, by omega, by omega, rfl, HK0, H3, HR3, HB3⟩
    case round =>
      clear H3 HR3 HB3 HK0
      obtain ⟨j, s, hj, hjl, rfl, HK, HV, HR, HBW⟩ := hrel
      by_cases hlt : j < la.length ∧ j < 20
      · obtain ⟨hlt, hlt20⟩ := hlt
        obtain ⟨ad, rfl, hadB, hc, hok⟩ := (HLA.out.below HBW.out) j hlt
        generalize la[j] = x at *
        obtain ⟨K, N, M, SA, cA, cl, cc, Y⟩ := x
        have q0 : wr.cell? (ad.add (j * 6)) = some (.int .i64 K) := hc 0 _ rfl
        have q1 : wr.cell? ⟨(ad.add (j * 6)).block, (ad.add (j * 6)).off + 1, none⟩ = some (.int .i64 N) := by rw [← addr_at ad (j * 6) 0]; exact hc 1 _ rfl
        have q2 : wr.cell? ⟨(ad.add (j * 6)).block, (ad.add (j * 6)).off + 2, none⟩ = some (.int .i64 M) := by rw [← addr_at ad (j * 6) 1]; exact hc 2 _ rfl
        have q3 : wr.cell? ⟨(ad.add (j * 6)).block, (ad.add (j * 6)).off + 3, none⟩ = some (.string SA) := by rw [← addr_at ad (j * 6) 2]; exact hc 3 _ rfl
        have q4 : wr.cell? ⟨(ad.add (j * 6)).block, (ad.add (j * 6)).off + 4, none⟩ = some (.slice cA cl.length cc) := by rw [← addr_at ad (j * 6) 3]; exact hc 4 _ rfl
        have q5 : wr.cell? ⟨(ad.add (j * 6)).block, (ad.add (j * 6)).off + 5, none⟩ = some (.int .u8 Y) := by rw [← addr_at ad (j * 6) 4]; exact hc 5 _ rfl
        have HOK := Lib.hid hok
        clear hc hok
        have hC3 := fun W => cut_any SA 30 W
        have hzB2 := cutTo_le SA 30
        generalize cutTo SA 30 = tb at *
        have hvz := HV.out.bz
        have hll : s.l.length ≤ 28 := by have := HK.out.len; omega
        have H5 := Lib.hid (HV.out.alloc (.cells #[.int .i64 K, .int .i64 N, .int .i64 M, .string SA, .slice cA cl.length cc, .int .u8 Y] 36))
        have hst5 := Stay.alloc wr (.cells #[.int .i64 K, .int .i64 N, .int .i64 M, .string SA, .slice cA cl.length cc, .int .u8 Y] 36) hvz
        have HR5 := Lib.hid (hst5.row HR.out (by decide) (by decide))
        have HB5 := Lib.hid (HBW.out.trans hst5.below)
        have hbx := At.new wr 36 #[.int .i64 K, .int .i64 N, .int .i64 M, .string SA, .slice cA cl.length cc, .int .u8 Y]
        by_cases k1 : K = 1
        · subst k1
          have hX := Lib.hid (write_vol H5.out tb (by omega) (by omega))
          have hK := Lib.hid (HK.out.add ⟨tb, false, false⟩)
          go_wp2_with fail
          refine (hC3 _).mono ?_
          rintro e W' ⟨rfl, rfl⟩
          go_wp2_with fail
          refine hX.out.mono ?_
          rintro e w6 ⟨rfl, h6, st6⟩
          have R1 := Lib.hid h6
          have R2 := Lib.hid (st6.row HR5.out (by decide) (by decide))
          have R3 := Lib.hid (HB5.out.trans st6.below)
          clear h6 st6 hX HK HV HR HBW H5 HR5 HB5 hbx hst5 q0 q1 q2 q3 q4 q5 HOK
          go_wp2
          go_roundw
          case rel => exact ⟨j + 1, _, by omega, by omega, by go_num, hK, R1, R2, R3⟩
          case measure => simp [intOf]; omega
        have b1 : (K == 1) = false := beq_eq_false_iff_ne.2 k1
        by_cases k2 : K = 2
        · subst k2
          have hX := Lib.hid (mark_vol H5.out (by omega))
          have hK := Lib.hid (HK.out.add ⟨⟨#[]⟩, true, false⟩)
          go_wp2_with fail
          refine hX.out.mono ?_
          rintro e w6 ⟨rfl, h6, st6⟩
          have R1 := Lib.hid h6
          have R2 := Lib.hid (st6.row HR5.out (by decide) (by decide))
          have R3 := Lib.hid (HB5.out.trans st6.below)
          clear h6 st6 hX HK HV HR HBW H5 HR5 HB5 hbx hst5 q0 q1 q2 q3 q4 q5 HOK
          go_wp2
          go_roundw
          case rel => exact ⟨j + 1, _, by omega, by omega, by go_num, hK, R1, R2, R3⟩
          case measure => simp [intOf]; omega
        have b2 : (K == 2) = false := beq_eq_false_iff_ne.2 k2
        by_cases k3 : K = 3
        · subst k3
          have hX := Lib.hid (flush_vol H5.out)
          have hK := Lib.hid (HK.out.flush)
          go_wp2_with fail
          refine hX.out.mono ?_
          rintro e w6 ⟨rfl, h6, st6⟩
          have R1 := Lib.hid h6
          have R2 := Lib.hid (st6.row HR5.out (by decide) (by decide))
          have R3 := Lib.hid (HB5.out.trans st6.below)
          clear h6 st6 hX HK HV HR HBW H5 HR5 HB5 hbx hst5 q0 q1 q2 q3 q4 q5 HOK
          go_wp2
          go_roundw
          case rel => exact ⟨j + 1, _, by omega, by omega, by go_num, hK, R1, R2, R3⟩
          case measure => simp [intOf]; omega
        have b3 : (K == 3) = false := beq_eq_false_iff_ne.2 k3
        by_cases k4 : K = 4
        · subst k4
          have hX := Lib.hid (read_vol H5.out)
          have hK := Lib.hid (HK.out.read)
          go_wp2_with fail
          refine hX.out.mono ?_
          rintro e w6 ⟨rfl, h6, st6⟩
          have R1 := Lib.hid h6
          have R2 := Lib.hid (st6.row HR5.out (by decide) (by decide))
          have R3 := Lib.hid (HB5.out.trans st6.below)
          clear h6 st6 hX HK HV HR HBW H5 HR5 HB5 hbx hst5 q0 q1 q2 q3 q4 q5 HOK
          go_wp2
          go_roundw
          case rel => exact ⟨j + 1, _, by omega, by omega, by go_num, hK, R1, R2, R3⟩
          case measure => simp [intOf]; omega
        have b4 : (K == 4) = false := beq_eq_false_iff_ne.2 k4
        by_cases k5 : K = 5
        · subst k5
          have hX := Lib.hid (seek_vol H5.out N)
          have hK := Lib.hid (HK.out.seek N)
          go_wp2_with fail
          refine hX.out.mono ?_
          rintro e w6 ⟨rfl, h6, st6⟩
          have R1 := Lib.hid h6
          have R2 := Lib.hid (st6.row HR5.out (by decide) (by decide))
          have R3 := Lib.hid (HB5.out.trans st6.below)
          clear h6 st6 hX HK HV HR HBW H5 HR5 HB5 hbx hst5 q0 q1 q2 q3 q4 q5 HOK
          go_wp2
          go_roundw
          case rel => exact ⟨j + 1, _, by omega, by omega, by go_num, hK, R1, R2, R3⟩
          case measure => simp [intOf]; omega
        have b5 : (K == 5) = false := beq_eq_false_iff_ne.2 k5
        by_cases k6 : K = 6
        · subst k6
          have hX := Lib.hid (skip_vol H5.out)
          have hK := Lib.hid (HK.out.skip)
          go_wp2_with fail
          refine hX.out.mono ?_
          rintro e w6 ⟨rfl, h6, st6⟩
          have R1 := Lib.hid h6
          have R2 := Lib.hid (st6.row HR5.out (by decide) (by decide))
          have R3 := Lib.hid (HB5.out.trans st6.below)
          clear h6 st6 hX HK HV HR HBW H5 HR5 HB5 hbx hst5 q0 q1 q2 q3 q4 q5 HOK
          go_wp2
          go_roundw
          case rel => exact ⟨j + 1, _, by omega, by omega, by go_num, hK, R1, R2, R3⟩
          case measure => simp [intOf]; omega
        have b6 : (K == 6) = false := beq_eq_false_iff_ne.2 k6
        by_cases k7 : K = 7
        · subst k7
          have hX := Lib.hid (trim_vol H5.out)
          have hK := Lib.hid (HK.out.trim)
          go_wp2_with fail
          refine hX.out.mono ?_
          rintro e w6 ⟨rfl, h6, st6⟩
          have R1 := Lib.hid h6
          have R2 := Lib.hid (st6.row HR5.out (by decide) (by decide))
          have R3 := Lib.hid (HB5.out.trans st6.below)
          clear h6 st6 hX HK HV HR HBW H5 HR5 HB5 hbx hst5 q0 q1 q2 q3 q4 q5 HOK
          go_wp2
          go_roundw
          case rel => exact ⟨j + 1, _, by omega, by omega, by go_num, hK, R1, R2, R3⟩
          case measure => simp [intOf]; omega
        have b7 : (K == 7) = false := beq_eq_false_iff_ne.2 k7
        by_cases k9 : K = 9
        · subst k9
          have hRd : Reads (wr.alloc (.cells #[.int .i64 9, .int .i64 N, .int .i64 M, .string SA, .slice cA cl.length cc, .int .u8 Y] 36)) B cA cl := Reads.of_low (HOK.out.cL.below hst5.below) (by simp; omega)
          have hcl : cl.length ≤ 9223372036854775807 := by have h1 := HOK.out.cc; have h2 := HOK.out.ccm; omega
          have hX := Lib.hid (crash_vol H5.out cA cc cl _ rfl hRd HOK.out.cb hcl)
          have hK := Lib.hid (HK.out.crash HV.out.1 cl)
          go_wp2_with fail
          refine hX.out.mono ?_
          rintro e w6 ⟨rfl, h6, st6⟩
          have R1 := Lib.hid h6
          have R2 := Lib.hid (st6.row HR5.out (by decide) (by decide))
          have R3 := Lib.hid (HB5.out.trans st6.below)
          clear h6 st6 hX HK HV HR HBW H5 HR5 HB5 hbx hst5 q0 q1 q2 q3 q4 q5 HOK
          go_wp2
          go_roundw
          case rel => exact ⟨j + 1, _, by omega, by omega, by go_num, hK, R1, R2, R3⟩
          case measure => simp [intOf]; omega
        have b9 : (K == 9) = false := beq_eq_false_iff_ne.2 k9
        have R1 := H5
        have hK := Lib.hid (HK.out.mono (show j ≤ j + 1 by omega))
        have R2 := HR5
        have R3 := HB5
        clear HK HV HR HBW H5 HR5 HB5 hst5 HOK hbx
        go_wp2
        go_roundw
        case rel => exact ⟨j + 1, s, by omega, by omega, by go_num, hK, R1, R2, R3⟩
        case measure => simp [intOf]; omega
      · have hex : (¬ j < la.length) ∨ (j < la.length ∧ ¬ j < 20) := by omega
        have hKs := HK.out.shows
        have HBK := Lib.hid (blocks_any HV.out HK.out.calm (by have := HK.out.len; omega))
        have hEr := HK.out.er
        have HER := Lib.hid hEr
        obtain ⟨gl, hgl⟩ : ∃ gl, readable s.l = gl := ⟨_, rfl⟩
        rw [hgl] at hKs HBK
        have HKS := Lib.hid hKs
        clear hEr hgl hKs HK HV
        rcases hex with x1 | ⟨x1, x2⟩
        all_goals
          go_wp2_with fail
          refine HBK.out.mono ?_
          rintro e w5 ⟨v5, s5, rfl, hr5, h5, hl5, he5, st5⟩
          obtain ⟨A6, c6, rfl, hl6, _⟩ := row_slice hr5
          obtain ⟨A7, c7, e7, hl7, _⟩ := row_slice (st5.row HR.out (by decide) (by decide))
          simp only [Value.slice.injEq] at e7
          obtain ⟨rfl, _, rfl⟩ := e7
          have hE := erased_vol h5
          rw [he5, HER.out] at hE
          have HE := Lib.hid hE
          have HBz : B ≤ w5.heap.size := h5.bz
          have HB5 := Lib.hid (HBW.out.trans st5.below)
          have HL6 := Lib.hid (show Lies w5 w5.heap.size A6 (gl.map Value.string) from hl6)
          have HL7 := Lib.hid (show Lies w5 w5.heap.size A1 (fs.map Value.string) from hl7)
          have hle := HKS.out.1
          clear hr5 h5 hl5 he5 st5 HBK HR HBW hl6 hl7 hE
          go_wp2_with fail
          refine HE.out.mono ?_
          rintro e w6 ⟨rfl, rfl⟩
          clear HE
          go_wp2
          go_loopw [116] (fun i wr => ∃ j : Nat, j ≤ fs.length ∧ i = .int .i64 (j : Int) ∧ Hid (Below w5.heap.size w5 wr))
            (fun i _ => fs.length - (intOf i).toNat)
          case atStart => exact ⟨0, by omega, rfl, Lib.hid (Below.refl _ _)⟩
          case round =>
            obtain ⟨j, hj, rfl, HBR⟩ := hrel
            by_cases hjk : j < fs.length
            · have hjg : j < gl.length := by omega
              obtain ⟨a1, rfl, _, d1⟩ := Lies.str (HL6.out.below HBR.out) hjg
              obtain ⟨a2, rfl, _, d2⟩ := Lies.str (HL7.out.below HBR.out) hjk
              rw [HKS.out.2 j hjk hjg] at d1
              generalize fs[j]'(by omega) = x at *
              have hxx : (x.toList == x.toList) = true := by simp
              have i0 : (0 : Int) ≤ (j : Int) := by omega
              have i1 : (j : Int) < (gl.length : Int) := by omega
              have i2 : (j : Int) < (fs.length : Int) := by omega
              go_wp2
              go_quiet (fail)
              have R1 : Hid (Below w5.heap.size w5 (wr.drewN nq)) := Lib.hid (below_drewN HBR.out nq)
              clear HBR d1 d2
              go_wp2
              go_roundw
              case rel => exact ⟨j + 1, by omega, by go_num, R1⟩
              case measure => simp [intOf]; omega
            · obtain rfl : j = fs.length := by omega
              have HBF := Lib.hid (HB5.out.trans (HBR.out.mono HBz))
              clear HBR HL6 HL7 HB5
              go_wp2
              go_ret
              exact ⟨rfl, by rw [HB.out]; exact HBF.out⟩

set_option maxRecDepth 100000 in
theorem lifted (os : Os) (started : os.Started) (H : Type) (enc : TypeId × Value → H) :
    ReturnsInHanded {} Try.checked os 4 .any (Rows.reelStaysSpec.pre6 enc Try.prog Try.f4 Rows.reelStaysRow.domain false) (Rows.reelStaysSpec.post enc Try.prog Try.f4 false true false false) := by
  refine returnsInHanded_of_change (C := Try.checked) own started (by kernel_rfl) Try.func4
    (ChangeSpec.witness6 (enc := enc) (C := Try.checked) false ⟨#[], #[.slice none 0 0, .slice none 0 0], []⟩ 8 (by kernel_rfl) (by kernel_rfl) (by kernel_rfl) (by kernel_rfl)) ?_
  intro W base args ds gs before hval0 hW hcnd _
  have hval : ∀ (j : Nat) t v, Try.f4.params[j]? = some t → args[j]? = some v → Value.okWide Try.prog W .any base t v := hval0
  have hW' := hW
  obtain ⟨p, q, hA0, hV, rfl, hfz, hnd⟩ := hW
  have hA : DataW.TrodAll enc Try.prog W 0 (fun _ => true) true Try.f4.params.toList args.toList ds p := hA0
  rw [Try.params4] at hA hval
  obtain ⟨v0, vs0, d0, ds0, p0, q0, hargs, rfl, rfl, h0, r0⟩ := trodAll_cons hA
  obtain ⟨v1, vs1, d1, ds1, p1, q1, rfl, rfl, rfl, h1, r1⟩ := trodAll_cons r0
  obtain ⟨rfl, rfl, rfl⟩ := trodAll_nil r1
  obtain rfl : args = #[v0, v1] := by cases args; simp_all
  obtain ⟨rfl, rfl⟩ := trodVars_none hV
  obtain ⟨A1, c1, l, rfl, hc0, hL0⟩ := open_texts Try.underlying57 Try.underlying9 (by kernel_rfl) (hval 0 57 v0 rfl rfl) h0
  obtain ⟨Aa, ca, la, rfl, _, hLa⟩ := open_acts (hval 1 22 v1 rfl rfl) h1
  refine (walk A1 c1 l Aa ca la W hL0 (slice_max Try.underlying57 h0) hLa (slice_max Try.underlying22 h1)).mono fun e W' ⟨he, hg⟩ => ?_
  subst he
  exact ⟨_, rfl, law_post (tb := 4) hW' rfl (by kernel_rfl) Try.underlying4 (by rw [Try.params4]; decide +kernel) rfl hg⟩

theorem proved : Rows.ReelStaysSaid :=
  OpenClaim.holds_of_wide 4 Try.f4 rfl rfl rfl rfl rfl rfl rfl ⟨rfl, rfl, rfl, rfl, rfl⟩ rfl rfl rfl rfl rfl (by kernel_rfl) Try.func4 (by kernel_rfl)
    (of_decide_eq_true (by kernel_rfl)) (by unfold Func.isWrapper; first | (rw [if_pos (by decide +kernel)]; kernel_rfl) | (rw [if_neg (by decide +kernel)]; exact ⟨rfl, rfl⟩))
    (fun os started H enc _ => lifted os started H enc)
#print axioms proved
end Go.Proofs.Ytchpdeogmbbjgaa.reelStays
