/- 'behind a crash a beginning of what was written is left': glacierlaw05.ReelTorn returns true for every input. No condition. -/
import Derived.Test.YtchpdeogmbbjgaaVy
import Derived.Test.YtchpdeogmbbjgaaCu
import Derived.Test.YtchpdeogmbbjgaaLw
import Derived.Test.YtchpdeogmbbjgaaOp
import Derived.Test.YtchpdeogmbbjgaaRows
import Derived.Deep.DeepCutAuto
import Derived.Deep.CutBlock
import Derived.ProofKit
import Derived.OpenShut
namespace Go.Proofs.Ytchpdeogmbbjgaa.reelTorn
open Go.ChangeShapes Go.WideShapes Go.ChangeAt Go.RowKit
open Go.ChangeMaps (open_string)
set_option linter.unusedVariables false

theorem own : ownKnob Try.prog.godebug = none := by kernel_rfl

theorem readable_texts (l : List ByteArray) : readable (texts l) = l := by
  induction l with
  | nil => rfl
  | cons a l ih =>
    unfold readable texts at ih ⊢
    rw [List.map_cons, List.takeWhile_cons]
    simp only [Bool.not_false, if_true, List.map_cons]
    rw [ih]
    rfl
theorem lastTorn_texts (l : List ByteArray) : lastTorn (texts l) = false := by
  unfold lastTorn texts
  rw [List.getLast?_map]
  cases l.getLast? <;> rfl
theorem texts_take (l : List ByteArray) (n : Nat) : (texts l).take n = texts (l.take n) := by unfold texts; rw [List.map_take]

/-- behind a crash, and a Trim -/
theorem crash_trim {s : VS} {ts : List ByteArray} (h : s.Has ts) (ok : s.ok) (l : List Int) : ∃ kp e s2, (s.crash (pickR l)).trim = (s2, e) ∧ (e = 0 ∨ e = 5) ∧ s2.l = texts (ts.take kp) ∧ s2.Calm ∧ kp ≤ ts.length ∧ (kp : Int) = s.sure + pickR l 0 ((ts.length : Int) - s.sure + 1) := by
  have hk := s.kept_le ok l
  rw [h.length] at hk
  have hcm : (s.crash (pickR l)).Calm := ⟨h.fresh.calm.lo, h.fresh.calm.lf, h.fresh.calm.pr⟩
  have htk : s.l.take (s.kept (pickR l)) = texts (ts.take (s.kept (pickR l))) := by rw [h.l, texts_take]
  by_cases hp : s.part (pickR l) = 0
  · have e : (s.crash (pickR l)).l = texts (ts.take (s.kept (pickR l))) := by
      show s.left (pickR l) = _
      unfold VS.left; rw [if_pos hp, htk]
    refine ⟨s.kept (pickR l), 5, s.crash (pickR l), ?_, .inr rfl, e, hcm, hk.2, hk.1⟩
    rw [hcm.trim, if_pos (by rw [e]; exact lastTorn_texts _)]
  · have e : (s.crash (pickR l)).l = texts (ts.take (s.kept (pickR l))) ++ [⟨(s.l[s.kept (pickR l)]?.getD .no).t.extract 0 (s.part (pickR l)), false, true⟩] := by
      show s.left (pickR l) = _
      unfold VS.left; rw [if_neg hp, htk]
    refine ⟨s.kept (pickR l), 0, (s.crash (pickR l)).cut ((s.crash (pickR l)).l.length - 1), ?_, .inl rfl, ?_, ⟨hcm.lo, hcm.lf, hcm.pr⟩, hk.2, hk.1⟩
    · rw [hcm.trim, if_neg (by rw [e, lastTorn_append]; simp)]
    · show (s.crash (pickR l)).l.take ((s.crash (pickR l)).l.length - 1) = _
      rw [e]
      simp
theorem has_setSure {s : VS} {ts : List ByteArray} (h : s.Has ts) (n : Nat) : VS.Has { s with sure := n } ts := ⟨⟨⟨h.fresh.calm.lo, h.fresh.calm.lf, h.fresh.calm.pr⟩, h.fresh.rm, h.fresh.pos, h.fresh.torn⟩, h.l, h.short⟩

theorem step_write {s : VS} {us : List ByteArray} (h : s.Has us) (hn : us.length ≤ 100) (t : ByteArray) (ht : t.size ≤ 60) : ∃ S3, s.add ⟨t, false, false⟩ = (S3, 0) ∧ S3.Has (us ++ [t]) ∧ S3.sure = s.sure :=
  ⟨_, (h.add hn t ht).1, (h.add hn t ht).2, rfl⟩
theorem step_flush {s : VS} {us : List ByteArray} (h : s.Has us) : ∃ S2, s.flush = (S2, 0) ∧ S2.Has us ∧ S2.sure = us.length :=
  ⟨_, h.fresh.calm.flush, has_setSure h _, h.length⟩
theorem pick_two (keep part : Int) (m : Int) (hm : 1 ≤ m) : pickR [keep, part] 0 m = keep % m := by
  have := pick_in (l := [keep, part]) (k := 0) (n := m) (by simp) hm
  simpa using this

set_option maxRecDepth 100000 in
set_option maxHeartbeats 8000000 in
theorem walk (A : Option Addr) (c : Nat) (l : List ByteArray) (A2 : Option Addr) (c2 : Nat) (l2 : List ByteArray) (keep part : Int) (w : World) (hL : Lies w w.heap.size A (l.map Value.string)) (hlen : l.length ≤ 9223372036854775807) (hL2 : Lies w w.heap.size A2 (l2.map Value.string)) (hlen2 : l2.length ≤ 9223372036854775807)
    (hk0 : -9223372036854775808 ≤ keep) (hk1 : keep ≤ 9223372036854775807) (hp0 : -9223372036854775808 ≤ part) (hp1 : part ≤ 9223372036854775807) :
    Calls Try.prog 8 #[.slice A l.length c, .slice A2 l2.length c2, .int .i64 keep, .int .i64 part] w fun e w' => e = .returned (.bool true) ∧ Below w.heap.size w w' := by
  obtain ⟨i0, hie, hz0, hz1, hz2'⟩ := info_parts info_strx
  have HL := Lib.hid hL; clear hL
  have HL2 := Lib.hid hL2; clear hL2
  go_enter Try.func8, Try.ntmps8
  go_wp2_with fail
  refine (new_vol 100000 100000 (by omega) rfl w).mono ?_
  rintro e w1 ⟨g, rfl, h1, hb1⟩
  have hs1 := hb1.size
  generalize hB : w.heap.size = B at *
  have HB := Lib.hid hB; clear hB
  go_wp2_with fail
  refine (awake5_any w1).mono ?_
  rintro e w2 ⟨rfl, hb2⟩
  have H2 := Lib.hid ((h1.below hb2).alloc (.cells #[] 9))
  have hzB : B ≤ w2.heap.size := Nat.le_trans hs1 hb2.size
  have HB2 := Lib.hid ((hb1.trans (hb2.mono hs1)).alloc hzB (.cells #[] 9))
  have HR2 : Hid ((w2.alloc (.cells #[] 9)).ownsRow B 9 1 (.slice (some ⟨w2.heap.size, 0, none⟩) 0 0) ([] : List ByteArray).length (strCells' [])) := Lib.hid (row_low (row_new w2 9 1) hzB)
  clear h1 hb1 hb2 hs1
  go_upto_block 0 with fail
  go_cut [10] (fun v wx => ∃ ts : List ByteArray, ts.length ≤ 5 ∧ Hid (∀ t ∈ ts, t.size ≤ 30) ∧ Hid (wx.ownsRow B 9 1 v ts.length (strCells' ts)) ∧ Hid (Vol wx B g (VS.new 100000)) ∧ Hid (Below B w wx))
  case first =>
    go_wp2_with fail
    go_loopw [10, 11] (fun v i wr => ∃ (k : Nat) (ts : List ByteArray), k ≤ l.length ∧ k ≤ 5 ∧ i = .int .i64 (k : Int) ∧ ts.length ≤ k ∧ Hid (∀ t ∈ ts, t.size ≤ 30) ∧ Hid (wr.ownsRow B 9 1 v ts.length (strCells' ts)) ∧ Hid (Vol wr B g (VS.new 100000)) ∧ Hid (Below B w wr))
      (fun _ i _ => 5 - (intOf i).toNat)
    case atStart => exact ⟨0, [], by omega, by omega, rfl, by simp, Lib.hid (by simp), HR2, H2, HB2⟩
    case round =>
      clear H2 HR2 HB2
      obtain ⟨k, ts, hk, hk5, rfl, htk, HS, HR, HV, HBW⟩ := hrel
      by_cases hlt : k < l.length ∧ k < 5
      · obtain ⟨hlt, h5⟩ := hlt
        obtain ⟨ad, rfl, _, hc⟩ := Lies.str (HL.out.below HBW.out) hlt
        generalize l[k] = x at *
        have hC := cut_any x 30 wr
        have hz := cutTo_le x 30
        generalize cutTo x 30 = t at *
        have R1 : Hid (∀ u ∈ ts ++ [t], u.size ≤ 30) := Lib.hid fun u hu => by
          rcases List.mem_append.1 hu with h | h
          · exact HS.out u h
          · rw [List.mem_singleton.1 h]; exact hz
        have hzr : B ≤ wr.heap.size := HV.out.bz
        go_wp2_with (first
          | (go_at_call 19; refine hC.mono ?_; rintro e w3 ⟨rfl, rfl⟩)
          | (at_builtin; refine wpList_append_own _ rfl _ _ 57 rfl B 9 i0 (.string ⟨#[]⟩) 1 16 Try.underlying57 hie hz0 hz1 hz2' rfl (by decide) _ _ _ rfl (HR.out.alloc _) ⟨wr.heap.size, 0, none⟩ 1 1 [.string t] rfl rfl ?c1 ?c2 ?c3 ?c4 ?c5 ?_))
        case c1 => exact cell_one_new _ _ _
        case c2 => intro u hu; simp at hu; subst hu; rfl
        case c3 => unfold maxLen; omega
        case c4 => omega
        case c5 => simp; omega
        intro v' w5 hown' hgrow _
        have R3 : Hid (w5.ownsRow B 9 1 v' (ts ++ [t]).length (strCells' (ts ++ [t]))) := Lib.hid (by
          have e1 : (ts ++ [t]).length = ts.length + 1 := by simp
          have e2 : strCells' (ts ++ [t]) = strCells' ts ++ [.string t] := by simp [strCells']
          rw [e1, e2]
          exact hown')
        have R4 := Lib.hid ((HV.out.alloc (.cells #[.string t] 9)).rows (HR.out.alloc _) (by decide) (by decide) hgrow)
        have R5 : Hid (Below B w w5) := Lib.hid (HBW.out.trans (((Below.refl B wr).alloc hzr (.cells #[.string t] 9)).trans (below_rows (HR.out.alloc _) (Nat.le_refl _) (by simp; omega) hgrow)))
        have hlen5 : (ts ++ [t]).length = ts.length + 1 := by simp
        have HL5 := Lib.hid hlen5
        clear hown' hgrow HR HV HBW hzr hC hc hlen5
        go_wp2
        go_roundw
        case rel => exact ⟨k + 1, ts ++ [t], by omega, by omega, by go_num, by have := HL5.out; omega, R1, R3, R4, R5⟩
        case measure => simp [intOf]; omega
      · have hex : (¬ k < l.length) ∨ (k < l.length ∧ ¬ k < 5) := by omega
        rcases hex with x1 | ⟨x1, x2⟩
        all_goals
          go_wp2_with fail
          go_meet
          exact ⟨ts, by omega, HS, HR, HV, HBW⟩
  case rest =>
  obtain ⟨ts0, h05, HS0, HR0, H0, HB0⟩ := hcut
  obtain ⟨n, hn⟩ : ∃ n, ts0.length = n := ⟨_, rfl⟩
  obtain ⟨A0, c0, ea, _, _⟩ := row_slice HR0.out
  subst ea
  rw [hn] at HR0 h05
  have HN := Lib.hid hn; clear hn
  generalize wc = wr0 at *
  go_upto_block 2 with fail
  go_cut [10] (fun v wx => ∃ ts : List ByteArray, n ≤ ts.length ∧ ts.length ≤ 10 ∧ Hid (∀ t ∈ ts, t.size ≤ 30) ∧ Hid (wx.ownsRow B 9 1 v ts.length (strCells' ts)) ∧ Hid (Vol wx B g (VS.new 100000)) ∧ Hid (Below B w wx))
  case first =>
    go_wp2_with fail
    go_loopw [10, 13] (fun v i wr => ∃ (k : Nat) (ts : List ByteArray), k ≤ l2.length ∧ k ≤ 5 ∧ i = .int .i64 (k : Int) ∧ ts.length ≤ n + k ∧ n ≤ ts.length ∧ Hid (∀ t ∈ ts, t.size ≤ 30) ∧ Hid (wr.ownsRow B 9 1 v ts.length (strCells' ts)) ∧ Hid (Vol wr B g (VS.new 100000)) ∧ Hid (Below B w wr))
      (fun _ i _ => 5 - (intOf i).toNat)
    case atStart => exact ⟨0, ts0, by omega, by omega, rfl, by have := HN.out; omega, by have := HN.out; omega, HS0, by rw [HN.out]; exact HR0, H0, HB0⟩
    case round =>
      clear H0 HR0 HB0 HS0
      obtain ⟨k, ts, hk, hk5, rfl, htk, htn, HS, HR, HV, HBW⟩ := hrel
      by_cases hlt : k < l2.length ∧ k < 5
      · obtain ⟨hlt, h5⟩ := hlt
        obtain ⟨ad, rfl, _, hc⟩ := Lies.str (HL2.out.below HBW.out) hlt
        generalize l2[k] = x at *
        have hC := cut_any x 30 wr
        have hz := cutTo_le x 30
        generalize cutTo x 30 = t at *
        have R1 : Hid (∀ u ∈ ts ++ [t], u.size ≤ 30) := Lib.hid fun u hu => by
          rcases List.mem_append.1 hu with h | h
          · exact HS.out u h
          · rw [List.mem_singleton.1 h]; exact hz
        have hzr : B ≤ wr.heap.size := HV.out.bz
        go_wp2_with (first
          | (go_at_call 19; refine hC.mono ?_; rintro e w3 ⟨rfl, rfl⟩)
          | (at_builtin; refine wpList_append_own _ rfl _ _ 57 rfl B 9 i0 (.string ⟨#[]⟩) 1 16 Try.underlying57 hie hz0 hz1 hz2' rfl (by decide) _ _ _ rfl (HR.out.alloc _) ⟨wr.heap.size, 0, none⟩ 1 1 [.string t] rfl rfl ?c1 ?c2 ?c3 ?c4 ?c5 ?_))
        case c1 => exact cell_one_new _ _ _
        case c2 => intro u hu; simp at hu; subst hu; rfl
        case c3 => unfold maxLen; omega
        case c4 => omega
        case c5 => simp; omega
        intro v' w5 hown' hgrow _
        have R3 : Hid (w5.ownsRow B 9 1 v' (ts ++ [t]).length (strCells' (ts ++ [t]))) := Lib.hid (by
          have e1 : (ts ++ [t]).length = ts.length + 1 := by simp
          have e2 : strCells' (ts ++ [t]) = strCells' ts ++ [.string t] := by simp [strCells']
          rw [e1, e2]
          exact hown')
        have R4 := Lib.hid ((HV.out.alloc (.cells #[.string t] 9)).rows (HR.out.alloc _) (by decide) (by decide) hgrow)
        have R5 : Hid (Below B w w5) := Lib.hid (HBW.out.trans (((Below.refl B wr).alloc hzr (.cells #[.string t] 9)).trans (below_rows (HR.out.alloc _) (Nat.le_refl _) (by simp; omega) hgrow)))
        have hlen5 : (ts ++ [t]).length = ts.length + 1 := by simp
        have HL5 := Lib.hid hlen5
        clear hown' hgrow HR HV HBW hzr hC hc hlen5
        go_wp2
        go_roundw
        case rel => exact ⟨k + 1, ts ++ [t], by omega, by omega, by go_num, by have := HL5.out; omega, by have := HL5.out; omega, R1, R3, R4, R5⟩
        case measure => simp [intOf]; omega
      · have hex : (¬ k < l2.length) ∨ (k < l2.length ∧ ¬ k < 5) := by omega
        rcases hex with x1 | ⟨x1, x2⟩
        all_goals
          go_wp2_with fail
          go_meet
          exact ⟨ts, by omega, by omega, HS, HR, HV, HBW⟩
  case rest =>
    obtain ⟨ts, hnt, ht10, HS, HR, HV, HBW⟩ := hcut
    obtain ⟨A1, c1, ea, _, _⟩ := row_slice HR.out
    subst ea
    generalize wc = wr at *
    go_wp2
    rw [HN.out]
    have HS1 : Hid ((VS.new 100000).Has (ts.take 0) ∧ (0 ≤ n → (VS.new 100000).sure = 0) ∧ (n < 0 → (VS.new 100000).sure = n)) := Lib.hid ⟨VS.Has.new, fun _ => rfl, fun h => by omega⟩
    go_loopw [67] (fun i wr => ∃ (j : Nat) (s : VS), j ≤ ts.length ∧ i = .int .i64 (j : Int) ∧ Hid (s.Has (ts.take j) ∧ (j ≤ n → s.sure = 0) ∧ (n < j → s.sure = n)) ∧ Hid (Vol wr B g s) ∧ Hid (wr.ownsRow B 9 1 (.slice A1 ts.length c1) ts.length (strCells' ts)) ∧ Hid (Below B w wr))
      (fun i _ => ts.length - (intOf i).toNat)
    case atStart => exact ⟨0, VS.new 100000, by omega, rfl, HS1, HV, HR, HBW⟩
    case round =>
      clear HS1 HV HR HBW
      obtain ⟨j, s, hj, rfl, HSS, HV, HR, HBW⟩ := hrel
      by_cases hlt : j < ts.length
      · obtain ⟨A5, c5, e5, hL5, _⟩ := row_slice HR.out
        simp only [Value.slice.injEq] at e5
        obtain ⟨rfl, _, rfl⟩ := e5
        obtain ⟨ad, rfl, _, hc⟩ := Lies.str (show Lies wr wr.heap.size A1 (ts.map Value.string) from hL5) hlt
        have ht30 := HS.out _ (List.getElem_mem hlt)
        have htake : ts.take (j + 1) = ts.take j ++ [ts[j]] := List.take_succ_eq_append_getElem hlt
        obtain ⟨t, ht⟩ : ∃ t, ts[j] = t := ⟨_, rfl⟩
        rw [ht] at hc ht30 htake
        have htl : (ts.take j).length = j := by rw [List.length_take]; omega
        have HTK := Lib.hid htake
        clear hL5 ht htake
        by_cases hjn : j = n
        · obtain ⟨S2, f1, f2, f3⟩ := step_flush HSS.out.1
          obtain ⟨S3, g1, g2, g3⟩ := step_write f2 (by omega) t (by omega)
          have hF := flush_vol HV.out
          rw [f1] at hF
          have hW : Hid (∀ W, Vol W B g S2 → Calls Try.prog 20 #[.pointer (some ⟨g, 0, none⟩), .string t] W (VolEnds W B g (S3, 0))) := Lib.hid fun W h => by
            have := write_vol h t (by omega) (by rw [f2.length]; omega)
            rw [g1] at this
            exact this
          have R1 : Hid (S3.Has (ts.take (j + 1)) ∧ (j + 1 ≤ n → S3.sure = 0) ∧ (n < j + 1 → S3.sure = n)) := Lib.hid ⟨by rw [HTK.out]; exact g2, fun h => by omega, fun _ => by rw [g3, f3, htl, hjn]⟩
          have HF := Lib.hid hF
          have hq : ((j : Nat) == n) = true := by simp [hjn]
          have HJN := Lib.hid hjn
          clear f1 f2 f3 g1 g2 g3 hF HSS htl HTK
          subst hjn
          go_wp2_with fail
          refine HF.out.mono ?_
          rintro e w3 ⟨rfl, h3, st3⟩
          have H3 := Lib.hid h3
          have HR3 := Lib.hid (st3.row HR.out (by decide) (by decide))
          have HB3 := Lib.hid (HBW.out.trans st3.below)
          clear h3 st3 HF HV HR HBW hc
          go_wp2_with fail
          refine (hW.out _ H3.out).mono ?_
          rintro e w4 ⟨rfl, h4, st4⟩
          have R2 := Lib.hid h4
          have R3 := Lib.hid (st4.row HR3.out (by decide) (by decide))
          have R4 := Lib.hid (HB3.out.trans st4.below)
          clear h4 st4 hW H3 HR3 HB3
          go_wp2
          go_roundw
          case rel => exact ⟨j + 1, S3, by omega, by go_num, R1, R2, R3, R4⟩
          case measure => simp [intOf]; omega
        · obtain ⟨S3, g1, g2, g3⟩ := step_write HSS.out.1 (by omega) t (by omega)
          have hW := write_vol HV.out t (by omega) (by rw [HSS.out.1.length]; omega)
          rw [g1] at hW
          have R1 : Hid (S3.Has (ts.take (j + 1)) ∧ (j + 1 ≤ n → S3.sure = 0) ∧ (n < j + 1 → S3.sure = n)) := Lib.hid ⟨by rw [HTK.out]; exact g2, fun h => by rw [g3]; exact HSS.out.2.1 (by omega), fun h => by rw [g3]; exact HSS.out.2.2 (by omega)⟩
          have HW := Lib.hid hW
          have hq : ((j : Nat) == n) = false := by simp [hjn]
          clear g1 g2 g3 hW HSS htl HTK
          go_wp2_with fail
          refine HW.out.mono ?_
          rintro e w3 ⟨rfl, h3, st3⟩
          have R2 := Lib.hid h3
          have R3 := Lib.hid (st3.row HR.out (by decide) (by decide))
          have R4 := Lib.hid (HBW.out.trans st3.below)
          clear h3 st3 HW HV HR HBW hc
          go_wp2
          go_roundw
          case rel => exact ⟨j + 1, S3, by omega, by go_num, R1, R2, R3, R4⟩
          case measure => simp [intOf]; omega
      · obtain rfl : j = ts.length := by omega
        rw [List.take_length] at HSS
        by_cases hln : ts.length = n
        · obtain ⟨S2, f1, f2, f3⟩ := step_flush HSS.out.1
          have hF := flush_vol HV.out
          rw [f1] at hF
          have HF := Lib.hid hF
          have R1 : Hid (S2.Has ts ∧ S2.sure = n) := Lib.hid ⟨f2, by rw [f3, hln]⟩
          have hq : (ts.length == n) = true := by simp [hln]
          have hqi : ((ts.length : Int) == (n : Int)) = true := by simp; omega
          have HLN := Lib.hid hln
          clear f1 f2 f3 hF hln HSS
          go_wp2_with fail
          refine HF.out.mono ?_
          rintro e w3 ⟨rfl, h3, st3⟩
          have R2 := Lib.hid h3
          have R3 := Lib.hid (st3.row HR.out (by decide) (by decide))
          have R4 := Lib.hid (HBW.out.trans st3.below)
          clear h3 st3 HF HV HR HBW
          obtain ⟨HSS, HV, HR, HBW⟩ : Hid (S2.Has ts ∧ S2.sure = n) ∧ Hid (Vol w3 B g S2) ∧ Hid (w3.ownsRow B 9 1 (.slice A1 ts.length c1) ts.length (strCells' ts)) ∧ Hid (Below B w w3) := ⟨R1, R2, R3, R4⟩
          clear R1 R2 R3 R4 hq hqi
          generalize w3 = wr at *
          obtain ⟨kp, et, S3, t1, t2, t3, t4, t5, t6⟩ := crash_trim HSS.out.1 HV.out.1 [keep, part]
          have hsu := HSS.out.2
          rw [hsu, pick_two _ _ _ (by omega)] at t6
          have hm0 : 0 ≤ keep % ((ts.length : Int) - n + 1) := Int.emod_nonneg _ (by omega)
          have hm1 : keep % ((ts.length : Int) - n + 1) < (ts.length : Int) - n + 1 := Int.emod_lt_of_pos _ (by omega)
          have hkn : n ≤ kp := by omega
          have hkeep : 0 ≤ keep → keep ≤ (ts.length : Int) - n → (kp : Int) = n + keep := fun h1 h2 => by
            rw [t6, Int.emod_eq_of_lt h1 (by omega)]
          have HKEEP := Lib.hid hkeep
          have hTR : Hid (∀ W, Vol W B g (S2.crash (pickR [keep, part])) → Calls Try.prog 24 #[.pointer (some ⟨g, 0, none⟩)] W (VolEnds W B g (S3, et))) := Lib.hid fun W h => by
            have := trim_vol h
            rw [t1] at this
            exact this
          have hl3 : S3.l.length = kp := by rw [t3, texts_length, List.length_take]; omega
          have HBK : Hid (∀ W, Vol W B g S3 → Calls Try.prog 26 #[.pointer (some ⟨g, 0, none⟩)] W fun e w' => ∃ v s', e = .returned v ∧ w'.ownsRow B 9 1 v kp (strCells' (ts.take kp)) ∧ Vol w' B g s' ∧ s'.l.length = kp ∧ Stay B W w') := Lib.hid fun W h => by
            refine (blocks_any h t4 (by omega)).mono ?_
            rintro e w' ⟨v, s', h1, h2, h3, h4, h5, h6⟩
            rw [t3, readable_texts] at h2
            have hkl : (ts.take kp).length = kp := by rw [List.length_take]; omega
            rw [hkl] at h2
            exact ⟨v, s', h1, h2, h3, by rw [h4, hl3], h6⟩
          have HC := Lib.hid (crash_vol (HV.out.alloc (.cells #[.int .i64 keep, .int .i64 part] 3)) (some ⟨wr.heap.size, 0, none⟩) 2 [keep, part] 2 rfl (Reads.of_at (At.new wr 3 #[.int .i64 keep, .int .i64 part]) rfl) (by simp; omega) (by simp))
          have HRA := Lib.hid (HR.out.alloc (.cells #[.int .i64 keep, .int .i64 part] 3))
          have HBA := Lib.hid (HBW.out.alloc (HV.out.bz) (.cells #[.int .i64 keep, .int .i64 part] 3))
          clear hm0 hm1 hkeep t1 t3 t4 t6 hsu HSS HV HR HBW
          go_wp2_with fail
          refine HC.out.mono ?_
          rintro e w3 ⟨rfl, h3, st3⟩
          have H3 := Lib.hid h3
          have HR3 := Lib.hid (st3.row HRA.out (by decide) (by decide))
          have HB3 := Lib.hid (HBA.out.trans st3.below)
          clear h3 st3 HC HRA HBA
          go_wp2_with fail
          refine (hTR.out _ H3.out).mono ?_
          rintro e w4 ⟨rfl, h4, st4⟩
          have H4 := Lib.hid h4
          have HR4 := Lib.hid (st4.row HR3.out (by decide) (by decide))
          have HB4 := Lib.hid (HB3.out.trans st4.below)
          clear h4 st4 hTR H3 HR3 HB3
          have t2' : et = 0 ∨ et = 5 := t2
          clear t2
          rcases t2' with rfl | rfl
          all_goals
            go_wp2_with fail
            refine (HBK.out _ H4.out).mono ?_
            rintro e w5 ⟨v5, s5, rfl, hr5, h5, hl5, st5⟩
            obtain ⟨A6, c6, rfl, hl6, _⟩ := row_slice hr5
            obtain ⟨A7, c7, e7, hl7, _⟩ := row_slice (st5.row HR4.out (by decide) (by decide))
            simp only [Value.slice.injEq] at e7
            obtain ⟨rfl, _, rfl⟩ := e7
            have HBz : B ≤ w5.heap.size := h5.bz
            have hLn : ∀ W, Below w5.heap.size w5 W → Calls Try.prog 30 #[.pointer (some ⟨g, 0, none⟩)] W fun e w' => e = .returned (.int .i64 ((kp : Nat) : Int)) ∧ W = w' := fun W hb => by
              have := len_vol (h5.below hb)
              rw [hl5] at this
              exact this
            have HB5 := Lib.hid (HB4.out.trans st5.below)
            have HL6 := Lib.hid (show Lies w5 w5.heap.size A6 ((ts.take kp).map Value.string) from hl6)
            have HL7 := Lib.hid (show Lies w5 w5.heap.size A1 (ts.map Value.string) from hl7)
            have HLn := Lib.hid hLn
            clear hr5 h5 hl5 st5 HBK H4 HR4 HB4 hLn hl6 hl7
            try clear hln
            have hcase : keep < 0 ∨ (0 ≤ keep ∧ (ts.length : Int) - n < keep) ∨ (0 ≤ keep ∧ keep ≤ (ts.length : Int) - n ∧ (kp : Int) ≤ n + keep ∧ (n : Int) + keep ≤ kp) := by
              by_cases h : 0 ≤ keep ∧ keep ≤ (ts.length : Int) - n
              · have := HKEEP.out h.1 h.2
                exact .inr (.inr ⟨h.1, h.2, by omega, by omega⟩)
              · omega
            rcases hcase with k1 | ⟨k1, k2⟩ | ⟨k1, k2, q1, q2⟩
            · skip
              go_wp2
              go_loopw [144] (fun i wr => ∃ j : Nat, j ≤ kp ∧ i = .int .i64 (j : Int) ∧ Hid (Below w5.heap.size w5 wr))
                (fun i _ => kp - (intOf i).toNat)
              case atStart => exact ⟨0, by omega, rfl, Lib.hid (Below.refl _ _)⟩
              case round =>
                obtain ⟨j, hj, rfl, HBR⟩ := hrel
                by_cases hjk : j < kp
                · obtain ⟨a1, rfl, _, d1⟩ := Lies.str (HL6.out.below HBR.out) (k := j) (by rw [List.length_take]; omega)
                  obtain ⟨a2, rfl, _, d2⟩ := Lies.str (HL7.out.below HBR.out) (k := j) (by omega)
                  rw [List.getElem_take] at d1
                  generalize ts[j]'(by omega) = x at *
                  have hxx : (x.toList == x.toList) = true := by simp
                  have i0 : (0 : Int) ≤ (j : Int) := by omega
                  have i1 : (j : Int) < (kp : Int) := by omega
                  have i2 : (j : Int) < (ts.length : Int) := by omega
                  go_wp2
                  go_quiet (fail)
                  have R1 : Hid (Below w5.heap.size w5 (wr.drewN nq)) := Lib.hid (below_drewN HBR.out nq)
                  clear HBR d1 d2
                  go_wp2
                  go_roundw
                  case rel => exact ⟨j + 1, by omega, by go_num, R1⟩
                  case measure => simp [intOf]; omega
                · obtain rfl : j = kp := by omega
                  have hLw : Calls Try.prog 30 #[.pointer (some ⟨g, 0, none⟩)] wr fun e w' => e = .returned (.int .i64 ((j : Nat) : Int)) ∧ wr = w' := HLn.out _ HBR.out
                  have HLw := Lib.hid hLw
                  have HBF := Lib.hid (HB5.out.trans (HBR.out.mono HBz))
                  clear hLw HLn HBR HL6 HL7 HB5
                  go_wp2_with fail
                  refine HLw.out.mono ?_
                  rintro e w6 ⟨rfl, rfl⟩
                  clear HLw
                  go_wp2
                  go_ret
                  exact ⟨rfl, by rw [HB.out]; exact HBF.out⟩
            · skip
              go_wp2
              go_loopw [144] (fun i wr => ∃ j : Nat, j ≤ kp ∧ i = .int .i64 (j : Int) ∧ Hid (Below w5.heap.size w5 wr))
                (fun i _ => kp - (intOf i).toNat)
              case atStart => exact ⟨0, by omega, rfl, Lib.hid (Below.refl _ _)⟩
              case round =>
                obtain ⟨j, hj, rfl, HBR⟩ := hrel
                by_cases hjk : j < kp
                · obtain ⟨a1, rfl, _, d1⟩ := Lies.str (HL6.out.below HBR.out) (k := j) (by rw [List.length_take]; omega)
                  obtain ⟨a2, rfl, _, d2⟩ := Lies.str (HL7.out.below HBR.out) (k := j) (by omega)
                  rw [List.getElem_take] at d1
                  generalize ts[j]'(by omega) = x at *
                  have hxx : (x.toList == x.toList) = true := by simp
                  have i0 : (0 : Int) ≤ (j : Int) := by omega
                  have i1 : (j : Int) < (kp : Int) := by omega
                  have i2 : (j : Int) < (ts.length : Int) := by omega
                  go_wp2
                  go_quiet (fail)
                  have R1 : Hid (Below w5.heap.size w5 (wr.drewN nq)) := Lib.hid (below_drewN HBR.out nq)
                  clear HBR d1 d2
                  go_wp2
                  go_roundw
                  case rel => exact ⟨j + 1, by omega, by go_num, R1⟩
                  case measure => simp [intOf]; omega
                · obtain rfl : j = kp := by omega
                  have hLw : Calls Try.prog 30 #[.pointer (some ⟨g, 0, none⟩)] wr fun e w' => e = .returned (.int .i64 ((j : Nat) : Int)) ∧ wr = w' := HLn.out _ HBR.out
                  have HLw := Lib.hid hLw
                  have HBF := Lib.hid (HB5.out.trans (HBR.out.mono HBz))
                  clear hLw HLn HBR HL6 HL7 HB5
                  go_wp2_with fail
                  refine HLw.out.mono ?_
                  rintro e w6 ⟨rfl, rfl⟩
                  clear HLw
                  go_wp2
                  go_ret
                  exact ⟨rfl, by rw [HB.out]; exact HBF.out⟩
            · skip
              have hkeq1 : ((kp : Int) == (n : Int) + keep) = true := by simp; omega
              have hkeq2 : ((kp : Int) != (n : Int) + keep) = false := by simp; omega
              go_wp2
              go_loopw [144] (fun i wr => ∃ j : Nat, j ≤ kp ∧ i = .int .i64 (j : Int) ∧ Hid (Below w5.heap.size w5 wr))
                (fun i _ => kp - (intOf i).toNat)
              case atStart => exact ⟨0, by omega, rfl, Lib.hid (Below.refl _ _)⟩
              case round =>
                obtain ⟨j, hj, rfl, HBR⟩ := hrel
                by_cases hjk : j < kp
                · obtain ⟨a1, rfl, _, d1⟩ := Lies.str (HL6.out.below HBR.out) (k := j) (by rw [List.length_take]; omega)
                  obtain ⟨a2, rfl, _, d2⟩ := Lies.str (HL7.out.below HBR.out) (k := j) (by omega)
                  rw [List.getElem_take] at d1
                  generalize ts[j]'(by omega) = x at *
                  have hxx : (x.toList == x.toList) = true := by simp
                  have i0 : (0 : Int) ≤ (j : Int) := by omega
                  have i1 : (j : Int) < (kp : Int) := by omega
                  have i2 : (j : Int) < (ts.length : Int) := by omega
                  go_wp2
                  go_quiet (fail)
                  have R1 : Hid (Below w5.heap.size w5 (wr.drewN nq)) := Lib.hid (below_drewN HBR.out nq)
                  clear HBR d1 d2
                  go_wp2
                  go_roundw
                  case rel => exact ⟨j + 1, by omega, by go_num, R1⟩
                  case measure => simp [intOf]; omega
                · obtain rfl : j = kp := by omega
                  have hLw : Calls Try.prog 30 #[.pointer (some ⟨g, 0, none⟩)] wr fun e w' => e = .returned (.int .i64 ((j : Nat) : Int)) ∧ wr = w' := HLn.out _ HBR.out
                  have HLw := Lib.hid hLw
                  have HBF := Lib.hid (HB5.out.trans (HBR.out.mono HBz))
                  clear hLw HLn HBR HL6 HL7 HB5
                  go_wp2_with fail
                  refine HLw.out.mono ?_
                  rintro e w6 ⟨rfl, rfl⟩
                  clear HLw
                  go_wp2
                  go_ret
                  exact ⟨rfl, by rw [HB.out]; exact HBF.out⟩
        · have hq : ((ts.length : Int) == (n : Int)) = false := by simp; omega
          have hq2 : (ts.length == n) = false := by simp [hln]
          obtain ⟨S2, R1, R2⟩ : ∃ S2 : VS, Hid (S2.Has ts ∧ S2.sure = n) ∧ Hid (Vol wr B g S2) := ⟨s, Lib.hid ⟨HSS.out.1, HSS.out.2.2 (by omega)⟩, HV⟩
          clear HSS HV
          obtain ⟨HSS, HV⟩ : Hid (S2.Has ts ∧ S2.sure = n) ∧ Hid (Vol wr B g S2) := ⟨R1, R2⟩
          clear R1 R2
          obtain ⟨kp, et, S3, t1, t2, t3, t4, t5, t6⟩ := crash_trim HSS.out.1 HV.out.1 [keep, part]
          have hsu := HSS.out.2
          rw [hsu, pick_two _ _ _ (by omega)] at t6
          have hm0 : 0 ≤ keep % ((ts.length : Int) - n + 1) := Int.emod_nonneg _ (by omega)
          have hm1 : keep % ((ts.length : Int) - n + 1) < (ts.length : Int) - n + 1 := Int.emod_lt_of_pos _ (by omega)
          have hkn : n ≤ kp := by omega
          have hkeep : 0 ≤ keep → keep ≤ (ts.length : Int) - n → (kp : Int) = n + keep := fun h1 h2 => by
            rw [t6, Int.emod_eq_of_lt h1 (by omega)]
          have HKEEP := Lib.hid hkeep
          have hTR : Hid (∀ W, Vol W B g (S2.crash (pickR [keep, part])) → Calls Try.prog 24 #[.pointer (some ⟨g, 0, none⟩)] W (VolEnds W B g (S3, et))) := Lib.hid fun W h => by
            have := trim_vol h
            rw [t1] at this
            exact this
          have hl3 : S3.l.length = kp := by rw [t3, texts_length, List.length_take]; omega
          have HBK : Hid (∀ W, Vol W B g S3 → Calls Try.prog 26 #[.pointer (some ⟨g, 0, none⟩)] W fun e w' => ∃ v s', e = .returned v ∧ w'.ownsRow B 9 1 v kp (strCells' (ts.take kp)) ∧ Vol w' B g s' ∧ s'.l.length = kp ∧ Stay B W w') := Lib.hid fun W h => by
            refine (blocks_any h t4 (by omega)).mono ?_
            rintro e w' ⟨v, s', h1, h2, h3, h4, h5, h6⟩
            rw [t3, readable_texts] at h2
            have hkl : (ts.take kp).length = kp := by rw [List.length_take]; omega
            rw [hkl] at h2
            exact ⟨v, s', h1, h2, h3, by rw [h4, hl3], h6⟩
          have HC := Lib.hid (crash_vol (HV.out.alloc (.cells #[.int .i64 keep, .int .i64 part] 3)) (some ⟨wr.heap.size, 0, none⟩) 2 [keep, part] 2 rfl (Reads.of_at (At.new wr 3 #[.int .i64 keep, .int .i64 part]) rfl) (by simp; omega) (by simp))
          have HRA := Lib.hid (HR.out.alloc (.cells #[.int .i64 keep, .int .i64 part] 3))
          have HBA := Lib.hid (HBW.out.alloc (HV.out.bz) (.cells #[.int .i64 keep, .int .i64 part] 3))
          clear hm0 hm1 hkeep t1 t3 t4 t6 hsu HSS HV HR HBW
          go_wp2_with fail
          refine HC.out.mono ?_
          rintro e w3 ⟨rfl, h3, st3⟩
          have H3 := Lib.hid h3
          have HR3 := Lib.hid (st3.row HRA.out (by decide) (by decide))
          have HB3 := Lib.hid (HBA.out.trans st3.below)
          clear h3 st3 HC HRA HBA
          go_wp2_with fail
          refine (hTR.out _ H3.out).mono ?_
          rintro e w4 ⟨rfl, h4, st4⟩
          have H4 := Lib.hid h4
          have HR4 := Lib.hid (st4.row HR3.out (by decide) (by decide))
          have HB4 := Lib.hid (HB3.out.trans st4.below)
          clear h4 st4 hTR H3 HR3 HB3
          have t2' : et = 0 ∨ et = 5 := t2
          clear t2
          rcases t2' with rfl | rfl
          all_goals
            go_wp2_with fail
            refine (HBK.out _ H4.out).mono ?_
            rintro e w5 ⟨v5, s5, rfl, hr5, h5, hl5, st5⟩
            obtain ⟨A6, c6, rfl, hl6, _⟩ := row_slice hr5
            obtain ⟨A7, c7, e7, hl7, _⟩ := row_slice (st5.row HR4.out (by decide) (by decide))
            simp only [Value.slice.injEq] at e7
            obtain ⟨rfl, _, rfl⟩ := e7
            have HBz : B ≤ w5.heap.size := h5.bz
            have hLn : ∀ W, Below w5.heap.size w5 W → Calls Try.prog 30 #[.pointer (some ⟨g, 0, none⟩)] W fun e w' => e = .returned (.int .i64 ((kp : Nat) : Int)) ∧ W = w' := fun W hb => by
              have := len_vol (h5.below hb)
              rw [hl5] at this
              exact this
            have HB5 := Lib.hid (HB4.out.trans st5.below)
            have HL6 := Lib.hid (show Lies w5 w5.heap.size A6 ((ts.take kp).map Value.string) from hl6)
            have HL7 := Lib.hid (show Lies w5 w5.heap.size A1 (ts.map Value.string) from hl7)
            have HLn := Lib.hid hLn
            clear hr5 h5 hl5 st5 HBK H4 HR4 HB4 hLn hl6 hl7
            try clear hln
            have hcase : keep < 0 ∨ (0 ≤ keep ∧ (ts.length : Int) - n < keep) ∨ (0 ≤ keep ∧ keep ≤ (ts.length : Int) - n ∧ (kp : Int) ≤ n + keep ∧ (n : Int) + keep ≤ kp) := by
              by_cases h : 0 ≤ keep ∧ keep ≤ (ts.length : Int) - n
              · have := HKEEP.out h.1 h.2
                exact .inr (.inr ⟨h.1, h.2, by omega, by omega⟩)
              · omega
            rcases hcase with k1 | ⟨k1, k2⟩ | ⟨k1, k2, q1, q2⟩
            · skip
              go_wp2
              go_loopw [144] (fun i wr => ∃ j : Nat, j ≤ kp ∧ i = .int .i64 (j : Int) ∧ Hid (Below w5.heap.size w5 wr))
                (fun i _ => kp - (intOf i).toNat)
              case atStart => exact ⟨0, by omega, rfl, Lib.hid (Below.refl _ _)⟩
              case round =>
                obtain ⟨j, hj, rfl, HBR⟩ := hrel
                by_cases hjk : j < kp
                · obtain ⟨a1, rfl, _, d1⟩ := Lies.str (HL6.out.below HBR.out) (k := j) (by rw [List.length_take]; omega)
                  obtain ⟨a2, rfl, _, d2⟩ := Lies.str (HL7.out.below HBR.out) (k := j) (by omega)
                  rw [List.getElem_take] at d1
                  generalize ts[j]'(by omega) = x at *
                  have hxx : (x.toList == x.toList) = true := by simp
                  have i0 : (0 : Int) ≤ (j : Int) := by omega
                  have i1 : (j : Int) < (kp : Int) := by omega
                  have i2 : (j : Int) < (ts.length : Int) := by omega
                  go_wp2
                  go_quiet (fail)
                  have R1 : Hid (Below w5.heap.size w5 (wr.drewN nq)) := Lib.hid (below_drewN HBR.out nq)
                  clear HBR d1 d2
                  go_wp2
                  go_roundw
                  case rel => exact ⟨j + 1, by omega, by go_num, R1⟩
                  case measure => simp [intOf]; omega
                · obtain rfl : j = kp := by omega
                  have hLw : Calls Try.prog 30 #[.pointer (some ⟨g, 0, none⟩)] wr fun e w' => e = .returned (.int .i64 ((j : Nat) : Int)) ∧ wr = w' := HLn.out _ HBR.out
                  have HLw := Lib.hid hLw
                  have HBF := Lib.hid (HB5.out.trans (HBR.out.mono HBz))
                  clear hLw HLn HBR HL6 HL7 HB5
                  go_wp2_with fail
                  refine HLw.out.mono ?_
                  rintro e w6 ⟨rfl, rfl⟩
                  clear HLw
                  go_wp2
                  go_ret
                  exact ⟨rfl, by rw [HB.out]; exact HBF.out⟩
            · skip
              go_wp2
              go_loopw [144] (fun i wr => ∃ j : Nat, j ≤ kp ∧ i = .int .i64 (j : Int) ∧ Hid (Below w5.heap.size w5 wr))
                (fun i _ => kp - (intOf i).toNat)
              case atStart => exact ⟨0, by omega, rfl, Lib.hid (Below.refl _ _)⟩
              case round =>
                obtain ⟨j, hj, rfl, HBR⟩ := hrel
                by_cases hjk : j < kp
                · obtain ⟨a1, rfl, _, d1⟩ := Lies.str (HL6.out.below HBR.out) (k := j) (by rw [List.length_take]; omega)
                  obtain ⟨a2, rfl, _, d2⟩ := Lies.str (HL7.out.below HBR.out) (k := j) (by omega)
                  rw [List.getElem_take] at d1
                  generalize ts[j]'(by omega) = x at *
                  have hxx : (x.toList == x.toList) = true := by simp
                  have i0 : (0 : Int) ≤ (j : Int) := by omega
                  have i1 : (j : Int) < (kp : Int) := by omega
                  have i2 : (j : Int) < (ts.length : Int) := by omega
                  go_wp2
                  go_quiet (fail)
                  have R1 : Hid (Below w5.heap.size w5 (wr.drewN nq)) := Lib.hid (below_drewN HBR.out nq)
                  clear HBR d1 d2
                  go_wp2
                  go_roundw
                  case rel => exact ⟨j + 1, by omega, by go_num, R1⟩
                  case measure => simp [intOf]; omega
                · obtain rfl : j = kp := by omega
                  have hLw : Calls Try.prog 30 #[.pointer (some ⟨g, 0, none⟩)] wr fun e w' => e = .returned (.int .i64 ((j : Nat) : Int)) ∧ wr = w' := HLn.out _ HBR.out
                  have HLw := Lib.hid hLw
                  have HBF := Lib.hid (HB5.out.trans (HBR.out.mono HBz))
                  clear hLw HLn HBR HL6 HL7 HB5
                  go_wp2_with fail
                  refine HLw.out.mono ?_
                  rintro e w6 ⟨rfl, rfl⟩
                  clear HLw
                  go_wp2
                  go_ret
                  exact ⟨rfl, by rw [HB.out]; exact HBF.out⟩
            · skip
              have hkeq1 : ((kp : Int) == (n : Int) + keep) = true := by simp; omega
              have hkeq2 : ((kp : Int) != (n : Int) + keep) = false := by simp; omega
              go_wp2
              go_loopw [144] (fun i wr => ∃ j : Nat, j ≤ kp ∧ i = .int .i64 (j : Int) ∧ Hid (Below w5.heap.size w5 wr))
                (fun i _ => kp - (intOf i).toNat)
              case atStart => exact ⟨0, by omega, rfl, Lib.hid (Below.refl _ _)⟩
              case round =>
                obtain ⟨j, hj, rfl, HBR⟩ := hrel
                by_cases hjk : j < kp
                · obtain ⟨a1, rfl, _, d1⟩ := Lies.str (HL6.out.below HBR.out) (k := j) (by rw [List.length_take]; omega)
                  obtain ⟨a2, rfl, _, d2⟩ := Lies.str (HL7.out.below HBR.out) (k := j) (by omega)
                  rw [List.getElem_take] at d1
                  generalize ts[j]'(by omega) = x at *
                  have hxx : (x.toList == x.toList) = true := by simp
                  have i0 : (0 : Int) ≤ (j : Int) := by omega
                  have i1 : (j : Int) < (kp : Int) := by omega
                  have i2 : (j : Int) < (ts.length : Int) := by omega
                  go_wp2
                  go_quiet (fail)
                  have R1 : Hid (Below w5.heap.size w5 (wr.drewN nq)) := Lib.hid (below_drewN HBR.out nq)
                  clear HBR d1 d2
                  go_wp2
                  go_roundw
                  case rel => exact ⟨j + 1, by omega, by go_num, R1⟩
                  case measure => simp [intOf]; omega
                · obtain rfl : j = kp := by omega
                  have hLw : Calls Try.prog 30 #[.pointer (some ⟨g, 0, none⟩)] wr fun e w' => e = .returned (.int .i64 ((j : Nat) : Int)) ∧ wr = w' := HLn.out _ HBR.out
                  have HLw := Lib.hid hLw
                  have HBF := Lib.hid (HB5.out.trans (HBR.out.mono HBz))
                  clear hLw HLn HBR HL6 HL7 HB5
                  go_wp2_with fail
                  refine HLw.out.mono ?_
                  rintro e w6 ⟨rfl, rfl⟩
                  clear HLw
                  go_wp2
                  go_ret
                  exact ⟨rfl, by rw [HB.out]; exact HBF.out⟩

set_option maxRecDepth 100000 in
theorem lifted (os : Os) (started : os.Started) (H : Type) (enc : TypeId × Value → H) :
    ReturnsInHanded {} Try.checked os 8 .any (Rows.reelTornSpec.pre6 enc Try.prog Try.f8 Rows.reelTornRow.domain false) (Rows.reelTornSpec.post enc Try.prog Try.f8 false true false false) := by
  refine returnsInHanded_of_change (C := Try.checked) own started (by kernel_rfl) Try.func8
    (ChangeSpec.witness6 (enc := enc) (C := Try.checked) false ⟨#[], #[.slice none 0 0, .slice none 0 0, .int .i64 0, .int .i64 0], []⟩ 8 (by kernel_rfl) (by kernel_rfl) (by kernel_rfl) (by kernel_rfl)) ?_
  intro W base args ds gs before hval0 hW hcnd _
  have hval : ∀ (j : Nat) t v, Try.f8.params[j]? = some t → args[j]? = some v → Value.okWide Try.prog W .any base t v := hval0
  have hW' := hW
  obtain ⟨p, q, hA0, hV, rfl, hfz, hnd⟩ := hW
  have hA : DataW.TrodAll enc Try.prog W 0 (fun _ => true) true Try.f8.params.toList args.toList ds p := hA0
  rw [Try.params8] at hA hval
  obtain ⟨v0, vs0, d0, ds0, p0, q0, hargs, rfl, rfl, h0, r0⟩ := trodAll_cons hA
  obtain ⟨v1, vs1, d1, ds1, p1, q1, rfl, rfl, rfl, h1, r1⟩ := trodAll_cons r0
  obtain ⟨v2, vs2, d2, ds2, p2, q2, rfl, rfl, rfl, h2, r2⟩ := trodAll_cons r1
  obtain ⟨v3, vs3, d3, ds3, p3, q3, rfl, rfl, rfl, h3, r3⟩ := trodAll_cons r2
  obtain ⟨rfl, rfl, rfl⟩ := trodAll_nil r3
  obtain rfl : args = #[v0, v1, v2, v3] := by cases args; simp_all
  obtain ⟨rfl, rfl⟩ := trodVars_none hV
  obtain ⟨A1, c1, l, rfl, hc0, hL0⟩ := open_texts Try.underlying57 Try.underlying9 (by kernel_rfl) (hval 0 57 v0 rfl rfl) h0
  obtain ⟨A2, c2, l2, rfl, hc1, hL1⟩ := open_texts Try.underlying57 Try.underlying9 (by kernel_rfl) (hval 1 57 v1 rfl rfl) h1
  obtain ⟨a2, rfl, rfl, rfl, w2⟩ := open_int Try.underlying3 (hval 2 3 v2 rfl rfl) h2
  obtain ⟨a3, rfl, rfl, rfl, w3⟩ := open_int Try.underlying3 (hval 3 3 v3 rfl rfl) h3
  refine (walk A1 c1 l A2 c2 l2 a2 a3 W hL0 (slice_max Try.underlying57 h0) hL1 (slice_max Try.underlying57 h1) (bounds_i64 w2).1 (bounds_i64 w2).2 (bounds_i64 w3).1 (bounds_i64 w3).2).mono fun e W' ⟨he, hg⟩ => ?_
  subst he
  exact ⟨_, rfl, law_post (tb := 4) hW' rfl (by kernel_rfl) Try.underlying4 (by rw [Try.params8]; decide +kernel) rfl hg⟩

theorem proved : Rows.ReelTornSaid :=
  OpenClaim.holds_of_wide 8 Try.f8 rfl rfl rfl rfl rfl rfl rfl ⟨rfl, rfl, rfl, rfl, rfl⟩ rfl rfl rfl rfl rfl (by kernel_rfl) Try.func8 (by kernel_rfl)
    (of_decide_eq_true (by kernel_rfl)) (by unfold Func.isWrapper; first | (rw [if_pos (by decide +kernel)]; kernel_rfl) | (rw [if_neg (by decide +kernel)]; exact ⟨rfl, rfl⟩))
    (fun os started H enc _ => lifted os started H enc)
#print axioms proved
end Go.Proofs.Ytchpdeogmbbjgaa.reelTorn
