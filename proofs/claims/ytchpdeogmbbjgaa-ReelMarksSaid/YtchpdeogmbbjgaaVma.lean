/- 'Skip goes from mark to mark': glacierlaw05.ReelMarks returns true for every input. No condition. -/
import Derived.Test.YtchpdeogmbbjgaaVx
import Derived.Test.YtchpdeogmbbjgaaCu
import Derived.Test.YtchpdeogmbbjgaaLw
import Derived.Test.YtchpdeogmbbjgaaOp
import Derived.Test.YtchpdeogmbbjgaaRows
import Derived.ProofKit
import Derived.OpenShut
namespace Go.Proofs.Ytchpdeogmbbjgaa.reelMarks
open Go.ChangeShapes Go.WideShapes Go.ChangeAt Go.RowKit
open Go.ChangeMaps (open_string)
set_option linter.unusedVariables false

theorem own : ownKnob Try.prog.godebug = none := by kernel_rfl

def xB : Blk := ⟨⟨#[120]⟩, false, false⟩
def mB : Blk := ⟨⟨#[]⟩, true, false⟩

/-- what the groups so far make -/
structure Made (s : VS) (k : Nat) : Prop where
  fresh : s.Fresh 100000
  len : s.l.length ≤ 4 * k
  sum : wsum s.l ≤ 20 * k
theorem Made.x {s : VS} {k m : Nat} (h : s.Fresh 100000) (hk : k ≤ 6) (hl : s.l.length ≤ 4 * k + m) (hs : wsum s.l ≤ 20 * k + 5 * m) (hm : m ≤ 3) : s.add xB = ({ s with l := s.l ++ [xB], pos := s.pos + 1 }, 0) := by
  have e : xB.wt = 5 := rfl
  rw [h.add, if_neg (by rw [e]; omega)]
theorem Made.m {s : VS} {k m : Nat} (h : s.Fresh 100000) (hk : k ≤ 6) (hl : s.l.length ≤ 4 * k + m) (hs : wsum s.l ≤ 20 * k + 5 * m) (hm : m ≤ 3) : s.add mB = ({ s with l := s.l ++ [mB], pos := s.pos + 1 }, 0) := by
  have e : mB.wt = 4 := rfl
  rw [h.add, if_neg (by rw [e]; omega)]

set_option maxRecDepth 100000 in
set_option maxHeartbeats 4000000 in
theorem walk (A : Option Addr) (c : Nat) (l : List Int) (w : World) (hL : Lies w w.heap.size A (ints l)) (hl : ∀ x ∈ l, -9223372036854775808 ≤ x ∧ x ≤ 9223372036854775807) (hlen : l.length ≤ 9223372036854775807) :
    Calls Try.prog 7 #[.slice A l.length c] w fun e w' => e = .returned (.bool true) ∧ Below w.heap.size w w' := by
  obtain ⟨i0, hie, hz0, hz1, hz2⟩ := info_parts info_intx
  have HL := Lib.hid hL; clear hL
  have Hl := Lib.hid hl; clear hl
  go_enter Try.func7, Try.ntmps7
  go_wp2_with fail
  refine (new_vol 100000 100000 (by omega) rfl w).mono ?_
  rintro e w1 ⟨g, rfl, h1, hb1⟩
  have hs1 := hb1.size
  generalize hB : w.heap.size = B at *
  have HB := Lib.hid hB; clear hB
  go_wp2_with fail
  refine (awake5_any w1).mono ?_
  rintro e w2 ⟨rfl, hb2⟩
  have H2 := Lib.hid ((h1.below hb2).alloc (.cells #[] 3))
  have HB2 := Lib.hid ((hb1.trans (hb2.mono hs1)).alloc (Nat.le_trans hs1 hb2.size) (.cells #[] 3))
  have hR0 := row_new w2 3 1
  have hzB : B ≤ w2.heap.size := Nat.le_trans hs1 hb2.size
  clear h1 hb1 hb2 hs1
  have HR0 : Hid ((w2.alloc (.cells #[] 3)).ownsRow B 3 1 (.slice (some ⟨w2.heap.size, 0, none⟩) 0 0) ([] : List Nat).length (natCells [])) := Lib.hid (by
    refine ⟨hR0.1, ?_⟩
    rcases hR0.2 with h | ⟨k, cap, cur, e1, e2, e3⟩
    · exact .inl h
    · exact .inr ⟨k, cap, cur, e1, Nat.le_trans hzB e2, e3⟩)
  clear hR0
  go_wp2
  go_loopw [4, 5] (fun v i wr => ∃ (k : Nat) (s : VS) (E : List Nat), k ≤ l.length ∧ k ≤ 6 ∧ i = .int .i64 (k : Int) ∧ E.length = k ∧ Hid (wr.ownsRow B 3 1 v E.length (natCells E)) ∧ Hid (Made s k) ∧ Hid (Grp s.l E) ∧ Hid (Vol wr B g s) ∧ Hid (Below B w wr))
    (fun _ i _ => 6 - (intOf i).toNat)
  case atStart => exact ⟨0, VS.new 100000, [], by omega, by omega, rfl, rfl, HR0, Lib.hid ⟨.new _, by simp [VS.new], by simp [VS.new, wsum]⟩, Lib.hid .nil, H2, HB2⟩
  case round =>
    clear H2 HB2 HR0 hzB
    obtain ⟨k, s, E, hk, hk6, rfl, hEk, HR, HM, HG, HV, HBW⟩ := hrel
    by_cases hlt : k < l.length ∧ k < 6
    · obtain ⟨hlt, h6⟩ := hlt
      have hd6 : decide ((k : Int) < 6) = true := by simp; omega
      have HD6 := Lib.hid hd6; clear hd6
      obtain ⟨wo, rfl⟩ : ∃ wo : World, wo = wr := ⟨_, rfl⟩
      have HX := Lib.hid (fun (W : World) (hb : Below B w W) => (HL.out.below hb).int hlt)
      have hx := Hl.out _ (List.getElem_mem hlt)
      generalize l[k] = x at *
      have hT : -4 < x.tmod 4 ∧ x.tmod 4 < 4 := ⟨by have := Int.lt_tmod_of_pos x (b := 4) (by omega); omega, Int.tmod_lt_of_pos _ (by omega)⟩
      obtain ⟨M, hM⟩ : ∃ M : Nat, (M : Int) = (x.tmod 4 + 4) % 4 := ⟨((x.tmod 4 + 4) % 4).toNat, by omega⟩
      have hM3 : M ≤ 3 := by omega
      have HMM := Lib.hid hM
      have HEK := Lib.hid hEk
      clear hM hEk
      go_wp2_with fail
      simp only [HD6.out]
      have hf0 := HM.out.fresh
      have V0 : Hid (Vol wo B g s ∧ s.Fresh 100000) := Lib.hid ⟨HV.out, hf0⟩
      go_loopw [6] (fun i2 w2 => ∃ (m : Nat) (t : VS), m ≤ M ∧ i2 = .int .i64 (m : Int) ∧ Hid (t.l = s.l ++ List.replicate m xB ∧ t.Fresh 100000) ∧ Hid (Vol w2 B g t) ∧ Hid (w2.ownsRow B 3 1 u4 E.length (natCells E)) ∧ Hid (Below B w w2))
        (fun i _ => M - (intOf i).toNat)
      case atStart => exact ⟨0, s, by omega, rfl, Lib.hid ⟨by simp, hf0⟩, HV, HR, HBW⟩
      case round =>
        clear HV HR HBW V0 hf0
        obtain ⟨m, t, hm, rfl, HT, HV, HR, HBW⟩ := hrel
        obtain ⟨ad, rfl, _, hc⟩ := HX.out _ HBW.out
        have hlen2 : t.l.length = s.l.length + m := by rw [HT.out.1, List.length_append, List.length_replicate]
        have hsum2 : wsum t.l = wsum s.l + 5 * m := by
          rw [HT.out.1, wsum_append]
          congr 1
          clear hm hlen2 hc
          induction m with
          | zero => rfl
          | succ m ih =>
            have e : List.replicate (m + 1) xB = xB :: List.replicate m xB := rfl
            rw [e, wsum_cons]
            have e2 : xB.wt = 5 := rfl
            have ih' : wsum (List.replicate m xB) = 5 * m := by
              clear ih e HT HV HR HBW HX HMM HM HG HEK HL Hl
              induction m with
              | zero => rfl
              | succ m ih =>
                have e : List.replicate (m + 1) xB = xB :: List.replicate m xB := rfl
                rw [e, wsum_cons, ih]
                have e2 : xB.wt = 5 := rfl
                omega
            omega
        have hl4 := HM.out.len
        have hs4 := HM.out.sum
        by_cases hmM : m < M
        · have hq : (m : Int) < (x.tmod 4 + 4) % 4 := by have := HMM.out; omega
          have hadd := Made.x (k := k) (m := m) HT.out.2 (by omega) (by omega) (by omega) (by omega)
          have hW := write_vol HV.out ⟨#[120]⟩ (by decide) (by omega)
          have hW : Calls Try.prog 20 #[.pointer (some ⟨g, 0, none⟩), .string ⟨#[120]⟩] wr (VolEnds wr B g (t.add xB)) := hW
          rw [hadd] at hW
          have R1 : Hid ((VS.mk t.rm t.lo t.lf t.lab (t.l ++ [xB]) t.sure (t.pos + 1) t.er t.pr).l = s.l ++ List.replicate (m + 1) xB ∧ VS.Fresh (VS.mk t.rm t.lo t.lf t.lab (t.l ++ [xB]) t.sure (t.pos + 1) t.er t.pr) 100000) := Lib.hid ⟨by
            show t.l ++ [xB] = _
            rw [HT.out.1, List.append_assoc, List.replicate_succ'], HT.out.2.more xB rfl⟩
          clear hadd hlen2 hsum2 hl4 hs4 HT
          go_wp2_with fail
          refine hW.mono ?_
          rintro e w3 ⟨rfl, h3, st3⟩
          have R2 : Hid (Vol w3 B g (VS.mk t.rm t.lo t.lf t.lab (t.l ++ [xB]) t.sure (t.pos + 1) t.er t.pr)) := Lib.hid h3
          have R3 := Lib.hid (st3.row HR.out (by decide) (by decide))
          have R4 := Lib.hid (HBW.out.trans st3.below)
          clear h3 st3 hW HV HR HBW hc
          go_wp2
          go_roundw
          case rel => exact ⟨m + 1, _, by omega, by go_num, R1, R2, R3, R4⟩
          case measure => simp [intOf]; omega
        · obtain rfl : m = M := by omega
          have hq : ¬ (m : Int) < (x.tmod 4 + 4) % 4 := by have := HMM.out; omega
          have hadd := Made.m (k := k) (m := m) HT.out.2 (by omega) (by omega) (by omega) (by omega)
          have hW := mark_vol HV.out (by omega)
          have hW : Calls Try.prog 22 #[.pointer (some ⟨g, 0, none⟩)] wr (VolEnds wr B g (t.add mB)) := hW
          rw [hadd] at hW
          have hll : (t.l ++ [mB]).length = s.l.length + m + 1 := by rw [List.length_append, hlen2]; rfl
          have e4 : mB.wt = 4 := rfl
          have R1 : Hid (Made (VS.mk t.rm t.lo t.lf t.lab (t.l ++ [mB]) t.sure (t.pos + 1) t.er t.pr) (k + 1)) := Lib.hid ⟨HT.out.2.more mB rfl, by show (t.l ++ [mB]).length ≤ _; omega, by show wsum (t.l ++ [mB]) ≤ _; rw [wsum_append, wsum_one, e4]; omega⟩
          have R2 : Hid (Grp (VS.mk t.rm t.lo t.lf t.lab (t.l ++ [mB]) t.sure (t.pos + 1) t.er t.pr).l (E ++ [s.l.length + m + 1])) := Lib.hid (by
            show Grp (t.l ++ [mB]) _
            rw [HT.out.1]
            have := HG.out.more (xs := List.replicate m xB) (m := mB) (fun x hx => by rw [List.eq_of_mem_replicate hx]; rfl) rfl
            rw [List.length_replicate] at this
            exact this)
          have HLL := Lib.hid hll
          have hEs : E.length ≤ 6 := by have := HEK.out; omega
          clear hadd hlen2 hsum2 hl4 hs4 HT hll e4 HM HG
          go_wp2_with fail
          refine hW.mono ?_
          rintro e w3 ⟨rfl, h3, st3⟩
          have h3 : Vol w3 B g (VS.mk t.rm t.lo t.lf t.lab (t.l ++ [mB]) t.sure (t.pos + 1) t.er t.pr) := h3
          have hLn := len_vol h3
          have hLn : Calls Try.prog 30 #[.pointer (some ⟨g, 0, none⟩)] w3 fun e w' => e = .returned (.int .i64 (((t.l ++ [mB]).length : Nat) : Int)) ∧ w3 = w' := hLn
          rw [HLL.out] at hLn
          have H3 := Lib.hid h3
          have HR3 := Lib.hid (st3.row HR.out (by decide) (by decide))
          have HB3 := Lib.hid (HBW.out.trans st3.below)
          clear h3 st3 hW HV HR HBW hc HLL
          obtain ⟨Q, hQ⟩ : ∃ Q, s.l.length + m + 1 = Q := ⟨_, rfl⟩
          rw [hQ] at hLn R2
          clear hQ
          go_wp2_with fail
          refine hLn.mono ?_
          rintro e w4 ⟨rfl, rfl⟩
          clear hLn
          have hz3 : B ≤ w3.heap.size := H3.out.bz
          go_wp2_with (at_builtin; refine wpList_append_own _ rfl _ _ 34 rfl B 3 i0 (.int .i64 0) 1 8 Try.underlying34 hie hz0 hz1 hz2 rfl (by decide) _ _ _ rfl (HR3.out.alloc _) ⟨w3.heap.size, 0, none⟩ 1 1 [.int .i64 ((Q : Nat) : Int)] rfl rfl ?c1 ?c2 ?c3 ?c4 ?c5 ?_)
          case c1 => exact cell_one_new _ _ _
          case c2 => intro u hu; simp at hu; subst hu; rfl
          case c3 => unfold maxLen; omega
          case c4 => omega
          case c5 => simp; omega
          intro v' w5 hown' hgrow _
          have R3 : Hid (w5.ownsRow B 3 1 v' (E ++ [Q]).length (natCells (E ++ [Q]))) := Lib.hid (by
            have e1 : (E ++ [Q]).length = E.length + 1 := by simp
            have e2 : natCells (E ++ [Q]) = natCells E ++ [.int .i64 ((Q : Nat) : Int)] := by simp [natCells]
            rw [e1, e2]
            exact hown')
          have R4 := Lib.hid ((H3.out.alloc (.cells #[.int .i64 ((Q : Nat) : Int)] 3)).rows (HR3.out.alloc _) (by decide) (by decide) hgrow)
          have R5 : Hid (Below B w w5) := Lib.hid (HB3.out.trans (((Below.refl B w3).alloc hz3 (.cells #[.int .i64 ((Q : Nat) : Int)] 3)).trans (below_rows (HR3.out.alloc _) (Nat.le_refl _) (by simp; omega) hgrow)))
          clear hown' hgrow HR3 H3 HB3 hz3
          go_wp2
          go_roundw
          case rel => exact ⟨k + 1, _, E ++ [Q], by omega, by omega, by go_num, by rw [List.length_append, HEK.out]; rfl, R3, R1, R2, R4, R5⟩
          case measure => simp [intOf]; omega
    · have hex : (¬ k < l.length) ∨ (k < l.length ∧ ¬ k < 6) := by omega
      obtain ⟨A4, c4, rfl, _, _⟩ := row_slice HR.out
      have hcm := HM.out.fresh.calm
      have hsk := hcm.seek 0
      rw [if_neg (by omega)] at hsk
      have hSK := seek_vol HV.out 0
      rw [hsk] at hSK
      have hSK : Calls Try.prog 15 #[.pointer (some ⟨g, 0, none⟩), .int .i64 0] wr (VolEnds wr B g (VS.mk s.rm s.lo s.lf s.lab s.l s.sure (prev E 0) s.er s.pr, 0)) := hSK
      have HSK := Lib.hid hSK
      have HCM : Hid (∀ p, VS.Calm (VS.mk s.rm s.lo s.lf s.lab s.l s.sure p s.er s.pr)) := Lib.hid fun p => ⟨hcm.lo, hcm.lf, hcm.pr⟩
      have HEK := Lib.hid hEk
      have hE6 : E.length ≤ 6 := by omega
      clear hcm hsk hSK hEk HM HL Hl
      rcases hex with x1 | ⟨x1, x2⟩
      all_goals
        go_wp2_with fail
        refine HSK.out.mono ?_
        rintro e w3 ⟨rfl, h3, st3⟩
        have H3 := Lib.hid h3
        have HR3 := Lib.hid (st3.row HR.out (by decide) (by decide))
        have HB3 := Lib.hid (HBW.out.trans st3.below)
        clear h3 st3 HSK HV HR HBW
        go_wp2
        go_loopw [54] (fun i wr => ∃ j : Nat, j ≤ E.length ∧ i = .int .i64 (j : Int) ∧ Hid (Vol wr B g (VS.mk s.rm s.lo s.lf s.lab s.l s.sure (prev E j) s.er s.pr)) ∧ Hid (wr.ownsRow B 3 1 (.slice A4 E.length c4) E.length (natCells E)) ∧ Hid (Below B w wr))
          (fun i _ => E.length - (intOf i).toNat)
        case atStart => exact ⟨0, by omega, rfl, H3, HR3, HB3⟩
        case round =>
          clear H3 HR3 HB3
          obtain ⟨j, hj, rfl, HV, HR, HBW⟩ := hrel
          by_cases hje : j < E.length
          · obtain ⟨A5, c5, e5, hL5, _⟩ := row_slice HR.out
            simp only [Value.slice.injEq] at e5
            obtain ⟨rfl, _, rfl⟩ := e5
            obtain ⟨ad, rfl, _, hc⟩ := hL5.nat hje
            obtain ⟨g1, g2, g3⟩ := HG.out.step j hje
            have hS := skip_vol HV.out
            have hsk := (HCM.out (prev E j)).skip
            simp only [g3] at hsk
            have hpos : prev E j + (E[j] - prev E j - 1) + 1 = E[j] := by omega
            rw [hpos, ← prev_succ hje] at hsk
            rw [hsk] at hS
            have HS : Hid (Calls Try.prog 23 #[.pointer (some ⟨g, 0, none⟩)] wr (VolEnds wr B g (VS.mk s.rm s.lo s.lf s.lab s.l s.sure (prev E (j + 1)) s.er s.pr, 0))) := Lib.hid hS
            have HE := Lib.hid (prev_succ hje)
            rw [← HE.out] at hc
            clear g1 g2 g3 hsk hpos hS hL5
            go_wp2_with fail
            refine HS.out.mono ?_
            rintro e w4 ⟨rfl, h4, st4⟩
            have hA := at_vol h4
            have hA : Calls Try.prog 28 #[.pointer (some ⟨g, 0, none⟩)] w4 fun e w' => e = .returned (.int .i64 ((prev E (j + 1) : Nat) : Int)) ∧ w4 = w' := hA
            have H4 := Lib.hid h4
            have HR4 := Lib.hid (st4.row HR.out (by decide) (by decide))
            have HB4 := Lib.hid (HBW.out.trans st4.below)
            clear h4 st4 HS HV HR HBW hc
            generalize prev E (j + 1) = pz at *
            go_wp2_with fail
            refine hA.mono ?_
            rintro e w5 ⟨rfl, rfl⟩
            clear hA
            go_wp2
            go_roundw
            case rel => exact ⟨j + 1, by omega, by go_num, by rw [HE.out] at H4; rw [prev_succ hje]; exact H4, HR4, HB4⟩
            case measure => simp [intOf]; omega
          · obtain rfl : j = E.length := by omega
            have hS := skip_vol HV.out
            have hsk := (HCM.out (prev E E.length)).skip
            have hm : marked (s.l.drop (prev E E.length)) = none := by rw [← HG.out.last, List.drop_length]; rfl
            simp only [hm] at hsk
            rw [hsk] at hS
            have HS : Hid (Calls Try.prog 23 #[.pointer (some ⟨g, 0, none⟩)] wr (VolEnds wr B g (VS.mk s.rm s.lo s.lf s.lab s.l s.sure (prev E E.length) s.er s.pr, 2))) := Lib.hid hS
            have HLAST := Lib.hid HG.out.last
            clear hm hsk hS HG
            go_wp2_with fail
            refine HS.out.mono ?_
            rintro e w4 ⟨rfl, h4, st4⟩
            have hA := at_vol h4
            have hLn := len_vol h4
            have hA : Calls Try.prog 28 #[.pointer (some ⟨g, 0, none⟩)] w4 fun e w' => e = .returned (.int .i64 ((prev E E.length : Nat) : Int)) ∧ w4 = w' := hA
            have hLn : Calls Try.prog 30 #[.pointer (some ⟨g, 0, none⟩)] w4 fun e w' => e = .returned (.int .i64 ((s.l.length : Nat) : Int)) ∧ w4 = w' := hLn
            rw [HLAST.out] at hLn
            have HB4 := Lib.hid (HBW.out.trans st4.below)
            clear h4 st4 HS HV HR HBW HLAST
            generalize prev E E.length = pz at *
            go_wp2_with fail
            refine hA.mono ?_
            rintro e w5 ⟨rfl, rfl⟩
            go_wp2_with fail
            refine hLn.mono ?_
            rintro e w5 ⟨rfl, rfl⟩
            clear hA hLn
            go_wp2
            go_ret
            exact ⟨rfl, by rw [HB.out]; exact HB4.out⟩

set_option maxRecDepth 100000 in
theorem lifted (os : Os) (started : os.Started) (H : Type) (enc : TypeId × Value → H) :
    ReturnsInHanded {} Try.checked os 7 .any (Rows.reelMarksSpec.pre6 enc Try.prog Try.f7 Rows.reelMarksRow.domain false) (Rows.reelMarksSpec.post enc Try.prog Try.f7 false true false false) := by
  refine returnsInHanded_of_change (C := Try.checked) own started (by kernel_rfl) Try.func7
    (ChangeSpec.witness6 (enc := enc) (C := Try.checked) false ⟨#[], #[.slice none 0 0], []⟩ 8 (by kernel_rfl) (by kernel_rfl) (by kernel_rfl) (by kernel_rfl)) ?_
  intro W base args ds gs before hval0 hW hcnd _
  have hval : ∀ (j : Nat) t v, Try.f7.params[j]? = some t → args[j]? = some v → Value.okWide Try.prog W .any base t v := hval0
  have hW' := hW
  obtain ⟨p, q, hA0, hV, rfl, hfz, hnd⟩ := hW
  have hA : DataW.TrodAll enc Try.prog W 0 (fun _ => true) true Try.f7.params.toList args.toList ds p := hA0
  rw [Try.params7] at hA hval
  obtain ⟨v0, vs0, d0, ds0, p0, q0, hargs, rfl, rfl, h0, r0⟩ := trodAll_cons hA
  obtain ⟨rfl, rfl, rfl⟩ := trodAll_nil r0
  obtain rfl : args = #[v0] := by cases args; simp_all
  obtain ⟨rfl, rfl⟩ := trodVars_none hV
  obtain ⟨A1, c1, l, rfl, hc0, hL0, hl0⟩ := open_list_ints Try.underlying34 Try.underlying3 (by kernel_rfl) (hval 0 34 v0 rfl rfl) h0
  refine (walk A1 c1 l W hL0 hl0 (slice_max Try.underlying34 h0)).mono fun e W' ⟨he, hg⟩ => ?_
  subst he
  exact ⟨_, rfl, law_post (tb := 4) hW' rfl (by kernel_rfl) Try.underlying4 (by rw [Try.params7]; decide +kernel) rfl hg⟩

theorem proved : Rows.ReelMarksSaid :=
  OpenClaim.holds_of_wide 7 Try.f7 rfl rfl rfl rfl rfl rfl rfl ⟨rfl, rfl, rfl, rfl, rfl⟩ rfl rfl rfl rfl rfl (by kernel_rfl) Try.func7 (by kernel_rfl)
    (of_decide_eq_true (by kernel_rfl)) (by unfold Func.isWrapper; first | (rw [if_pos (by decide +kernel)]; kernel_rfl) | (rw [if_neg (by decide +kernel)]; exact ⟨rfl, rfl⟩))
    (fun os started H enc _ => lifted os started H enc)
#print axioms proved
end Go.Proofs.Ytchpdeogmbbjgaa.reelMarks
