/- glacierlaw05.blocks: its walk: what can be read from the beginning on, up to a torn block or the end. -/
import Derived.Test.YtchpdeogmbbjgaaVx
namespace Go.Proofs.Ytchpdeogmbbjgaa
open Go.RowKit
set_option linter.unusedVariables false

def shown (b : Blk) : ByteArray := if b.mark = true then ⟨#[109, 97, 114, 107]⟩ else b.t
def readable (l : List Blk) : List ByteArray := (l.takeWhile fun b => !b.torn).map shown
def strCells' (l : List ByteArray) : List Value := l.map Value.string

theorem takeWhile_take {l : List Blk} {j : Nat} (hj : j ≤ l.length) (h0 : ∀ k (h : k < l.length), k < j → l[k].torn = false) (h1 : j = l.length ∨ ∃ h : j < l.length, l[j].torn = true) : (l.takeWhile fun b => !b.torn) = l.take j := by
  induction l generalizing j with
  | nil => simp
  | cons a l ih =>
    cases j with
    | zero =>
      rcases h1 with h | ⟨h, h2⟩
      · simp at h
      · have h2 : a.torn = true := h2
        rw [List.takeWhile_cons, h2]; simp
    | succ j =>
      have ha : a.torn = false := h0 0 (by simp) (by omega)
      rw [List.takeWhile_cons, ha]
      simp only [Bool.not_false, if_true, List.take_succ_cons]
      congr 1
      refine ih (by simpa using hj) (fun k hk hkj => ?_) ?_
      · have := h0 (k + 1) (by simpa using hk) (by omega)
        simpa using this
      · rcases h1 with h | ⟨h, h2⟩
        · left; simpa using h
        · right; exact ⟨by simpa using h, by simpa using h2⟩

/-- what blocks comes to -/
def BlocksEnds (w : World) (B g : Nat) (s : VS) (e : Ending) (w' : World) : Prop :=
  ∃ v s', e = .returned v ∧ w'.ownsRow B 9 1 v (readable s.l).length (strCells' (readable s.l)) ∧ Vol w' B g s' ∧ s'.l = s.l ∧ s'.er = s.er ∧ Stay B w w'

theorem row_low {w : World} {B B' n z : Nat} {e : TypeId} {v : Value} {xs : List Value} (h : w.ownsRow B' e z v n xs) (hB : B ≤ B') : w.ownsRow B e z v n xs := by
  refine ⟨h.1, ?_⟩
  rcases h.2 with h' | ⟨k, cap, cur, e1, e2, e3⟩
  · exact .inl h'
  · exact .inr ⟨k, cap, cur, e1, Nat.le_trans hB e2, e3⟩
/-- a row that grew beside a volume -/
theorem stay_rows {w w' : World} {B n z : Nat} {e : TypeId} {v : Value} {xs : List Value} (hr : w.ownsRow B e z v n xs) (h1 : e ≠ 45) (h2 : e ≠ 81) (hw : B ≤ w.heap.size) (hg : w.grownBy w' v.ownBlock) : Below B w w' := below_rows hr (Nat.le_refl _) hw hg

theorem shown_size {b : Blk} (h : b.ok) : (shown b).size ≤ 1000000 := by
  unfold shown
  split
  · decide
  · exact h.1

/-- a row of the call's own has grown -/
theorem stay_grown {w wr w' : World} {B n z : Nat} {e : TypeId} {v : Value} {xs : List Value} (h : Stay B w wr) (hr : wr.ownsRow w.heap.size e z v n xs) (hB : B ≤ w.heap.size) (hg : wr.grownBy w' v.ownBlock) : Stay B w w' := by
  have hob : ∀ k, k < w.heap.size → some k ≠ v.ownBlock := fun k hk e => by
    have := hr.lt k e.symm
    omega
  refine ⟨⟨hg.os.trans h.below.os, hg.tape.trans h.below.tape, hg.output.trans h.below.output, Nat.le_trans h.below.size hg.size, fun k hk => (hg.block k (Nat.lt_of_lt_of_le (Nat.lt_of_lt_of_le hk hB) h.size) (hob k (by omega))).trans (h.below.block k hk)⟩, fun k o hk h1 h2 => ?_⟩
  have hkz := (Array.getElem?_eq_some_iff.1 hk).1
  exact (hg.block k (Nat.lt_of_lt_of_le hkz h.size) (hob k hkz)).trans (h.kept k o hk h1 h2)

set_option maxRecDepth 100000 in
set_option maxHeartbeats 4000000 in
theorem blocks_any {w : World} {B g : Nat} {s : VS} (h : Vol w B g s) (hc : s.Calm) (hl : s.l.length ≤ 90) :
    Calls Try.prog 26 #[.pointer (some ⟨g, 0, none⟩)] w fun e w' => ∃ v s', e = .returned v ∧ w'.ownsRow B 9 1 v (readable s.l).length (strCells' (readable s.l)) ∧ Vol w' B g s' ∧ s'.l = s.l ∧ s'.er = s.er ∧ Stay B w w' := by
  obtain ⟨i0, hie, hz0, hz1, hz2'⟩ := info_parts info_strx
  obtain ⟨Pst, hPst⟩ : ∃ P : Ending → World → Prop, P = fun e w' => ∃ v s', e = .returned v ∧ w'.ownsRow B 9 1 v (readable s.l).length (strCells' (readable s.l)) ∧ Vol w' B g s' ∧ s'.l = s.l ∧ s'.er = s.er ∧ Stay B w w' := ⟨_, rfl⟩
  rw [← hPst]
  have HP := Lib.hid hPst; clear hPst
  have hbz := h.bz
  have H0 := Lib.hid (h.alloc (.cells #[] 9))
  have HR0 : Hid ((w.alloc (.cells #[] 9)).ownsRow w.heap.size 9 1 (.slice (some ⟨w.heap.size, 0, none⟩) 0 0) 0 (strCells' ((s.l.take 0).map shown))) := Lib.hid (row_new w 9 1)
  have HB0 := Lib.hid (Stay.alloc w (.cells #[] 9) hbz)
  have hsk := hc.seek 0
  rw [if_neg (by omega)] at hsk
  have hSK : Hid (∀ W, Vol W B g s → Calls Try.prog 15 #[.pointer (some ⟨g, 0, none⟩), .int .i64 0] W (VolEnds W B g (VS.mk s.rm s.lo s.lf s.lab s.l s.sure 0 s.er s.pr, 0))) := Lib.hid fun W hW => by
    have := seek_vol hW 0
    rw [hsk] at this
    exact this
  have HCM : Hid (∀ p, VS.Calm (VS.mk s.rm s.lo s.lf s.lab s.l s.sure p s.er s.pr)) := Lib.hid fun p => ⟨hc.lo, hc.lf, hc.pr⟩
  clear h hc hsk
  go_enter Try.func26, Try.ntmps26
  go_wp2_with fail
  refine (hSK.out _ H0.out).mono ?_
  rintro e w1 ⟨rfl, h1, st1⟩
  have H1 := Lib.hid h1
  have HR1 : Hid (w1.ownsRow w.heap.size 9 1 (.slice (some ⟨w.heap.size, 0, none⟩) 0 0) (List.take 0 s.l).length (strCells' ((s.l.take 0).map shown))) := Lib.hid (st1.row HR0.out (by decide) (by decide))
  have HB1 := Lib.hid (HB0.out.trans st1)
  clear h1 st1 H0 HR0 HB0 hSK
  go_wp2
  go_loopw [3, 4] (fun v i wr => ∃ j : Nat, j ≤ s.l.length ∧ i = .int .i64 (j : Int) ∧ Hid (∀ k (h : k < s.l.length), k < j → s.l[k].torn = false) ∧ Hid (wr.ownsRow w.heap.size 9 1 v (List.take j s.l).length (strCells' ((s.l.take j).map shown))) ∧ Hid (Vol wr B g (VS.mk s.rm s.lo s.lf s.lab s.l s.sure j s.er s.pr)) ∧ Hid (Stay B w wr))
    (fun _ i _ => 100 - (intOf i).toNat)
  case atStart => exact ⟨0, by omega, rfl, Lib.hid (fun k h h' => by omega), HR1, H1, HB1⟩
  case round =>
    clear H1 HR1 HB1
    obtain ⟨j, hj, rfl, HT, HR, HV, HBW⟩ := hrel
    have hRD := read_vol HV.out
    rw [(HCM.out j).read] at hRD
    simp only at hRD
    by_cases hjl : j < s.l.length
    · rw [List.getElem?_eq_getElem hjl] at hRD
      simp only at hRD
      have hok := HV.out.1.blk _ (List.getElem_mem hjl)
      obtain ⟨b, hbe⟩ : ∃ b, s.l[j] = b := ⟨_, rfl⟩
      have hok : b.ok := by rw [← hbe]; exact hok
      rw [hbe] at hRD
      have HBE := Lib.hid hbe
      by_cases ht : b.torn = true
      · rw [if_pos ht] at hRD
        have htw := takeWhile_take hj HT.out (.inr ⟨hjl, by rw [hbe]; exact ht⟩)
        have HRD := Lib.hid hRD
        have HTW := Lib.hid htw
        clear hRD htw hbe ht
        go_wp2_with fail
        refine HRD.out.mono ?_
        rintro e w2 ⟨rfl, h2, st2⟩
        have H2 := Lib.hid h2
        have HR2 := Lib.hid (st2.row HR.out (by decide) (by decide))
        have HB2 := Lib.hid (HBW.out.trans st2)
        clear h2 st2 HR HV HBW HRD
        go_wp2
        rw [HP.out]
        refine ⟨u3, _, rfl, ?_, H2.out, rfl, rfl, HB2.out⟩
        unfold readable
        rw [HTW.out, List.length_map]
        exact row_low HR2.out hbz
      · rw [if_neg ht] at hRD
        have ht' : b.torn = false := by simpa using ht
        have HRD : Hid (Calls Try.prog 16 #[.pointer (some ⟨g, 0, none⟩)] wr (ReadEnds wr B g (VS.mk s.rm s.lo s.lf s.lab s.l s.sure (j + 1) s.er s.pr, b, 0))) := Lib.hid hRD
        have R1 : Hid (∀ k (h : k < s.l.length), k < j + 1 → s.l[k].torn = false) := Lib.hid fun k h hk => by
          by_cases hkj : k < j
          · exact HT.out k h hkj
          · obtain rfl : k = j := by omega
            rw [hbe]; exact ht'
        have hsh := shown_size hok
        have HSH : Hid ((List.take (j + 1) s.l).map shown = (List.take j s.l).map shown ++ [shown b]) := Lib.hid (by rw [List.take_succ_eq_append_getElem hjl, hbe, List.map_append]; rfl)
        have hlt1 : (List.take j s.l).length = j := by rw [List.length_take]; omega
        have hlt2 : (List.take (j + 1) s.l).length = j + 1 := by rw [List.length_take]; omega
        have HL1 := Lib.hid hlt1
        have HL2 := Lib.hid hlt2
        clear hRD hbe ht ht' hlt1 hlt2 HT hok
        have hj100 : j < 100 := by omega
        obtain ⟨m, hm⟩ : ∃ m, b.mark = m := ⟨_, rfl⟩
        have HM := Lib.hid hm
        clear hm
        cases m with
        | true =>
          go_wp2_with fail
          refine HRD.out.mono ?_
          rintro e w2 ⟨he, h2, st2⟩
          have he' : e = .returned (.tuple #[.string b.t, .bool true, .int .i64 0]) := by rw [he, ← HM.out]
          subst he'
          clear he
          have H2 : Hid (Vol w2 B g (VS.mk s.rm s.lo s.lf s.lab s.l s.sure (j + 1) s.er s.pr)) := Lib.hid h2
          have HR2 := Lib.hid (st2.row HR.out (by decide) (by decide))
          have HB2 := Lib.hid (HBW.out.trans st2)
          clear h2 st2 HR HV HBW HRD
          have hsb : shown b = ⟨#[109, 97, 114, 107]⟩ := by unfold shown; rw [HM.out]; rfl
          rw [hsb] at HSH hsh
          clear hsb
          generalize b.t = bt at *
          have hz2 : B ≤ w2.heap.size := H2.out.bz
          have hln : (List.take j s.l).length ≤ 90 := by have := HL1.out; omega
          go_wp2_with (at_builtin; refine wpList_append_own _ rfl _ _ 57 rfl w.heap.size 9 i0 (.string ⟨#[]⟩) 1 16 Try.underlying57 hie hz0 hz1 hz2' rfl (by decide) _ _ _ rfl (HR2.out.alloc _) ⟨w2.heap.size, 0, none⟩ 1 1 [.string ⟨#[109, 97, 114, 107]⟩] rfl rfl ?c1 ?c2 ?c3 ?c4 ?c5 ?_)
          case c1 => exact cell_one_new _ _ _
          case c2 => intro u hu; simp at hu; subst hu; rfl
          case c3 => unfold maxLen; omega
          case c4 => omega
          case c5 => have := HB2.out.size; simp; omega
          intro v' w5 hown' hgrow _
          have R3 : Hid (w5.ownsRow w.heap.size 9 1 v' (List.take (j + 1) s.l).length (strCells' ((s.l.take (j + 1)).map shown))) := Lib.hid (by
            rw [HSH.out, HL2.out]
            have e2 : strCells' ((List.take j s.l).map shown ++ [⟨#[109, 97, 114, 107]⟩]) = strCells' ((List.take j s.l).map shown) ++ [.string ⟨#[109, 97, 114, 107]⟩] := by simp [strCells']
            rw [e2]
            rw [List.map_take]
            exact hown')
          have R4 := Lib.hid ((H2.out.alloc (.cells #[.string ⟨#[109, 97, 114, 107]⟩] 9)).rows (HR2.out.alloc _) (by decide) (by decide) hgrow)
          have R5 : Hid (Stay B w w5) := Lib.hid (stay_grown (HB2.out.trans (Stay.alloc w2 (.cells #[.string ⟨#[109, 97, 114, 107]⟩] 9) hz2)) (HR2.out.alloc _) hbz hgrow)
          clear hown' hgrow HR2 H2 HB2 hz2
          go_wp2
          go_roundw
          case rel => exact ⟨j + 1, by omega, by go_num, R1, R3, R4, R5⟩
          case measure => simp [intOf]; omega
        | false =>
          go_wp2_with fail
          refine HRD.out.mono ?_
          rintro e w2 ⟨he, h2, st2⟩
          have he' : e = .returned (.tuple #[.string b.t, .bool false, .int .i64 0]) := by rw [he, ← HM.out]
          subst he'
          clear he
          have H2 : Hid (Vol w2 B g (VS.mk s.rm s.lo s.lf s.lab s.l s.sure (j + 1) s.er s.pr)) := Lib.hid h2
          have HR2 := Lib.hid (st2.row HR.out (by decide) (by decide))
          have HB2 := Lib.hid (HBW.out.trans st2)
          clear h2 st2 HR HV HBW HRD
          have hsb : shown b = b.t := by unfold shown; rw [HM.out]; rfl
          rw [hsb] at HSH hsh
          clear hsb
          generalize b.t = bt at *
          have hz2 : B ≤ w2.heap.size := H2.out.bz
          have hln : (List.take j s.l).length ≤ 90 := by have := HL1.out; omega
          go_wp2_with (at_builtin; refine wpList_append_own _ rfl _ _ 57 rfl w.heap.size 9 i0 (.string ⟨#[]⟩) 1 16 Try.underlying57 hie hz0 hz1 hz2' rfl (by decide) _ _ _ rfl (HR2.out.alloc _) ⟨w2.heap.size, 0, none⟩ 1 1 [.string bt] rfl rfl ?c1 ?c2 ?c3 ?c4 ?c5 ?_)
          case c1 => exact cell_one_new _ _ _
          case c2 => intro u hu; simp at hu; subst hu; rfl
          case c3 => unfold maxLen; omega
          case c4 => omega
          case c5 => have := HB2.out.size; simp; omega
          intro v' w5 hown' hgrow _
          have R3 : Hid (w5.ownsRow w.heap.size 9 1 v' (List.take (j + 1) s.l).length (strCells' ((s.l.take (j + 1)).map shown))) := Lib.hid (by
            rw [HSH.out, HL2.out]
            have e2 : strCells' ((List.take j s.l).map shown ++ [bt]) = strCells' ((List.take j s.l).map shown) ++ [.string bt] := by simp [strCells']
            rw [e2]
            rw [List.map_take]
            exact hown')
          have R4 := Lib.hid ((H2.out.alloc (.cells #[.string bt] 9)).rows (HR2.out.alloc _) (by decide) (by decide) hgrow)
          have R5 : Hid (Stay B w w5) := Lib.hid (stay_grown (HB2.out.trans (Stay.alloc w2 (.cells #[.string bt] 9) hz2)) (HR2.out.alloc _) hbz hgrow)
          clear hown' hgrow HR2 H2 HB2 hz2
          go_wp2
          go_roundw
          case rel => exact ⟨j + 1, by omega, by go_num, R1, R3, R4, R5⟩
          case measure => simp [intOf]; omega
    · obtain rfl : j = s.l.length := by omega
      rw [List.getElem?_eq_none (Nat.le_refl _)] at hRD
      simp only at hRD
      have htw := takeWhile_take hj HT.out (.inl rfl)
      have HRD := Lib.hid hRD
      have HTW := Lib.hid htw
      have hj100 : s.l.length < 100 := by omega
      clear hRD htw
      go_wp2_with fail
      refine HRD.out.mono ?_
      rintro e w2 ⟨rfl, h2, st2⟩
      have H2 := Lib.hid h2
      have HR2 := Lib.hid (st2.row HR.out (by decide) (by decide))
      have HB2 := Lib.hid (HBW.out.trans st2)
      clear h2 st2 HR HV HBW HRD
      go_wp2
      rw [HP.out]
      refine ⟨u3, _, rfl, ?_, H2.out, rfl, rfl, HB2.out⟩
      unfold readable
      rw [HTW.out, List.length_map]
      exact row_low HR2.out hbz
end Go.Proofs.Ytchpdeogmbbjgaa
