/- 'blocks come until it is full': glacierlaw05.ReelRoom returns true for every input. No condition. -/
import Derived.Test.YtchpdeogmbbjgaaVl
import Derived.Test.YtchpdeogmbbjgaaCu
import Derived.Test.YtchpdeogmbbjgaaLw
import Derived.Test.YtchpdeogmbbjgaaOp
import Derived.Test.YtchpdeogmbbjgaaRows
import Derived.ProofKit
import Derived.OpenShut
namespace Go.Proofs.Ytchpdeogmbbjgaa.reelRoom
open Go.ChangeShapes Go.WideShapes Go.ChangeAt Go.RowKit
set_option linter.unusedVariables false

theorem own : ownKnob Try.prog.godebug = none := by kernel_rfl

theorem Lies.str {w : World} {B : Nat} {A : Option Addr} {l : List ByteArray} (h : Lies w B A (l.map Value.string)) {k : Nat} (hk : k < l.length) : ∃ ad, A = some ad ∧ ad.block < B ∧ w.cell? (ad.add k) = some (.string l[k]) := by
  obtain ⟨ad, h1, h2, h3⟩ := h.round (k := k) (by simpa using hk)
  exact ⟨ad, h1, h2, by rw [h3]; simp⟩

set_option maxRecDepth 100000 in
set_option maxHeartbeats 4000000 in
theorem walk (room : Int) (A : Option Addr) (c : Nat) (l : List ByteArray) (w : World) (hL : Lies w w.heap.size A (l.map Value.string)) (hlen : l.length ≤ 9223372036854775807) :
    Calls Try.prog 6 #[.int .i64 room, .slice A l.length c] w fun e w' => e = .returned (.bool true) ∧ Below w.heap.size w w' := by
  have HL := Lib.hid hL; clear hL
  by_cases hr : room < 0 ∨ 300 < room
  · by_cases hneg : room < 0
    · go_enter Try.func6, Try.ntmps6
      go_wp2_with fail
      refine (awake5_any w).mono ?_
      rintro e w1 ⟨rfl, hb1⟩
      go_wp2_with fail
      refine (awake5_any w1).mono ?_
      rintro e w2 ⟨rfl, hb2⟩
      have fin := Lib.hid (hb1.trans (hb2.mono hb1.size))
      clear hb1 hb2
      go_wp2
      go_ret
      exact ⟨rfl, fin.out⟩
    · have hbig : 300 < room := by omega
      go_enter Try.func6, Try.ntmps6
      go_wp2_with fail
      refine (awake5_any w).mono ?_
      rintro e w1 ⟨rfl, hb1⟩
      go_wp2_with fail
      refine (awake5_any w1).mono ?_
      rintro e w2 ⟨rfl, hb2⟩
      have fin := Lib.hid (hb1.trans (hb2.mono hb1.size))
      clear hb1 hb2
      go_wp2
      go_ret
      exact ⟨rfl, fin.out⟩
  · have hr0 : 0 ≤ room := by omega
    have hr1 : room ≤ 300 := by omega
    clear hr
    go_enter Try.func6, Try.ntmps6
    go_wp2_with fail
    refine (awake5_any w).mono ?_
    rintro e w1 ⟨rfl, hb1⟩
    go_wp2_with fail
    refine (new_vol room room (by omega) (by omega) w1).mono ?_
    rintro e w2 ⟨g, rfl, h2, hb2⟩
    have HB2 := Lib.hid (hb1.trans (hb2.mono hb1.size))
    have H2 := Lib.hid h2
    have hsB : w.heap.size ≤ w1.heap.size := hb1.size
    clear h2 hb1 hb2
    generalize w1.heap.size = B at *
    generalize hG : w.heap.size = G at *
    have HG := Lib.hid hG; clear hG
    go_wp2
    go_loopw [6, 7, 8] (fun u n i wr => ∃ (k : Nat) (s : VS), k ≤ l.length ∧ k ≤ 30 ∧ i = .int .i64 (k : Int) ∧ u = .int .i64 ((wsum s.l : Nat) : Int) ∧ n = .int .i64 ((s.l.length : Nat) : Int) ∧ s.l.length ≤ k ∧ Hid (s.Fresh room) ∧ Hid (Vol wr B g s) ∧ Hid (Below G w wr))
      (fun _ _ i _ => 30 - (intOf i).toNat)
    case atStart => exact ⟨0, VS.new room, by omega, by omega, rfl, rfl, rfl, Nat.zero_le _, Lib.hid (.new room), H2, HB2⟩
    case round =>
      clear H2 HB2
      obtain ⟨k, s, hk, hk30, rfl, rfl, rfl, hsl, HF, HV, HB⟩ := hrel
      by_cases hlt : k < l.length ∧ k < 30
      · obtain ⟨hlt, h30⟩ := hlt
        obtain ⟨ad, rfl, _, hc⟩ := Lies.str (HL.out.below HB.out) hlt
        generalize l[k] = x at *
        have hC := cut_any x 60 wr
        have hz := cutTo_le x 60
        generalize cutTo x 60 = t at *
        have hW := write_vol HV.out t (by omega) (by omega)
        rw [HF.out.add] at hW
        have hsum := HV.out.1.sum
        rw [HF.out.rm] at hsum
        have hwt : Blk.wt ⟨t, false, false⟩ = t.size + 4 := rfl
        rw [hwt] at hW
        clear hwt
        obtain ⟨u, hu⟩ : ∃ u, wsum s.l = u := ⟨_, rfl⟩
        rw [hu] at hW hsum ⊢
        have HU := Lib.hid hu; clear hu
        obtain ⟨z, hzz⟩ : ∃ z, s.l.length = z := ⟨_, rfl⟩
        rw [hzz] at hsl ⊢
        have HZ := Lib.hid hzz; clear hzz
        by_cases hfull : room < (u : Int) + (t.size + 4 : Nat)
        · rw [if_pos hfull] at hW
          have hd : decide ((u : Int) + (t.size : Int) + 4 ≤ room) = false := by simp; omega
          go_wp2_with fail
          refine hC.mono ?_
          rintro e w3 ⟨rfl, rfl⟩
          clear hC
          go_wp2_with fail
          refine hW.mono ?_
          rintro e w3 ⟨rfl, h3, st3⟩
          have H3 := Lib.hid h3
          have HB3 := Lib.hid (HB.out.trans (st3.below.mono hsB))
          clear h3 st3 hW HV HB hc
          have hUs := used_vol H3.out
          have hLn := len_vol H3.out
          simp only [HU.out, HZ.out] at hUs hLn
          go_wp2_with fail
          refine hUs.mono ?_
          rintro e w4 ⟨rfl, rfl⟩
          go_wp2_with fail
          refine hLn.mono ?_
          rintro e w4 ⟨rfl, rfl⟩
          clear hUs hLn
          go_wp2
          go_roundw
          case rel => exact ⟨k + 1, s, by omega, by omega, by go_num, by rw [HU.out], by rw [HZ.out], by have := HZ.out; omega, HF, H3, HB3⟩
          case measure => simp [intOf]; omega
        · rw [if_neg hfull] at hW
          have hd : decide ((u : Int) + (t.size : Int) + 4 ≤ room) = true := by simp; omega
          go_wp2_with fail
          refine hC.mono ?_
          rintro e w3 ⟨rfl, rfl⟩
          clear hC
          go_wp2_with fail
          refine hW.mono ?_
          rintro e w3 ⟨rfl, h3, st3⟩
          have H3 := Lib.hid h3
          have HB3 := Lib.hid (HB.out.trans (st3.below.mono hsB))
          have HF3 : Hid (VS.Fresh { s with l := s.l ++ [⟨t, false, false⟩], pos := s.pos + 1 } room) := Lib.hid (HF.out.more ⟨t, false, false⟩ rfl)
          have H3 : Hid (Vol w3 B g { s with l := s.l ++ [⟨t, false, false⟩], pos := s.pos + 1 }) := H3
          clear h3 st3 hW HV HB hc
          have hUs := used_vol H3.out
          have hLn := len_vol H3.out
          have e1 : ((wsum (s.l ++ [Blk.mk t false false]) : Nat) : Int) = (u : Int) + ((t.size : Int) + 4) := by rw [wsum_append, wsum_one, HU.out]; unfold Blk.wt; simp only; omega
          have e2 : (((s.l ++ [Blk.mk t false false]).length : Nat) : Int) = (z : Int) + 1 := by rw [List.length_append, HZ.out]; rfl
          simp only [e1, e2] at hUs hLn
          have E1 := Lib.hid e1
          have E2 := Lib.hid e2
          clear e1 e2
          go_wp2_with fail
          refine hUs.mono ?_
          rintro e w4 ⟨rfl, rfl⟩
          go_wp2_with fail
          refine hLn.mono ?_
          rintro e w4 ⟨rfl, rfl⟩
          clear hUs hLn
          go_wp2
          go_roundw
          case rel => exact ⟨k + 1, { s with l := s.l ++ [Blk.mk t false false], pos := s.pos + 1 }, by omega, by omega, by go_num, by rw [E1.out], by rw [E2.out], by show (s.l ++ [Blk.mk t false false]).length ≤ k + 1; have := E2.out; omega, HF3, H3, HB3⟩
          case measure => simp [intOf]; omega
      · have hex : (¬ k < l.length) ∨ (k < l.length ∧ ¬ k < 30) := by omega
        have fin := Lib.hid (show Below w.heap.size w wr by rw [HG.out]; exact HB.out)
        clear HV HB HF
        rcases hex with x1 | ⟨x1, x2⟩
        all_goals
          go_wp2
          go_ret
          exact ⟨rfl, fin.out⟩

set_option maxRecDepth 100000 in
theorem lifted (os : Os) (started : os.Started) (H : Type) (enc : TypeId × Value → H) :
    ReturnsInHanded {} Try.checked os 6 .any (Rows.reelRoomSpec.pre6 enc Try.prog Try.f6 Rows.reelRoomRow.domain false) (Rows.reelRoomSpec.post enc Try.prog Try.f6 false true false false) := by
  refine returnsInHanded_of_change (C := Try.checked) own started (by kernel_rfl) Try.func6
    (ChangeSpec.witness6 (enc := enc) (C := Try.checked) false ⟨#[], #[.int .i64 0, .slice none 0 0], []⟩ 8 (by kernel_rfl) (by kernel_rfl) (by kernel_rfl) (by kernel_rfl)) ?_
  intro W base args ds gs before hval0 hW hcnd _
  have hval : ∀ (j : Nat) t v, Try.f6.params[j]? = some t → args[j]? = some v → Value.okWide Try.prog W .any base t v := hval0
  have hW' := hW
  obtain ⟨p, q, hA0, hV, rfl, hfz, hnd⟩ := hW
  have hA : DataW.TrodAll enc Try.prog W 0 (fun _ => true) true Try.f6.params.toList args.toList ds p := hA0
  rw [Try.params6] at hA hval
  obtain ⟨v0, vs0, d0, ds0, p0, q0, hargs, rfl, rfl, h0, r0⟩ := trodAll_cons hA
  obtain ⟨v1, vs1, d1, ds1, p1, q1, rfl, rfl, rfl, h1, r1⟩ := trodAll_cons r0
  obtain ⟨rfl, rfl, rfl⟩ := trodAll_nil r1
  obtain rfl : args = #[v0, v1] := by cases args; simp_all
  obtain ⟨rfl, rfl⟩ := trodVars_none hV
  obtain ⟨a0, rfl, rfl, rfl, w0⟩ := open_int Try.underlying3 (hval 0 3 v0 rfl rfl) h0
  obtain ⟨A1, c1, l, rfl, hc1, hL1⟩ := open_texts Try.underlying57 Try.underlying9 (by kernel_rfl) (hval 1 57 v1 rfl rfl) h1
  refine (walk a0 A1 c1 l W hL1 (slice_max Try.underlying57 h1)).mono fun e W' ⟨he, hg⟩ => ?_
  subst he
  exact ⟨_, rfl, law_post (tb := 4) hW' rfl (by kernel_rfl) Try.underlying4 (by rw [Try.params6]; decide +kernel) rfl hg⟩

theorem proved : Rows.ReelRoomSaid :=
  OpenClaim.holds_of_wide 6 Try.f6 rfl rfl rfl rfl rfl rfl rfl ⟨rfl, rfl, rfl, rfl, rfl⟩ rfl rfl rfl rfl rfl (by kernel_rfl) Try.func6 (by kernel_rfl)
    (of_decide_eq_true (by kernel_rfl)) (by unfold Func.isWrapper; first | (rw [if_pos (by decide +kernel)]; kernel_rfl) | (rw [if_neg (by decide +kernel)]; exact ⟨rfl, rfl⟩))
    (fun os started H enc _ => lifted os started H enc)
#print axioms proved
end Go.Proofs.Ytchpdeogmbbjgaa.reelRoom
