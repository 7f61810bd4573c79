/- 'files that are synced by their names': glacierlaw04.PlatterNames returns true for every input. No condition. -/
import Derived.Test.YtokepandiigjlaaPnx
import Derived.Test.YtokepandiigjlaaCu
import Derived.Test.YtokepandiigjlaaLw
import Derived.Test.YtokepandiigjlaaOp
import Derived.Test.YtokepandiigjlaaRows
import Derived.Deep.DeepCutAuto
import Derived.Deep.CutBlock
import Derived.ProofKit
import Derived.OpenShut
namespace Go.Proofs.Ytokepandiigjlaa.platterNames
open Go.ChangeShapes Go.WideShapes Go.ChangeAt Go.RowKit Go.Sort
open Go.ChangeMaps (open_string)
open Pm (Key Fi St Files)
set_option linter.unusedVariables false

theorem own : ownKnob Try.prog.godebug = none := by kernel_rfl
theorem info_str : (Try.prog.info? 9).map (fun i => (i.zero, i.size, i.bytes)) = some (some (.string ⟨#[]⟩), 1, 16) := by kernel_rfl

theorem name_size (x : ByteArray) (h : x.size ≤ 4) : ((⟨#[102]⟩ : ByteArray) ++ x).size ≤ 5 := by
  rw [ByteArray.size_append]
  show 1 + x.size ≤ 5
  omega
theorem name_ne (x : ByteArray) : ((⟨#[102]⟩ : ByteArray) ++ x).data.toList ≠ [] := by
  simp
theorem two_new {w w1 w2 : World} {ga ma gb mb : Nat} (h1 : Has w1 w.heap.size ga ma 100000 false 0 []) (hb1 : Below w.heap.size w w1) (h2 : Has w2 w1.heap.size gb mb 100000 false 0 []) (hb2 : Below w1.heap.size w1 w2) : Two w2 w.heap.size ga ma gb mb 100000 [] [] := by
  obtain ⟨ua, Ga, hA, ea⟩ := h1
  obtain ⟨ub, Gb, hB, eb⟩ := h2
  refine ⟨ua, Ga, ub, Gb, hA.below hb2, ?_, fun b h h' => ?_, ea, eb⟩
  · have hG : Gb = [] := by
      have : (abs Gb).length = 0 := by rw [eb]; rfl
      rw [abs_length] at this
      exact List.eq_nil_of_length_eq_zero this
    subst hG
    have hs := hb1.size
    exact { hB with files := by simp, gB := Nat.le_trans hs hB.gB, mB := Nat.le_trans hs hB.mB }
  · have x1 := (hA.foot_lt h).2
    have x2 := (hB.foot_lt h').1
    omega

theorem strk_lt {w : World} {B' n : Nat} {A : Option Addr} {c : Nat} {ks : List Key} (h : w.ownsRow B' 9 1 (.slice A n c) n (strk ks)) : Lies w w.heap.size A (strk ks) := by
  obtain ⟨A', c', e, hl, _, _⟩ := own_slice_p h
  cases e
  exact hl

set_option maxRecDepth 100000 in
set_option maxHeartbeats 8000000 in
theorem walk (An Tt : Option Addr) (cn ct : Nat) (ln lt : List ByteArray) (A : Option Addr) (n c : Nat) (w : World) (hLn : Lies w w.heap.size An (ln.map Value.string)) (hLt : Lies w w.heap.size Tt (lt.map Value.string)) (hnn : ln.length ≤ 9223372036854775807) (hnt : lt.length ≤ 9223372036854775807) :
    Calls Try.prog 7 #[.slice An ln.length cn, .slice Tt lt.length ct, .slice A n c] w fun e w' => e = .returned (.bool true) ∧ Below w.heap.size w w' := by
  obtain ⟨i0, hie, hz0, hz1, hz2⟩ := info_parts info_str
  have HLn := Lib.hid hLn; clear hLn
  have HLt := Lib.hid hLt; clear hLt
  go_enter Try.func7, Try.ntmps7
  go_wp2_with fail
  refine (awake4_any w).mono ?_
  rintro e w0 ⟨rfl, hb0⟩
  go_wp2_with fail
  refine (new_any 100000 100000 (by omega) rfl w0).mono ?_
  rintro e w1 ⟨ga, ma, rfl, h1, hb1⟩
  go_wp2_with fail
  refine (new_any 100000 100000 (by omega) rfl w1).mono ?_
  rintro e w2 ⟨gb, mb, rfl, h2, hb2⟩
  have HT2 := Lib.hid (two_new h1 hb1 h2 hb2)
  have HB2 : Hid (Below w.heap.size w w2) := Lib.hid (hb0.trans (((hb1.trans (hb2.mono hb1.size))).mono hb0.size))
  have hs2 : w.heap.size ≤ w2.heap.size := HB2.out.size
  have hsB : w.heap.size ≤ w0.heap.size := hb0.size
  clear h1 hb1 h2 hb2 hb0
  generalize w0.heap.size = B at *
  generalize hwB : w.heap.size = Bw at *
  have HWB := Lib.hid hwB; clear hwB
  go_upto_block 0 with fail
  go_cut [9] (fun v wx => ∃ (ks : List Key) (L : Files), ks.length ≤ 6 ∧ Hid (wx.ownsRow Bw 9 1 v ks.length (strk ks)) ∧ Hid (Two wx B ga ma gb mb 100000 L L) ∧ Hid (Pm.Each ks L) ∧ Hid (Below Bw w wx))
  case first =>
    go_wp2_with fail
    go_loopw [9, 10] (fun v i wr => ∃ (j : Nat) (ks : List Key) (L : Files), j ≤ 6 ∧ j ≤ ln.length ∧ j ≤ lt.length ∧ i = .int .i64 (j : Int) ∧ ks.length = j ∧ Hid (wr.ownsRow Bw 9 1 v ks.length (strk ks)) ∧ Hid (Two wr B ga ma gb mb 100000 L L) ∧ Hid (Pm.Each ks L) ∧ Hid (Below Bw w wr))
      (fun _ i _ => 6 - (intOf i).toNat)
    case atStart =>
      refine ⟨0, [], [], by omega, by omega, by omega, rfl, rfl, Lib.hid ?_, Lib.hid (HT2.out.below ((Below.refl _ _).alloc (Nat.le_refl _) _)), Lib.hid Pm.Each.nil, Lib.hid (HB2.out.alloc hs2 _)⟩
      refine ⟨by simp [strk], .inr ⟨w2.heap.size, 0, #[], rfl, hs2, ?_, ?_, ?_, ?_, ?_⟩⟩
      all_goals first
        | exact At.new w2 9 #[]
        | (have hq := At.new w2 9 #[]; unfold At at hq; exact hq)
        | (simp; done)
        | (simp [strk]; done)
        | (unfold maxLen; omega)
    case round =>
      clear HT2 HB2 hs2
      obtain ⟨j, ks, L, hj, hjn, hjt, rfl, hkl, HR, HT, HE, HB⟩ := hrel
      by_cases hlt : j < ln.length ∧ j < lt.length ∧ j < 6
      · obtain ⟨hlt1, hlt2, hlt3⟩ := hlt
        obtain ⟨ad, rfl, _, hc⟩ := (HLn.out.below HB.out).round (k := j) (by simpa using hlt1)
        obtain ⟨ad2, rfl, _, hc2⟩ := (HLt.out.below HB.out).round (k := j) (by simpa using hlt2)
        rw [List.getElem_map] at hc hc2
        generalize ln[j] = x1 at *
        generalize lt[j] = x2 at *
        have hC1 := fun W => cut_any x1 4 W
        have hC2 := fun W => cut_any x2 40 W
        have hzA := cutTo_le x1 4
        have hzB := cutTo_le x2 40
        generalize cutTo x1 4 = na at *
        generalize cutTo x2 40 = tb at *
        have hn5 := name_size na hzA
        have hnne := name_ne na
        go_wp2_with fail
        refine (hC1 _).mono ?_
        rintro e W' ⟨rfl, rfl⟩
        go_wp2_with fail
        refine (hC2 _).mono ?_
        rintro e W' ⟨rfl, rfl⟩
        generalize hnm : (⟨#[102]⟩ : ByteArray) ++ na = nm at *
        have hus := HE.out.used
        have hln := HE.out.len
        have hfw : ((Pm.fi L nm.data.toList).now.t.length : Int) ≤ ((Pm.fi L nm.data.toList).weight : Nat) := by unfold Pm.Fi.weight; omega
        go_wp2_with fail
        refine (append_two HT.out nm tb (by omega) hnne (by omega) (by omega) (by omega)).mono ?_
        rintro e w3 ⟨rfl, h3, hb3, hst3⟩
        have hR3 := hst3.row HR.out
        have HB3 : Hid (Below Bw w w3) := Lib.hid (HB.out.trans (hb3.mono hsB))
        have HT3 := Lib.hid h3.symm
        have HR3 := Lib.hid hR3
        clear h3 hb3 hst3 hR3 HR HB
        go_wp2_with fail
        refine (append_two HT3.out nm tb (by omega) hnne (by omega) (by omega) (by omega)).mono ?_
        rintro e w4 ⟨rfl, h4, hb4, hst4⟩
        have hR4 := hst4.row HR3.out
        have HB4 : Hid (Below Bw w w4) := Lib.hid (HB3.out.trans (hb4.mono hsB))
        have hso : HT.out.a.sorted = HT.out.a.sorted := rfl
        have R2 : Hid (Pm.Each (ks ++ [nm.data.toList]) (Pm.appended L nm.data.toList tb.data.toList)) := Lib.hid (HE.out.more HT.out.a.sorted HT.out.a.there (by simpa using hn5) (by simpa using hzB))
        have HT4 := Lib.hid h4.symm
        have HR4 := Lib.hid hR4
        clear h4 hb4 hst4 hR4 HR3 HB3 HT3 HT HE hso hus hfw
        have hs4 : Bw ≤ w4.heap.size := by have := HB4.out.size; have := HWB.out; omega
        go_wp2_with (at_builtin; refine wpList_append_own _ rfl _ _ 34 rfl Bw 9 i0 (.string ⟨#[]⟩) 1 16 Try.underlying34 hie hz0 hz1 hz2 rfl (by decide) _ _ _ rfl (HR4.out.alloc _) ⟨w4.heap.size, 0, none⟩ 1 1 [.string nm] rfl rfl ?c1 ?c2 ?c3 ?c4 ?c5 ?_)
        case c1 => exact cell_one_new _ _ _
        case c2 => intro u hu; simp at hu; subst hu; rfl
        case c3 => unfold maxLen; omega
        case c4 => omega
        case c5 => simp; omega
        intro v' w5 hown' hgrow _
        have R1 : Hid (w5.ownsRow Bw 9 1 v' (ks ++ [nm.data.toList]).length (strk (ks ++ [nm.data.toList]))) := Lib.hid (by
          rw [List.length_append, hkl]
          unfold strk at hown' ⊢
          rw [List.map_append]
          have e1 : [nm.data.toList].map encStr = [.string nm] := by simp [encStr]
          rw [e1]
          exact hown')
        have HT4' : Two (w4.alloc (.cells #[.string nm] 9)) B ga ma gb mb 100000 (Pm.appended L nm.data.toList tb.data.toList) (Pm.appended L nm.data.toList tb.data.toList) := HT4.out.below ((Below.refl _ _).alloc (Nat.le_refl _) _)
        have R3 : Hid (Two w5 B ga ma gb mb 100000 (Pm.appended L nm.data.toList tb.data.toList) (Pm.appended L nm.data.toList tb.data.toList)) := Lib.hid (HT4'.rows (HR4.out.alloc _) hgrow)
        have hob : ∀ kb, u9.ownBlock = some kb → Bw ≤ kb := fun kb hkb => (HR4.out.lt kb hkb).1
        have R4 : Hid (Below Bw w w5) := Lib.hid (HB4.out.trans (((Below.refl Bw w4).alloc (by have := HB4.out.size; have := HWB.out; omega) _).trans ⟨hgrow.os, hgrow.tape, hgrow.output, hgrow.size, fun k hk => hgrow.block k (by have := HB4.out.size; have := HWB.out; simp; omega) (by
          intro e
          have := hob k e.symm
          omega)⟩))
        clear hown' hgrow HT4' HR4 HB4 HT4 hob
        go_wp2
        go_roundw
        case rel => exact ⟨j + 1, ks ++ [nm.data.toList], _, by omega, by omega, by omega, by go_num, by rw [List.length_append, hkl]; rfl, R1, R3, R2, R4⟩
        case measure => simp [intOf]; omega
      · have hex : (¬ j < ln.length) ∨ (j < ln.length ∧ ¬ j < lt.length) ∨ (j < ln.length ∧ j < lt.length ∧ ¬ j < 6) := by omega
        subst hkl
        rcases hex with x1 | ⟨x1, x2⟩ | ⟨x1, x2, x3⟩
        all_goals
          go_wp2_with fail
          go_meet
          exact ⟨ks, L, by omega, HR, HT, HE, HB⟩
  case rest =>
    obtain ⟨ks, L, hk6, HR, HT, HE, HB⟩ := hcut
    generalize wc = wr at *
    have hsort := HT.out.a.sorted
    have hthere := HT.out.a.there
    have hln := HE.out.len
    have hkshort : ∀ k ∈ Pm.keys L, k.length ≤ 140737488355328 := fun k hk => by have := HE.out.short k (HE.out.sub k hk); omega
    have hkshort2 : ∀ k ∈ ks, k.length ≤ 140737488355328 := fun k hk => by have := HE.out.short k hk; omega
    obtain ⟨T, hTT⟩ : ∃ T, Pm.syncs (Pm.keys L) L = T := ⟨_, rfl⟩
    have hsy := HE.out.syncs hsort hthere
    rw [hTT] at hsy
    have hTsafe : ∀ k, (Pm.fi T k).safe = true := fun k => by rw [← hTT]; exact Pm.syncs_safe hthere k
    have hTlen : T.length ≤ 1000000 := by
      have := Pm.length_syncs (Pm.keys L) L
      rw [hTT] at this
      omega
    have hTk : ∀ k ∈ Pm.keys T, k.length ≤ 140737488355328 := fun k hk => by
      rw [← hTT] at hk
      have := HE.out.synced_keys hk
      omega
    have hTex : ∀ k ∈ ks, (Pm.fi T k).now.ex = true := fun k hk => by
      rw [← hTT]
      exact HE.out.synced_ex hthere hk
    have HSY := Lib.hid hsy
    have HTS := Lib.hid hTsafe
    have HTK := Lib.hid hTk
    have HTE := Lib.hid hTex
    have hSA := syncall_two HT.out hkshort (by omega)
    rw [hTT] at hSA
    have HSA := Lib.hid hSA
    have HKS := Lib.hid hkshort2
    have hlk : ks.length ≤ 1000000 := by omega
    have hlL : L.length ≤ 1000000 := by omega
    clear hsort hthere hkshort hkshort2 hTT hsy hTsafe hTk hTex hSA HE HT
    obtain ⟨Al, cl, hu9, _⟩ := own_slice_p HR.out
    rw [hu9] at HR
    subst hu9
    go_wp2_with fail
    refine HSA.out.mono ?_
    rintro e w3 ⟨rfl, h3, hb3, hst3⟩
    have HR3 := Lib.hid (hst3.row HR.out)
    have HB3 : Hid (Below Bw w w3) := Lib.hid (HB.out.trans (hb3.mono hsB))
    have HT3 := Lib.hid h3.symm
    clear h3 hb3 hst3 HR HB HSA
    by_cases hk0 : ks.length = 0
    · have hnil : ks = [] := List.eq_nil_of_length_eq_zero hk0
      have hLT : L = T := by
        have := HSY.out
        rw [hnil] at this
        exact this
      rw [hLT] at HT3
      have HT4 := Lib.hid HT3.out.symm
      have HR4 := HR3
      have HB4 := HB3
      have hsW : Bw ≤ w3.heap.size := by have := HB4.out.size; have := HWB.out; omega
      clear HT3 HR3 HB3 hLT HSY hnil
      go_wp2_with fail
      refine (crash_two HT4.out HTK.out hTlen HTS.out A n c).mono ?_
      rintro e w5 ⟨rfl, hb5⟩
      have HT5 := Lib.hid (HT4.out.below hb5)
      have HR5 := Lib.hid ((StrsStay.of_below hb5).row HR4.out)
      have HB5 : Hid (Below Bw w w5) := Lib.hid (HB4.out.trans (hb5.mono hsW))
      have hs5 : Bw ≤ w5.heap.size := Nat.le_trans hsW hb5.size
      clear hb5 HT4 HR4 HB4 hsW
      go_wp2_with fail
      refine (crash_two HT5.out.symm HTK.out hTlen HTS.out A n c).mono ?_
      rintro e w6 ⟨rfl, hb6⟩
      have HT6 := Lib.hid (HT5.out.below hb6)
      have HR6 := Lib.hid ((StrsStay.of_below hb6).row HR5.out)
      have HB6 : Hid (Below Bw w w6) := Lib.hid (HB5.out.trans (hb6.mono hs5))
      have hs6 : Bw ≤ w6.heap.size := Nat.le_trans hs5 hb6.size
      clear hb6 HT5 HR5 HB5 hs5
      go_wp2
      go_loopw [89] (fun i wr => ∃ k : Nat, k ≤ ks.length ∧ i = .int .i64 (k : Int) ∧ Hid (Two wr B ga ma gb mb 100000 T T) ∧ Hid (wr.ownsRow Bw 9 1 (.slice Al ks.length cl) ks.length (strk ks)) ∧ Hid (Below Bw w wr) ∧ Bw ≤ wr.heap.size)
        (fun i _ => ks.length - (intOf i).toNat)
      case atStart => exact ⟨0, by omega, rfl, HT6, HR6, HB6, hs6⟩
      case round =>
        clear HT6 HR6 HB6 hs6
        obtain ⟨k, hk, rfl, HTr, HRr, HBr, hsr⟩ := hrel
        by_cases hkl2 : k < ks.length
        · exfalso; omega
        · obtain rfl : k = ks.length := by omega
          have hsafeT : safeAll T = true := all_safe_of HTr.out.a.sorted HTS.out
          have HUA : Hid (∀ W, Below wr.heap.size wr W → Calls Try.prog 13 #[.pointer (some ⟨ga, 0, none⟩)] W fun e w' => e = .returned (.int .i64 (Pm.used T : Nat)) ∧ w' = W) := Lib.hid fun W hb => has_used (HTr.out.below hb).a
          have HUB : Hid (∀ W, Below wr.heap.size wr W → Calls Try.prog 13 #[.pointer (some ⟨gb, 0, none⟩)] W fun e w' => e = .returned (.int .i64 (Pm.used T : Nat)) ∧ w' = W) := Lib.hid fun W hb => has_used (HTr.out.below hb).b
          have HSA : Hid (∀ W, Below wr.heap.size wr W → Calls Try.prog 15 #[.pointer (some ⟨ga, 0, none⟩)] W fun e w' => e = .returned (.bool true) ∧ Below wr.heap.size wr w') := Lib.hid fun W hb => (safe_disk (HTr.out.below hb).a).mono fun e w' ⟨he, hb'⟩ => ⟨by rw [he, hsafeT], hb.trans (hb'.mono hb.size)⟩
          have HSB : Hid (∀ W, Below wr.heap.size wr W → Calls Try.prog 15 #[.pointer (some ⟨gb, 0, none⟩)] W fun e w' => e = .returned (.bool true) ∧ Below wr.heap.size wr w') := Lib.hid fun W hb => (safe_disk (HTr.out.below hb).b).mono fun e w' ⟨he, hb'⟩ => ⟨by rw [he, hsafeT], hb.trans (hb'.mono hb.size)⟩
          have hbd : Below wr.heap.size wr wr.drew := have h := Below.refl wr.heap.size wr; ⟨h.os, h.tape, h.output, h.size, h.block⟩
          generalize ((Pm.used T : Nat) : Int) = us at *
          clear HTr HRr HTS HTK HTE hsafeT
          go_wp2_with fail
          go_region_with (first
            | (go_at_call_of 13 (Value.pointer (some ⟨ga, 0, none⟩)); refine (HUA.out _ (by assumption)).mono ?_; rintro e w9 ⟨rfl, rfl⟩)
            | (go_at_call_of 13 (Value.pointer (some ⟨gb, 0, none⟩)); refine (HUB.out _ (by assumption)).mono ?_; rintro e w9 ⟨rfl, rfl⟩)
            | (go_at_call_of 15 (Value.pointer (some ⟨ga, 0, none⟩)); refine (HSA.out _ (by assumption)).mono ?_; rintro e w9 ⟨rfl, hb9⟩)
            | (go_at_call_of 15 (Value.pointer (some ⟨gb, 0, none⟩)); refine (HSB.out _ (by assumption)).mono ?_; rintro e w9 ⟨rfl, hb9⟩))
          all_goals
            go_wp2
            go_ret
            exact ⟨rfl, by rw [HWB.out]; exact HBr.out.trans (hb9.mono hsr)⟩
    · have hk1 : 0 < ks.length := by omega
      go_wp2_with fail
      refine (sync_two HT3.out Al cl ks (by omega) hlk (strk_lt HR3.out) HKS.out hlL).mono ?_
      rintro e w4 ⟨rfl, h4, hb4, hst4⟩
      rw [HSY.out] at h4
      have HT4 := Lib.hid h4.symm
      have HR4 := Lib.hid (hst4.row HR3.out)
      have HB4 : Hid (Below Bw w w4) := Lib.hid (HB3.out.trans (hb4.mono hsB))
      have hsW : Bw ≤ w4.heap.size := by have := HB4.out.size; have := HWB.out; omega
      clear h4 hb4 hst4 HT3 HR3 HB3 HSY
      go_wp2_with fail
      refine (crash_two HT4.out HTK.out hTlen HTS.out A n c).mono ?_
      rintro e w5 ⟨rfl, hb5⟩
      have HT5 := Lib.hid (HT4.out.below hb5)
      have HR5 := Lib.hid ((StrsStay.of_below hb5).row HR4.out)
      have HB5 : Hid (Below Bw w w5) := Lib.hid (HB4.out.trans (hb5.mono hsW))
      have hs5 : Bw ≤ w5.heap.size := Nat.le_trans hsW hb5.size
      clear hb5 HT4 HR4 HB4 hsW
      go_wp2_with fail
      refine (crash_two HT5.out.symm HTK.out hTlen HTS.out A n c).mono ?_
      rintro e w6 ⟨rfl, hb6⟩
      have HT6 := Lib.hid (HT5.out.below hb6)
      have HR6 := Lib.hid ((StrsStay.of_below hb6).row HR5.out)
      have HB6 : Hid (Below Bw w w6) := Lib.hid (HB5.out.trans (hb6.mono hs5))
      have hs6 : Bw ≤ w6.heap.size := Nat.le_trans hs5 hb6.size
      clear hb6 HT5 HR5 HB5 hs5
      go_wp2
      go_loopw [89] (fun i wr => ∃ k : Nat, k ≤ ks.length ∧ i = .int .i64 (k : Int) ∧ Hid (Two wr B ga ma gb mb 100000 T T) ∧ Hid (wr.ownsRow Bw 9 1 (.slice Al ks.length cl) ks.length (strk ks)) ∧ Hid (Below Bw w wr) ∧ Bw ≤ wr.heap.size)
        (fun i _ => ks.length - (intOf i).toNat)
      case atStart => exact ⟨0, by omega, rfl, HT6, HR6, HB6, hs6⟩
      case round =>
        clear HT6 HR6 HB6 hs6
        obtain ⟨k, hk, rfl, HTr, HRr, HBr, hsr⟩ := hrel
        by_cases hkl2 : k < ks.length
        · obtain ⟨ad, hAl, _, hc⟩ := (strk_lt HRr.out).str hkl2
          subst hAl
          have hmem := List.getElem_mem hkl2
          have hkz := HKS.out _ hmem
          have hkex := HTE.out _ hmem
          obtain ⟨nm, hnm⟩ : ∃ nm : ByteArray, (⟨ks[k].toArray⟩ : ByteArray) = nm := ⟨_, rfl⟩
          have hnk : nm.data.toList = ks[k] := by rw [← hnm]
          have hnz : nm.size ≤ 140737488355328 := by rw [← hnm]; show ks[k].toArray.size ≤ _; simpa using hkz
          rw [hnm] at hc
          rw [← hnk] at hkex
          obtain ⟨sv, hsv⟩ : ∃ sv : ByteArray, (⟨(Pm.fi T nm.data.toList).now.t.toArray⟩ : ByteArray) = sv := ⟨_, rfl⟩
          have hr1 := read_two HTr.out nm hnz hkex
          rw [hsv] at hr1
          have hr2 : ∀ W, Below wr.heap.size wr W → Calls Try.prog 23 #[.pointer (some ⟨gb, 0, none⟩), .string nm] W fun e w' => e = .returned (.tuple #[.string sv, .int .i64 0]) ∧ Below W.heap.size W w' := fun W hb => by
            have := read_two (HTr.out.below hb).symm nm hnz hkex
            rw [hsv] at this
            exact this
          have HR1 := Lib.hid hr1
          have HR2 := Lib.hid hr2
          clear hr1 hr2 hsv hkex hnz hnk hnm hkz hmem
          go_wp2_with fail
          refine HR1.out.mono ?_
          rintro e w7 ⟨rfl, hb7⟩
          go_wp2_with fail
          refine (HR2.out _ hb7).mono ?_
          rintro e w8 ⟨rfl, hb8⟩
          have hb78 : Below wr.heap.size wr w8 := hb7.trans (hb8.mono hb7.size)
          have R1 := Lib.hid (HTr.out.below hb78)
          have R2 := Lib.hid ((StrsStay.of_below hb78).row HRr.out)
          have R3 : Hid (Below Bw w w8) := Lib.hid (HBr.out.trans (hb78.mono hsr))
          have R4 : Bw ≤ w8.heap.size := Nat.le_trans hsr hb78.size
          clear hb7 hb8 hb78 HR1 HR2 HTr HRr HBr hc
          have hoo : (sv.toList == sv.toList) = true := by simp
          go_wp2
          go_roundw
          case rel => exact ⟨k + 1, by omega, by go_num, R1, R2, R3, R4⟩
          case measure => simp [intOf]; omega
        · obtain rfl : k = ks.length := by omega
          have hsafeT : safeAll T = true := all_safe_of HTr.out.a.sorted HTS.out
          have HUA : Hid (∀ W, Below wr.heap.size wr W → Calls Try.prog 13 #[.pointer (some ⟨ga, 0, none⟩)] W fun e w' => e = .returned (.int .i64 (Pm.used T : Nat)) ∧ w' = W) := Lib.hid fun W hb => has_used (HTr.out.below hb).a
          have HUB : Hid (∀ W, Below wr.heap.size wr W → Calls Try.prog 13 #[.pointer (some ⟨gb, 0, none⟩)] W fun e w' => e = .returned (.int .i64 (Pm.used T : Nat)) ∧ w' = W) := Lib.hid fun W hb => has_used (HTr.out.below hb).b
          have HSA : Hid (∀ W, Below wr.heap.size wr W → Calls Try.prog 15 #[.pointer (some ⟨ga, 0, none⟩)] W fun e w' => e = .returned (.bool true) ∧ Below wr.heap.size wr w') := Lib.hid fun W hb => (safe_disk (HTr.out.below hb).a).mono fun e w' ⟨he, hb'⟩ => ⟨by rw [he, hsafeT], hb.trans (hb'.mono hb.size)⟩
          have HSB : Hid (∀ W, Below wr.heap.size wr W → Calls Try.prog 15 #[.pointer (some ⟨gb, 0, none⟩)] W fun e w' => e = .returned (.bool true) ∧ Below wr.heap.size wr w') := Lib.hid fun W hb => (safe_disk (HTr.out.below hb).b).mono fun e w' ⟨he, hb'⟩ => ⟨by rw [he, hsafeT], hb.trans (hb'.mono hb.size)⟩
          have hbd : Below wr.heap.size wr wr.drew := have h := Below.refl wr.heap.size wr; ⟨h.os, h.tape, h.output, h.size, h.block⟩
          generalize ((Pm.used T : Nat) : Int) = us at *
          clear HTr HRr HTS HTK HTE hsafeT
          go_wp2_with fail
          go_region_with (first
            | (go_at_call_of 13 (Value.pointer (some ⟨ga, 0, none⟩)); refine (HUA.out _ (by assumption)).mono ?_; rintro e w9 ⟨rfl, rfl⟩)
            | (go_at_call_of 13 (Value.pointer (some ⟨gb, 0, none⟩)); refine (HUB.out _ (by assumption)).mono ?_; rintro e w9 ⟨rfl, rfl⟩)
            | (go_at_call_of 15 (Value.pointer (some ⟨ga, 0, none⟩)); refine (HSA.out _ (by assumption)).mono ?_; rintro e w9 ⟨rfl, hb9⟩)
            | (go_at_call_of 15 (Value.pointer (some ⟨gb, 0, none⟩)); refine (HSB.out _ (by assumption)).mono ?_; rintro e w9 ⟨rfl, hb9⟩))
          all_goals
            go_wp2
            go_ret
            exact ⟨rfl, by rw [HWB.out]; exact HBr.out.trans (hb9.mono hsr)⟩

set_option maxRecDepth 100000 in
theorem lifted (os : Os) (started : os.Started) (H : Type) (enc : TypeId × Value → H) :
    ReturnsInHanded {} Try.checked os 7 .any (Rows.platterNamesSpec.pre6 enc Try.prog Try.f7 Rows.platterNamesRow.domain false) (Rows.platterNamesSpec.post enc Try.prog Try.f7 false true false false) := by
  refine returnsInHanded_of_change (C := Try.checked) own started (by kernel_rfl) Try.func7
    (ChangeSpec.witness6 (enc := enc) (C := Try.checked) false ⟨#[], #[.slice none 0 0, .slice none 0 0, .slice none 0 0], []⟩ 8 (by kernel_rfl) (by kernel_rfl) (by kernel_rfl) (by kernel_rfl)) ?_
  intro W base args ds gs before hval0 hW hcnd _
  have hval : ∀ (j : Nat) t v, Try.f7.params[j]? = some t → args[j]? = some v → Value.okWide Try.prog W .any base t v := hval0
  have hW' := hW
  obtain ⟨p, q, hA0, hV, rfl, hfz, hnd⟩ := hW
  have hA : DataW.TrodAll enc Try.prog W 0 (fun _ => true) true Try.f7.params.toList args.toList ds p := hA0
  rw [Try.params7] at hA hval
  obtain ⟨v0, vs0, d0, ds0, p0, q0, hargs, rfl, rfl, h0, r0⟩ := trodAll_cons hA
  obtain ⟨v1, vs1, d1, ds1, p1, q1, rfl, rfl, rfl, h1, r1⟩ := trodAll_cons r0
  obtain ⟨v2, vs2, d2, ds2, p2, q2, rfl, rfl, rfl, h2, r2⟩ := trodAll_cons r1
  obtain ⟨rfl, rfl, rfl⟩ := trodAll_nil r2
  obtain rfl : args = #[v0, v1, v2] := by cases args; simp_all
  obtain ⟨rfl, rfl⟩ := trodVars_none hV
  obtain ⟨An, cn, ln, rfl, _, hLn⟩ := open_texts Try.underlying34 Try.underlying9 (by kernel_rfl) (hval 0 34 v0 rfl rfl) h0
  obtain ⟨Tt, ct, lt, rfl, _, hLt⟩ := open_texts Try.underlying34 Try.underlying9 (by kernel_rfl) (hval 1 34 v1 rfl rfl) h1
  obtain ⟨A1, c1, l, rfl, hc2, hL2, hl2⟩ := open_list_ints Try.underlying35 Try.underlying3 (by kernel_rfl) (hval 2 35 v2 rfl rfl) h2
  refine (walk An Tt cn ct ln lt A1 l.length c1 W hLn hLt (slice_max Try.underlying34 h0) (slice_max Try.underlying34 h1)).mono fun e W' ⟨he, hg⟩ => ?_
  subst he
  exact ⟨_, rfl, law_post (tb := 4) hW' rfl (by kernel_rfl) Try.underlying4 (by rw [Try.params7]; decide +kernel) rfl hg⟩

theorem proved : Rows.PlatterNamesSaid :=
  OpenClaim.holds_of_wide 7 Try.f7 rfl rfl rfl rfl rfl rfl rfl ⟨rfl, rfl, rfl, rfl, rfl⟩ rfl rfl rfl rfl rfl (by kernel_rfl) Try.func7 (by kernel_rfl)
    (of_decide_eq_true (by kernel_rfl)) (by unfold Func.isWrapper; first | (rw [if_pos (by decide +kernel)]; kernel_rfl) | (rw [if_neg (by decide +kernel)]; exact ⟨rfl, rfl⟩))
    (fun os started H enc _ => lifted os started H enc)
#print axioms proved
end Go.Proofs.Ytokepandiigjlaa.platterNames
