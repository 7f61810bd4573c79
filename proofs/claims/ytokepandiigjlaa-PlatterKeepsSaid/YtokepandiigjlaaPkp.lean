/- 'what was synced is there behind any crash': glacierlaw04.PlatterKeeps returns true for every input. No condition. -/
import Derived.Test.YtokepandiigjlaaPks
import Derived.Test.YtokepandiigjlaaCu
import Derived.Test.YtokepandiigjlaaLw
import Derived.Test.YtokepandiigjlaaOp
import Derived.Test.YtokepandiigjlaaRows
import Derived.ProofKit
import Derived.OpenShut
namespace Go.Proofs.Ytokepandiigjlaa.platterKeeps
open Go.ChangeShapes Go.WideShapes Go.ChangeAt Go.RowKit Go.Sort
open Go.ChangeMaps (open_string)
open Pm (Key Fi St Files)
set_option linter.unusedVariables false

theorem own : ownKnob Try.prog.godebug = none := by kernel_rfl

def mine : Key := [109, 105, 110, 101]

/-- a crash by choices that came in -/
theorem crash_in {w : World} {B g m : Nat} {rm : Int} {lo : Bool} {lf : Int} {L : Files} (h : Has w B g m rm lo lf L) (hB : B ≤ w.heap.size) (hks : ∀ k ∈ Pm.keys L, k.length ≤ 140737488355328) (hLen : L.length ≤ 1000000) (hrm : (Pm.used L : Int) ≤ 140737488355328)
    (A : Option Addr) (c : Nat) (l : List Int) (hL : Lies w B A (ints l)) (hl : ∀ x ∈ l, -9223372036854775808 ≤ x ∧ x ≤ 9223372036854775807) (hlen : l.length ≤ 9223372036854775807) :
    Calls Try.prog 30 #[.pointer (some ⟨g, 0, none⟩), .slice A l.length c] w fun e w' => e = .returned (.tuple #[]) ∧ Has w' B g m rm lo lf (Pm.crashes (pickR l) (Pm.keys L) 0 L) ∧ Below B w w' := by
  refine crash_any h hB hks hLen hrm A c l _ rfl B hB hL ?_ hl hlen
  intro us G hd b hb ad hA hne
  have hpos : 0 < l.length := List.length_pos_iff.2 hne
  obtain ⟨ad', e1, e2, _⟩ := hL.int hpos
  rw [hA] at e1
  cases e1
  have h1 := hd.gB
  have h2 := hd.mB
  rcases hb with rfl | rfl <;> omega

/-- behind a crash of a disk that keeps a file -/
theorem crash_keeps {w : World} {B g m : Nat} {rm lf : Int} {L : Files} {K : Key} {st : St} {k : Nat} (h : Has w B g m rm false lf L) (hK : Pm.Keep K st k L) (hk : k ≤ 1000000) (hrm : rm ≤ 1000000) (hB : B ≤ w.heap.size)
    (A : Option Addr) (c : Nat) (l : List Int) (hL : Lies w B A (ints l)) (hl : ∀ x ∈ l, -9223372036854775808 ≤ x ∧ x ≤ 9223372036854775807) (hlen : l.length ≤ 9223372036854775807) :
    Calls Try.prog 30 #[.pointer (some ⟨g, 0, none⟩), .slice A l.length c] w fun e w' => e = .returned (.tuple #[]) ∧ ∃ L', Has w' B g m rm false lf L' ∧ Pm.fi L' K = Pm.still st ∧ safeAll L' = true ∧ Below B w w' := by
  have hle := hK.len
  have hus := h.used
  refine (crash_in h hB (fun j hj => by have := hK.keys j hj; omega) (by omega) (by omega) A c l hL hl hlen).mono ?_
  rintro e w' ⟨he, hh, hb⟩
  refine ⟨he, _, hh, ?_, ?_, hb⟩
  · rw [Pm.fi_crashes_safe _ _ _ K (by rw [hK.mine]; exact Pm.still_safe st), hK.mine]
  · exact all_safe_of hh.sorted fun j => Pm.crashes_all _ h.there j

theorem name_size (x : ByteArray) (h : x.size ≤ 5) : ((⟨#[120]⟩ : ByteArray) ++ x).size ≤ 6 := by
  rw [ByteArray.size_append]
  show 1 + x.size ≤ 6
  omega
theorem name_ne (x : ByteArray) : ((⟨#[120]⟩ : ByteArray) ++ x).data.toList ≠ mine := by
  simp [mine]

set_option maxRecDepth 100000 in
set_option maxHeartbeats 4000000 in
theorem walk (s0 : ByteArray) (Aa : Option Addr) (ca : Nat) (la : List Ac) (A : Option Addr) (c : Nat) (l : List Int) (w : World) (hLa : Acts w w.heap.size Aa la) (hna : la.length ≤ 9223372036854775807) (hL : Lies w w.heap.size A (ints l)) (hl : ∀ x ∈ l, -9223372036854775808 ≤ x ∧ x ≤ 9223372036854775807) (hlen : l.length ≤ 9223372036854775807) :
    Calls Try.prog 4 #[.string s0, .slice Aa la.length ca, .slice A l.length c] w fun e w' => e = .returned (.bool true) ∧ Below w.heap.size w w' := by
  have HL := Lib.hid hL; clear hL
  have HLA := Lib.hid hLa; clear hLa
  have hC1 := cut_any s0 60
  have hz1 := cutTo_le s0 60
  generalize cutTo s0 60 = o at *
  go_enter Try.func4, Try.ntmps4
  go_wp2_with fail
  refine (hC1 w).mono ?_
  rintro e w0 ⟨rfl, rfl⟩
  clear hC1
  go_wp2_with fail
  refine (new_any 100000 100000 (by omega) rfl w).mono ?_
  rintro e w1 ⟨g, m, rfl, h1, hb1⟩
  have hs1 := hb1.size
  generalize hB : w.heap.size = B at *
  have HB := Lib.hid hB; clear hB
  go_wp2_with fail
  refine (awake4_any w1).mono ?_
  rintro e w2 ⟨rfl, hb2⟩
  have H2 := Lib.hid (h1.below hb2)
  have HB2 := Lib.hid (hb1.trans (hb2.mono hs1))
  have hs2 : B ≤ w2.heap.size := Nat.le_trans hs1 hb2.size
  clear h1 hb1 hb2 hs1
  go_wp2_with fail
  refine (write_ok H2.out hs2 ⟨#[109, 105, 110, 101]⟩ o (by decide) (by decide) (by show (0 : Int) + o.size ≤ _; omega) (by decide) (by show (o.size : Int) - 0 ≤ 100000 - 0; omega)).mono ?_
  rintro e w3 ⟨rfl, h3, hb3⟩
  rw [show Pm.set [] (⟨#[109, 105, 110, 101]⟩ : ByteArray).data.toList ⟨⟨true, o.data.toList⟩, (Pm.fi [] (⟨#[109, 105, 110, 101]⟩ : ByteArray).data.toList).sure⟩ = [(mine, ⟨⟨true, o.data.toList⟩, .no⟩)] from rfl] at h3
  have hs3 : B ≤ w3.heap.size := Nat.le_trans h3.lt.2.2.1 (Nat.le_of_lt h3.lt.1)
  have H3 := Lib.hid h3
  have HB3 := Lib.hid (HB2.out.trans hb3)
  clear h3 hb3 H2 HB2 hs2
  go_wp2_with fail
  refine (sync_new H3.out hs3 ⟨#[109, 105, 110, 101]⟩ (by decide) (by simp)).mono ?_
  rintro e w4 ⟨rfl, h4, hb4⟩
  rw [show (⟨#[109, 105, 110, 101]⟩ : ByteArray).data.toList = mine from rfl, Pm.one_syncs mine rfl] at h4
  have hs4 : B ≤ w4.heap.size := Nat.le_trans h4.lt.2.2.1 (Nat.le_of_lt h4.lt.1)
  have H4 := Lib.hid h4
  have HB4 := Lib.hid (HB3.out.trans hb4)
  have HK4 : Hid (Pm.Keep mine ⟨true, o.data.toList⟩ 1 [(mine, Pm.still ⟨true, o.data.toList⟩)]) := Lib.hid ⟨Pm.one_fi _ _, by simp, by rw [Pm.one_keys]; simp [mine]⟩
  clear h4 hb4 H3 HB3 hs3
  go_wp2
  go_loopw [8] (fun i wr => ∃ (j : Nat) (lf : Int) (L : Files), j ≤ 20 ∧ j ≤ la.length ∧ i = .int .i64 (j : Int) ∧ Hid (Has wr B g m 100000 false lf L) ∧ Hid (Pm.Keep mine ⟨true, o.data.toList⟩ (j + 1) L) ∧ Hid (Below B w wr) ∧ B ≤ wr.heap.size)
    (fun i _ => 20 - (intOf i).toNat)
  case atStart => exact ⟨0, 0, _, by omega, by omega, rfl, H4, HK4, HB4, hs4⟩
  case round =>
    clear H4 HK4 HB4 hs4
    obtain ⟨j, lf, L, hj, hjl, rfl, HH, HK, HBW, hBw⟩ := hrel
    by_cases hlt : j < la.length ∧ j < 20
    · obtain ⟨hlt, hlt20⟩ := hlt
      obtain ⟨ad, rfl, hadB, hc, hok⟩ := (HLA.out.below HBW.out) j hlt
      have hN := hok.n
      generalize la[j] = x at *
      obtain ⟨K, N, SA, SB, mA, ml, mc, cA, cl, cc, Y⟩ := x
      have q0 : wr.cell? (ad.add (j * 7)) = some (.int .i64 K) := hc 0 _ rfl
      have q1 : wr.cell? ⟨(ad.add (j * 7)).block, (ad.add (j * 7)).off + 1, none⟩ = some (.int .i64 N) := by rw [← addr_at ad (j * 7) 0]; exact hc 1 _ rfl
      have q2 : wr.cell? ⟨(ad.add (j * 7)).block, (ad.add (j * 7)).off + 2, none⟩ = some (.string SA) := by rw [← addr_at ad (j * 7) 1]; exact hc 2 _ rfl
      have q3 : wr.cell? ⟨(ad.add (j * 7)).block, (ad.add (j * 7)).off + 3, none⟩ = some (.string SB) := by rw [← addr_at ad (j * 7) 2]; exact hc 3 _ rfl
      have q4 : wr.cell? ⟨(ad.add (j * 7)).block, (ad.add (j * 7)).off + 4, none⟩ = some (.slice mA ml.length mc) := by rw [← addr_at ad (j * 7) 3]; exact hc 4 _ rfl
      have q5 : wr.cell? ⟨(ad.add (j * 7)).block, (ad.add (j * 7)).off + 5, none⟩ = some (.slice cA cl.length cc) := by rw [← addr_at ad (j * 7) 4]; exact hc 5 _ rfl
      have q6 : wr.cell? ⟨(ad.add (j * 7)).block, (ad.add (j * 7)).off + 6, none⟩ = some (.int .u8 Y) := by rw [← addr_at ad (j * 7) 5]; exact hc 6 _ rfl
      simp only at hN
      clear hc hok
      have hC2 := fun W => cut_any SA 5 W
      have hC3 := fun W => cut_any SB 60 W
      have hzA := cutTo_le SA 5
      have hzB := cutTo_le SB 60
      generalize cutTo SA 5 = na at *
      generalize cutTo SB 60 = tb at *
      go_wp2_with fail
      --BODY
      refine (hC2 _).mono ?_
      rintro e W' ⟨rfl, rfl⟩
      have HBx : Hid (At (wr.alloc (.cells #[.int .i64 K, .int .i64 N, .string SA, .string SB, .slice mA ml.length mc, .slice cA cl.length cc, .int .u8 Y] 37)) wr.heap.size 37 #[.int .i64 K, .int .i64 N, .string SA, .string SB, .slice mA ml.length mc, .slice cA cl.length cc, .int .u8 Y]) := Lib.hid (At.new _ _ _)
      have H5 := Lib.hid (HH.out.alloc (.cells #[.int .i64 K, .int .i64 N, .string SA, .string SB, .slice mA ml.length mc, .slice cA cl.length cc, .int .u8 Y] 37))
      have HB5 := Lib.hid (HBW.out.alloc hBw (.cells #[.int .i64 K, .int .i64 N, .string SA, .string SB, .slice mA ml.length mc, .slice cA cl.length cc, .int .u8 Y] 37))
      have hs5 : B ≤ (wr.alloc (.cells #[.int .i64 K, .int .i64 N, .string SA, .string SB, .slice mA ml.length mc, .slice cA cl.length cc, .int .u8 Y] 37)).heap.size := by simp; omega
      clear q0 q1 q2 q3 q4 q5 q6 hC2
      generalize wr.alloc (.cells #[.int .i64 K, .int .i64 N, .string SA, .string SB, .slice mA ml.length mc, .slice cA cl.length cc, .int .u8 Y] 37) = w5 at *
      have c0 : w5.cell? ⟨wr.heap.size, 0, none⟩ = some (.int .i64 K) := HBx.out.cell 0
      have c1 : w5.cell? ⟨wr.heap.size, 1, none⟩ = some (.int .i64 N) := HBx.out.cell 1
      have c3 : w5.cell? ⟨wr.heap.size, 3, none⟩ = some (.string SB) := HBx.out.cell 3
      generalize wr.heap.size = ga at *
      have hn6 := name_size na hzA
      have hnne := name_ne na
      by_cases k1 : K = 1
      · subst k1
        go_wp2_with fail
        refine (hC3 _).mono ?_
        rintro e W' ⟨rfl, rfl⟩
        go_wp2_with fail
        refine (write_stays H5.out HK.out hs5 _ tb hn6 hnne (by omega) (by omega) (by omega)).mono ?_
        rintro e w6 ⟨c6, lf6, L6, rfl, h6, hk6, hb6⟩
        have R1 := Lib.hid h6
        have R2 := Lib.hid (hk6.mono (show _ ≤ j + 1 + 1 by omega))
        have R3 : Hid (Below B w w6) := Lib.hid (HB5.out.trans hb6)
        have R4 : B ≤ w6.heap.size := Nat.le_trans h6.lt.2.2.1 (Nat.le_of_lt h6.lt.1)
        clear h6 hk6 hb6 H5 HB5 HBx HH HK HBW c0 c1 c3 hs5
        go_wp2
        go_roundw
        case rel => exact ⟨j + 1, _, _, by omega, by omega, by go_num, R1, R2, R3, R4⟩
        case measure => simp [intOf]; omega
      have b1 : (K == 1) = false := beq_eq_false_iff_ne.2 k1
      by_cases k2 : K = 2
      · subst k2
        go_wp2_with fail
        refine (hC3 _).mono ?_
        rintro e W' ⟨rfl, rfl⟩
        go_wp2_with fail
        refine (append_stays H5.out HK.out hs5 _ tb hn6 hnne (by omega) (by omega) (by omega)).mono ?_
        rintro e w6 ⟨c6, lf6, L6, rfl, h6, hk6, hb6⟩
        have R1 := Lib.hid h6
        have R2 := Lib.hid (hk6.mono (show _ ≤ j + 1 + 1 by omega))
        have R3 : Hid (Below B w w6) := Lib.hid (HB5.out.trans hb6)
        have R4 : B ≤ w6.heap.size := Nat.le_trans h6.lt.2.2.1 (Nat.le_of_lt h6.lt.1)
        clear h6 hk6 hb6 H5 HB5 HBx HH HK HBW c0 c1 c3 hs5
        go_wp2
        go_roundw
        case rel => exact ⟨j + 1, _, _, by omega, by omega, by go_num, R1, R2, R3, R4⟩
        case measure => simp [intOf]; omega
      have b2 : (K == 2) = false := beq_eq_false_iff_ne.2 k2
      by_cases k3 : K = 3
      · subst k3
        go_wp2_with fail
        refine (remove_stays H5.out HK.out hs5 _ hn6 hnne (by omega) rfl).mono ?_
        rintro e w6 ⟨c6, lf6, L6, rfl, h6, hk6, hb6⟩
        have R1 := Lib.hid h6
        have R2 := Lib.hid (hk6.mono (show _ ≤ j + 1 + 1 by omega))
        have R3 : Hid (Below B w w6) := Lib.hid (HB5.out.trans hb6)
        have R4 : B ≤ w6.heap.size := Nat.le_trans h6.lt.2.2.1 (Nat.le_of_lt h6.lt.1)
        clear h6 hk6 hb6 H5 HB5 HBx HH HK HBW c0 c1 c3 hs5
        go_wp2
        go_roundw
        case rel => exact ⟨j + 1, _, _, by omega, by omega, by go_num, R1, R2, R3, R4⟩
        case measure => simp [intOf]; omega
      have b3 : (K == 3) = false := beq_eq_false_iff_ne.2 k3
      by_cases k4 : K = 4
      · subst k4
        go_wp2_with fail
        refine (sync_stays H5.out HK.out hs5 (fun h => by cases h) _ hn6 (by omega) rfl).mono ?_
        rintro e w6 ⟨c6, lf6, L6, rfl, h6, hk6, hb6⟩
        have R1 := Lib.hid h6
        have R2 := Lib.hid (hk6.mono (show _ ≤ j + 1 + 1 by omega))
        have R3 : Hid (Below B w w6) := Lib.hid (HB5.out.trans hb6)
        have R4 : B ≤ w6.heap.size := Nat.le_trans h6.lt.2.2.1 (Nat.le_of_lt h6.lt.1)
        clear h6 hk6 hb6 H5 HB5 HBx HH HK HBW c0 c1 c3 hs5
        go_wp2
        go_roundw
        case rel => exact ⟨j + 1, _, _, by omega, by omega, by go_num, R1, R2, R3, R4⟩
        case measure => simp [intOf]; omega
      have b4 : (K == 4) = false := beq_eq_false_iff_ne.2 k4
      by_cases k5 : K = 5
      · subst k5
        go_wp2_with fail
        refine (syncall_stays H5.out HK.out hs5 (fun h => by cases h) (by omega)).mono ?_
        rintro e w6 ⟨c6, lf6, L6, rfl, h6, hk6, hb6⟩
        have R1 := Lib.hid h6
        have R2 := Lib.hid (hk6.mono (show _ ≤ j + 1 + 1 by omega))
        have R3 : Hid (Below B w w6) := Lib.hid (HB5.out.trans hb6)
        have R4 : B ≤ w6.heap.size := Nat.le_trans h6.lt.2.2.1 (Nat.le_of_lt h6.lt.1)
        clear h6 hk6 hb6 H5 HB5 HBx HH HK HBW c0 c1 c3 hs5
        go_wp2
        go_roundw
        case rel => exact ⟨j + 1, _, _, by omega, by omega, by go_num, R1, R2, R3, R4⟩
        case measure => simp [intOf]; omega
      have b5 : (K == 5) = false := beq_eq_false_iff_ne.2 k5
      by_cases k9 : K = 9
      · subst k9
        go_wp2_with fail
        have H5d : Hid (Has w5.drew B g m 100000 false lf L) := Lib.hid (by obtain ⟨us, G, hd, e⟩ := H5.out; exact ⟨us, G, hd.drew', e⟩)
        have hs5d : B ≤ w5.drew.heap.size := hs5
        have HB5d : Hid (Below B w w5.drew) := Lib.hid (HB5.out.trans (have h := Below.refl B w5; ⟨h.os, h.tape, h.output, h.size, h.block⟩))
        go_region_with (go_at_call 19; refine (fail_has H5d.out hs5d N hN.1).mono ?_; rintro e w6 ⟨rfl, h6, hb6⟩)
        have HB5 := HB5d
        clear H5d HB5d hs5d
        have hk6 := HK.out
        have R1 := Lib.hid h6
        have R2 := Lib.hid (hk6.mono (show _ ≤ j + 1 + 1 by omega))
        have R3 : Hid (Below B w w6) := Lib.hid (HB5.out.trans hb6)
        have R4 : B ≤ w6.heap.size := Nat.le_trans h6.lt.2.2.1 (Nat.le_of_lt h6.lt.1)
        clear h6 hk6 hb6 H5 HB5 HBx HH HK HBW c0 c1 c3 hs5
        go_wp2
        go_roundw
        case rel => exact ⟨j + 1, _, _, by omega, by omega, by go_num, R1, R2, R3, R4⟩
        case measure => simp [intOf]; omega
      have b9 : (K == 9) = false := beq_eq_false_iff_ne.2 k9
      have hk6 := HK.out
      have h6 := H5.out
      have hb6 := Below.refl B w5
      obtain ⟨w6, hw6⟩ : ∃ w6, w5 = w6 := ⟨_, rfl⟩
      subst hw6
      have R1 := Lib.hid h6
      have R2 := Lib.hid (hk6.mono (show _ ≤ j + 1 + 1 by omega))
      have R3 : Hid (Below B w w5) := Lib.hid (HB5.out.trans hb6)
      have R4 : B ≤ w5.heap.size := Nat.le_trans h6.lt.2.2.1 (Nat.le_of_lt h6.lt.1)
      clear h6 hk6 hb6 H5 HB5 HBx HH HK HBW c1 c3 hs5
      go_wp2
      go_roundw
      case rel => exact ⟨j + 1, _, _, by omega, by omega, by go_num, R1, R2, R3, R4⟩
      case measure => simp [intOf]; omega
    · have hex : (¬ j < la.length) ∨ (j < la.length ∧ ¬ j < 20) := by omega
      have HL5 : Hid (Lies wr B A (ints l)) := Lib.hid (HL.out.below HBW.out)
      have hC := crash_keeps HH.out HK.out (by omega) (by omega) hBw A c l HL5.out hl hlen
      have HC := Lib.hid hC
      clear hC HL5 HL HLA
      rcases hex with h1 | ⟨h1, h2⟩
      all_goals
        go_wp2_with fail
        refine HC.out.mono ?_
        rintro e w6 ⟨rfl, L6, h6, hfi, hsafe, hb6⟩
        have hs6 : B ≤ w6.heap.size := Nat.le_trans h6.lt.2.2.1 (Nat.le_of_lt h6.lt.1)
        have H6 := Lib.hid h6
        have HB6 := Lib.hid (HBW.out.trans hb6)
        have HFI := Lib.hid hfi
        have HSF := Lib.hid hsafe
        clear h6 hb6 hfi hsafe HC HH HK HBW
        go_wp2_with fail
        refine (fail_has H6.out hs6 (-1) (by omega)).mono ?_
        rintro e w7 ⟨rfl, h7, hb7⟩
        rw [show armed (-1) = 0 from rfl] at h7
        have hs7 : B ≤ w7.heap.size := Nat.le_trans h7.lt.2.2.1 (Nat.le_of_lt h7.lt.1)
        have H7 := Lib.hid h7
        have HB7 := Lib.hid (HB6.out.trans hb7)
        clear h7 hb7 H6 HB6 hs6
        have hR := read_ok H7.out hs7 ⟨#[109, 105, 110, 101]⟩ (by decide)
        rw [show Pm.fi L6 (⟨#[109, 105, 110, 101]⟩ : ByteArray).data.toList = Pm.still ⟨true, o.data.toList⟩ from HFI.out, show (Pm.still ⟨true, o.data.toList⟩).now = ⟨true, o.data.toList⟩ from rfl, if_pos rfl] at hR
        simp only at hR
        rw [show (⟨o.data.toList.toArray⟩ : ByteArray) = o by simp] at hR
        have HR := Lib.hid hR
        clear hR
        go_wp2_with fail
        refine HR.out.mono ?_
        rintro e w8 ⟨rfl, h8, hb8⟩
        have hS := safe_disk h8
        rw [HSF.out] at hS
        have HS := Lib.hid hS
        have HB8 := Lib.hid (HB7.out.trans hb8)
        have hs8 : B ≤ w8.heap.size := Nat.le_trans h8.lt.2.2.1 (Nat.le_of_lt h8.lt.1)
        clear h8 hb8 H7 HB7 hs7 HR hS
        have hoo : (o.toList == o.toList) = true := by simp
        go_wp2_with fail
        refine HS.out.mono ?_
        rintro e w9 ⟨rfl, hb9⟩
        have HB9 := Lib.hid (HB8.out.trans (hb9.mono hs8))
        clear hb9 HB8 HS
        go_wp2
        go_ret
        exact ⟨rfl, by rw [HB.out]; exact HB9.out⟩

set_option maxRecDepth 100000 in
theorem lifted (os : Os) (started : os.Started) (H : Type) (enc : TypeId × Value → H) :
    ReturnsInHanded {} Try.checked os 4 .any (Rows.platterKeepsSpec.pre6 enc Try.prog Try.f4 Rows.platterKeepsRow.domain false) (Rows.platterKeepsSpec.post enc Try.prog Try.f4 false true false false) := by
  refine returnsInHanded_of_change (C := Try.checked) own started (by kernel_rfl) Try.func4
    (ChangeSpec.witness6 (enc := enc) (C := Try.checked) false ⟨#[], #[.string ⟨#[]⟩, .slice none 0 0, .slice none 0 0], []⟩ 8 (by kernel_rfl) (by kernel_rfl) (by kernel_rfl) (by kernel_rfl)) ?_
  intro W base args ds gs before hval0 hW hcnd _
  have hval : ∀ (j : Nat) t v, Try.f4.params[j]? = some t → args[j]? = some v → Value.okWide Try.prog W .any base t v := hval0
  have hW' := hW
  obtain ⟨p, q, hA0, hV, rfl, hfz, hnd⟩ := hW
  have hA : DataW.TrodAll enc Try.prog W 0 (fun _ => true) true Try.f4.params.toList args.toList ds p := hA0
  rw [Try.params4] at hA hval
  obtain ⟨v0, vs0, d0, ds0, p0, q0, hargs, rfl, rfl, h0, r0⟩ := trodAll_cons hA
  obtain ⟨v1, vs1, d1, ds1, p1, q1, rfl, rfl, rfl, h1, r1⟩ := trodAll_cons r0
  obtain ⟨v2, vs2, d2, ds2, p2, q2, rfl, rfl, rfl, h2, r2⟩ := trodAll_cons r1
  obtain ⟨rfl, rfl, rfl⟩ := trodAll_nil r2
  obtain rfl : args = #[v0, v1, v2] := by cases args; simp_all
  obtain ⟨rfl, rfl⟩ := trodVars_none hV
  obtain ⟨s0, rfl, rfl, rfl, hs0⟩ := open_string Try.underlying9 (hval 0 9 v0 rfl rfl) h0
  obtain ⟨Aa, ca, la, rfl, _, hLa⟩ := open_acts (hval 1 22 v1 rfl rfl) h1
  obtain ⟨A1, c1, l, rfl, hc2, hL2, hl2⟩ := open_list_ints Try.underlying35 Try.underlying3 (by kernel_rfl) (hval 2 35 v2 rfl rfl) h2
  refine (walk s0 Aa ca la A1 c1 l W hLa (slice_max Try.underlying22 h1) hL2 hl2 (slice_max Try.underlying35 h2)).mono fun e W' ⟨he, hg⟩ => ?_
  subst he
  exact ⟨_, rfl, law_post (tb := 4) hW' rfl (by kernel_rfl) Try.underlying4 (by rw [Try.params4]; decide +kernel) rfl hg⟩

theorem proved : Rows.PlatterKeepsSaid :=
  OpenClaim.holds_of_wide 4 Try.f4 rfl rfl rfl rfl rfl rfl rfl ⟨rfl, rfl, rfl, rfl, rfl⟩ rfl rfl rfl rfl rfl (by kernel_rfl) Try.func4 (by kernel_rfl)
    (of_decide_eq_true (by kernel_rfl)) (by unfold Func.isWrapper; first | (rw [if_pos (by decide +kernel)]; kernel_rfl) | (rw [if_neg (by decide +kernel)]; exact ⟨rfl, rfl⟩))
    (fun os started H enc _ => lifted os started H enc)
#print axioms proved
end Go.Proofs.Ytokepandiigjlaa.platterKeeps
