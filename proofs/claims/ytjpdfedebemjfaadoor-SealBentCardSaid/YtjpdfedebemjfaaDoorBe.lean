/- glacierlaw02.SealBent: its walk. -/
import Derived.Test.YtjpdfedebemjfaaDoorSb
import Derived.Test.YtjpdfedebemjfaaDoorTo
import Derived.Test.YtjpdfedebemjfaaDoorBy
import Derived.BigRegion
import Derived.Deep.CutRange
import Derived.Laws.BitsAllLaws
namespace Go.Proofs.YtjpdfedebemjfaaDoor
open Go.RowKit
open Sm

theorem frames_at (fs : List (List UInt8)) (j : Nat) (h : j < fs.length) : (frames (fs.take (j + 1))).length = (frames (fs.take j)).length + 8 + (fs[j]).length := by
  rw [frames_take h, List.length_append, frameL_len]; omega
theorem frames_le (fs : List (List UInt8)) (j : Nat) : (frames (fs.take j)).length ≤ (frames fs).length := by
  have e : frames fs = frames (fs.take j) ++ frames (fs.drop j) := by rw [← frames_append, List.take_append_drop]
  rw [e, List.length_append]; omega

/-- some byte of the first k is another -/
def chg (d : Nat → UInt8) : Nat → Bool
  | 0 => false
  | k + 1 => chg d k || (d k != 0)

theorem chg_false {d : Nat → UInt8} : ∀ {k : Nat}, chg d k = false → ∀ i, i < k → d i = 0 := by
  intro k
  induction k with
  | zero => intro _ i h; omega
  | succ k ih =>
    intro h i hi
    unfold chg at h
    rw [Bool.or_eq_false_iff] at h
    rcases Nat.lt_succ_iff_lt_or_eq.1 hi with h1 | rfl
    · exact ih h.1 i h1
    · simpa using h.2
theorem chg_true {d : Nat → UInt8} : ∀ {k : Nat}, chg d k = true → ∃ i, i < k ∧ d i ≠ 0 := by
  intro k
  induction k with
  | zero => intro h; simp [chg] at h
  | succ k ih =>
    intro h
    unfold chg at h
    rw [Bool.or_eq_true_iff] at h
    rcases h with h | h
    · obtain ⟨i, h1, h2⟩ := ih h
      exact ⟨i, by omega, h2⟩
    · exact ⟨k, by omega, by simpa using h⟩
theorem byte_of (v k : Nat) : ((UInt8.ofNat (v / 2 ^ (8 * k))).toNat : Int) = (v : Int) / 2 ^ (8 * k) % 256 := by
  simp
set_option maxRecDepth 100000 in
set_option maxHeartbeats 2000000 in
theorem walk_bent (l : List ByteArray) (A : Option Addr) (c : Nat) (which at' : Int) (sum : Bool) (by' : Nat) (_hby : by' < 4294967296) (w : World) (hS : Steps w) (hL : Lies w w.heap.size A (strs l)) :
    Calls Tryd.prog 5 #[.slice A l.length c, .int .i64 which, .int .i64 at', .bool sum, .int .u32 (by' : Nat)] w fun e w' => e = .returned (.bool true) ∧ Below w.heap.size w w' := by
  have hLd := laid_any l A c w hS hL
  have hfl := laid_len l
  have h6 := laidTexts_len l
  have HFl : Hid (∀ x ∈ laidTexts l, x.length ≤ 50) := Lib.hid (laidTexts_le l)
  generalize laidTexts l = fs at *
  obtain ⟨s1, hs1⟩ : ∃ s, (⟨(frames fs).toArray⟩ : ByteArray) = s := ⟨_, rfl⟩
  have hz1 : s1.size = (frames fs).length := by rw [← hs1, str_len]
  have hzl : s1.size ≤ 348 := by omega
  have hd1 : s1.data.toList = frames fs := by rw [← hs1]
  unfold LaidRet at hLd
  rw [hs1] at hLd
  have HD := Lib.hid hd1; clear hd1
  have HZ := Lib.hid hz1; clear hz1
  have HS := Lib.hid hS; clear hS
  clear hL
  have HA := Lib.hid (fun W (h : Steps W) => awake_any W h)
  clear hs1 hfl
  by_cases hout : which < 0 ∨ (fs.length : Int) ≤ which ∨ at' < 0
  · go_enter Tryd.func5, Tryd.ntmps5
    go_wp2_with fail
    refine hLd.mono ?_
    rintro z w1 ⟨A1, c1, rfl, hL1, hA1, hb1⟩
    have B1 := Lib.hid hb1
    have S1 := Lib.hid (HS.out.below hb1 HS.out.1)
    clear hLd hb1 hL1 hA1
    go_wp2_with fail
    refine (HA.out w1 S1.out).mono ?_
    rintro z w2 ⟨rfl, hb2⟩
    have B2 := Lib.hid (B1.out.trans (hb2.mono B1.out.size))
    have S2 := Lib.hid (S1.out.below hb2 S1.out.1)
    clear hb2 B1 S1
    have hcs : which < 0 ∨ (¬ which < 0 ∧ (fs.length : Int) ≤ which) ∨ (¬ which < 0 ∧ ¬ (fs.length : Int) ≤ which ∧ at' < 0) := by omega
    clear hout
    rcases hcs with h1 | ⟨h1, h2⟩ | ⟨h1, h2, h3⟩
    all_goals
      go_wp2_with fail
      refine (HA.out w2 S2.out).mono ?_
      rintro z w3 ⟨rfl, hb3⟩
      have B3 := Lib.hid (B2.out.trans (hb3.mono B2.out.size))
      clear hb3
      go_wp2
      go_ret
      exact ⟨rfl, B3.out⟩
  · obtain ⟨j, rfl⟩ := Int.eq_ofNat_of_zero_le (by omega : 0 ≤ which)
    obtain ⟨a, rfl⟩ := Int.eq_ofNat_of_zero_le (by omega : 0 ≤ at')
    have hj : j < fs.length := by omega
    clear hout
    have hfa := frames_at fs j hj
    have hfle := frames_le fs (j + 1)
    rw [← HZ.out] at hfle
    go_enter Tryd.func5, Tryd.ntmps5
    go_wp2_with fail
    refine hLd.mono ?_
    rintro z w1 ⟨A1, c1, rfl, hL1, hA1, hb1⟩
    have B1 := Lib.hid hb1
    have S1 := Lib.hid (HS.out.below hb1 HS.out.1)
    have L1 := Lib.hid hL1
    clear hLd hb1 hL1 hA1
    go_wp2_with fail
    refine (HA.out w1 S1.out).mono ?_
    rintro z w2 ⟨rfl, hb2⟩
    have B2 := Lib.hid (B1.out.trans (hb2.mono B1.out.size))
    have S2 := Lib.hid (S1.out.below hb2 S1.out.1)
    have L2 := Lib.hid (L1.out.below hb2)
    clear hb2 B1 S1 L1 HA
    obtain ⟨ad, rfl, hadB, hc⟩ := L2.out.round (k := j) (by simpa [ints, endsOf_len] using hj)
    have hval : ((ints (endsOf fs))[j]'(by simpa [ints, endsOf_len] using hj)) = .int .i64 ((frames (fs.take (j + 1))).length : Int) := by simp [ints, endsOf]
    rw [hval, hfa] at hc
    rw [hfa] at hfle
    clear hval hfa
    have hx50 : (fs[j]).length ≤ 50 := HFl.out _ (List.getElem_mem hj)
    obtain ⟨q, hq⟩ : ∃ q, (frames (fs.take j)).length = q := ⟨_, rfl⟩
    rw [hq] at hc hfle
    obtain ⟨xn, hxn⟩ : ∃ n, (fs[j]).length = n := ⟨_, rfl⟩
    rw [hxn] at hc hfle hx50
    have hc0 : 0 < j → w2.cell? (ad.add (j - 1)) = some (.int .i64 (q : Int)) := fun h0 => by
      obtain ⟨ad', he, _, hc'⟩ := L2.out.round (k := j - 1) (by simp [ints, endsOf_len]; omega)
      obtain rfl := Option.some.inj he
      have hval : ((ints (endsOf fs))[j - 1]'(by simp [ints, endsOf_len]; omega)) = .int .i64 ((frames (fs.take (j - 1 + 1))).length : Int) := by simp [ints, endsOf]
      rw [hval, show j - 1 + 1 = j by omega, hq] at hc'
      exact hc'
    have hq0 : j = 0 → q = 0 := fun h0 => by rw [← hq, h0]; rfl
    have HQ := Lib.hid hq; clear hq
    have HX := Lib.hid hxn; clear hxn
    have hc' : w2.cell? (ad.add j) = some (.int .i64 ((q : Int) + 8 + (xn : Int))) := by rw [hc]; rfl
    clear hc
    go_upto_if 44 with fail
    go_cut [13] from 43 to 49 (fun b wx => b = .int .i64 (q : Int) ∧ w2 = wx)
    case first =>
      by_cases h0 : 0 < j
      · have hcc := hc0 h0
        have hj1 : ((j : Int) - 1).toNat = j - 1 := by omega
        clear hc0 hq0
        go_wp2
        go_meet
        exact ⟨rfl, rfl⟩
      · have hj0 : j = 0 := by omega
        have hqz := hq0 hj0
        subst hqz
        clear hc0 hq0
        go_wp2
        go_meet
        exact ⟨rfl, rfl⟩
    case rest =>
      obtain ⟨rfl, rfl⟩ := hcut
      clear hc0 hq0
      obtain ⟨f, hf⟩ : ∃ f : Nat, f = q + fromOf sum := ⟨_, rfl⟩
      obtain ⟨sz, hsz⟩ : ∃ sz : Nat, sz = sizeOf' sum fs[j] := ⟨_, rfl⟩
      go_wp2
      go_quiet (fail)
      go_upto_if 56 with fail
      go_cut [14, 15] from 56 to 60 (fun fv tv wx => fv = .int .i64 (f : Int) ∧ tv = .int .i64 ((f : Int) + (sz : Int)) ∧ ∃ n, w2.drewN n = wx)
      case first =>
        have hv : ∀ a b : Int, a = b → Value.int .i64 a = .int .i64 b := fun a b h => by rw [h]
        cases sum
        · go_wp2
          go_meet
          have e1 : fromOf false = 8 := rfl
          have e2 : sizeOf' false fs[j] = (fs[j]).length := rfl
          have := HX.out
          exact ⟨hv _ _ (by omega), hv _ _ (by omega), _, rfl⟩
        · go_wp2
          go_meet
          have e1 : fromOf true = 4 := rfl
          have e2 : sizeOf' true fs[j] = 4 := rfl
          exact ⟨hv _ _ (by omega), hv _ _ (by omega), _, rfl⟩
      case rest =>
        obtain ⟨rfl, rfl, nq, rfl⟩ := hcut
        have hfs : f + sz ≤ s1.size := by
          rw [hf, hsz]
          cases sum
          · have e1 : fromOf false = 8 := rfl
            have e2 : sizeOf' false fs[j] = (fs[j]).length := rfl
            have := HX.out
            omega
          · have e1 : fromOf true = 4 := rfl
            have e2 : sizeOf' true fs[j] = 4 := rfl
            omega
        have HFS := Lib.hid (And.intro hf hsz); clear hf hsz
        by_cases hge : sz ≤ a
        · have hge' : (f : Int) + (sz : Int) - (f : Int) ≤ (a : Int) := by omega
          go_wp2
          go_ret
          exact ⟨rfl, below_drewN B2.out _⟩
        · have hge' : ¬ (f : Int) + (sz : Int) - (f : Int) ≤ (a : Int) := by omega
          have hcv := fun W => run_bytes_of_string (P := Tryd.prog) W 9 45 5 s1 Tryd.underlying9 Tryd.underlying45 Tryd.underlying5
          go_wp2
          have BA := Lib.hid (BytesAt.new (t := 5) (w2.drewN nq) s1 (grownCap (w2.drewN nq) s1.size 0 5) w2.heap.size rfl)
          have B3 : Hid (Below w.heap.size w ((w2.drewN (nq + 1)).alloc (.cells (bytesRow s1 (grownCap (w2.drewN nq) s1.size 0 5)) 5 ((bytesRow s1 (grownCap (w2.drewN nq) s1.size 0 5)).size, (bytesRow s1 (grownCap (w2.drewN nq) s1.size 0 5)).size + 1)))) := Lib.hid ((below_drewN B2.out (nq + 1)).alloc B2.out.size _)
          rw [show (w2.drewN nq).drew = w2.drewN (nq + 1) from rfl] at BA
          generalize grownCap (w2.drewN nq) s1.size 0 5 = cap at *
          generalize (w2.drewN (nq + 1)).alloc (.cells (bytesRow s1 cap) 5 ((bytesRow s1 cap).size, (bytesRow s1 cap).size + 1)) = W3 at *
          have hG : w.heap.size ≤ w2.heap.size := B2.out.size
          generalize w2.heap.size = G at *
          rw [HD.out] at BA
          obtain ⟨d, hdd⟩ : ∃ d : Nat → UInt8, d = fun k => UInt8.ofNat (by' / 2 ^ (8 * k)) := ⟨_, rfl⟩
          have HDD : Hid (∀ k, d k = UInt8.ofNat (by' / 2 ^ (8 * k))) := Lib.hid (fun k => by rw [hdd])
          clear hdd hcv
          have hfl : (frames fs).length = s1.size := HZ.out.symm
          go_loopw [17, 18] (fun ch i wr => ∃ k : Nat, k ≤ 4 ∧ a + k ≤ sz ∧ ch = .bool (chg d k) ∧ i = .int .i64 (k : Int) ∧ Hid (BytesAt wr G 5 (bendL (frames fs) (f + a) k d)) ∧ Hid (Below w.heap.size w wr))
            (fun _ i _ => 4 - (intOf i).toNat)
          case atStart => exact ⟨0, by omega, by omega, rfl, rfl, by rw [bendL_zero]; exact BA, B3⟩
          case round =>
            clear BA B3
            obtain ⟨k, hk4, hks, rfl, rfl, BA, BB⟩ := hrel
            by_cases hlt : k < 4 ∧ a + k < sz
            · obtain ⟨hlt4, hlts⟩ := hlt
              have hpl : f + a + k < (frames fs).length := by omega
              have hcell := BA.out.cell (i := f + a + k) (by rw [bendL_len]; exact hpl)
              have hfro := BA.out.frozen (i := f + a + k) (by rw [bendL_len]; exact hpl)
              rw [bendL_get _ _ _ _ hpl] at hcell
              have HSu := Lib.hid (bendL_succ (frames fs) (f + a) k d hpl)
              have htn : ((f : Int) + (a : Int) + (k : Int)).toNat = f + a + k := rfl
              have hlt' : (f : Int) + (a : Int) + (k : Int) < (f : Int) + (sz : Int) := by omega
              have hk3 : (k : Int) < 4 := by omega
              generalize (frames fs)[f + a + k] = b0 at *
              have hxb : bits .xor .u8 (b0.toNat : Int) ((d k).toNat : Int) = ((b0 ^^^ d k).toNat : Int) := by rw [u8_xor_nat _ _ (b0.toNat_lt) (UInt8.toNat_lt _), UInt8.toNat_xor]
              have hbt : (by' : Int) / 2 ^ (8 * k) % 256 = ((d k).toNat : Int) := by rw [HDD.out, byte_of]
              have BS := Lib.hid (BytesAt.set BA.out (i := f + a + k) (by rw [bendL_len]; exact hpl) (b0 ^^^ d k))
              rw [← HSu.out] at BS
              have hBG : G < wr.heap.size := BA.out.lt
              have hne : d k ≠ 0 → (((d k).toNat : Int) != 0) = true := fun h => by
                rw [bne_iff_ne]
                intro e
                exact h (UInt8.toNat_inj.1 (by simpa using e))
              have hnz : d k = 0 → (((d k).toNat : Int) != 0) = false := fun h => by rw [h]; rfl
              have hchs : chg d (k + 1) = (chg d k || (d k != 0)) := rfl
              have HC1 : d k ≠ 0 → chg d (k + 1) = true := fun h => by rw [hchs, Bool.or_eq_true_iff]; exact .inr (by simpa using h)
              have HC2 : chg d k = true → chg d (k + 1) = true := fun h => by rw [hchs, h]; rfl
              have HC3 : chg d k = false → d k = 0 → chg d (k + 1) = false := fun h h' => by rw [hchs, h, h']; rfl
              have HC1 := Lib.hid HC1
              have HC2 := Lib.hid HC2
              have HC3 := Lib.hid HC3
              clear hchs
              have Hne := Lib.hid hne; clear hne
              have Hnz := Lib.hid hnz; clear hnz
              go_wp2
              go_region
              have BB2 : Hid (Below w.heap.size w (wr.setCell ⟨G, f + a + k, none⟩ (.int .u8 ((b0 ^^^ d k).toNat : Int))).drew) := Lib.hid (below_drewN (BB.out.setCell hG _) 1)
              have BS2 : Hid (BytesAt (wr.setCell ⟨G, f + a + k, none⟩ (.int .u8 ((b0 ^^^ d k).toNat : Int))).drew G 5 (bendL (frames fs) (f + a) (k + 1) d)) := BS
              clear BS BA BB
              rw [show ((b0.toNat ^^^ (d k).toNat : Nat) : Int) = ((b0 ^^^ d k).toNat : Int) by rw [UInt8.toNat_xor]]
              generalize (wr.setCell ⟨G, f + a + k, none⟩ (.int .u8 ((b0 ^^^ d k).toNat : Int))).drew = W5 at *
              clear hcell hfro hxb hBG
              obtain hch | hch : chg d k = true ∨ chg d k = false := by cases chg d k <;> simp
              · have hc2 := Lib.hid (HC2.out hch)
                rw [hch]
                clear hch
                go_wp2
                go_roundw
                case rel => exact ⟨k + 1, by omega, by omega, by rw [hc2.out], by go_num, BS2, BB2⟩
                case measure => simp [intOf]; omega
              · by_cases hdk : d k = 0
                · have hc3 := Lib.hid (HC3.out hch hdk)
                  have hz := Hnz.out hdk
                  rw [hch]
                  clear hch hdk
                  go_wp2
                  go_roundw
                  case rel => exact ⟨k + 1, by omega, by omega, by rw [hc3.out], by go_num, BS2, BB2⟩
                  case measure => simp [intOf]; omega
                · have hc3 := Lib.hid (HC1.out hdk)
                  have hz := Hne.out hdk
                  rw [hch]
                  clear hch hdk
                  go_wp2
                  go_roundw
                  case rel => exact ⟨k + 1, by omega, by omega, by rw [hc3.out], by go_num, BS2, BB2⟩
                  case measure => simp [intOf]; omega
            · have hll : (bendL (frames fs) (f + a) k d).length = s1.size := by rw [bendL_len, hfl]
              have hcb := run_convert_bytes_back (P := Tryd.prog) wr 45 9 5 ⟨G, 0, none⟩ cap (bendL (frames fs) (f + a) k d) Tryd.underlying45 Tryd.underlying5 Tryd.underlying9 (fun j hj => by
                have e : (⟨G, 0, none⟩ : Addr).add j = ⟨G, j, none⟩ := by simp [Addr.add]; omega
                rw [e]; exact BA.out.cell hj)
              rw [hll] at hcb
              have hres : scanL (bendL (frames fs) (f + a) k d) = if chg d k = true then (fs.take j, q) else (fs, s1.size) := by
                have hlen : ∀ x ∈ fs, x.length ≤ 1048576 := fun x hx => by have := HFl.out x hx; omega
                split
                · rename_i h
                  have := scan_bent fs j hj hlen sum a k d hk4 (by rw [← HFS.out.2]; exact hks) (chg_true h)
                  rw [HQ.out, ← HFS.out.1] at this
                  exact this
                · rename_i h
                  rw [bendL_same _ _ _ _ (chg_false (by simpa using h)), scan_all fs hlen, hfl]
              obtain ⟨T, hT⟩ : ∃ T, (⟨(bendL (frames fs) (f + a) k d).toArray⟩ : ByteArray) = T := ⟨_, rfl⟩
              have hTl : T.data.toList = bendL (frames fs) (f + a) k d := by rw [← hT]
              have hTz : T.size = s1.size := by rw [← hT, str_len, hll]
              rw [hT] at hcb
              have hSc := scan_any T (by omega) wr (HS.out.below BB.out HS.out.1)
              rw [hTl, hres] at hSc
              unfold ScanRet at hSc
              have BB1 := BB
              clear hT hTl hres hll BA BB
              have hcs : (k = 4) ∨ (k < 4 ∧ a + k = sz) := by omega
              obtain hch | hch : chg d k = true ∨ chg d k = false := by cases chg d k <;> simp
              · rw [hch] at hSc ⊢
                rw [if_pos rfl] at hSc
                have htl : (fs.take j).length = j := by rw [List.length_take]; omega
                simp only [htl] at hSc
                clear hch htl hlt
                rcases hcs with rfl | ⟨h1, h2⟩
                · go_wp2_with fail
                  refine hSc.mono ?_
                  rintro z w6 ⟨A6, c6, rfl, hL6, hA6, hb6⟩
                  have B6 := Lib.hid (BB1.out.trans (hb6.mono BB1.out.size))
                  clear hSc hL6 hA6 hb6 hcb
                  go_wp2
                  go_ret
                  exact ⟨rfl, B6.out⟩
                · have h3 : ¬ (f : Int) + (a : Int) + (k : Int) < (f : Int) + (sz : Int) := by omega
                  have h4 : (k : Int) < 4 := by omega
                  go_wp2_with fail
                  refine hSc.mono ?_
                  rintro z w6 ⟨A6, c6, rfl, hL6, hA6, hb6⟩
                  have B6 := Lib.hid (BB1.out.trans (hb6.mono BB1.out.size))
                  clear hSc hL6 hA6 hb6 hcb
                  go_wp2
                  go_ret
                  exact ⟨rfl, B6.out⟩
              · rw [hch] at hSc ⊢
                rw [if_neg (by simp)] at hSc
                clear hch hlt
                rcases hcs with rfl | ⟨h1, h2⟩
                · go_wp2_with fail
                  refine hSc.mono ?_
                  rintro z w6 ⟨A6, c6, rfl, hL6, hA6, hb6⟩
                  have B6 := Lib.hid (BB1.out.trans (hb6.mono BB1.out.size))
                  clear hSc hL6 hA6 hb6 hcb
                  go_wp2
                  go_ret
                  exact ⟨rfl, B6.out⟩
                · have h3 : ¬ (f : Int) + (a : Int) + (k : Int) < (f : Int) + (sz : Int) := by omega
                  have h4 : (k : Int) < 4 := by omega
                  go_wp2_with fail
                  refine hSc.mono ?_
                  rintro z w6 ⟨A6, c6, rfl, hL6, hA6, hb6⟩
                  have B6 := Lib.hid (BB1.out.trans (hb6.mono BB1.out.size))
                  clear hSc hL6 hA6 hb6 hcb
                  go_wp2
                  go_ret
                  exact ⟨rfl, B6.out⟩
end Go.Proofs.YtjpdfedebemjfaaDoor
