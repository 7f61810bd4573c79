/- 'what is written is taken again': glacierlaw01.WireBack returns true for every input. No condition. -/
import Derived.Test.YtfapnblajcfjfaaBk
import Derived.Test.YtfapnblajcfjfaaLw
import Derived.Test.YtfapnblajcfjfaaOt
import Derived.Test.YtfapnblajcfjfaaRows
import Derived.ProofKit
import Derived.OpenShut
import Derived.Deep.RegionHeld3
namespace Go.Proofs.Ytfapnblajcfjfaa.wireBack
open Go.ChangeShapes Go.WideShapes Go.ChangeAt Go.RowKit
open Wm (num)

theorem own : ownKnob Try.prog.godebug = none := by kernel_rfl

set_option maxRecDepth 100000 in
set_option maxHeartbeats 8000000 in
theorem walk (A : Option Addr) (c : Nat) (l : List Th) (w : World) (hT : Things w w.heap.size A l) :
    Calls Try.prog 4 #[.slice A l.length c] w fun e w' => e = .returned (.bool true) ∧ Below w.heap.size w w' := by
  have hok0 : ∀ x ∈ l, x.ok w w.heap.size := fun x hx => by
    obtain ⟨i, hi, rfl⟩ := List.getElem_of_mem hx
    obtain ⟨_, _, _, _, h⟩ := hT i hi
    exact h
  have HOK := Lib.hid hok0; clear hok0
  have HTh := Lib.hid hT; clear hT
  go_enter Try.func4, Try.ntmps4
  go_wp2_with fail
  refine (awake_any _).mono ?_
  rintro z V0 ⟨rfl, hb0⟩
  have hs0 := hb0.size
  go_wp2_with fail
  have he0 := EncIs.new V0
  have hbW : Below w.heap.size w (V0.alloc (.cells #[.pointer none, .int .i64 0] 26)) := hb0.alloc hs0 _
  have hsW : (V0.alloc (.cells #[.pointer none, .int .i64 0] 26)).heap.size = V0.heap.size + 1 := by simp
  have hge : w.heap.size ≤ V0.heap.size := hs0
  generalize V0.heap.size = G at *
  generalize V0.alloc (.cells #[.pointer none, .int .i64 0] 26) = W0 at *
  have HE0 := Lib.hid he0; clear he0
  have HB0 := Lib.hid hbW; clear hbW hb0
  have HS0 := Lib.hid hsW; clear hsW
  go_loopw [4] (fun i wr => ∃ k : Nat, k ≤ l.length ∧ k ≤ 20 ∧ i = .int .i64 (k : Int) ∧ Hid (EncIs wr G (things (l.take k))) ∧ Hid (Below w.heap.size w wr))
    (fun i _ => 20 - (intOf i).toNat)
  case atStart => exact ⟨0, by omega, by omega, rfl, by simpa [things] using HE0, HB0⟩
  case round =>
    obtain ⟨k, hk, hk20, rfl, HE, HB⟩ := hrel
    have hln : (things (l.take k)).length ≤ 4400 := by
      have := things_len w w.heap.size (l.take k) (fun x hx => HOK.out x (List.mem_of_mem_take hx))
      rw [List.length_take] at this
      omega
    by_cases hlt : k < l.length ∧ k < 20
    · obtain ⟨hlt, hlt20⟩ := hlt
      obtain ⟨ad, rfl, hadB, hc, hok⟩ := HTh.out.below HB.out k hlt
      have HT := Lib.hid (things_take hlt)
      generalize l[k] = x at *
      obtain ⟨K, N, M, U, I, S, A', L, c'⟩ := x
      have q0 : wr.cell? (ad.add (k * 7)) = some (.int .i64 K) := hc 0 _ rfl
      have q1 : wr.cell? ⟨(ad.add (k * 7)).block, (ad.add (k * 7)).off + 1, none⟩ = some (.int .i64 N) := by rw [← addr_at ad (k * 7) 0]; exact hc 1 _ rfl
      have q2 : wr.cell? ⟨(ad.add (k * 7)).block, (ad.add (k * 7)).off + 2, none⟩ = some (.int .i64 M) := by rw [← addr_at ad (k * 7) 1]; exact hc 2 _ rfl
      have q3 : wr.cell? ⟨(ad.add (k * 7)).block, (ad.add (k * 7)).off + 3, none⟩ = some (.int .u64 (U : Nat)) := by rw [← addr_at ad (k * 7) 2]; exact hc 3 _ rfl
      have q4 : wr.cell? ⟨(ad.add (k * 7)).block, (ad.add (k * 7)).off + 4, none⟩ = some (.bool I) := by rw [← addr_at ad (k * 7) 3]; exact hc 4 _ rfl
      have q5 : wr.cell? ⟨(ad.add (k * 7)).block, (ad.add (k * 7)).off + 5, none⟩ = some (.string S) := by rw [← addr_at ad (k * 7) 4]; exact hc 5 _ rfl
      have q6 : wr.cell? ⟨(ad.add (k * 7)).block, (ad.add (k * 7)).off + 6, none⟩ = some (.slice A' L.length c') := by rw [← addr_at ad (k * 7) 5]; exact hc 6 _ rfl
      clear hc
      have hP := put_any G (things (l.take k)) ⟨K, N, M, U, I, S, A', L, c'⟩ wr HE.out ⟨hok.1, hok.2.1, hok.2.2.1, hok.2.2.2.1, hok.2.2.2.2.more hge⟩ (by omega)
      clear hok
      unfold Th.val at hP
      have hsz := HB.out.size
      go_wp2_with fail
      refine hP.mono ?_
      rintro z w1 ⟨rfl, hi, hg⟩
      have R1 := Lib.hid hi
      have R2 := Lib.hid (below_of_grownBy HB.out hg hsz hge)
      clear hP hi hg HE HB q0 q1 q2 q3 q4 q5 q6
      go_wp2
      go_roundw
      case rel => exact ⟨k + 1, by omega, by omega, by go_num, by rw [HT.out]; exact R1, R2⟩
      case measure => simp [intOf]; omega
    · have hX : l.take k = l.take 20 := by
        rcases Nat.lt_or_ge k l.length with h | h
        · have : k = 20 := by omega
          rw [this]
        · rw [List.take_of_length_le h, List.take_of_length_le (by omega)]
      rw [hX] at HE hln
      have hex : (¬ k < l.length) ∨ (k < l.length ∧ ¬ k < 20) := by omega
      clear hlt hX
      rcases hex with h1 | ⟨h1, h2⟩
      all_goals
        go_wp2_with fail
        refine (bytes_any G _ wr HE.out (by omega)).mono ?_
        rintro z w1 ⟨rfl, hb1⟩
        have B1 := Lib.hid (HB.out.trans (hb1.mono HB.out.size))
        clear hb1 HB HE
        obtain ⟨F, hF⟩ : ∃ F, (⟨(things (l.take 20)).toArray⟩ : ByteArray) = F := ⟨_, rfl⟩
        obtain ⟨hFz, hFl⟩ := list_of_string hF
        rw [hF]
        have HF := Lib.hid hFl
        have hFb : F.size ≤ 140737488355328 := by omega
        clear hF hFz hFl
        go_wp2_with fail
        refine (from_any F w1 hFb).mono ?_
        rintro z w2 ⟨g, rfl, hg2, hd2, hb2⟩
        rw [HF.out] at hd2
        have D2 := Lib.hid hd2
        have B2 := Lib.hid (B1.out.trans (hb2.mono B1.out.size))
        have hgg : w.heap.size ≤ g := by have := B1.out.size; omega
        clear hd2 hb2 B1 hFb hg2
        have h20 : (l.take 20).length ≤ 20 := List.length_take_le _ _
        have HOK2 : Hid (∀ x ∈ l.take 20, x.ok w w.heap.size) := Lib.hid fun x hx => HOK.out x (List.mem_of_mem_take hx)
        clear HE0 HB0 HS0
        go_wp2
        obtain ⟨wo, rfl⟩ : ∃ wo : World, wo = wr := ⟨_, rfl⟩
        obtain ⟨ko, rfl⟩ : ∃ ko : Nat, ko = k := ⟨_, rfl⟩
        go_loopw [6] (fun i wr => ∃ k : Nat, k ≤ l.length ∧ k ≤ 20 ∧ i = .int .i64 (k : Int) ∧ Hid (DecIs wr g (things ((l.take 20).drop k)) 0) ∧ Hid (Below w.heap.size w wr))
          (fun i _ => 20 - (intOf i).toNat)
        case atStart => exact ⟨0, by omega, by omega, rfl, by simpa using D2, B2⟩
        case round =>
          clear D2 B2
          obtain ⟨k, hk, hk20, rfl, HD, HB⟩ := hrel
          by_cases hlt : k < l.length ∧ k < 20
          · obtain ⟨hlt, hlt20⟩ := hlt
            obtain ⟨ad, rfl, hadB, hc, hok⟩ := HTh.out.below HB.out k hlt
            have hlt2 : k < (l.take 20).length := by rw [List.length_take]; omega
            have hTd := things_drop hlt2
            rw [List.getElem_take] at hTd
            have HT := Lib.hid hTd; clear hTd
            generalize l[k] = x at *
            obtain ⟨K, N, M, U, I, S, A', L, c'⟩ := x
            have q0 : wr.cell? (ad.add (k * 7)) = some (.int .i64 K) := hc 0 _ rfl
            have q1 : wr.cell? ⟨(ad.add (k * 7)).block, (ad.add (k * 7)).off + 1, none⟩ = some (.int .i64 N) := by rw [← addr_at ad (k * 7) 0]; exact hc 1 _ rfl
            have q2 : wr.cell? ⟨(ad.add (k * 7)).block, (ad.add (k * 7)).off + 2, none⟩ = some (.int .i64 M) := by rw [← addr_at ad (k * 7) 1]; exact hc 2 _ rfl
            have q3 : wr.cell? ⟨(ad.add (k * 7)).block, (ad.add (k * 7)).off + 3, none⟩ = some (.int .u64 (U : Nat)) := by rw [← addr_at ad (k * 7) 2]; exact hc 3 _ rfl
            have q4 : wr.cell? ⟨(ad.add (k * 7)).block, (ad.add (k * 7)).off + 4, none⟩ = some (.bool I) := by rw [← addr_at ad (k * 7) 3]; exact hc 4 _ rfl
            have q5 : wr.cell? ⟨(ad.add (k * 7)).block, (ad.add (k * 7)).off + 5, none⟩ = some (.string S) := by rw [← addr_at ad (k * 7) 4]; exact hc 5 _ rfl
            have q6 : wr.cell? ⟨(ad.add (k * 7)).block, (ad.add (k * 7)).off + 6, none⟩ = some (.slice A' L.length c') := by rw [← addr_at ad (k * 7) 5]; exact hc 6 _ rfl
            clear hc
            obtain ⟨hN, hU, hL, hLc, hLies⟩ := hok
            simp only at hN hU hL hLc hLies
            have HL := Lib.hid hL; clear hL
            have HLi := Lib.hid hLies; clear hLies
            have hsr := HB.out.size
            have hgr : g < wr.heap.size := At.lt HD.out
            have B3 : Hid (Below w.heap.size w (wr.alloc (.cells #[.int .i64 K, .int .i64 N, .int .i64 M, .int .u64 (U : Nat), .bool I, .string S, .slice A' L.length c'] 31))) := Lib.hid (HB.out.alloc hsr _)
            have D3 : Hid (DecIs (wr.alloc (.cells #[.int .i64 K, .int .i64 N, .int .i64 M, .int .u64 (U : Nat), .bool I, .string S, .slice A' L.length c'] 31)) g (things ((l.take 20).drop k)) 0) := Lib.hid (At.alloc HD.out _)
            have T3 : Hid (At (wr.alloc (.cells #[.int .i64 K, .int .i64 N, .int .i64 M, .int .u64 (U : Nat), .bool I, .string S, .slice A' L.length c'] 31)) wr.heap.size 31 #[.int .i64 K, .int .i64 N, .int .i64 M, .int .u64 (U : Nat), .bool I, .string S, .slice A' L.length c']) := Lib.hid (At.new _ _ _)
            have L3 : Hid (Lies (wr.alloc (.cells #[.int .i64 K, .int .i64 N, .int .i64 M, .int .u64 (U : Nat), .bool I, .string S, .slice A' L.length c'] 31)) w.heap.size A' (ints (L.take 20))) := Lib.hid (HLi.out.below ((Below.refl _ wr).alloc hsr _))
            rw [HT.out] at D3
            have hrl : ((Th.mk K N M U I S A' L c').bytes ++ things ((l.take 20).drop (k + 1))).length ≤ 4400 := by
              have := things_len w w.heap.size ((l.take 20).drop k) (fun x hx => HOK2.out x (List.mem_of_mem_drop hx))
              rw [List.length_drop, HT.out] at this
              omega
            clear HLi HB HD
            by_cases h1 : K = 1
            · subst h1
              have e1 : (Th.mk 1 N M U I S A' L c').bytes = num U := rfl
              rw [e1] at D3 hrl
              clear HT e1
              go_wp2_with fail
              generalize wr.alloc (.cells #[.int .i64 1, .int .i64 N, .int .i64 M, .int .u64 (U : Nat), .bool I, .string S, .slice A' L.length c'] 31) = W1 at *
              generalize wr.heap.size = G2 at *
              clear q0 q1 q2 q3 q4 q5 q6
              obtain ⟨rest, hrest⟩ : ∃ rest, things ((l.take 20).drop (k + 1)) = rest := ⟨_, rfl⟩
              rw [hrest] at D3 hrl
              have HR := Lib.hid hrest; clear hrest
              have hC : ∀ W, DecIs W g (num U ++ rest) 0 → Calls Try.prog 19 #[.pointer (some ⟨g, 0, none⟩)] W (DecRet g rest 0 (.int .u64 (U : Nat)) W) := fun W hd => by
                have h := decU_any g _ W hd
                rw [Wm.tk_num _ _ hU] at h
                exact h
              have HC := Lib.hid hC; clear hC
              have k3 : W1.cell? ⟨G2, 3, none⟩ = some (.int .u64 (U : Nat)) := T3.out.cell 3
              go_region_held3 (fun w' => w'.cell? ⟨G2, 3, none⟩ = some (.int .u64 (U : Nat))) (go_keep)
                (first | (go_at_call 19; refine (HC.out _ (At.drew D3.out)).mono ?_; rintro z W2 ⟨rfl, hd3, hg3⟩; have k4 : W2.cell? ⟨G2, 3, none⟩ = some (.int .u64 (U : Nat)) := ((At.drew T3.out).grown hg3 (by simp; omega)).cell 3; have D4 := Lib.hid hd3; clear hd3))
              all_goals
               have B4 := Lib.hid (below_of_grownBy (below_drewN B3.out 1) hg3 (by have := B3.out.size; exact this) hgg)
               clear hg3
               go_wp2
               go_roundw
               case rel => exact ⟨k + 1, by omega, by omega, by go_num, by rw [HR.out]; exact D4, B4⟩
               case measure => simp [intOf]; omega
            have t1 : (K == 1) = false := beq_eq_false_iff_ne.2 h1
            by_cases h2 : K = 2
            · subst h2
              clear t1 h1
              have e1 : (Th.mk 2 N M U I S A' L c').bytes = num N.toNat := rfl
              rw [e1] at D3 hrl
              clear HT e1
              go_wp2_with fail
              generalize wr.alloc (.cells #[.int .i64 2, .int .i64 N, .int .i64 M, .int .u64 (U : Nat), .bool I, .string S, .slice A' L.length c'] 31) = W1 at *
              generalize wr.heap.size = G2 at *
              clear q0 q1 q2 q3 q4 q5 q6
              obtain ⟨rest, hrest⟩ : ∃ rest, things ((l.take 20).drop (k + 1)) = rest := ⟨_, rfl⟩
              rw [hrest] at D3 hrl
              have HR := Lib.hid hrest; clear hrest
              have k3 : W1.cell? ⟨G2, 1, none⟩ = some (.int .i64 N) := T3.out.cell 1
              by_cases hneg : N < 0
              · have hC : ∀ W, DecIs W g (num N.toNat ++ rest) 0 → Calls Try.prog 20 #[.pointer (some ⟨g, 0, none⟩), .int .i64 0] W (DecRet g rest 0 (.int .i64 0) W) := fun W hd => by
                  have h := decI_any g _ 0 W hd (by omega)
                  have e0 : N.toNat = 0 := by omega
                  rw [e0, tkI_num 0 _ _ (by omega) (by omega)] at h
                  exact h
                have HC := Lib.hid hC; clear hC
                go_region_held3 (fun w' => w'.cell? ⟨G2, 1, none⟩ = some (.int .i64 N)) (go_keep)
                  (first | (go_at_call 20; refine (HC.out _ (At.drew D3.out)).mono ?_; rintro z W2 ⟨rfl, hd3, hg3⟩; have k4 : W2.cell? ⟨G2, 1, none⟩ = some (.int .i64 N) := ((At.drew T3.out).grown hg3 (by simp; omega)).cell 1; have D4 := Lib.hid hd3; clear hd3))
                all_goals
                 have B4 := Lib.hid (below_of_grownBy (below_drewN B3.out 1) hg3 (by have := B3.out.size; exact this) hgg)
                 clear hg3
                 go_wp2
                 go_roundw
                 case rel => exact ⟨k + 1, by omega, by omega, by go_num, by rw [HR.out]; exact D4, B4⟩
                 case measure => simp [intOf]; omega
              · obtain ⟨n, rfl⟩ := Int.eq_ofNat_of_zero_le (by omega : 0 ≤ N)
                have hC : ∀ W, DecIs W g (num (n : Int).toNat ++ rest) 0 → Calls Try.prog 20 #[.pointer (some ⟨g, 0, none⟩), .int .i64 (n : Nat)] W (DecRet g rest 0 (.int .i64 (n : Nat)) W) := fun W hd => by
                  have h := decI_any g _ (n : Nat) W hd (by omega)
                  rw [Int.toNat_natCast, tkI_num n _ _ (by omega) (by omega)] at h
                  exact h
                have HC := Lib.hid hC; clear hC
                go_region_held3 (fun w' => w'.cell? ⟨G2, 1, none⟩ = some (.int .i64 (n : Nat))) (go_keep)
                  (first | (go_at_call 20; refine (HC.out _ (At.drew D3.out)).mono ?_; rintro z W2 ⟨rfl, hd3, hg3⟩; have k4 : W2.cell? ⟨G2, 1, none⟩ = some (.int .i64 (n : Nat)) := ((At.drew T3.out).grown hg3 (by simp; omega)).cell 1; have D4 := Lib.hid hd3; clear hd3))
                all_goals
                 have B4 := Lib.hid (below_of_grownBy (below_drewN B3.out 1) hg3 (by have := B3.out.size; exact this) hgg)
                 clear hg3
                 go_wp2
                 go_roundw
                 case rel => exact ⟨k + 1, by omega, by omega, by go_num, by rw [HR.out]; exact D4, B4⟩
                 case measure => simp [intOf]; omega
            have t2 : (K == 2) = false := beq_eq_false_iff_ne.2 h2
            by_cases h3 : K = 3
            · subst h3
              clear t1 h1 t2 h2
              have e1 : (Th.mk 3 N M U I S A' L c').bytes = [flag I] := rfl
              rw [e1] at D3 hrl
              clear HT e1
              go_wp2_with fail
              generalize wr.alloc (.cells #[.int .i64 3, .int .i64 N, .int .i64 M, .int .u64 (U : Nat), .bool I, .string S, .slice A' L.length c'] 31) = W1 at *
              generalize wr.heap.size = G2 at *
              clear q0 q1 q2 q3 q4 q5 q6
              obtain ⟨rest, hrest⟩ : ∃ rest, things ((l.take 20).drop (k + 1)) = rest := ⟨_, rfl⟩
              rw [hrest] at D3 hrl
              have HR := Lib.hid hrest; clear hrest
              have hC : ∀ W, DecIs W g ([flag I] ++ rest) 0 → Calls Try.prog 21 #[.pointer (some ⟨g, 0, none⟩)] W (DecRet g rest 0 (.bool I) W) := fun W hd => by
                have h := decB_any g _ W hd
                rw [tkB_flag] at h
                exact h
              have HC := Lib.hid hC; clear hC
              have k3 : W1.cell? ⟨G2, 4, none⟩ = some (.bool I) := T3.out.cell 4
              go_region_held3 (fun w' => w'.cell? ⟨G2, 4, none⟩ = some (.bool I)) (go_keep)
                (first | (go_at_call 21; refine (HC.out _ (At.drew D3.out)).mono ?_; rintro z W2 ⟨rfl, hd3, hg3⟩; have k4 : W2.cell? ⟨G2, 4, none⟩ = some (.bool I) := ((At.drew T3.out).grown hg3 (by simp; omega)).cell 4; have D4 := Lib.hid hd3; clear hd3))
              all_goals
               have B4 := Lib.hid (below_of_grownBy (below_drewN B3.out 1) hg3 (by have := B3.out.size; exact this) hgg)
               clear hg3
               go_wp2
               go_roundw
               case rel => exact ⟨k + 1, by omega, by omega, by go_num, by rw [HR.out]; exact D4, B4⟩
               case measure => simp [intOf]; omega
            have t3 : (K == 3) = false := beq_eq_false_iff_ne.2 h3
            by_cases h4 : K = 4
            · subst h4
              clear t1 h1 t2 h2 t3 h3
              have e1 : (Th.mk 4 N M U I S A' L c').bytes = text (cutTo S 200) := rfl
              rw [e1] at D3 hrl
              clear HT e1
              go_wp2_with fail
              generalize wr.alloc (.cells #[.int .i64 4, .int .i64 N, .int .i64 M, .int .u64 (U : Nat), .bool I, .string S, .slice A' L.length c'] 31) = W1 at *
              generalize wr.heap.size = G2 at *
              clear q0 q1 q2 q3 q4 q5 q6
              obtain ⟨rest, hrest⟩ : ∃ rest, things ((l.take 20).drop (k + 1)) = rest := ⟨_, rfl⟩
              rw [hrest] at D3 hrl
              have HR := Lib.hid hrest; clear hrest
              have hle := cutTo_le S 200
              have hCu := fun W => cut_any S 200 W
              generalize cutTo S 200 = X at *
              have hxx : (⟨X.data.toList.toArray⟩ : ByteArray) = X := list_string X
              have hC : ∀ W, DecIs W g (text X ++ rest) 0 → Calls Try.prog 22 #[.pointer (some ⟨g, 0, none⟩), .int .i64 200] W (DecRet g rest 0 (.string X) W) := fun W hd => by
                have h := decS_any g _ 200 W hd (by omega) (by omega)
                have e200 : (200 : Int).toNat = 200 := rfl
                rw [e200, tkS_text X rest hle] at h
                simp only at h
                rw [hxx] at h
                exact h
              have HC := Lib.hid hC; clear hC hxx
              have HCu := Lib.hid hCu; clear hCu
              have k3 : W1.cell? ⟨G2, 5, none⟩ = some (.string S) := T3.out.cell 5
              go_region_held3 (fun w' => w'.cell? ⟨G2, 5, none⟩ = some (.string S)) (go_keep)
                (first | (go_at_call 22; refine (HC.out _ (At.drew D3.out)).mono ?_; rintro z W2 ⟨rfl, hd3, hg3⟩; have k4 : W2.cell? ⟨G2, 5, none⟩ = some (.string S) := ((At.drew T3.out).grown hg3 (by simp; omega)).cell 5; have D4 := Lib.hid hd3; clear hd3) | (go_at_call 9; refine (HCu.out _).mono ?_; rintro z W3 ⟨rfl, rfl⟩))
              all_goals
               have B4 := Lib.hid (below_of_grownBy (below_drewN B3.out 1) hg3 (by have := B3.out.size; exact this) hgg)
               clear hg3
               go_wp2
               go_roundw
               case rel => exact ⟨k + 1, by omega, by omega, by go_num, by rw [HR.out]; exact D4, B4⟩
               case measure => simp [intOf]; omega
            have t4 : (K == 4) = false := beq_eq_false_iff_ne.2 h4
            by_cases h5 : K = 5
            · subst h5
              clear t1 h1 t2 h2 t3 h3 t4 h4
              have e1 : (Th.mk 5 N M U I S A' L c').bytes = num (L.take 20).length ++ nums (L.take 20) := rfl
              rw [e1] at D3 hrl
              clear HT e1
              have hl20 : (L.take 20).length ≤ 20 := List.length_take_le _ _
              have hmin : (if (20 : Int) < (L.length : Int) then (20 : Int) else (L.length : Int)) = ((L.take 20).length : Int) := by rw [List.length_take]; split <;> omega
              have HMIN := Lib.hid hmin; clear hmin
              have HLn : Hid ((L.take 20).length ≤ L.length) := Lib.hid (by rw [List.length_take]; omega)
              have hTN := tkList_nums (L.take 20) (things ((l.take 20).drop (k + 1))) HL.out hl20
              obtain ⟨rest, hrest⟩ : ∃ rest, things ((l.take 20).drop (k + 1)) = rest := ⟨_, rfl⟩
              rw [hrest] at D3 hrl hTN
              have HR := Lib.hid hrest; clear hrest
              generalize L.take 20 = L' at *
              have HTN := Lib.hid hTN; clear hTN
              go_wp2_with fail
              generalize wr.alloc (.cells #[.int .i64 5, .int .i64 N, .int .i64 M, .int .u64 (U : Nat), .bool I, .string S, .slice A' L.length c'] 31) = W1 at *
              generalize wr.heap.size = G2 at *
              clear q0 q1 q2 q3 q4 q5 q6
              have hC := decList_any g _ 20 4611686018427387904 W1 D3.out (by omega) (by omega)
              have e20 : (20 : Int).toNat = 20 := rfl
              have e62 : (4611686018427387904 : Int).toNat = 4611686018427387904 := rfl
              rw [e20, e62] at hC
              clear e20 e62
              have hW1 : G2 < W1.heap.size := At.lt T3.out
              have hgW : g < W1.heap.size := by omega
              have hq1 : (20 ≤ L'.length ∧ 20 < L.length) ∨ (L.length ≤ 20 ∧ L'.length ≤ L.length ∧ L.length ≤ L'.length) := by
                have := HMIN.out
                split at this <;> omega
              rcases HTN.out with hok5 | ⟨r5, hbad5⟩
              · rcases hq1 with ⟨hq1, hq2⟩ | ⟨hq1, hq2, hq3⟩
                all_goals
                  rw [hok5] at hC
                  simp only at hC
                  clear hok5
                  refine hC.mono ?_
                  rintro z W2 ⟨A5, c5, rfl, hL5, hA5, hd5, hg5⟩
                  have hgl5 : (L'.map fun n => (n.toNat : Int)).length = L'.length := by simp
                  rw [hgl5]
                  have k3 : W2.cell? ⟨G2, 6, none⟩ = some (.slice A' L.length c') := (T3.out.grown hg5 (by simp; omega)).cell 6
                  have L5 := Lib.hid hL5
                  have E5 := fun W (hb : Below W2.heap.size W2 W) => err_any g _ _ W (At.below hd5 hb (At.lt hd5))
                  have E6 := Lib.hid (E5 W2 (Below.refl _ _))
                  have D5 := Lib.hid hd5
                  have B5 := Lib.hid (below_of_grownBy B3.out hg5 (by have := B3.out.size; exact this) hgg)
                  have L6 := Lib.hid (L3.out.grown hg5 (by have := B3.out.size; exact this) hgg)
                  clear hC hL5 hA5 hd5 hg5 hgl5 E5
                  go_wp2
                  go_loop [99] (fun i => ∃ j : Nat, j ≤ L'.length ∧ i = .int .i64 (j : Int)) (fun i => L'.length - (intOf i).toNat)
                  case atStart => exact ⟨0, by omega, rfl⟩
                  case round =>
                    obtain ⟨j, hj, rfl⟩ := hrel
                    by_cases hjl : j < L'.length
                    · obtain ⟨ad5, rfl, _, hc5⟩ := L5.out.round (k := j) (by simpa [ints] using hjl)
                      obtain ⟨ad6, rfl, _, hc6⟩ := L6.out.round (k := j) (by simpa [ints] using hjl)
                      have v5 : ((ints (L'.map fun n => (n.toNat : Int)))[j]'(by simpa [ints] using hjl)) = .int .i64 ((L'[j]).toNat : Nat) := by simp [ints]
                      have v6 : ((ints L')[j]'(by simpa [ints] using hjl)) = .int .i64 L'[j] := by simp [ints]
                      rw [v5] at hc5
                      rw [v6] at hc6
                      clear v5 v6
                      generalize L'[j] = y at *
                      by_cases hy : y < 0
                      all_goals
                        have hy2 : (y.toNat : Int) = if y < 0 then 0 else y := by split <;> omega
                        have HY := Lib.hid hy2; clear hy2
                        go_wp2
                        go_round
                        case rel => exact ⟨j + 1, by omega, by go_num⟩
                        case measure => simp [intOf]; omega
                    · obtain rfl : j = L'.length := by omega
                      go_wp2_with fail
                      refine E6.out.mono ?_
                      rintro z W3 ⟨rfl, rfl⟩
                      go_wp2
                      go_roundw
                      case rel => exact ⟨k + 1, by omega, by omega, by go_num, by rw [HR.out]; exact D5, B5⟩
                      case measure => simp [intOf]; omega
              · rcases hq1 with ⟨hq1, hq2⟩ | ⟨hq1, hq2, hq3⟩
                all_goals
                  rw [hbad5] at hC
                  simp only at hC
                  clear hbad5
                  refine hC.mono ?_
                  rintro z W2 ⟨A5, c5, rfl, hL5, hA5, hd5, hg5⟩
                  have k3 : W2.cell? ⟨G2, 6, none⟩ = some (.slice A' L.length c') := (T3.out.grown hg5 (by simp; omega)).cell 6
                  have B5 := below_of_grownBy B3.out hg5 (by have := B3.out.size; exact this) hgg
                  have E6 := Lib.hid (err_any g _ _ W2 hd5)
                  clear hC hL5 hA5 hd5 hg5
                  by_cases hz0 : L'.length = 0
                  all_goals
                    have hz1 : L'.length ≤ 0 ∨ 0 < L'.length := by omega
                    clear hz0
                    rcases hz1 with hz1 | hz1
                    all_goals
                      first
                      | (exfalso; omega)
                      | (go_wp2_with fail
                         repeat (first | (refine E6.out.mono ?_; rintro z W3 ⟨rfl, rfl⟩; go_wp2_with fail) | (refine wp_loop_rounds 1 ?_; rw [rounds_succ]; go_wp2_with fail))
                         go_ret
                         exact ⟨rfl, B5⟩)
            have t5 : (K == 5) = false := beq_eq_false_iff_ne.2 h5
            have e1 : (Th.mk K N M U I S A' L c').bytes = [] := by
              unfold Th.bytes
              simp only
              rw [if_neg h1, if_neg h2, if_neg h3, if_neg h4, if_neg h5]
            rw [e1, List.nil_append] at D3
            have B4 := B3
            clear e1 HT h1 h2 h3 h4 h5 hrl
            go_wp2
            go_roundw
            case rel => exact ⟨k + 1, by omega, by omega, by go_num, D3, B4⟩
            case measure => simp [intOf]; omega
          · have hX : (l.take 20).drop k = [] := by
              rw [List.drop_eq_nil_iff, List.length_take]
              omega
            rw [hX] at HD
            have hex : (¬ k < l.length) ∨ (k < l.length ∧ ¬ k < 20) := by omega
            clear hlt hX
            have hDn := fun W (hd : DecIs W g (things []) 0) => done_any g _ 0 W hd
            rcases hex with h1 | ⟨h1, h2⟩
            all_goals
              go_wp2_with fail
              all_goals
                refine (hDn wr HD.out).mono ?_
                rintro z w3 ⟨rfl, hd3, hg3⟩
                have B4 := below_of_grownBy HB.out hg3 HB.out.size hgg
                clear hd3 hg3 hDn
                go_wp2
                go_ret
                exact ⟨rfl, B4⟩

set_option maxRecDepth 100000 in
theorem lifted (os : Os) (started : os.Started) (H : Type) (enc : TypeId × Value → H) :
    ReturnsInHanded {} Try.checked os 4 .any (Rows.wireBackSpec.pre6 enc Try.prog Try.f4 Rows.wireBackRow.domain false) (Rows.wireBackSpec.post enc Try.prog Try.f4 false true false false) := by
  refine returnsInHanded_of_change (C := Try.checked) own started (by kernel_rfl) Try.func4
    (ChangeSpec.witness6 (enc := enc) (C := Try.checked) false ⟨#[], #[.slice none 0 0], []⟩ 8 (by kernel_rfl) (by kernel_rfl) (by kernel_rfl) (by kernel_rfl)) ?_
  intro W base args ds gs before hval0 hW hcnd _
  have hval : ∀ (j : Nat) t v, Try.f4.params[j]? = some t → args[j]? = some v → Value.okWide Try.prog W .any base t v := hval0
  have hW' := hW
  obtain ⟨p, q, hA0, hV, rfl, hfz, hnd⟩ := hW
  have hA : DataW.TrodAll enc Try.prog W 0 (fun _ => true) true Try.f4.params.toList args.toList ds p := hA0
  rw [Try.params4] at hA hval
  obtain ⟨v0, vs0, d0, ds0, p0, q0, hargs, rfl, rfl, h0, r0⟩ := trodAll_cons hA
  obtain ⟨rfl, rfl, rfl⟩ := trodAll_nil r0
  obtain rfl : args = #[v0] := by cases args; simp_all
  obtain ⟨rfl, rfl⟩ := trodVars_none hV
  obtain ⟨A, c, l, rfl, hT⟩ := open_things (hval 0 22 v0 rfl rfl) h0
  refine (walk A c l W hT).mono fun e W' ⟨he, hg⟩ => ?_
  subst he
  exact ⟨_, rfl, law_post (tb := 4) hW' rfl (by kernel_rfl) Try.underlying4 (by rw [Try.params4]; decide +kernel) rfl hg⟩

theorem proved : Rows.WireBackSaid :=
  OpenClaim.holds_of_wide 4 Try.f4 rfl rfl rfl rfl rfl rfl rfl ⟨rfl, rfl, rfl, rfl, rfl⟩ rfl rfl rfl rfl rfl (by kernel_rfl) Try.func4 (by kernel_rfl)
    (of_decide_eq_true (by kernel_rfl)) (by unfold Func.isWrapper; first | (rw [if_pos (by decide +kernel)]; kernel_rfl) | (rw [if_neg (by decide +kernel)]; exact ⟨rfl, rfl⟩))
    (fun os started H enc _ => lifted os started H enc)
#print axioms proved
end Go.Proofs.Ytfapnblajcfjfaa.wireBack
