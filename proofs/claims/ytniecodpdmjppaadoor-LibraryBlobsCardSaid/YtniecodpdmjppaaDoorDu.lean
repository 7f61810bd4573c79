/- (*Dec).U, I, B: their walks. -/
import Derived.Test.YtniecodpdmjppaaDoorDe
import Derived.Test.YtniecodpdmjppaaDoorNu
namespace Go.Proofs.YtniecodpdmjppaaDoor
open Go.RowKit
open Wm (tk)

theorem shl_or (v b : Nat) (hv : v ≤ 144115188075855871) (hb : b < 256) : bits .or .u64 ((v : Int) * 128) (IntKind.u64.wrap (bits .and .u8 (b : Int) 127)) = ((v * 128 + b % 128 : Nat) : Int) := by
  rw [and127 _ (by omega) (by omega), IntKind.wrap_u64]
  have e : (b : Int) % 128 % 18446744073709551616 = ((b % 128 : Nat) : Int) := by omega
  have e' : (v : Int) * 128 = ((v * 128 : Nat) : Int) := by omega
  rw [e, e', u64_or_nat _ _ (by omega) (by omega), nat_join 7 (v * 128) (b % 128) (by omega) (by omega)]

theorem int_u64 {a b : Int} (h : a = b) : Ending.returned (.int .u64 a) = .returned (.int .u64 b) := by rw [h]
theorem u64_eq {a b : Int} (h : a = b) : Value.int .u64 a = .int .u64 b := by rw [h]

set_option maxHeartbeats 400000 in
theorem decU_bad (g : Nat) (l : List UInt8) (e : Nat) (h0 : e ≠ 0) (w : World) (hd : DecIs w g l e) :
    Calls Tryd.prog 79 #[.pointer (some ⟨g, 0, none⟩)] w (DecRet g l e (.int .u64 0) w) := by
  have ht : ((e : Int) != 0) = true := by rw [bne_iff_ne]; omega
  have hN := next_bad g l e h0 w hd
  have H0 := Lib.hid h0; clear h0 hd
  go_enter Tryd.func79, Tryd.ntmps79
  go_wp2
  refine wp_loop_rounds 1 ?_
  rw [rounds_succ]
  go_wp2_with fail
  refine hN.mono ?_
  rintro x w1 ⟨rfl, hd1, hg⟩
  have hk1 : w1.cell? ⟨g, 1, none⟩ = some (.int .i64 (e : Nat)) := At.cell hd1 1
  have H1 := Lib.hid hd1; clear hd1 hN
  go_wp2
  go_ret
  exact ⟨rfl, H1.out, hg⟩

def left (w : World) (g : Nat) : Nat := match w.cell? ⟨g, 0, none⟩ with | some (.string s) => s.size | _ => 0
theorem left_of {w : World} {g : Nat} {l : List UInt8} {e : Nat} (h : DecIs w g l e) : left w g = l.length := by
  have hc : w.cell? ⟨g, 0, none⟩ = some (.string ⟨l.toArray⟩) := At.cell h 0
  unfold left
  rw [hc]
  simp [ByteArray.size]

set_option maxHeartbeats 1000000 in
set_option maxRecDepth 100000 in
theorem decU_any (g : Nat) (l : List UInt8) (w : World) (hd : DecIs w g l 0) :
    Calls Tryd.prog 79 #[.pointer (some ⟨g, 0, none⟩)] w (DecRet g (tk l 0 true).1 (tk l 0 true).2.1 (.int .u64 ((tk l 0 true).2.2 : Nat)) w) := by
  go_enter Tryd.func79, Tryd.ntmps79
  go_wp2
  go_loopw [3, 4] (fun vv ff wr => ∃ (l' : List UInt8) (v : Nat) (f : Bool), vv = .int .u64 (v : Nat) ∧ ff = .bool f ∧ v ≤ 18446744073709551615 ∧ DecIs wr g l' 0 ∧ Hid (tk l' v f = tk l 0 true) ∧ w.grownBy wr (some g))
    (fun _ _ wr => left wr g)
  case atStart => exact ⟨l, 0, true, rfl, rfl, by omega, hd, Lib.hid rfl, grownBy_refl _ _⟩
  case round =>
    obtain ⟨l', v, f, rfl, rfl, hv, hd1, HT, hg1⟩ := hrel
    have HL := Lib.hid (left_of hd1)
    clear hd
    rcases l' with _ | ⟨b, r⟩
    · go_wp2_with fail
      refine (next_end g wr hd1).mono ?_
      rintro x w1 ⟨rfl, hd2, hg2⟩
      have hk1 : w1.cell? ⟨g, 1, none⟩ = some (.int .i64 ((2 : Nat) : Nat)) := At.cell hd2 1
      have hF := dfail_any g 3 [] 2 w1 hd2
      rw [if_neg (by decide)] at hF
      have H2 := Lib.hid hd2; clear hd2 hd1
      by_cases hbig : 144115188075855871 < v
      all_goals
        cases f
        all_goals
          go_wp2_with fail
          first
          | (go_ret; exact ⟨by rw [← HT.out]; rfl, by rw [← HT.out]; exact H2.out, grownBy_trans hg1 hg2⟩)
          | (refine hF.mono ?_
             rintro x w2 ⟨rfl, hd3, hg3⟩
             have hk3 : w2.cell? ⟨g, 1, none⟩ = some (.int .i64 ((2 : Nat) : Nat)) := At.cell hd3 1
             have H3 := Lib.hid hd3; clear hd3 hF hk1
             go_wp2
             go_ret
             exact ⟨by rw [← HT.out]; rfl, by rw [← HT.out]; exact H3.out, grownBy_trans (grownBy_trans hg1 hg2) hg3⟩)
    · go_wp2_with fail
      refine (next_ok g b r wr hd1).mono ?_
      rintro x w1 ⟨rfl, hd2, hg2⟩
      have hk1 : w1.cell? ⟨g, 1, none⟩ = some (.int .i64 ((0 : Nat) : Nat)) := At.cell hd2 1
      have hF := dfail_any g 3 r 0 w1 hd2
      rw [if_pos rfl] at hF
      have H2 := Lib.hid hd2; clear hd2 hd1
      have hb256 : b.toNat < 256 := b.toNat_lt
      by_cases hform : ((f && b == 128) || decide (144115188075855871 < v)) = true
      · have HT' := Lib.hid ((Wm.tk_form (r := r) hform).symm.trans HT.out)
        have hcase : 144115188075855871 < v ∨ (v ≤ 144115188075855871 ∧ f = true ∧ ((b.toNat : Int) == 128) = true) := by
          rcases Nat.lt_or_ge 144115188075855871 v with h | h
          · exact .inl h
          · right
            simp at hform
            rcases hform with ⟨h1, h2⟩ | h2
            · exact ⟨h, h1, by subst h2; rfl⟩
            · omega
        clear hform
        rcases hcase with hbig | ⟨hbig, rfl, hb⟩
        · cases hb : ((b.toNat : Int) == 128)
          all_goals
            cases f
            all_goals
              go_wp2_with fail
              refine hF.mono ?_
              rintro x w2 ⟨rfl, hd3, hg3⟩
              have hk3 : w2.cell? ⟨g, 1, none⟩ = some (.int .i64 ((3 : Nat) : Nat)) := At.cell hd3 1
              have H3 := Lib.hid hd3; clear hd3 hF hk1
              go_wp2
              go_ret
              exact ⟨by rw [← HT'.out]; rfl, by rw [← HT'.out]; exact H3.out, grownBy_trans (grownBy_trans hg1 hg2) hg3⟩
        · go_wp2_with fail
          refine hF.mono ?_
          rintro x w2 ⟨rfl, hd3, hg3⟩
          have hk3 : w2.cell? ⟨g, 1, none⟩ = some (.int .i64 ((3 : Nat) : Nat)) := At.cell hd3 1
          have H3 := Lib.hid hd3; clear hd3 hF hk1
          go_wp2
          go_ret
          exact ⟨by rw [← HT'.out]; rfl, by rw [← HT'.out]; exact H3.out, grownBy_trans (grownBy_trans hg1 hg2) hg3⟩
      · have hform' : ((f && b == 128) || decide (144115188075855871 < v)) = false := by simpa using hform
        have hbig : v ≤ 144115188075855871 := by
          rcases Nat.lt_or_ge 144115188075855871 v with h | h
          · simp [h] at hform
          · exact h
        have hb : f = false ∨ ((b.toNat : Int) == 128) = false := by
          cases f
          · exact .inl rfl
          · right
            simp at hform
            rw [beq_eq_false_iff_ne]
            intro e
            exact hform.1 (UInt8.toNat_inj.1 (by simpa using (by omega : b.toNat = 128)))
        clear hF hform
        by_cases hlast : b.toNat < 128
        · have HT' := Lib.hid ((Wm.tk_last (r := r) hform' hlast).symm.trans HT.out)
          clear hform'
          have HV := Lib.hid (shl_or v b.toNat hbig hb256)
          rcases hb with rfl | hb
          · go_wp2
            go_ret
            exact ⟨by rw [HV.out, ← HT'.out]; rfl, by rw [← HT'.out]; exact H2.out, grownBy_trans hg1 hg2⟩
          · cases f
            · go_wp2
              go_ret
              exact ⟨by rw [HV.out, ← HT'.out]; rfl, by rw [← HT'.out]; exact H2.out, grownBy_trans hg1 hg2⟩
            · go_wp2
              go_ret
              exact ⟨by rw [HV.out, ← HT'.out]; rfl, by rw [← HT'.out]; exact H2.out, grownBy_trans hg1 hg2⟩
        · have HT' := Lib.hid ((Wm.tk_more (r := r) hform' (by omega)).symm.trans HT.out)
          clear hform'
          have HV := Lib.hid (shl_or v b.toNat hbig hb256)
          have HL2 := Lib.hid (left_of H2.out)
          rcases hb with rfl | hb
          · go_wp2
            go_roundw
            case rel => exact ⟨r, v * 128 + b.toNat % 128, false, u64_eq HV.out, rfl, by omega, H2.out, HT', grownBy_trans hg1 hg2⟩
            case measure => rw [HL2.out, HL.out]; simp
          · cases f
            · go_wp2
              go_roundw
              case rel => exact ⟨r, v * 128 + b.toNat % 128, false, u64_eq HV.out, rfl, by omega, H2.out, HT', grownBy_trans hg1 hg2⟩
              case measure => rw [HL2.out, HL.out]; simp
            · go_wp2
              go_roundw
              case rel => exact ⟨r, v * 128 + b.toNat % 128, false, u64_eq HV.out, rfl, by omega, H2.out, HT', grownBy_trans hg1 hg2⟩
              case measure => rw [HL2.out, HL.out]; simp
end Go.Proofs.YtniecodpdmjppaaDoor
