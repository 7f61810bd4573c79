/- Yb: merged (a claim holds few files). -/
import Derived.Test.YtplmflagffloeaaDoorM11
/- glacierlaw09.TermVotes: its walk. -/
namespace Go.Proofs.YtplmflagffloeaaDoor
open Go.RowKit
open Sm
open Wm (num)
open Pm (Key St)
set_option linter.unusedVariables false
set_option linter.unusedSimpArgs false

theorem nat_of (a : Int) (k : Nat) : ∃ n : Nat, min (max a 0) (k : Int) = (n : Int) ∧ n ≤ k := ⟨(min (max a 0) (k : Int)).toNat, by omega, by omega⟩

set_option maxRecDepth 100000 in
set_option maxHeartbeats 4000000 in
theorem walk_votes (a b v u : Int) (cmd : ByteArray) (w : World) (hS : Steps w) : Calls Tryd.prog 6 #[.int .i64 a, .int .i64 b, .int .i64 v, .int .i64 u, .string cmd] w fun e w' => e = .returned (.bool true) ∧ Below w.heap.size w w' := by
  obtain ⟨an, ha, ha2⟩ := nat_of a 1000
  obtain ⟨bn, hb, hb2⟩ := nat_of b 1000
  obtain ⟨vn, hv, hv2⟩ := nat_of v 5
  obtain ⟨un, hu, hu2⟩ := nat_of u 5
  have ha : min (max a 0) 1000 = (an : Int) := ha
  have hb : min (max b 0) 1000 = (bn : Int) := hb
  have hv : min (max v 0) 5 = (vn : Int) := hv
  have hu : min (max u 0) 5 = (un : Int) := hu
  have hN := newX 10000 10000 (by omega) rfl w
  obtain ⟨B, hB⟩ : ∃ B, w.heap.size = B := ⟨_, rfl⟩
  have hS0 := hS.1
  rw [hB] at hN hS0 ⊢
  have HST : Hid (∀ W, Below B w W → Steps W) := Lib.hid fun W h => hS.below h hS0
  have hCu : ∀ W, Calls Tryd.prog 9 #[.string cmd, .int .i64 50] W fun e w' => e = .returned (.string (cutTo cmd 50)) ∧ W = w' := fun W => cut_any cmd 50 W
  have hcs := cutTo_le cmd 50
  generalize cutTo cmd 50 = xc at *
  have hxo : (⟨1, an, xc⟩ : En).ok := ⟨by show 1 ≤ _; decide, by show an ≤ _; omega, by show xc.size ≤ _; omega⟩
  have hxl : (logOf [⟨1, an, xc⟩]).length ≤ 88 := logOf_len 50 (fun x hx => by simp at hx; rcases hx with rfl; exact hxo) (fun x hx => by simp at hx; rcases hx with rfl; exact hcs)
  have HXO := Lib.hid hxo
  clear hS hxo
  go_enter Tryd.func6, Tryd.ntmps6
  go_wp2_with fail
  refine hN.mono ?_
  rintro e w1 ⟨g, m, rfl, hT1, hb1⟩
  have hz1 : B ≤ w1.heap.size := by have := hb1.size; omega
  have HT1 := Lib.hid hT1
  have HB1 := Lib.hid hb1
  clear hN hT1 hb1
  go_wp2_with fail
  refine (hCu w1).mono ?_
  rintro e w1' ⟨rfl, rfl⟩
  have hX2 := At.new w1 30 #[.int .i64 1, .int .i64 (an : Int), .string xc]
  have hT2 := HT1.out.alloc (.cells #[.int .i64 1, .int .i64 (an : Int), .string xc] 30)
  have hb2' := HB1.out.alloc hz1 (.cells #[.int .i64 1, .int .i64 (an : Int), .string xc] 30)
  have hAw := awake_any (w1.alloc (.cells #[.int .i64 1, .int .i64 (an : Int), .string xc] 30)) (HST.out _ hb2')
  have HX2 := Lib.hid hX2
  have HT2 := Lib.hid hT2
  have HB2 := Lib.hid hb2'
  clear hCu hX2 hT2 hb2' HT1 HB1
  go_upto_region 5 with fail
  generalize w1.alloc (.cells #[.int .i64 1, .int .i64 (an : Int), .string xc] 30) = w2 at *
  generalize w1.heap.size = X at *
  go_wp2_with fail
  refine hAw.mono ?_
  rintro e w3 ⟨rfl, hb3⟩
  have hX3 := HX2.out.below hb3 HX2.out.lt
  have hT3 := HT2.out.below hb3
  have hb3 := HB2.out.trans (hb3.mono (by have := HB2.out.size; omega))
  have x0 : w3.cell? ⟨X, 0, none⟩ = some (.int .i64 1) := hX3.cell 0
  have x1 : w3.cell? ⟨X, 1, none⟩ = some (.int .i64 (an : Int)) := hX3.cell 1
  have x2 : w3.cell? ⟨X, 2, none⟩ = some (.string xc) := hX3.cell 2
  have HN4 := Lib.hid (At.new w3 30 #[.int .i64 1, .int .i64 (an : Int), .string xc])
  have HX4 := Lib.hid (hX3.alloc (.cells #[.int .i64 1, .int .i64 (an : Int), .string xc] 30))
  have HT4 := Lib.hid (hT3.alloc (.cells #[.int .i64 1, .int .i64 (an : Int), .string xc] 30))
  have HB4 := Lib.hid (hb3.alloc (by have := hb3.size; omega) (.cells #[.int .i64 1, .int .i64 (an : Int), .string xc] 30))
  clear hAw hX3 hT3 hb3 HX2 HT2 HB2
  go_wp2_with fail
  generalize w3.alloc (.cells #[.int .i64 1, .int .i64 (an : Int), .string xc] 30) = w4 at *
  have hC4 := appendX HT4.out (by have := HB4.out.size; omega) (HST.out w4 HB4.out) (some ⟨w3.heap.size, 0, none⟩) 1 [⟨1, an, xc⟩] (by simp) (fun x hx => by simp at hx; subst hx; exact HXO.out) (EnT.of_at HN4.out rfl) (by simp only [List.length_nil]; omega) (by omega)
  rw [List.nil_append] at hC4
  refine hC4.mono ?_
  rintro e w5 ⟨rfl, hT5, hb5, hk5⟩
  have HX5 := Lib.hid (hk5.at_ HX4.out (by decide) (by decide))
  have hb5 := HB4.out.trans hb5
  have hC5 := saveTermX hT5 (by have := hb5.size; omega) (HST.out w5 hb5) an vn (by omega) (by omega) (by simp only [List.length_nil]; omega) (by omega)
  have HB5 := Lib.hid hb5
  clear hC4 hT5 hb5 hk5 HN4 HX4 HT4 HB4 x0 x1 x2
  go_wp2_with fail
  refine hC5.mono ?_
  rintro e w6 ⟨rfl, hT6, hb6, hk6⟩
  have HX6 := Lib.hid (hk6.at_ HX5.out (by decide) (by decide))
  have hb6 := HB5.out.trans hb6
  have hC6 := saveTermX hT6 (by have := hb6.size; omega) (HST.out w6 hb6) bn un (by omega) (by omega) (by have := termL_len (t := an) (v := vn) (by omega) (by omega); simp only [List.length_nil]; omega) (by omega)
  have HB6 := Lib.hid hb6
  clear hC5 hT6 hb6 hk6 HX5 HB5
  go_wp2_with fail
  refine hC6.mono ?_
  rintro e w7 ⟨rfl, hT7, hb7, hk7⟩
  have HX7 := Lib.hid (hk7.at_ HX6.out (by decide) (by decide))
  have hb7 := HB6.out.trans hb7
  have hC7 := loadX hT7 (HST.out w7 hb7) (t := bn) (v := un) (b := 0) (bt := 0) (sn := ⟨#[]⟩) (.inr ⟨by omega, by omega, rfl⟩) (.inl ⟨rfl, rfl, rfl, rfl⟩) [⟨1, an, xc⟩] (by simp) (fun x hx => by simp at hx; subst hx; exact HXO.out) (by omega) rfl
  have e1 : behind [⟨1, an, xc⟩] 0 = [⟨1, an, xc⟩] := rfl
  rw [e1] at hC7
  have HB7 := Lib.hid hb7
  clear hC6 hT7 hb7 hk7 HX6 HB6
  go_wp2_with fail
  refine hC7.mono ?_
  rintro e w8 ⟨A, c, rfl, hc, hEn, hb8⟩
  have hs7 : B ≤ w7.heap.size := by have := HB7.out.size; omega
  have hX8 := HX7.out.below hb8 HX7.out.lt
  have hb8 := HB7.out.trans (hb8.mono hs7)
  have hN9 := At.new w8 36 #[.int .i64 (bn : Int), .int .i64 (un : Int), .int .i64 0, .int .i64 0, .string ⟨#[]⟩, .slice A 1 c]
  have hE9 := hEn.below ((Below.refl _ w8).alloc (Nat.le_refl _) (.cells #[.int .i64 (bn : Int), .int .i64 (un : Int), .int .i64 0, .int .i64 0, .string ⟨#[]⟩, .slice A 1 c] 36))
  have hX9 := hX8.alloc (.cells #[.int .i64 (bn : Int), .int .i64 (un : Int), .int .i64 0, .int .i64 0, .string ⟨#[]⟩, .slice A 1 c] 36)
  have HB9 := Lib.hid (hb8.alloc (by have := hb8.size; omega) (.cells #[.int .i64 (bn : Int), .int .i64 (un : Int), .int .i64 0, .int .i64 0, .string ⟨#[]⟩, .slice A 1 c] 36))
  have HN9 := Lib.hid hN9
  have HE9 := Lib.hid hE9
  have HX9 := Lib.hid hX9
  clear hC7 hEn hb8 hX8 hN9 hE9 hX9 HX7 HB7
  go_upto_region 8 with fail
  generalize w8.alloc (.cells #[.int .i64 (bn : Int), .int .i64 (un : Int), .int .i64 0, .int .i64 0, .string ⟨#[]⟩, .slice A 1 c] 36) = w9 at *
  generalize w8.heap.size = S at *
  obtain ⟨ad, rfl, y0, y1, y2⟩ := HE9.out.one (k := 0) (by simp)
  have e0 : ad.add 0 = ad := by unfold Addr.add; simp
  simp only [Nat.zero_mul, List.getElem_cons_zero, e0] at y0 y1 y2
  have hc3 := en_cells
  have s0 : w9.cell? ⟨S, 0, none⟩ = some (.int .i64 (bn : Int)) := HN9.out.cell 0
  have s1 : w9.cell? ⟨S, 1, none⟩ = some (.int .i64 (un : Int)) := HN9.out.cell 1
  have s5 : w9.cell? ⟨S, 5, none⟩ = some (.slice (some ad) 1 c) := HN9.out.cell 5
  have z0 : w9.cell? ⟨X, 0, none⟩ = some (.int .i64 1) := HX9.out.cell 0
  have z1 : w9.cell? ⟨X, 1, none⟩ = some (.int .i64 (an : Int)) := HX9.out.cell 1
  have z2 : w9.cell? ⟨X, 2, none⟩ = some (.string xc) := HX9.out.cell 2
  have hDn : Hid (∀ n, Below B w (w9.drewN n)) := Lib.hid fun n => below_drewN HB9.out n
  clear HN9 HE9 HX9 HB9
  go_quiet (fail)
  go_wp2
  go_ret
  exact ⟨rfl, hDn.out _⟩
end Go.Proofs.YtplmflagffloeaaDoor
