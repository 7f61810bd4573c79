/- 'what is taken is never more than the room': glacierlaw03.MeterRoom returns true for every input. No condition. -/
import Derived.Test.YtpjimnaponmffaaMa
import Derived.Test.YtpjimnaponmffaaMs
import Derived.Test.YtpjimnaponmffaaLw
import Derived.Test.YtpjimnaponmffaaOp
import Derived.Test.YtpjimnaponmffaaRows
import Derived.ProofKit
import Derived.OpenShut
namespace Go.Proofs.Ytpjimnaponmffaa.meterRoom
open Go.ChangeShapes Go.WideShapes Go.ChangeAt Go.RowKit
set_option linter.unusedVariables false

theorem own : ownKnob Try.prog.godebug = none := by kernel_rfl

theorem own_ne {W : World} {B n g : Nat} {e : TypeId} {v : Value} {xs : List Value} (hown : W.ownsRow B e 1 v n xs) (hg : g < B) : some g ≠ v.ownBlock := by
  rcases hown.2 with ⟨rfl, _⟩ | ⟨g', cap, cur, rfl, hB, hat, _⟩
  · simp [Value.ownBlock]
  · simp [Value.ownBlock]; omega
theorem owns_grown {W W' : World} {B n g : Nat} {e : TypeId} {v : Value} {xs : List Value} (hown : W.ownsRow B e 1 v n xs) (hg : W.grownBy W' (some g)) (hB : g < B) : W'.ownsRow B e 1 v n xs := by
  refine ⟨hown.1, ?_⟩
  rcases hown.2 with h | ⟨g', cap, cur, rfl, h1, h2, h3⟩
  · exact .inl h
  · exact .inr ⟨g', cap, cur, rfl, h1, (hg.block g' (At.lt h2) (by simp; omega)).trans h2, h3⟩
theorem Lies.far {w w' : World} {B g : Nat} {A : Option Addr} {xs : List Value} (h : Lies w B A xs) (hb : w.grownBy w' (some g)) (hB : B ≤ w.heap.size) (hg : ∀ ad, A = some ad → xs ≠ [] → ad.block ≠ g) : Lies w' B A xs := fun j u hj => by
  obtain ⟨ad, rfl, hl, hc⟩ := h j u hj
  exact ⟨ad, rfl, hl, (World.cell?_of_block (hb.block (ad.add j).block (by rw [add_block]; omega) (by rw [add_block]; simpa using hg ad rfl (by intro e; subst e; simp at hj)))).trans hc⟩

theorem below_own {w W W' : World} {B B' n : Nat} {e : TypeId} {v : Value} {xs : List Value} (hBB : B ≤ B') (hb : Below B w W) (hs : B ≤ W.heap.size) (hown : W.ownsRow B' e 1 v n xs) (hg : W.grownBy W' v.ownBlock) : Below B w W' := by
  rcases hown.2 with ⟨rfl, _⟩ | ⟨g, cap, cur, rfl, hB, hat, _⟩
  · exact hb.trans ⟨hg.os, hg.tape, hg.output, hg.size, fun k hk => hg.block k (by omega) (by simp [Value.ownBlock])⟩
  · exact below_of_grownBy hb hg hs (Nat.le_trans hBB hB)

/-- what was taken adds up -/
def Took (l : List Int) (us : Int) : Prop := (∀ x ∈ l, 0 ≤ x ∧ x ≤ 9223372036854775807) ∧ l.sum = us
theorem Took.more {l : List Int} {us x : Int} (h : Took l us) (h0 : 0 ≤ x) (h1 : x ≤ 9223372036854775807) : Took (l ++ [x]) (us + x) :=
  ⟨fun y hy => by rcases List.mem_append.1 hy with hy | hy; exact h.1 y hy; simp at hy; omega, by rw [List.sum_append, h.2]; simp⟩
theorem took_left {l : List Int} {us : Int} (h : Took l us) {k : Nat} (hk : k < l.length) : (l.drop k).sum = l[k] + (l.drop (k + 1)).sum ∧ 0 ≤ l[k] ∧ 0 ≤ (l.drop (k + 1)).sum ∧ l[k] ≤ 9223372036854775807 := by
  refine ⟨by rw [List.drop_eq_getElem_cons hk, List.sum_cons], (h.1 _ (List.getElem_mem hk)).1, ?_, (h.1 _ (List.getElem_mem hk)).2⟩
  have key : ∀ m : List Int, (∀ x ∈ m, 0 ≤ x) → 0 ≤ m.sum := by
    intro m
    induction m with
    | nil => intro _; simp
    | cons a m ih => intro hm; rw [List.sum_cons]; have := hm a (by simp); have := ih (fun x hx => hm x (by simp [hx])); omega
  exact key _ (fun x hx => (h.1 x (List.mem_of_mem_drop hx)).1)

/-- block g is a meter alone -/
structure Mt (w : World) (g : Nat) (rm us : Int) : Prop where
  at_ : At w g 24 #[.int .i64 rm, .int .i64 us]
  le : us ≤ rm
  pos : 0 ≤ us
  top : rm ≤ 9223372036854775807
section
variable {w w' : World} {g : Nat} {rm us : Int}
theorem Mt.meter (h : Mt w g rm us) : MeterAt w g rm us := ⟨h.at_.cell 0, h.at_.cell 1, h.at_.frozen 1, h.le, h.pos, h.top⟩
theorem Mt.setUsed (h : Mt w g rm us) {u : Int} (h0 : 0 ≤ u) (h1 : u ≤ rm) : Mt (w.setCell ⟨g, 1, none⟩ (.int .i64 u)) g rm u := ⟨h.at_.set 1 _, h1, h0, h.top⟩
theorem Mt.grown {row : Option Nat} (h : Mt w g rm us) (hb : w.grownBy w' row) (hg : some g ≠ row) : Mt w' g rm us := ⟨h.at_.grown hb hg, h.le, h.pos, h.top⟩
theorem Mt.below {B : Nat} (h : Mt w g rm us) (hb : Below B w w') (hg : g < B) : Mt w' g rm us := ⟨h.at_.below hb hg, h.le, h.pos, h.top⟩
theorem Mt.alloc (h : Mt w g rm us) (o : Obj) : Mt (w.alloc o) g rm us := ⟨h.at_.alloc o, h.le, h.pos, h.top⟩
theorem take_mt (h : Mt w g rm us) (n : Int) : Calls Try.prog 11 #[.pointer (some ⟨g, 0, none⟩), .int .i64 n] w fun e w' =>
    e = .returned (.int .i64 (takeR rm us n).2) ∧ Mt w' g rm (takeR rm us n).1 ∧ w.grownBy w' (some g) := by
  refine (take_any h.meter n).mono ?_
  have h0 := h.pos
  rintro e w' (⟨h1, rfl, rfl⟩ | ⟨h1, h2, rfl, m, rfl⟩ | ⟨h1, h2, rfl, m, rfl⟩)
  · rw [show takeR rm us n = (us, 1) by unfold takeR; rw [if_pos h1]]
    exact ⟨rfl, h, grown_refl _ _⟩
  · rw [show takeR rm us n = (us, 7) by unfold takeR; rw [if_neg (Int.not_lt.2 h1), if_pos h2]]
    exact ⟨rfl, ⟨h.at_.drewN m, h.le, h.pos, h.top⟩, grownBy_drewN (grown_refl _ _) m⟩
  · rw [show takeR rm us n = (us + n, 0) by unfold takeR; rw [if_neg (Int.not_lt.2 h1), if_neg (Int.not_lt.2 h2)]]
    exact ⟨rfl, Mt.setUsed ⟨h.at_.drewN m, h.le, h.pos, h.top⟩ (by omega) (by omega), grown_drew_set _ _ _ _ _⟩
theorem give_mt (h : Mt w g rm us) (n : Int) (h0 : 0 ≤ n) (h1 : n ≤ us) : Calls Try.prog 13 #[.pointer (some ⟨g, 0, none⟩), .int .i64 n] w fun e w' =>
    e = .returned (.int .i64 0) ∧ Mt w' g rm (us - n) ∧ w.grownBy w' (some g) := by
  refine (give_any h.meter n).mono ?_
  have h3 := h.le
  rintro e w' (⟨h2, rfl, rfl⟩ | ⟨_, _, rfl, rfl⟩)
  · omega
  · exact ⟨rfl, h.setUsed (by omega) (by omega), grown_set _ _ _ _⟩
end

set_option maxRecDepth 100000 in
set_option maxHeartbeats 2000000 in
theorem walk (room : Int) (hr1 : room ≤ 9223372036854775807) (A : Option Addr) (c : Nat) (l : List Int) (w : World) (hL : Lies w w.heap.size A (ints l)) (hl : ∀ x ∈ l, -9223372036854775808 ≤ x ∧ x ≤ 9223372036854775807) :
    Calls Try.prog 5 #[.int .i64 room, .slice A l.length c] w fun e w' => e = .returned (.bool true) ∧ Below w.heap.size w w' := by
  obtain ⟨is, hse, hsz0, hsz1, hsz2⟩ := info_parts info_int
  have HL := Lib.hid hL; clear hL
  have Hl := Lib.hid hl; clear hl
  have hrm : (0 : Int) ≤ max room 0 ∧ max room 0 ≤ 9223372036854775807 := by omega
  obtain ⟨rm, hrm'⟩ : ∃ rm, max room 0 = rm := ⟨_, rfl⟩
  rw [hrm'] at hrm
  have HRM := Lib.hid hrm'; clear hrm'
  obtain ⟨hrm0, hrm1⟩ := hrm
  go_enter Try.func5, Try.ntmps5
  go_wp2_with fail
  refine (made_new room w).mono ?_
  rintro e w1 ⟨rfl, hb1⟩
  rw [HRM.out]
  have hs1 := hb1.size
  go_wp2_with fail
  have hb2 : Below w.heap.size w (w1.alloc (.cells #[.int .i64 rm, .int .i64 0] 24)) := hb1.alloc hs1 _
  have hd2 : Mt (w1.alloc (.cells #[.int .i64 rm, .int .i64 0] 24)) w1.heap.size rm 0 := ⟨At.new _ _ _, hrm0, by omega, hrm1⟩
  have hs2 : (w1.alloc (.cells #[.int .i64 rm, .int .i64 0] 24)).heap.size = w1.heap.size + 1 := by simp
  have hown0 := ints_new (W := w1.alloc (.cells #[.int .i64 rm, .int .i64 0] 24)) (ints []) rfl 0 rfl
  have hG2 : w.heap.size ≤ (w1.alloc (.cells #[.int .i64 rm, .int .i64 0] 24)).heap.size := by omega
  have hb3 := hb2.alloc hG2 (.cells #[] 3)
  have hd3 := hd2.alloc (.cells #[] 3)
  generalize (w1.alloc (.cells #[.int .i64 rm, .int .i64 0] 24)) = w2 at *
  have hs3 : w2.heap.size ≤ (w2.alloc (.cells #[] 3)).heap.size := by simp
  generalize w2.alloc (.cells #[] 3) = w3 at *
  rw [hs2] at *
  generalize w1.heap.size = g at *
  generalize hG : w.heap.size = G at *
  clear hb1 hb2 hd2 hs2
  have HG := Lib.hid hG; clear hG
  have HD := Lib.hid hd3; clear hd3
  have HB0 := Lib.hid hb3; clear hb3
  have HO := Lib.hid hown0; clear hown0
  go_loopw [6, 7, 8] (fun a v i wr => ∃ (k : Nat) (us : Int) (t : List Int), k ≤ l.length ∧ k ≤ 30 ∧ t.length ≤ k ∧ i = .int .i64 (k : Int) ∧ a = .int .i64 us ∧ 0 ≤ us ∧ us ≤ rm ∧ Hid (Took t us) ∧
      Hid (wr.ownsRow (g + 1) 3 1 v t.length (ints t)) ∧ Hid (Mt wr g rm us) ∧ Hid (Below G w wr) ∧ g + 1 ≤ wr.heap.size)
    (fun _ _ i _ => l.length - (intOf i).toNat)
  case atStart => exact ⟨0, 0, [], by omega, by omega, by simp, rfl, rfl, by omega, hrm0, Lib.hid ⟨by simp, rfl⟩, HO, HD, HB0, hs3⟩
  case round =>
    clear HO HD HB0
    obtain ⟨k, us, t, hk, hk30, htk, rfl, rfl, hu0, hu1, HT, HOw, HM, HB, hs⟩ := hrel
    by_cases hgo : k < l.length ∧ k < 30
    · obtain ⟨hlt, h30⟩ := hgo
      obtain ⟨ad, rfl, _, hc⟩ := (HL.out.below HB.out).int hlt
      have hx := Hl.out _ (List.getElem_mem hlt)
      obtain ⟨xk, hxk⟩ : ∃ xk, l[k] = xk := ⟨_, rfl⟩
      have hcL : ∀ W, Below G w W → W.cell? (ad.add k) = some (.int .i64 xk) := fun W hW => by
        obtain ⟨ad', e1, _, e2⟩ := (HL.out.below hW).int hlt
        cases e1
        rw [e2, hxk]
      have HC := Lib.hid hcL; clear hcL
      rw [hxk] at hc hx
      clear hxk
      by_cases hx0 : xk < 0
      · have R1 := HT
        go_wp2_with fail
        have c4 := take_mt HM.out xk
        rw [show takeR rm us xk = (us, 1) by unfold takeR; rw [if_pos hx0]] at c4
        refine c4.mono ?_
        rintro e w4 ⟨rfl, hm4, hg⟩
        have R4 := Lib.hid (below_of_grownBy HB.out hg (by omega) (by omega))
        have R2 := Lib.hid (owns_grown HOw.out hg (by omega))
        have hs4 := hg.size
        have R3 := Lib.hid hm4
        clear hg HM HOw HB hc c4 hm4
        have R5 : g + 1 ≤ w4.heap.size := by omega
        by_cases hneg : room < 0
        · have hq : us ≤ 0 := by have := HRM.out; omega
          go_wp2_with fail
          refine (used_any R3.out.meter).mono ?_
          rintro e w5 ⟨rfl, rfl⟩
          go_wp2
          go_roundw
          case rel => exact ⟨k + 1, us, t, by omega, by omega, by first | omega | (simp; omega), by go_num, rfl, by omega, by omega, R1, R2, R3, R4, R5⟩
          case measure => simp [intOf]; omega
        · have hq : us ≤ room := by have := HRM.out; omega
          go_wp2_with fail
          refine (used_any R3.out.meter).mono ?_
          rintro e w5 ⟨rfl, rfl⟩
          go_wp2
          go_roundw
          case rel => exact ⟨k + 1, us, t, by omega, by omega, by first | omega | (simp; omega), by go_num, rfl, by omega, by omega, R1, R2, R3, R4, R5⟩
          case measure => simp [intOf]; omega
      · by_cases hx1 : rm - us < xk
        · have R1 := HT
          go_wp2_with fail
          have c4 := take_mt HM.out xk
          rw [show takeR rm us xk = (us, 7) by unfold takeR; rw [if_neg (by omega), if_pos (by omega)]] at c4
          refine c4.mono ?_
          rintro e w4 ⟨rfl, hm4, hg⟩
          have R4 := Lib.hid (below_of_grownBy HB.out hg (by omega) (by omega))
          have R2 := Lib.hid (owns_grown HOw.out hg (by omega))
          have hs4 := hg.size
          have R3 := Lib.hid hm4
          clear hg HM HOw HB hc c4 hm4
          have R5 : g + 1 ≤ w4.heap.size := by omega
          by_cases hneg : room < 0
          · have hq : us ≤ 0 := by have := HRM.out; omega
            go_wp2_with fail
            refine (used_any R3.out.meter).mono ?_
            rintro e w5 ⟨rfl, rfl⟩
            go_wp2
            go_roundw
            case rel => exact ⟨k + 1, us, t, by omega, by omega, by first | omega | (simp; omega), by go_num, rfl, by omega, by omega, R1, R2, R3, R4, R5⟩
            case measure => simp [intOf]; omega
          · have hq : us ≤ room := by have := HRM.out; omega
            go_wp2_with fail
            refine (used_any R3.out.meter).mono ?_
            rintro e w5 ⟨rfl, rfl⟩
            go_wp2
            go_roundw
            case rel => exact ⟨k + 1, us, t, by omega, by omega, by first | omega | (simp; omega), by go_num, rfl, by omega, by omega, R1, R2, R3, R4, R5⟩
            case measure => simp [intOf]; omega
        · have R1 := Lib.hid (HT.out.more (x := xk) (by omega) (by omega))
          go_wp2_with fail
          have c4 := take_mt HM.out xk
          rw [show takeR rm us xk = (us + xk, 0) by unfold takeR; rw [if_neg (by omega), if_neg (by omega)]] at c4
          refine c4.mono ?_
          rintro e w4 ⟨rfl, hm4, hg⟩
          have R4 := Lib.hid (below_of_grownBy HB.out hg (by omega) (by omega))
          have R2 := Lib.hid (owns_grown HOw.out hg (by omega))
          have hs4 := hg.size
          have R3 := Lib.hid hm4
          clear hg HM HOw HB hc c4 hm4
          
          have hc4 := HC.out _ R4.out
          have hgt := R2.out
          have ht30 : t.length + 1 ≤ 31 := by omega
          go_wp2_with (at_builtin; refine wpList_append_own _ rfl _ _ 48 rfl (g + 1) 3 is (.int .i64 0) 1 8 Try.underlying48 hse hsz0 hsz1 hsz2 rfl (by decide) _ _ _ rfl (R2.out.alloc _) ⟨w4.heap.size, 0, none⟩ 1 1 [.int .i64 xk] rfl rfl ?c1 ?c2 ?c3 ?c4 ?c5 ?_)
          case c1 => exact cell_one_new _ _ _
          case c2 => intro u hu; simp at hu; subst hu; rfl
          case c3 => unfold maxLen; omega
          case c4 => omega
          case c5 => simp; omega
          intro v' w6 hown' hgrow _
          have R6 := Lib.hid ((R3.out.alloc (.cells #[.int .i64 xk] 3)).grown hgrow (own_ne hgt (by omega)))
          have R7 : Hid (w6.ownsRow (g + 1) 3 1 v' (t ++ [xk]).length (ints (t ++ [xk]))) := Lib.hid (by unfold ints at hown' ⊢; rw [List.length_append, List.map_append]; exact hown')
          have R8 : Hid (Below G w w6) := Lib.hid (below_own (by omega) (R4.out.alloc (by omega) (.cells #[.int .i64 xk] 3)) (by simp; omega) (hgt.alloc _) hgrow)
          have R5 : g + 1 ≤ w6.heap.size := by have := hgrow.size; simp at this; omega
          clear hown' hgrow R2 R3 R4 hgt hc4
          by_cases hneg : room < 0
          · have hq : us + xk ≤ 0 := by have := HRM.out; omega
            go_wp2_with fail
            refine (used_any R6.out.meter).mono ?_
            rintro e w5 ⟨rfl, rfl⟩
            go_wp2
            go_roundw
            case rel => exact ⟨k + 1, us + xk, t ++ [xk], by omega, by omega, by first | omega | (simp; omega), by go_num, rfl, by omega, by omega, R1, R7, R6, R8, R5⟩
            case measure => simp [intOf]; omega
          · have hq : us + xk ≤ room := by have := HRM.out; omega
            go_wp2_with fail
            refine (used_any R6.out.meter).mono ?_
            rintro e w5 ⟨rfl, rfl⟩
            go_wp2
            go_roundw
            case rel => exact ⟨k + 1, us + xk, t ++ [xk], by omega, by omega, by first | omega | (simp; omega), by go_num, rfl, by omega, by omega, R1, R7, R6, R8, R5⟩
            case measure => simp [intOf]; omega
    · clear HL
      have ht31 : t.length ≤ 30 := by omega
      obtain ⟨A2, c2, rfl, hL2, hA2, _⟩ := own_slice HOw.out
      have HLo := Lib.hid hL2; clear hL2 HOw
      generalize hBt : wr.heap.size = Bt at *
      by_cases hlt : k < l.length
      · obtain rfl : k = 30 := by omega
        go_wp2_with fail
        have h0 := HLo
        go_loopw [54] (fun i wr => ∃ j : Nat, j ≤ t.length ∧ i = .int .i64 (j : Int) ∧ Hid (Mt wr g rm ((t.drop j).sum)) ∧ Hid (Below G w wr) ∧ Hid (Lies wr Bt A2 (ints t)) ∧ Bt ≤ wr.heap.size)
          (fun i _ => t.length - (intOf i).toNat)
        case atStart => exact ⟨0, by omega, rfl, Lib.hid (by rw [List.drop_zero, HT.out.2]; exact HM.out), HB, HLo, by omega⟩
        case round =>
          clear h0 HM HB HLo
          obtain ⟨j, hj, rfl, HM, HB, HLo, hsz⟩ := hrel
          by_cases hlt : j < t.length
          · obtain ⟨ad2, rfl, _, hc2⟩ := HLo.out.int hlt
            obtain ⟨q1, q2, q3, q4⟩ := took_left HT.out hlt
            have hge := hA2 ad2 rfl
            rw [q1] at HM
            generalize hy : t[j] = y at *
            have HY := Lib.hid hy; clear hy q1
            generalize hS : (t.drop (j + 1)).sum = S at *
            have HS := Lib.hid hS; clear hS
            go_wp2_with fail
            refine (give_mt HM.out y q2 (by omega)).mono ?_
            rintro e w8 ⟨rfl, hm8, hg⟩
            have R1 : Hid (Mt w8 g rm ((t.drop (j + 1)).sum)) := Lib.hid (by rw [HS.out, show S = y + S - y by omega]; exact hm8)
            have R2 := Lib.hid (below_of_grownBy HB.out hg (by omega) (by omega))
            have R3 := Lib.hid (Lies.far HLo.out hg hsz (fun ad e _ => by cases e; omega))
            have R5 : Bt ≤ w8.heap.size := by have := hg.size; omega
            clear hg HM HB HLo hm8 hc2
            go_wp2
            go_roundw
            case rel => exact ⟨j + 1, by omega, by go_num, R1, R2, R3, R5⟩
            case measure => simp [intOf]; omega
          · obtain rfl : j = t.length := by omega
            rw [List.drop_length, List.sum_nil] at HM
            have hgB : g < wr.heap.size := by omega
            go_wp2_with fail
            refine (dev_awake_any _).mono ?_
            rintro e w9 ⟨rfl, hb9⟩
            have R1 := Lib.hid (HM.out.below hb9 hgB)
            have R2 := Lib.hid (HB.out.trans (hb9.mono (by omega)))
            clear HM HB HLo hb9
            go_wp2_with fail
            refine (used_any R1.out.meter).mono ?_
            rintro e w10 ⟨rfl, rfl⟩
            go_wp2_with fail
            refine (free_any R1.out.meter).mono ?_
            rintro e w11 ⟨rfl, m, rfl⟩
            rw [show rm - 0 = rm by omega]
            have R3 : Hid (Mt (w10.drewN m) g rm 0) := Lib.hid ⟨R1.out.at_.drewN m, R1.out.le, R1.out.pos, R1.out.top⟩
            go_wp2_with fail
            refine (room_any R3.out.meter).mono ?_
            rintro e w12 ⟨rfl, rfl⟩
            go_wp2
            go_ret
            exact ⟨rfl, by rw [HG.out]; exact below_drewN R2.out m⟩
      · obtain rfl : k = l.length := by omega
        go_wp2_with fail
        have h0 := HLo
        go_loopw [54] (fun i wr => ∃ j : Nat, j ≤ t.length ∧ i = .int .i64 (j : Int) ∧ Hid (Mt wr g rm ((t.drop j).sum)) ∧ Hid (Below G w wr) ∧ Hid (Lies wr Bt A2 (ints t)) ∧ Bt ≤ wr.heap.size)
          (fun i _ => t.length - (intOf i).toNat)
        case atStart => exact ⟨0, by omega, rfl, Lib.hid (by rw [List.drop_zero, HT.out.2]; exact HM.out), HB, HLo, by omega⟩
        case round =>
          clear h0 HM HB HLo
          obtain ⟨j, hj, rfl, HM, HB, HLo, hsz⟩ := hrel
          by_cases hlt : j < t.length
          · obtain ⟨ad2, rfl, _, hc2⟩ := HLo.out.int hlt
            obtain ⟨q1, q2, q3, q4⟩ := took_left HT.out hlt
            have hge := hA2 ad2 rfl
            rw [q1] at HM
            generalize hy : t[j] = y at *
            have HY := Lib.hid hy; clear hy q1
            generalize hS : (t.drop (j + 1)).sum = S at *
            have HS := Lib.hid hS; clear hS
            go_wp2_with fail
            refine (give_mt HM.out y q2 (by omega)).mono ?_
            rintro e w8 ⟨rfl, hm8, hg⟩
            have R1 : Hid (Mt w8 g rm ((t.drop (j + 1)).sum)) := Lib.hid (by rw [HS.out, show S = y + S - y by omega]; exact hm8)
            have R2 := Lib.hid (below_of_grownBy HB.out hg (by omega) (by omega))
            have R3 := Lib.hid (Lies.far HLo.out hg hsz (fun ad e _ => by cases e; omega))
            have R5 : Bt ≤ w8.heap.size := by have := hg.size; omega
            clear hg HM HB HLo hm8 hc2
            go_wp2
            go_roundw
            case rel => exact ⟨j + 1, by omega, by go_num, R1, R2, R3, R5⟩
            case measure => simp [intOf]; omega
          · obtain rfl : j = t.length := by omega
            rw [List.drop_length, List.sum_nil] at HM
            have hgB : g < wr.heap.size := by omega
            go_wp2_with fail
            refine (dev_awake_any _).mono ?_
            rintro e w9 ⟨rfl, hb9⟩
            have R1 := Lib.hid (HM.out.below hb9 hgB)
            have R2 := Lib.hid (HB.out.trans (hb9.mono (by omega)))
            clear HM HB HLo hb9
            go_wp2_with fail
            refine (used_any R1.out.meter).mono ?_
            rintro e w10 ⟨rfl, rfl⟩
            go_wp2_with fail
            refine (free_any R1.out.meter).mono ?_
            rintro e w11 ⟨rfl, m, rfl⟩
            rw [show rm - 0 = rm by omega]
            have R3 : Hid (Mt (w10.drewN m) g rm 0) := Lib.hid ⟨R1.out.at_.drewN m, R1.out.le, R1.out.pos, R1.out.top⟩
            go_wp2_with fail
            refine (room_any R3.out.meter).mono ?_
            rintro e w12 ⟨rfl, rfl⟩
            go_wp2
            go_ret
            exact ⟨rfl, by rw [HG.out]; exact below_drewN R2.out m⟩

set_option maxRecDepth 100000 in
theorem lifted (os : Os) (started : os.Started) (H : Type) (enc : TypeId × Value → H) :
    ReturnsInHanded {} Try.checked os 5 .any (Rows.meterRoomSpec.pre6 enc Try.prog Try.f5 Rows.meterRoomRow.domain false) (Rows.meterRoomSpec.post enc Try.prog Try.f5 false true false false) := by
  refine returnsInHanded_of_change (C := Try.checked) own started (by kernel_rfl) Try.func5
    (ChangeSpec.witness6 (enc := enc) (C := Try.checked) false ⟨#[], #[.int .i64 0, .slice none 0 0], []⟩ 8 (by kernel_rfl) (by kernel_rfl) (by kernel_rfl) (by kernel_rfl)) ?_
  intro W base args ds gs before hval0 hW hcnd _
  have hval : ∀ (j : Nat) t v, Try.f5.params[j]? = some t → args[j]? = some v → Value.okWide Try.prog W .any base t v := hval0
  have hW' := hW
  obtain ⟨p, q, hA0, hV, rfl, hfz, hnd⟩ := hW
  have hA : DataW.TrodAll enc Try.prog W 0 (fun _ => true) true Try.f5.params.toList args.toList ds p := hA0
  rw [Try.params5] at hA hval
  obtain ⟨v0, vs0, d0, ds0, p0, q0, hargs, rfl, rfl, h0, r0⟩ := trodAll_cons hA
  obtain ⟨v1, vs1, d1, ds1, p1, q1, rfl, rfl, rfl, h1, r1⟩ := trodAll_cons r0
  obtain ⟨rfl, rfl, rfl⟩ := trodAll_nil r1
  obtain rfl : args = #[v0, v1] := by cases args; simp_all
  obtain ⟨rfl, rfl⟩ := trodVars_none hV
  obtain ⟨a0, rfl, rfl, rfl, w0⟩ := open_int Try.underlying3 (hval 0 3 v0 rfl rfl) h0
  obtain ⟨A1, c1, l, rfl, hc1, hL1, hl1⟩ := open_list_ints Try.underlying48 Try.underlying3 (by kernel_rfl) (hval 1 48 v1 rfl rfl) h1
  refine (walk a0 (bounds_i64 w0).2 A1 c1 l W hL1 hl1).mono fun e W' ⟨he, hg⟩ => ?_
  subst he
  exact ⟨_, rfl, law_post (tb := 4) hW' rfl (by kernel_rfl) Try.underlying4 (by rw [Try.params5]; decide +kernel) rfl hg⟩

theorem proved : Rows.MeterRoomSaid :=
  OpenClaim.holds_of_wide 5 Try.f5 rfl rfl rfl rfl rfl rfl rfl ⟨rfl, rfl, rfl, rfl, rfl⟩ rfl rfl rfl rfl rfl (by kernel_rfl) Try.func5 (by kernel_rfl)
    (of_decide_eq_true (by kernel_rfl)) (by unfold Func.isWrapper; first | (rw [if_pos (by decide +kernel)]; kernel_rfl) | (rw [if_neg (by decide +kernel)]; exact ⟨rfl, rfl⟩))
    (fun os started H enc _ => lifted os started H enc)
#print axioms proved
end Go.Proofs.Ytpjimnaponmffaa.meterRoom
