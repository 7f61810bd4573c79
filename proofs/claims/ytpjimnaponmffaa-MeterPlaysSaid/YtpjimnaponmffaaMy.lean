/- 'a device that embeds both does what it should': glacierlaw03.MeterPlays returns true for every input. No condition. -/
import Derived.Test.YtpjimnaponmffaaMa
import Derived.Test.YtpjimnaponmffaaMx
import Derived.Test.YtpjimnaponmffaaLw
import Derived.Test.YtpjimnaponmffaaOp
import Derived.Test.YtpjimnaponmffaaRows
import Derived.ProofKit
import Derived.OpenShut
namespace Go.Proofs.Ytpjimnaponmffaa.meterPlays
open Go.ChangeShapes Go.WideShapes Go.ChangeAt Go.RowKit
set_option linter.unusedVariables false

theorem own : ownKnob Try.prog.godebug = none := by kernel_rfl

theorem addr_at (ad : Addr) (i j : Nat) : ad.add (i + (j + 1)) = ⟨(ad.add i).block, (ad.add i).off + (j + 1), none⟩ := by
  unfold Addr.add
  by_cases h : i = 0 <;> simp [h, Nat.add_assoc]

/-- acts (a kind, a number) that came in, one behind the other -/
def Acts (w : World) (B : Nat) (A : Option Addr) (l : List (Int × Int)) : Prop :=
  ∀ i (h : i < l.length), ∃ ad, A = some ad ∧ ad.block < B ∧ w.cell? (ad.add (i * 2)) = some (.int .i64 l[i].1) ∧ w.cell? (ad.add (i * 2 + 1)) = some (.int .i64 l[i].2) ∧
    -9223372036854775808 ≤ l[i].2 ∧ l[i].2 ≤ 9223372036854775807
theorem Acts.below {w w' : World} {B : Nat} {A : Option Addr} {l : List (Int × Int)} (h : Acts w B A l) (hb : Below B w w') : Acts w' B A l := fun i hi => by
  obtain ⟨ad, h1, h2, h3, h4, h5⟩ := h i hi
  exact ⟨ad, h1, h2, (hb.cell (p := ad.add (i * 2)) (by rw [add_block]; exact h2)).trans h3, (hb.cell (p := ad.add (i * 2 + 1)) (by rw [add_block]; exact h2)).trans h4, h5⟩

theorem act_fields : ∃ fs : Array Field, Try.prog.underlying 36 = some (.struct fs) ∧ fs.size = 2 ∧ Go.Deep.oneCellFields Try.prog fs = true ∧ fs.toList.map (fun f : Field => f.type) = [3, 3] := by
  refine ⟨_, Try.underlying36, ?_, ?_, ?_⟩ <;> kernel_rfl
theorem act_cells : Try.prog.cellsOf 36 = 2 := by kernel_rfl
theorem two {cs : List Value} (h : cs.length = 2) : ∃ a b, cs = [a, b] := by
  match cs, h with
  | [a, b], _ => exact ⟨a, b, rfl⟩

theorem open_acts {H : Type} {enc : TypeId × Value → H} {W : World} {base : Nat} {spare : Nat → Bool} {held : Bool} {v : Value} {d : DataW H} {p : List MemPlace} {r : Reach} {b0 : Nat}
    (hv : Value.okWide Try.prog W r b0 22 v) (h : DataW.Trod enc Try.prog W base spare held 22 v d p) :
    ∃ (A : Option Addr) (cap : Nat) (l : List (Int × Int)), v = .slice A l.length cap ∧ Acts W W.heap.size A l := by
  obtain ⟨fs, he, hsz, hone, hty⟩ := act_fields
  obtain ⟨A, len, cap, rfl, hlc, hi⟩ := open_structs Try.underlying22 he hone (by rw [act_cells, hsz]) (by omega) hv h
  rw [hsz] at hi
  have key : ∀ i, ∃ t : Int × Int, i < len → ∃ ad, A = some ad ∧ ad.block < W.heap.size ∧ W.cell? (ad.add (i * 2)) = some (.int .i64 t.1) ∧ W.cell? (ad.add (i * 2 + 1)) = some (.int .i64 t.2) ∧ -9223372036854775808 ≤ t.2 ∧ t.2 ≤ 9223372036854775807 := by
    intro i
    by_cases hil : i < len
    · obtain ⟨ad, cs, hA, hblk, hcl, hcell, hrd⟩ := hi i hil
      obtain ⟨c0, c1, rfl⟩ := two hcl
      have hf : ∀ j (hj : j < 2), ∃ f, fs[j]? = some f ∧ [3, 3][j]? = some f.type := fun j hj => by
        have hj' : j < fs.size := by omega
        refine ⟨fs[j], Array.getElem?_eq_getElem hj', ?_⟩
        rw [← hty, List.getElem?_map]
        simp [hj']
      obtain ⟨f0, g0, e0⟩ := hf 0 (by omega)
      obtain ⟨f1, g1, e1⟩ := hf 1 (by omega)
      simp at e0 e1
      obtain ⟨n0, x0, r0⟩ := hrd 0 f0 c0 g0 rfl
      obtain ⟨n1, x1, r1⟩ := hrd 1 f1 c1 g1 rfl
      rw [← e0] at r0
      rw [← e1] at r1
      obtain ⟨K, k0, _, w0⟩ := DataW.trod_int Try.underlying3 r0
      obtain ⟨N, k1, _, w1⟩ := DataW.trod_int Try.underlying3 r1
      have b1 := bounds_i64 w1
      simp at k0 k1
      subst k0 k1
      exact ⟨(K, N), fun _ => ⟨ad, hA, hblk, by have := hcell 0 _ rfl; simpa using this, hcell 1 _ rfl, b1⟩⟩
    · exact ⟨(0, 0), fun h => absurd h hil⟩
  obtain ⟨f, hf⟩ := Classical.axiomOfChoice key
  refine ⟨A, cap, (List.range len).map f, by simp, fun i hil => ?_⟩
  simp at hil
  obtain ⟨ad, h1⟩ := hf i hil
  refine ⟨ad, ?_⟩
  simpa using h1

/-- block gd is the device, gm and gl are what the reference has; nothing below G has turned since w -/
structure Pl (w W : World) (G gd gm gl : Nat) (rm us : Int) (lo : Bool) (lf us' : Int) (lo' : Bool) (f' : Int) : Prop where
  below : Below G w W
  dev : Dev W gd rm us lo lf
  m : At W gm 31 #[.int .i64 rm, .int .i64 us']
  l : At W gl 33 #[.bool lo', .int .i64 f']
  h0 : G ≤ gd
  h1 : gd < gm
  h2 : gm < gl

section
variable {w W W' : World} {G gd gm gl : Nat} {rm us us' us2 : Int} {lo lo' lo2 : Bool} {lf f' lf2 : Int}
theorem Pl.size (h : Pl w W G gd gm gl rm us lo lf us' lo' f') : gl < W.heap.size := h.l.lt
theorem Pl.size2 (h : Pl w W G gd gm gl rm us lo lf us' lo' f') : G ≤ W.heap.size := by have := h.h0; have := h.h1; have := h.h2; have := h.l.lt; omega
theorem Pl.keep (h : Pl w W G gd gm gl rm us lo lf us' lo' f') (hb : Below W.heap.size W W') : Pl w W' G gd gm gl rm us lo lf us' lo' f' :=
  ⟨h.below.trans (hb.mono h.size2), h.dev.below hb h.dev.lt, h.m.below hb h.m.lt, h.l.below hb h.l.lt, h.h0, h.h1, h.h2⟩
theorem Pl.alloc (h : Pl w W G gd gm gl rm us lo lf us' lo' f') (o : Obj) : Pl w (W.alloc o) G gd gm gl rm us lo lf us' lo' f' := h.keep ((Below.refl _ _).alloc (Nat.le_refl _) o)
theorem Pl.drewN (h : Pl w W G gd gm gl rm us lo lf us' lo' f') (n : Nat) : Pl w (W.drewN n) G gd gm gl rm us lo lf us' lo' f' :=
  ⟨below_drewN h.below n, h.dev.drewN n, h.m.drewN n, h.l.drewN n, h.h0, h.h1, h.h2⟩
theorem Pl.onDev (h : Pl w W G gd gm gl rm us lo lf us' lo' f') (hd : Dev W' gd rm us2 lo2 lf2) (hg : W.grownBy W' (some gd)) : Pl w W' G gd gm gl rm us2 lo2 lf2 us' lo' f' :=
  ⟨below_of_grownBy h.below hg h.size2 h.h0, hd, h.m.grown hg (by have := h.h1; simp; omega), h.l.grown hg (by have := h.h1; have := h.h2; simp; omega), h.h0, h.h1, h.h2⟩
theorem Pl.setM (h : Pl w W G gd gm gl rm us lo lf us' lo' f') (u : Int) (j : Nat) (v : Value) (hv : (#[Value.int .i64 rm, .int .i64 us'].setIfInBounds j v) = #[.int .i64 rm, .int .i64 u]) : Pl w (W.setCell ⟨gm, j, none⟩ v) G gd gm gl rm us lo lf u lo' f' :=
  ⟨below_of_grownBy h.below (grown_set W gm j v) h.size2 (by have := h.h0; have := h.h1; omega), h.dev.grown (grown_set W gm j v) (by have := h.h1; simp; omega), hv ▸ h.m.set j v, h.l.grown (grown_set W gm j v) (by have := h.h2; simp; omega), h.h0, h.h1, h.h2⟩
theorem Pl.setL (h : Pl w W G gd gm gl rm us lo lf us' lo' f') (b : Bool) (u : Int) (j : Nat) (v : Value) (hv : (#[Value.bool lo', .int .i64 f'].setIfInBounds j v) = #[.bool b, .int .i64 u]) : Pl w (W.setCell ⟨gl, j, none⟩ v) G gd gm gl rm us lo lf us' b u :=
  ⟨below_of_grownBy h.below (grown_set W gl j v) h.size2 (by have := h.h0; have := h.h1; have := h.h2; omega), h.dev.grown (grown_set W gl j v) (by have := h.h1; have := h.h2; simp; omega), h.m.grown (grown_set W gl j v) (by have := h.h2; simp; omega), hv ▸ h.l.set j v, h.h0, h.h1, h.h2⟩
end

set_option maxRecDepth 100000 in
set_option maxHeartbeats 4000000 in
theorem walk (room : Int) (hr1 : room ≤ 9223372036854775807) (A : Option Addr) (c : Nat) (l : List (Int × Int)) (w : World) (hL : Acts w w.heap.size A l) :
    Calls Try.prog 3 #[.int .i64 room, .slice A l.length c] w fun e w' => e = .returned (.bool true) ∧ Below w.heap.size w w' := by
  have HL := Lib.hid hL; clear hL
  have hrm : (0 : Int) ≤ max room 0 ∧ max room 0 ≤ 9223372036854775807 := by omega
  obtain ⟨rm, hrm'⟩ : ∃ rm, max room 0 = rm := ⟨_, rfl⟩
  rw [hrm'] at hrm
  have hrm2 : (if room < 0 then (0 : Int) else room) = rm := by rw [← hrm']; split <;> omega
  have hvm : (if room < 0 then Value.int .i64 0 else Value.int .i64 room) = Value.int .i64 rm := by rw [← hrm2]; split <;> rfl
  have HRM := Lib.hid hrm'; clear hrm'
  obtain ⟨hrm0, hrm1⟩ := hrm
  go_enter Try.func3, Try.ntmps3
  go_wp2_with fail
  refine (made_new room w).mono ?_
  rintro e w1 ⟨rfl, hb1⟩
  rw [HRM.out]
  have hs1 := hb1.size
  go_wp2_with fail
  have hP0 : Pl w (((w1.alloc (.cells #[.int .i64 rm, .int .i64 0, .bool false, .int .i64 0] 29)).alloc (.cells #[.int .i64 rm, .int .i64 0] 31)).alloc (.cells #[.bool false, .int .i64 (-1)] 33)) w.heap.size w1.heap.size (w1.heap.size + 1) (w1.heap.size + 1 + 1) rm 0 false 0 0 false (-1) := by
    refine ⟨((hb1.alloc hs1 _).alloc (by simp; omega) _).alloc (by simp; omega) _, ?_, ?_, ?_, hs1, by omega, by omega⟩
    · exact ((Dev.of_at (At.new w1 29 _) rfl rfl rfl rfl hrm0 (by omega) hrm1 (by omega) (by omega)).alloc _).alloc _
    · have h := (At.new (w1.alloc (.cells #[.int .i64 rm, .int .i64 0, .bool false, .int .i64 0] 29)) 31 #[.int .i64 rm, .int .i64 0]).alloc (.cells #[.bool false, .int .i64 (-1)] 33)
      rw [show (w1.alloc (.cells #[.int .i64 rm, .int .i64 0, .bool false, .int .i64 0] 29)).heap.size = w1.heap.size + 1 by simp] at h
      exact h
    · have h := At.new ((w1.alloc (.cells #[.int .i64 rm, .int .i64 0, .bool false, .int .i64 0] 29)).alloc (.cells #[.int .i64 rm, .int .i64 0] 31)) 33 #[.bool false, .int .i64 (-1)]
      rw [show ((w1.alloc (.cells #[.int .i64 rm, .int .i64 0, .bool false, .int .i64 0] 29)).alloc (.cells #[.int .i64 rm, .int .i64 0] 31)).heap.size = w1.heap.size + 2 by simp] at h
      exact h
  generalize (((w1.alloc (.cells #[.int .i64 rm, .int .i64 0, .bool false, .int .i64 0] 29)).alloc (.cells #[.int .i64 rm, .int .i64 0] 31)).alloc (.cells #[.bool false, .int .i64 (-1)] 33)) = w2 at *
  generalize w1.heap.size = gd at *
  generalize hgm : gd + 1 = gm at *
  generalize hG : w.heap.size = G at *
  have HG := Lib.hid hG; clear hG
  clear hb1 hgm
  refine (dev_awake_any w2).mono ?_
  rintro e w3 ⟨rfl, hb3⟩
  have HP := Lib.hid (hP0.keep hb3)
  clear hP0 hb3
  go_wp2
  go_loopw [8] (fun i wr => ∃ (k : Nat) (us : Int) (lo : Bool) (lf : Int), k ≤ l.length ∧ k ≤ 40 ∧ i = .int .i64 (k : Int) ∧ Hid (Pl w wr G gd gm (gm + 1) rm us lo lf us lo (lf - 1)))
    (fun i _ => l.length - (intOf i).toNat)
  case atStart => exact ⟨0, 0, false, 0, by omega, by omega, rfl, HP⟩
  case round =>
    clear HP
    obtain ⟨k, us, lo, lf, hk, hk40, rfl, HP⟩ := hrel
    by_cases hgo : k < l.length ∧ k < 40
    · obtain ⟨hlt, h40⟩ := hgo
      obtain ⟨ad, rfl, _, q0, q1, hx⟩ := (HL.out.below HP.out.below) k hlt
      rw [addr_at] at q1
      obtain ⟨⟨K, n⟩, hKn⟩ : ∃ t, l[k] = t := ⟨_, rfl⟩
      rw [hKn] at q0 q1 hx
      clear hKn
      simp only at q0 q1 hx
      obtain ⟨hx0, hx1⟩ := hx
      by_cases h1 : K = 1
      · subst h1
        go_wp2_with fail
        refine (take_dev HP.out.dev n).mono ?_
        rintro e w4 ⟨rfl, hd, hg⟩
        have hpos := HP.out.dev.pos
        have hle := HP.out.dev.le
        have P1 := Lib.hid (HP.out.onDev hd hg)
        clear hd hg HP q0 q1
        have cell0 := P1.out.m.cell 0
        have cell1 := P1.out.m.cell 1
        have R := reftake_any rm us n hpos hle hrm1
        generalize takeR rm us n = p at *
        obtain ⟨u2, c2⟩ := p
        simp only at P1 R ⊢
        go_wp2_with fail
        refine (R w4).mono ?_
        rintro e w5 ⟨rfl, hb⟩
        have P2 := Lib.hid (P1.out.keep hb)
        clear hb P1 R cell0 cell1
        have cell0 : ∀ o, (w5.alloc o).cell? ⟨gm, 0, none⟩ = some (.int .i64 rm) := fun o => (P2.out.m.alloc o).cell 0
        have cell1 : ∀ o, (w5.alloc o).cell? ⟨gm, 1, none⟩ = some (.int .i64 us) := fun o => (P2.out.m.alloc o).cell 1
        have fr0 : ∀ o, (w5.alloc o).frozen? ⟨gm, 0, none⟩ = false := fun o => (P2.out.m.alloc o).frozen 0
        have fr1 : ∀ o, (w5.alloc o).frozen? ⟨gm, 1, none⟩ = false := fun o => (P2.out.m.alloc o).frozen 1
        go_wp2_with fail
        have P3 := Lib.hid (((P2.out.alloc (.cells #[.int .i64 rm, .int .i64 u2] 31)).setM us 0 (.int .i64 rm) rfl).setM u2 1 (.int .i64 u2) rfl)
        clear P2 cell0 cell1 fr0 fr1
        generalize ((w5.alloc (.cells #[.int .i64 rm, .int .i64 u2] 31)).setCell ⟨gm, 0, none⟩ (.int .i64 rm)).setCell ⟨gm, 1, none⟩ (.int .i64 u2) = W6 at *
        have hle2 := P3.out.dev.le
        have hpos2 := P3.out.dev.pos
        have hw2 : IntKind.i64.wrap (rm - u2) = rm - u2 := IntWalk.i64_in _ ⟨by omega, by omega⟩
        have cm0 := P3.out.m.cell 0
        have cm1 := P3.out.m.cell 1
        have cl0 := P3.out.l.cell 0
        go_quiet (first
          | (go_at_call 20; exact Calls.quiet_of_same (room_any (P3.out.dev.drewN _).meter))
          | (go_at_call 21; exact Calls.quiet_of_same (used_any (P3.out.dev.drewN _).meter))
          | (go_at_call 22; exact Calls.quiet_of (free_any (P3.out.dev.drewN _).meter))
          | (go_at_call 23; exact Calls.quiet_of_same (lost_any (P3.out.dev.drewN _).luck)))
        have P4 := Lib.hid (P3.out.drewN nq)
        clear P3 cm0 cm1 cl0
        go_wp2
        go_roundw
        case rel => exact ⟨k + 1, u2, lo, lf, by omega, by omega, by go_num, P4⟩
        case measure => simp [intOf]; omega
      · by_cases h2 : K = 2
        · subst h2
          go_wp2_with fail
          refine (give_dev HP.out.dev n).mono ?_
          rintro e w4 ⟨rfl, hd, hg⟩
          have hpos := HP.out.dev.pos
          have hle := HP.out.dev.le
          have P1 := Lib.hid (HP.out.onDev hd hg)
          clear hd hg HP q0 q1
          have cell0 := P1.out.m.cell 0
          have cell1 := P1.out.m.cell 1
          have R := refgive_any rm us n hpos hle hrm1
          generalize giveR us n = p at *
          obtain ⟨u2, c2⟩ := p
          simp only at P1 R ⊢
          go_wp2_with fail
          refine (R w4).mono ?_
          rintro e w5 ⟨rfl, hb⟩
          have P2 := Lib.hid (P1.out.keep hb)
          clear hb P1 R cell0 cell1
          have cell0 : ∀ o, (w5.alloc o).cell? ⟨gm, 0, none⟩ = some (.int .i64 rm) := fun o => (P2.out.m.alloc o).cell 0
          have cell1 : ∀ o, (w5.alloc o).cell? ⟨gm, 1, none⟩ = some (.int .i64 us) := fun o => (P2.out.m.alloc o).cell 1
          have fr0 : ∀ o, (w5.alloc o).frozen? ⟨gm, 0, none⟩ = false := fun o => (P2.out.m.alloc o).frozen 0
          have fr1 : ∀ o, (w5.alloc o).frozen? ⟨gm, 1, none⟩ = false := fun o => (P2.out.m.alloc o).frozen 1
          go_wp2_with fail
          have P3 := Lib.hid (((P2.out.alloc (.cells #[.int .i64 rm, .int .i64 u2] 31)).setM us 0 (.int .i64 rm) rfl).setM u2 1 (.int .i64 u2) rfl)
          clear P2 cell0 cell1 fr0 fr1
          generalize ((w5.alloc (.cells #[.int .i64 rm, .int .i64 u2] 31)).setCell ⟨gm, 0, none⟩ (.int .i64 rm)).setCell ⟨gm, 1, none⟩ (.int .i64 u2) = W6 at *
          have hle2 := P3.out.dev.le
          have hpos2 := P3.out.dev.pos
          have hw2 : IntKind.i64.wrap (rm - u2) = rm - u2 := IntWalk.i64_in _ ⟨by omega, by omega⟩
          have cm0 := P3.out.m.cell 0
          have cm1 := P3.out.m.cell 1
          have cl0 := P3.out.l.cell 0
          go_quiet (first
            | (go_at_call 20; exact Calls.quiet_of_same (room_any (P3.out.dev.drewN _).meter))
            | (go_at_call 21; exact Calls.quiet_of_same (used_any (P3.out.dev.drewN _).meter))
            | (go_at_call 22; exact Calls.quiet_of (free_any (P3.out.dev.drewN _).meter))
            | (go_at_call 23; exact Calls.quiet_of_same (lost_any (P3.out.dev.drewN _).luck)))
          have P4 := Lib.hid (P3.out.drewN nq)
          clear P3 cm0 cm1 cl0
          go_wp2
          go_roundw
          case rel => exact ⟨k + 1, u2, lo, lf, by omega, by omega, by go_num, P4⟩
          case measure => simp [intOf]; omega
        · by_cases h3 : K = 3
          · subst h3
            go_wp2_with fail
            refine (try_dev HP.out.dev).mono ?_
            rintro e w4 ⟨rfl, hd, hg⟩
            have hpos := HP.out.dev.lpos
            have htop := HP.out.dev.ltop
            have R := reftry_any lo lf hpos htop
            obtain ⟨f, hf⟩ : ∃ f, lf - 1 = f := ⟨_, rfl⟩
            have P1 := Lib.hid (HP.out.onDev hd hg)
            rw [hf] at P1 R
            clear hd hg HP q0 q1
            have cell0 := P1.out.l.cell 0
            have cell1 := P1.out.l.cell 1
            generalize tryR lo lf = p at *
            obtain ⟨f2, c2⟩ := p
            simp only at P1 R ⊢
            obtain ⟨f3, hf3⟩ : ∃ f3, f2 - 1 = f3 := ⟨_, rfl⟩
            rw [hf3] at R
            go_wp2_with fail
            refine (R w4).mono ?_
            rintro e w5 ⟨rfl, hb⟩
            have P2 := Lib.hid (P1.out.keep hb)
            clear hb P1 R cell0 cell1
            have cell0 : ∀ o, (w5.alloc o).cell? ⟨gm + 1, 0, none⟩ = some (.bool lo) := fun o => (P2.out.l.alloc o).cell 0
            have cell1 : ∀ o, (w5.alloc o).cell? ⟨gm + 1, 1, none⟩ = some (.int .i64 f) := fun o => (P2.out.l.alloc o).cell 1
            have fr0 : ∀ o, (w5.alloc o).frozen? ⟨gm + 1, 0, none⟩ = false := fun o => (P2.out.l.alloc o).frozen 0
            have fr1 : ∀ o, (w5.alloc o).frozen? ⟨gm + 1, 1, none⟩ = false := fun o => (P2.out.l.alloc o).frozen 1
            go_wp2_with fail
            have P3 := Lib.hid (((P2.out.alloc (.cells #[.bool lo, .int .i64 f3] 33)).setL lo f 0 (.bool lo) rfl).setL lo f3 1 (.int .i64 f3) rfl)
            clear P2 cell0 cell1 fr0 fr1
            generalize ((w5.alloc (.cells #[.bool lo, .int .i64 f3] 33)).setCell ⟨gm + 1, 0, none⟩ (.bool lo)).setCell ⟨gm + 1, 1, none⟩ (.int .i64 f3) = W6 at *
            rw [← hf3] at P3
            clear hf3 hf
            have hle2 := P3.out.dev.le
            have hpos2 := P3.out.dev.pos
            have hw2 : IntKind.i64.wrap (rm - us) = rm - us := IntWalk.i64_in _ ⟨by omega, by omega⟩
            have cm0 := P3.out.m.cell 0
            have cm1 := P3.out.m.cell 1
            have cl0 := P3.out.l.cell 0
            go_quiet (first
              | (go_at_call 20; exact Calls.quiet_of_same (room_any (P3.out.dev.drewN _).meter))
              | (go_at_call 21; exact Calls.quiet_of_same (used_any (P3.out.dev.drewN _).meter))
              | (go_at_call 22; exact Calls.quiet_of (free_any (P3.out.dev.drewN _).meter))
              | (go_at_call 23; exact Calls.quiet_of_same (lost_any (P3.out.dev.drewN _).luck)))
            have P4 := Lib.hid (P3.out.drewN nq)
            clear P3 cm0 cm1 cl0
            go_wp2
            go_roundw
            case rel => exact ⟨k + 1, us, lo, f2, by omega, by omega, by go_num, P4⟩
            case measure => simp [intOf]; omega
          · by_cases h4 : K = 4
            · subst h4
              obtain ⟨f, hf⟩ : ∃ f, lf - 1 = f := ⟨_, rfl⟩
              rw [hf] at HP
              clear hf
              by_cases ha : n < -1
              · go_wp2_with fail
                refine (fail_dev HP.out.dev n hx0).mono ?_
                rintro e w4 ⟨rfl, hd, hg⟩
                have P1 := Lib.hid (HP.out.onDev hd hg)
                clear hd hg HP q0 q1
                have cell1 := P1.out.l.cell 1
                have fr1 := P1.out.l.frozen 1
                have hv : (-1 : Int) = armed n - 1 := by
                  unfold armed
                  rw [if_pos (by omega)]; rfl
                have HV := Lib.hid hv; clear hv
                go_wp2_with fail
                have P3 := Lib.hid (P1.out.setL lo (armed n - 1) 1 (.int .i64 ((-1 : Int))) (by rw [← HV.out]; rfl))
                clear P1 cell1 fr1
                generalize w4.setCell ⟨gm + 1, 1, none⟩ (.int .i64 ((-1 : Int))) = W6 at *
                generalize armed n = f2 at *
                clear HV
                have hle2 := P3.out.dev.le
                have hpos2 := P3.out.dev.pos
                have hw2 : IntKind.i64.wrap (rm - us) = rm - us := IntWalk.i64_in _ ⟨by omega, by omega⟩
                have cm0 := P3.out.m.cell 0
                have cm1 := P3.out.m.cell 1
                have cl0 := P3.out.l.cell 0
                go_quiet (first
                  | (go_at_call 20; exact Calls.quiet_of_same (room_any (P3.out.dev.drewN _).meter))
                  | (go_at_call 21; exact Calls.quiet_of_same (used_any (P3.out.dev.drewN _).meter))
                  | (go_at_call 22; exact Calls.quiet_of (free_any (P3.out.dev.drewN _).meter))
                  | (go_at_call 23; exact Calls.quiet_of_same (lost_any (P3.out.dev.drewN _).luck)))
                have P4 := Lib.hid (P3.out.drewN nq)
                clear P3 cm0 cm1 cl0
                go_wp2
                go_roundw
                case rel => exact ⟨k + 1, us, lo, f2, by omega, by omega, by go_num, P4⟩
                case measure => simp [intOf]; omega
              · by_cases hb : 1073741824 < n
                · go_wp2_with fail
                  refine (fail_dev HP.out.dev n hx0).mono ?_
                  rintro e w4 ⟨rfl, hd, hg⟩
                  have P1 := Lib.hid (HP.out.onDev hd hg)
                  clear hd hg HP q0 q1
                  have cell1 := P1.out.l.cell 1
                  have fr1 := P1.out.l.frozen 1
                  have hv : (1073741824 : Int) = armed n - 1 := by
                    unfold armed
                    rw [if_neg (by omega), if_pos hb]; rfl
                  have HV := Lib.hid hv; clear hv
                  go_wp2_with fail
                  have P3 := Lib.hid (P1.out.setL lo (armed n - 1) 1 (.int .i64 ((1073741824 : Int))) (by rw [← HV.out]; rfl))
                  clear P1 cell1 fr1
                  generalize w4.setCell ⟨gm + 1, 1, none⟩ (.int .i64 ((1073741824 : Int))) = W6 at *
                  generalize armed n = f2 at *
                  clear HV
                  have hle2 := P3.out.dev.le
                  have hpos2 := P3.out.dev.pos
                  have hw2 : IntKind.i64.wrap (rm - us) = rm - us := IntWalk.i64_in _ ⟨by omega, by omega⟩
                  have cm0 := P3.out.m.cell 0
                  have cm1 := P3.out.m.cell 1
                  have cl0 := P3.out.l.cell 0
                  go_quiet (first
                    | (go_at_call 20; exact Calls.quiet_of_same (room_any (P3.out.dev.drewN _).meter))
                    | (go_at_call 21; exact Calls.quiet_of_same (used_any (P3.out.dev.drewN _).meter))
                    | (go_at_call 22; exact Calls.quiet_of (free_any (P3.out.dev.drewN _).meter))
                    | (go_at_call 23; exact Calls.quiet_of_same (lost_any (P3.out.dev.drewN _).luck)))
                  have P4 := Lib.hid (P3.out.drewN nq)
                  clear P3 cm0 cm1 cl0
                  go_wp2
                  go_roundw
                  case rel => exact ⟨k + 1, us, lo, f2, by omega, by omega, by go_num, P4⟩
                  case measure => simp [intOf]; omega
                · go_wp2_with fail
                  refine (fail_dev HP.out.dev n hx0).mono ?_
                  rintro e w4 ⟨rfl, hd, hg⟩
                  have P1 := Lib.hid (HP.out.onDev hd hg)
                  clear hd hg HP q0 q1
                  have cell1 := P1.out.l.cell 1
                  have fr1 := P1.out.l.frozen 1
                  have hv : n = armed n - 1 := by
                    unfold armed
                    split
                    · omega
                    · rw [if_neg (by omega)]; omega
                  have HV := Lib.hid hv; clear hv
                  go_wp2_with fail
                  have P3 := Lib.hid (P1.out.setL lo (armed n - 1) 1 (.int .i64 (n)) (by rw [← HV.out]; rfl))
                  clear P1 cell1 fr1
                  generalize w4.setCell ⟨gm + 1, 1, none⟩ (.int .i64 (n)) = W6 at *
                  generalize armed n = f2 at *
                  clear HV
                  have hle2 := P3.out.dev.le
                  have hpos2 := P3.out.dev.pos
                  have hw2 : IntKind.i64.wrap (rm - us) = rm - us := IntWalk.i64_in _ ⟨by omega, by omega⟩
                  have cm0 := P3.out.m.cell 0
                  have cm1 := P3.out.m.cell 1
                  have cl0 := P3.out.l.cell 0
                  go_quiet (first
                    | (go_at_call 20; exact Calls.quiet_of_same (room_any (P3.out.dev.drewN _).meter))
                    | (go_at_call 21; exact Calls.quiet_of_same (used_any (P3.out.dev.drewN _).meter))
                    | (go_at_call 22; exact Calls.quiet_of (free_any (P3.out.dev.drewN _).meter))
                    | (go_at_call 23; exact Calls.quiet_of_same (lost_any (P3.out.dev.drewN _).luck)))
                  have P4 := Lib.hid (P3.out.drewN nq)
                  clear P3 cm0 cm1 cl0
                  go_wp2
                  go_roundw
                  case rel => exact ⟨k + 1, us, lo, f2, by omega, by omega, by go_num, P4⟩
                  case measure => simp [intOf]; omega
            · by_cases h5 : K = 5
              · subst h5
                obtain ⟨f, hf⟩ : ∃ f, lf - 1 = f := ⟨_, rfl⟩
                rw [hf] at HP
                go_wp2_with fail
                refine (lose_dev HP.out.dev).mono ?_
                rintro e w4 ⟨rfl, hd, hg⟩
                have P1 := Lib.hid (HP.out.onDev hd hg)
                clear hd hg HP q0 q1
                have cell0 := P1.out.l.cell 0
                have fr0 := P1.out.l.frozen 0
                go_wp2_with fail
                have P3 := Lib.hid (P1.out.setL true f 0 (.bool true) rfl)
                clear P1 cell0 fr0
                generalize w4.setCell ⟨gm + 1, 0, none⟩ (.bool true) = W6 at *
                rw [← hf] at P3
                clear hf
                have hle2 := P3.out.dev.le
                have hpos2 := P3.out.dev.pos
                have hw2 : IntKind.i64.wrap (rm - us) = rm - us := IntWalk.i64_in _ ⟨by omega, by omega⟩
                have cm0 := P3.out.m.cell 0
                have cm1 := P3.out.m.cell 1
                have cl0 := P3.out.l.cell 0
                go_quiet (first
                  | (go_at_call 20; exact Calls.quiet_of_same (room_any (P3.out.dev.drewN _).meter))
                  | (go_at_call 21; exact Calls.quiet_of_same (used_any (P3.out.dev.drewN _).meter))
                  | (go_at_call 22; exact Calls.quiet_of (free_any (P3.out.dev.drewN _).meter))
                  | (go_at_call 23; exact Calls.quiet_of_same (lost_any (P3.out.dev.drewN _).luck)))
                have P4 := Lib.hid (P3.out.drewN nq)
                clear P3 cm0 cm1 cl0
                go_wp2
                go_roundw
                case rel => exact ⟨k + 1, us, true, lf, by omega, by omega, by go_num, P4⟩
                case measure => simp [intOf]; omega
              · by_cases h6 : K = 6
                · subst h6
                  have hpos := HP.out.dev.pos
                  have hle := HP.out.dev.le
                  have hwr : IntKind.i64.wrap (rm - us) = rm - us := IntWalk.i64_in _ ⟨by omega, by omega⟩
                  have cell0 := HP.out.m.cell 0
                  have cell1 := HP.out.m.cell 1
                  by_cases ha : n < 0
                  · go_wp2_with fail
                    refine (fits_any HP.out.dev.meter n).mono ?_
                    rintro e w4 ⟨he, m, rfl⟩
                    rw [show decide (n ≤ rm - us) = true by simp; omega] at he
                    subst he
                    have P3 := Lib.hid (HP.out.drewN m)
                    clear HP q0 q1 cell0 cell1
                    have cell0 := P3.out.m.cell 0
                    have cell1 := P3.out.m.cell 1
                    generalize wr.drewN m = W6 at *
                    go_wp2_with fail
                    clear cell0 cell1 hwr
                    have hle2 := P3.out.dev.le
                    have hpos2 := P3.out.dev.pos
                    have hw2 : IntKind.i64.wrap (rm - us) = rm - us := IntWalk.i64_in _ ⟨by omega, by omega⟩
                    have cm0 := P3.out.m.cell 0
                    have cm1 := P3.out.m.cell 1
                    have cl0 := P3.out.l.cell 0
                    go_quiet (first
                      | (go_at_call 20; exact Calls.quiet_of_same (room_any (P3.out.dev.drewN _).meter))
                      | (go_at_call 21; exact Calls.quiet_of_same (used_any (P3.out.dev.drewN _).meter))
                      | (go_at_call 22; exact Calls.quiet_of (free_any (P3.out.dev.drewN _).meter))
                      | (go_at_call 23; exact Calls.quiet_of_same (lost_any (P3.out.dev.drewN _).luck)))
                    have P4 := Lib.hid (P3.out.drewN nq)
                    clear P3 cm0 cm1 cl0
                    go_wp2
                    go_roundw
                    case rel => exact ⟨k + 1, us, lo, lf, by omega, by omega, by go_num, P4⟩
                    case measure => simp [intOf]; omega
                  · by_cases hb : n ≤ rm - us
                    · go_wp2_with fail
                      refine (fits_any HP.out.dev.meter n).mono ?_
                      rintro e w4 ⟨he, m, rfl⟩
                      rw [show decide (n ≤ rm - us) = true by simp; omega] at he
                      subst he
                      have P3 := Lib.hid (HP.out.drewN m)
                      clear HP q0 q1 cell0 cell1
                      have cell0 := P3.out.m.cell 0
                      have cell1 := P3.out.m.cell 1
                      generalize wr.drewN m = W6 at *
                      go_wp2_with fail
                      clear cell0 cell1 hwr
                      have hle2 := P3.out.dev.le
                      have hpos2 := P3.out.dev.pos
                      have hw2 : IntKind.i64.wrap (rm - us) = rm - us := IntWalk.i64_in _ ⟨by omega, by omega⟩
                      have cm0 := P3.out.m.cell 0
                      have cm1 := P3.out.m.cell 1
                      have cl0 := P3.out.l.cell 0
                      go_quiet (first
                        | (go_at_call 20; exact Calls.quiet_of_same (room_any (P3.out.dev.drewN _).meter))
                        | (go_at_call 21; exact Calls.quiet_of_same (used_any (P3.out.dev.drewN _).meter))
                        | (go_at_call 22; exact Calls.quiet_of (free_any (P3.out.dev.drewN _).meter))
                        | (go_at_call 23; exact Calls.quiet_of_same (lost_any (P3.out.dev.drewN _).luck)))
                      have P4 := Lib.hid (P3.out.drewN nq)
                      clear P3 cm0 cm1 cl0
                      go_wp2
                      go_roundw
                      case rel => exact ⟨k + 1, us, lo, lf, by omega, by omega, by go_num, P4⟩
                      case measure => simp [intOf]; omega
                    · go_wp2_with fail
                      refine (fits_any HP.out.dev.meter n).mono ?_
                      rintro e w4 ⟨he, m, rfl⟩
                      rw [show decide (n ≤ rm - us) = false by simp; omega] at he
                      subst he
                      have P3 := Lib.hid (HP.out.drewN m)
                      clear HP q0 q1 cell0 cell1
                      have cell0 := P3.out.m.cell 0
                      have cell1 := P3.out.m.cell 1
                      generalize wr.drewN m = W6 at *
                      go_wp2_with fail
                      clear cell0 cell1 hwr
                      have hle2 := P3.out.dev.le
                      have hpos2 := P3.out.dev.pos
                      have hw2 : IntKind.i64.wrap (rm - us) = rm - us := IntWalk.i64_in _ ⟨by omega, by omega⟩
                      have cm0 := P3.out.m.cell 0
                      have cm1 := P3.out.m.cell 1
                      have cl0 := P3.out.l.cell 0
                      go_quiet (first
                        | (go_at_call 20; exact Calls.quiet_of_same (room_any (P3.out.dev.drewN _).meter))
                        | (go_at_call 21; exact Calls.quiet_of_same (used_any (P3.out.dev.drewN _).meter))
                        | (go_at_call 22; exact Calls.quiet_of (free_any (P3.out.dev.drewN _).meter))
                        | (go_at_call 23; exact Calls.quiet_of_same (lost_any (P3.out.dev.drewN _).luck)))
                      have P4 := Lib.hid (P3.out.drewN nq)
                      clear P3 cm0 cm1 cl0
                      go_wp2
                      go_roundw
                      case rel => exact ⟨k + 1, us, lo, lf, by omega, by omega, by go_num, P4⟩
                      case measure => simp [intOf]; omega
                · have P3 := HP
                  clear HP
                  go_wp2_with fail
                  clear q0 q1
                  have hle2 := P3.out.dev.le
                  have hpos2 := P3.out.dev.pos
                  have hw2 : IntKind.i64.wrap (rm - us) = rm - us := IntWalk.i64_in _ ⟨by omega, by omega⟩
                  have cm0 := P3.out.m.cell 0
                  have cm1 := P3.out.m.cell 1
                  have cl0 := P3.out.l.cell 0
                  go_quiet (first
                    | (go_at_call 20; exact Calls.quiet_of_same (room_any (P3.out.dev.drewN _).meter))
                    | (go_at_call 21; exact Calls.quiet_of_same (used_any (P3.out.dev.drewN _).meter))
                    | (go_at_call 22; exact Calls.quiet_of (free_any (P3.out.dev.drewN _).meter))
                    | (go_at_call 23; exact Calls.quiet_of_same (lost_any (P3.out.dev.drewN _).luck)))
                  have P4 := Lib.hid (P3.out.drewN nq)
                  clear P3 cm0 cm1 cl0
                  go_wp2
                  go_roundw
                  case rel => exact ⟨k + 1, us, lo, lf, by omega, by omega, by go_num, P4⟩
                  case measure => simp [intOf]; omega
    · have hB := HP.out.below
      clear HP
      by_cases hlt : k < l.length
      · obtain rfl : k = 40 := by omega
        go_wp2
        go_ret
        exact ⟨rfl, by rw [HG.out]; exact hB⟩
      · obtain rfl : k = l.length := by omega
        go_wp2
        go_ret
        exact ⟨rfl, by rw [HG.out]; exact hB⟩

set_option maxRecDepth 100000 in
theorem lifted (os : Os) (started : os.Started) (H : Type) (enc : TypeId × Value → H) :
    ReturnsInHanded {} Try.checked os 3 .any (Rows.meterPlaysSpec.pre6 enc Try.prog Try.f3 Rows.meterPlaysRow.domain false) (Rows.meterPlaysSpec.post enc Try.prog Try.f3 false true false false) := by
  refine returnsInHanded_of_change (C := Try.checked) own started (by kernel_rfl) Try.func3
    (ChangeSpec.witness6 (enc := enc) (C := Try.checked) false ⟨#[], #[.int .i64 0, .slice none 0 0], []⟩ 8 (by kernel_rfl) (by kernel_rfl) (by kernel_rfl) (by kernel_rfl)) ?_
  intro W base args ds gs before hval0 hW hcnd _
  have hval : ∀ (j : Nat) t v, Try.f3.params[j]? = some t → args[j]? = some v → Value.okWide Try.prog W .any base t v := hval0
  have hW' := hW
  obtain ⟨p, q, hA0, hV, rfl, hfz, hnd⟩ := hW
  have hA : DataW.TrodAll enc Try.prog W 0 (fun _ => true) true Try.f3.params.toList args.toList ds p := hA0
  rw [Try.params3] at hA hval
  obtain ⟨v0, vs0, d0, ds0, p0, q0, hargs, rfl, rfl, h0, r0⟩ := trodAll_cons hA
  obtain ⟨v1, vs1, d1, ds1, p1, q1, rfl, rfl, rfl, h1, r1⟩ := trodAll_cons r0
  obtain ⟨rfl, rfl, rfl⟩ := trodAll_nil r1
  obtain rfl : args = #[v0, v1] := by cases args; simp_all
  obtain ⟨rfl, rfl⟩ := trodVars_none hV
  obtain ⟨a0, rfl, rfl, rfl, w0⟩ := open_int Try.underlying3 (hval 0 3 v0 rfl rfl) h0
  obtain ⟨A1, c1, l, rfl, hL1⟩ := open_acts (hval 1 22 v1 rfl rfl) h1
  refine (walk a0 (bounds_i64 w0).2 A1 c1 l W hL1).mono fun e W' ⟨he, hg⟩ => ?_
  subst he
  exact ⟨_, rfl, law_post (tb := 4) hW' rfl (by kernel_rfl) Try.underlying4 (by rw [Try.params3]; decide +kernel) rfl hg⟩

theorem proved : Rows.MeterPlaysSaid :=
  OpenClaim.holds_of_wide 3 Try.f3 rfl rfl rfl rfl rfl rfl rfl ⟨rfl, rfl, rfl, rfl, rfl⟩ rfl rfl rfl rfl rfl (by kernel_rfl) Try.func3 (by kernel_rfl)
    (of_decide_eq_true (by kernel_rfl)) (by unfold Func.isWrapper; first | (rw [if_pos (by decide +kernel)]; kernel_rfl) | (rw [if_neg (by decide +kernel)]; exact ⟨rfl, rfl⟩))
    (fun os started H enc _ => lifted os started H enc)
#print axioms proved
end Go.Proofs.Ytpjimnaponmffaa.meterPlays
