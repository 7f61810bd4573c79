/- Yj, Yo, Yx, Ya: merged (a claim holds few files). -/
import Derived.Test.YtplmflagffloeaaDoorB10
import Derived.Deep.QuietTactic
import Derived.BigQuiet
import Derived.Test.YtplmflagffloeaaDoorCu
/- term.State's Last, rest, TermAt, From: their walks. -/
namespace Go.Proofs.YtplmflagffloeaaDoor
open Go.RowKit
open Sm
open Wm (num)
open Pm (Key St)
set_option linter.unusedVariables false
set_option linter.unusedSimpArgs false

/-- block X is a state -/
structure SAt (w : World) (X : Nat) (t v b bt : Nat) (sn : ByteArray) (A : Option Addr) (c : Nat) (l : List En) : Prop where
  at_ : At w X 36 #[.int .i64 (t : Int), .int .i64 (v : Int), .int .i64 (b : Int), .int .i64 (bt : Int), .string sn, .slice A l.length c]
  en : EnT w A l
  le : l.length ≤ c
theorem SAt.below {w w' : World} {X t v b bt : Nat} {sn : ByteArray} {A : Option Addr} {c : Nat} {l : List En} (h : SAt w X t v b bt sn A c l) (hb : Below w.heap.size w w') : SAt w' X t v b bt sn A c l := ⟨h.at_.below hb h.at_.lt, h.en.below hb, h.le⟩
theorem EnT.cells {w : World} {ad : Addr} {l : List En} (h : EnT w (some ad) l) : ∀ j u, (enCells l)[j]? = some u → w.cell? (ad.add j) = some u := fun j u hj => by
  have hjl : j < 3 * l.length := by have := (List.getElem?_eq_some_iff.1 hj).1; rwa [enCells_len] at this
  have hi : j / 3 < l.length := by omega
  have hr : j % 3 < l[j / 3].cells.length := by show j % 3 < 3; omega
  obtain ⟨ad', e, _, hc⟩ := h (j / 3) hi
  obtain rfl : ad = ad' := Option.some.inj e
  have h1 := enCells_get l (j / 3) (j % 3) l[j / 3] _ (List.getElem?_eq_getElem hi) (List.getElem?_eq_getElem hr)
  have ej : j / 3 * 3 + j % 3 = j := by omega
  rw [ej, hj] at h1
  have h2 := hc (j % 3) _ (List.getElem?_eq_getElem hr)
  rw [ej] at h2
  rw [h2]
  exact h1.symm
/-- the cells of one entry -/
theorem EnT.one {w : World} {A : Option Addr} {l : List En} (h : EnT w A l) {k : Nat} (hk : k < l.length) : ∃ ad, A = some ad ∧ w.cell? (ad.add (k * 3)) = some (.int .i64 (l[k].idx : Int)) ∧ w.cell? ⟨(ad.add (k * 3)).block, (ad.add (k * 3)).off + 1, none⟩ = some (.int .i64 (l[k].tm : Int)) ∧ w.cell? ⟨(ad.add (k * 3)).block, (ad.add (k * 3)).off + 2, none⟩ = some (.string l[k].cmd) := by
  obtain ⟨ad, e, _, hc⟩ := h.at_.get hk
  obtain ⟨a, b, c⟩ := hc w (Below.refl _ _)
  exact ⟨ad, e, a, b, c⟩

set_option maxRecDepth 100000 in
set_option maxHeartbeats 1000000 in
theorem last_nil {w : World} {X t v b bt : Nat} {sn : ByteArray} {A : Option Addr} {c : Nat} (h : SAt w X t v b bt sn A c []) :
    Calls Tryd.prog 17 #[.pointer (some ⟨X, 0, none⟩)] w fun e w' => e = .returned (.tuple #[.int .i64 (b : Int), .int .i64 (bt : Int)]) ∧ Below w.heap.size w w' := by
  have x2 : w.cell? ⟨X, 2, none⟩ = some (.int .i64 (b : Int)) := h.at_.cell 2
  have x3 : w.cell? ⟨X, 3, none⟩ = some (.int .i64 (bt : Int)) := h.at_.cell 3
  have x5 : w.cell? ⟨X, 5, none⟩ = some (.slice A 0 c) := h.at_.cell 5
  have d2 : w.drew.cell? ⟨X, 2, none⟩ = some (.int .i64 (b : Int)) := h.at_.cell 2
  have d3 : w.drew.cell? ⟨X, 3, none⟩ = some (.int .i64 (bt : Int)) := h.at_.cell 3
  have hb : Hid (∀ n, Below w.heap.size w (w.drewN n)) := Lib.hid fun n => below_drewN (Below.refl _ w) n
  clear h
  go_enter Tryd.func17, Tryd.ntmps17
  go_upto_region 2 with fail
  go_quiet (fail)
  go_wp2
  go_ret2
  exact ⟨rfl, hb.out _⟩

set_option maxRecDepth 100000 in
set_option maxHeartbeats 1000000 in
theorem last_some {w : World} {X t v b bt : Nat} {sn : ByteArray} {A : Option Addr} {c : Nat} {l : List En} (h : SAt w X t v b bt sn A c l) (hl : 0 < l.length) (hl2 : l.length ≤ 1000000) :
    Calls Tryd.prog 17 #[.pointer (some ⟨X, 0, none⟩)] w fun e w' => e = .returned (.tuple #[.int .i64 ((l[l.length - 1]'(by omega)).idx : Int), .int .i64 ((l[l.length - 1]'(by omega)).tm : Int)]) ∧ Below w.heap.size w w' := by
  obtain ⟨n, hn⟩ : ∃ n, l.length = n + 1 := ⟨l.length - 1, by omega⟩
  have hnl : n < l.length := by omega
  have e1 : (l[l.length - 1]'(by omega)) = l[n] := by congr 1; omega
  rw [e1]
  obtain ⟨ad, rfl, y0, y1, y2⟩ := h.en.one hnl
  have hc3 := en_cells
  have x5 : w.cell? ⟨X, 5, none⟩ = some (.slice (some ad) l.length c) := h.at_.cell 5
  have x5a : ∀ o, (w.alloc o).cell? ⟨X, 5, none⟩ = some (.slice (some ad) l.length c) := fun o => (h.at_.alloc o).cell 5
  have hya : ∀ o, _ := fun o => (h.en.below ((Below.refl _ w).alloc (Nat.le_refl _) o)).one hnl
  have y0a : ∀ o, (w.alloc o).cell? (ad.add (n * 3)) = some (.int .i64 (l[n].idx : Int)) := fun o => by obtain ⟨ad', e, a, b, c⟩ := hya o; obtain rfl := Option.some.inj e; exact a
  have y1a : ∀ o, (w.alloc o).cell? ⟨(ad.add (n * 3)).block, (ad.add (n * 3)).off + 1, none⟩ = some (.int .i64 (l[n].tm : Int)) := fun o => by obtain ⟨ad', e, a, b, c⟩ := hya o; obtain rfl := Option.some.inj e; exact b
  have y2a : ∀ o, (w.alloc o).cell? ⟨(ad.add (n * 3)).block, (ad.add (n * 3)).off + 2, none⟩ = some (.string l[n].cmd) := fun o => by obtain ⟨ad', e, a, b, c⟩ := hya o; obtain rfl := Option.some.inj e; exact c
  have hlc := h.le
  clear h e1 hya
  generalize l[n] = x at *
  obtain ⟨xi, xt, xc⟩ := x
  simp only at y0 y1 y2 y0a y1a y2a ⊢
  simp only [hn] at x5 x5a hlc hl2
  clear hn hnl hl
  have hw : ((n + 1 : Nat) : Int) - 1 = (n : Int) := by omega
  have hw2 : IntKind.i64.wrap (((n + 1 : Nat) : Int) - 1) = (n : Int) := by rw [IntKind.wrap_i64] <;> omega
  have hw3 : IntKind.i64.wrap ((n : Int) + 1 - 1) = (n : Int) := by rw [IntKind.wrap_i64] <;> omega
  have hw4 : IntKind.i64.wrap (n : Int) = (n : Int) := by rw [IntKind.wrap_i64] <;> omega
  go_enter Tryd.func17, Tryd.ntmps17
  go_upto_region 3 with fail
  go_region
  clear x5 x5a y0 y1 y2 y0a y1a y2a
  go_upto_region 4 with fail
  have hN := At.new w 30 #[.int .i64 (xi : Int), .int .i64 (xt : Int), .string xc]
  have hb := (Below.refl w.heap.size w).alloc (Nat.le_refl _) (.cells #[.int .i64 (xi : Int), .int .i64 (xt : Int), .string xc] 30)
  generalize w.alloc (.cells #[.int .i64 (xi : Int), .int .i64 (xt : Int), .string xc] 30) = w5 at *
  have hb' : Hid (Below w.heap.size w w5.drew) := Lib.hid (Below.drew hb)
  have e0 : w5.cell? ⟨w.heap.size, 0, none⟩ = some (.int .i64 (xi : Int)) := hN.cell 0
  have e1 : w5.cell? ⟨w.heap.size, 1, none⟩ = some (.int .i64 (xt : Int)) := hN.cell 1
  have c0 : w5.drew.cell? ⟨w.heap.size, 0, none⟩ = some (.int .i64 (xi : Int)) := hN.cell 0
  have c1 : w5.drew.cell? ⟨w.heap.size, 1, none⟩ = some (.int .i64 (xt : Int)) := hN.cell 1
  have d0 : w5.drew.drew.cell? ⟨w.heap.size, 0, none⟩ = some (.int .i64 (xi : Int)) := hN.cell 0
  have d1 : w5.drew.drew.cell? ⟨w.heap.size, 1, none⟩ = some (.int .i64 (xt : Int)) := hN.cell 1
  clear hN hb
  go_quiet (fail)
  go_wp2
  go_ret2
  exact ⟨rfl, below_drewN hb'.out _⟩

set_option maxRecDepth 100000 in
set_option maxHeartbeats 1000000 in
theorem rest_in {w : World} {X t v b bt : Nat} {sn : ByteArray} {ad : Addr} {c : Nat} {l : List En} (h : SAt w X t v b bt sn (some ad) c l) (hl2 : l.length ≤ 1000000) (n : Nat) (hn : n < l.length) (hb : b ≤ 1099511627776) :
    Calls Tryd.prog 38 #[.pointer (some ⟨X, 0, none⟩), .int .i64 ((b + 1 + n : Nat) : Int)] w fun e w' => e = .returned (.slice (some (ad.add (n * 3))) (l.length - n) (c - n)) ∧ Below w.heap.size w w' := by
  have hc3 := en_cells
  have x2 : w.cell? ⟨X, 2, none⟩ = some (.int .i64 (b : Int)) := h.at_.cell 2
  have x5 : w.cell? ⟨X, 5, none⟩ = some (.slice (some ad) l.length c) := h.at_.cell 5
  have hlc := h.le
  have hw : IntKind.i64.wrap (((b + 1 + n : Nat) : Int) - (b : Int)) = ((n + 1 : Nat) : Int) := by rw [IntKind.wrap_i64] <;> omega
  have hw2 : ((b + 1 + n : Nat) : Int) - (b : Int) = ((n + 1 : Nat) : Int) := by omega
  have q1 : decide (((n + 1 : Nat) : Int) < 1) = false := by simp; omega
  have q2 : decide (((n + 1 : Nat) : Int) > (l.length : Int)) = false := by simp; omega
  have hw3 : IntKind.i64.wrap (((n + 1 : Nat) : Int) - 1) = (n : Int) := by rw [IntKind.wrap_i64] <;> omega
  clear h
  go_enter Tryd.func38, Tryd.ntmps38
  have e1 : b + 1 + n - b - 1 = n := by omega
  go_wp2
  simp only [e1]
  go_ret
  exact ⟨rfl, Below.refl _ _⟩
set_option maxRecDepth 100000 in
set_option maxHeartbeats 1000000 in
theorem rest_out {w : World} {X t v b bt : Nat} {sn : ByteArray} {A : Option Addr} {c : Nat} {l : List En} (h : SAt w X t v b bt sn A c l) (hl2 : l.length ≤ 1000000) (n : Nat) (hn : l.length ≤ n) (hn2 : n ≤ 1000001) (hb : b ≤ 1099511627776) :
    Calls Tryd.prog 38 #[.pointer (some ⟨X, 0, none⟩), .int .i64 ((b + 1 + n : Nat) : Int)] w fun e w' => e = .returned (.slice none 0 0) ∧ Below w.heap.size w w' := by
  have hc3 := en_cells
  have x2 : w.cell? ⟨X, 2, none⟩ = some (.int .i64 (b : Int)) := h.at_.cell 2
  have x5 : w.cell? ⟨X, 5, none⟩ = some (.slice A l.length c) := h.at_.cell 5
  have hlc := h.le
  have hw : IntKind.i64.wrap (((b + 1 + n : Nat) : Int) - (b : Int)) = ((n + 1 : Nat) : Int) := by rw [IntKind.wrap_i64] <;> omega
  have hw2 : ((b + 1 + n : Nat) : Int) - (b : Int) = ((n + 1 : Nat) : Int) := by omega
  have q1 : decide (((n + 1 : Nat) : Int) < 1) = false := by simp; omega
  have q2 : decide (((n + 1 : Nat) : Int) > (l.length : Int)) = true := by simp; omega
  clear h
  go_enter Tryd.func38, Tryd.ntmps38
  go_wp2
  go_ret
  exact ⟨rfl, Below.refl _ _⟩

set_option maxRecDepth 100000 in
set_option maxHeartbeats 1000000 in
theorem termAt_in {w : World} {X t v b bt : Nat} {sn : ByteArray} {ad : Addr} {c : Nat} {l : List En} (h : SAt w X t v b bt sn (some ad) c l) (hl2 : l.length ≤ 1000000) (n : Nat) (hn : n < l.length) (hb : b ≤ 1099511627776) :
    Calls Tryd.prog 19 #[.pointer (some ⟨X, 0, none⟩), .int .i64 ((b + 1 + n : Nat) : Int)] w fun e w' => e = .returned (.tuple #[.int .i64 (l[n].tm : Int), .bool true]) ∧ Below w.heap.size w w' := by
  have hc3 := en_cells
  have hR := rest_in h hl2 n hn hb
  have x2 : w.cell? ⟨X, 2, none⟩ = some (.int .i64 (b : Int)) := h.at_.cell 2
  have q1 : (((b + 1 + n : Nat) : Int) == (b : Int)) = false := by rw [beq_eq_false_iff_ne]; omega
  have q2 : (((l.length - n : Nat) : Int) == 0) = false := by rw [beq_eq_false_iff_ne]; omega
  have HE : Hid (∀ W, Below w.heap.size w W → W.cell? ⟨(ad.add (n * 3)).block, (ad.add (n * 3)).off + 1, none⟩ = some (.int .i64 (l[n].tm : Int))) := Lib.hid fun W hb => by
    obtain ⟨ad', e, _, h1, _⟩ := (h.en.below hb).one hn
    obtain rfl := Option.some.inj e
    exact h1
  have hln : 0 < l.length - n := by omega
  clear h
  generalize l[n].tm = tm at *
  generalize l.length - n = ln at *
  generalize c - n = cn at *
  generalize ad.add (n * 3) = an at *
  go_enter Tryd.func19, Tryd.ntmps19
  go_wp2_with fail
  refine hR.mono ?_
  rintro e w1 ⟨rfl, hb1⟩
  have y1 := HE.out w1 hb1
  clear hR HE x2
  go_wp2
  go_ret2
  exact ⟨rfl, hb1⟩

theorem neq_nil (ad : Addr) (n c : Nat) (W : World) : (binOp .eql 27 (.slice (some ad) n c) (.slice none 0 0)).run Tryd.prog W = .ok (.bool false) W := by
  simp only [binOp]
  simp [run_equal_slice_nil W _ _ _ n c Tryd.underlying27]
theorem eq_nil (W : World) : (binOp .eql 27 (.slice none 0 0) (.slice none 0 0)).run Tryd.prog W = .ok (.bool true) W := by
  simp only [binOp]
  simp [run_equal_slice_nil W _ _ _ 0 0 Tryd.underlying27]

set_option maxRecDepth 100000 in
set_option maxHeartbeats 1000000 in
theorem clone_nil (w : World) : Calls Tryd.prog 39 #[.slice none 0 0] w fun e w' => e = .returned (.slice none 0 0) ∧ Below w.heap.size w w' := by
  have hnn := neq_nil
  have hen := eq_nil
  go_enter Tryd.func39, Tryd.ntmps39
  go_wp2
  go_ret
  exact ⟨rfl, Below.refl _ _⟩

theorem row_empty (W : World) (e : TypeId) (z : Nat) : (W.alloc (.cells #[] e)).ownsRow W.heap.size e z (.slice (some ⟨W.heap.size, 0, none⟩) 0 0) 0 [] :=
  ⟨by simp, .inr ⟨_, 0, _, rfl, Nat.le_refl _, heap_alloc_new W _, Nat.le_refl _, by simp [maxLen], by simp, by simp⟩⟩

set_option maxRecDepth 100000 in
set_option maxHeartbeats 1000000 in
theorem clone_some {w : World} {ad : Addr} {l : List En} (h : EnT w (some ad) l) (h0 : 0 < l.length) (hl : l.length ≤ 1000000) (c : Nat) : Calls Tryd.prog 39 #[.slice (some ad) l.length c] w fun e w' => ∃ A' c', e = .returned (.slice A' l.length c') ∧ l.length ≤ c' ∧ EnT w' A' l ∧ Below w.heap.size w w' := by
  obtain ⟨i0, hie, hz0, hz1, hz2⟩ := info_parts info_en
  have hcl := enCells_len l
  have hone : ∀ u ∈ enCells l, u.oneCell' = true := fun u hu => by
    unfold enCells at hu
    obtain ⟨x, _, hx⟩ := List.mem_flatMap.1 hu
    unfold En.cells at hx
    simp only [List.mem_cons, List.not_mem_nil, or_false] at hx
    rcases hx with rfl | rfl | rfl <;> simp [Value.oneCell']
  have hce : ∀ o, ∀ j u, (enCells l)[j]? = some u → (w.alloc o).cell? (ad.add j) = some u := fun o => (h.below ((Below.refl _ w).alloc (Nat.le_refl _) o)).cells
  have HCE := Lib.hid hce
  have HONE := Lib.hid hone
  clear h hce hone
  have hnn := neq_nil
  have hen := eq_nil
  go_enter Tryd.func39, Tryd.ntmps39
  go_wp2_with (at_builtin; refine wpList_append_own _ rfl _ _ 27 rfl w.heap.size 30 i0 _ 3 32 Tryd.underlying27 hie hz0 hz1 hz2 rfl (by decide) _ _ _ rfl (row_empty w 30 3) ad l.length c (enCells l) rfl ?c0 ?c1 ?c2 ?c3 ?c4 ?c5 ?_)
  case c0 => rw [hcl, Nat.mul_comm]
  case c1 => exact HCE.out _
  case c2 => exact HONE.out
  case c3 => unfold maxLen; omega
  case c4 => omega
  case c5 => simp
  intro v' w' hown hgr _
  obtain ⟨A', c', rfl, hle, hEn⟩ := EnT.of_row hown
  have hb : Below w.heap.size w w' := below_of_grownBy ((Below.refl _ w).alloc (Nat.le_refl _) (.cells #[] 30)) hgr (by simp) (Nat.le_refl _)
  have HB := Lib.hid hb
  have HEN := Lib.hid hEn
  clear hown hgr hb hEn HCE HONE hnn hen
  go_wp2
  go_ret
  exact ⟨A', c', rfl, hle, HEN.out, HB.out⟩
end Go.Proofs.YtplmflagffloeaaDoor

/- term.State.From; the law's awake: their walks. -/
namespace Go.Proofs.YtplmflagffloeaaDoor
open Go.RowKit
open Sm
open Wm (num)
open Pm (Key St)
set_option linter.unusedVariables false
set_option linter.unusedSimpArgs false

set_option maxRecDepth 100000 in
set_option maxHeartbeats 1000000 in
theorem from_in {w : World} {X t v b bt : Nat} {sn : ByteArray} {ad : Addr} {c : Nat} {l : List En} (h : SAt w X t v b bt sn (some ad) c l) (hl2 : l.length ≤ 1000000) (n : Nat) (hn : n < l.length) (hb : b ≤ 1099511627776) (most : Nat) (hm : 0 < most) (hm2 : most ≤ 1000000) :
    Calls Tryd.prog 18 #[.pointer (some ⟨X, 0, none⟩), .int .i64 ((b + 1 + n : Nat) : Int), .int .i64 (most : Int)] w fun e w' => ∃ A' c', e = .returned (.slice A' ((l.drop n).take most).length c') ∧ ((l.drop n).take most).length ≤ c' ∧ EnT w' A' ((l.drop n).take most) ∧ Below w.heap.size w w' := by
  have hR := rest_in h hl2 n hn hb
  obtain ⟨k, hk⟩ : ∃ k : Nat, min most (l.length - n) = k := ⟨_, rfl⟩
  have hle := h.le
  have hlk : ((l.drop n).take most).length = k := by rw [List.length_take, List.length_drop]; omega
  have hmx : max (most : Int) 0 = (most : Int) := by omega
  have hmn : min (most : Int) ((l.length - n : Nat) : Int) = (k : Int) := by omega
  have HC : Hid (∀ W, Below w.heap.size w W → Calls Tryd.prog 39 #[.slice (some (ad.add (n * 3))) k (c - n)] W fun e w' => ∃ A' c', e = .returned (.slice A' k c') ∧ k ≤ c' ∧ EnT w' A' ((l.drop n).take most) ∧ Below W.heap.size W w') := Lib.hid fun W hb => by
    have := clone_some (((h.en.below hb).drop n).take most) (by omega) (by omega) (c - n)
    rw [hlk] at this
    exact this
  rw [hlk]
  have hkl : k ≤ l.length - n := by omega
  have hkc : k ≤ c - n := by omega
  have hcc : l.length - n ≤ c - n := by omega
  clear h hk hlk
  generalize l.length - n = ln at *
  generalize c - n = cn at *
  generalize ad.add (n * 3) = an at *
  generalize (l.drop n).take most = r at *
  go_enter Tryd.func18, Tryd.ntmps18
  go_wp2_with fail
  refine hR.mono ?_
  rintro e w1 ⟨rfl, hb1⟩
  have hC := HC.out w1 hb1
  have HB := Lib.hid hb1
  clear hR HC hb1
  go_wp2_with fail
  refine hC.mono ?_
  rintro e w2 ⟨A', c', rfl, hkc', hEn, hb2⟩
  have HEN := Lib.hid hEn
  have HB2 := Lib.hid (HB.out.trans (hb2.mono HB.out.size))
  clear hC hEn hb2 HB
  go_wp2
  go_ret
  exact ⟨A', c', rfl, hkc', HEN.out, HB2.out⟩

set_option maxRecDepth 100000 in
set_option maxHeartbeats 1000000 in
theorem from_out {w : World} {X t v b bt : Nat} {sn : ByteArray} {A : Option Addr} {c : Nat} {l : List En} (h : SAt w X t v b bt sn A c l) (hl2 : l.length ≤ 1000000) (n : Nat) (hn : l.length ≤ n) (hn2 : n ≤ 1000001) (hb : b ≤ 1099511627776) (most : Nat) (hm2 : most ≤ 1000000) :
    Calls Tryd.prog 18 #[.pointer (some ⟨X, 0, none⟩), .int .i64 ((b + 1 + n : Nat) : Int), .int .i64 (most : Int)] w fun e w' => e = .returned (.slice none 0 0) ∧ Below w.heap.size w w' := by
  have hR := rest_out h hl2 n hn hn2 hb
  have hmx : max (most : Int) 0 = (most : Int) := by omega
  have hmn : min (most : Int) 0 = 0 := by omega
  have hC := fun W => clone_nil W
  clear h
  go_enter Tryd.func18, Tryd.ntmps18
  go_wp2_with fail
  refine hR.mono ?_
  rintro e w1 ⟨rfl, hb1⟩
  have HB := Lib.hid hb1
  clear hR hb1
  go_wp2_with fail
  refine (hC w1).mono ?_
  rintro e w2 ⟨rfl, hb2⟩
  have HB2 := Lib.hid (HB.out.trans (hb2.mono HB.out.size))
  clear hC hb2 HB
  go_wp2
  go_ret
  exact ⟨rfl, HB2.out⟩
end Go.Proofs.YtplmflagffloeaaDoor

/- A calm disk by the bytes of its three files: the calls of term. -/
namespace Go.Proofs.YtplmflagffloeaaDoor
open Go.RowKit
open Sm
open Wm (num)
open Pm (Key St)
set_option linter.unusedVariables false
set_option linter.unusedSimpArgs false

theorem termL_len {t v : Nat} (ht : t ≤ 1099511627776) (hv : v ≤ 1099511627776) : (termL t v).length ≤ 28 := by have := termX_len ht hv; unfold termL; rw [frameL_len]; omega
theorem snapL_len {b bt : Nat} {s : ByteArray} (h1 : b ≤ 1099511627776) (h2 : bt ≤ 1099511627776) (h3 : s.size ≤ 1000000) : (snapL b bt s).length ≤ 38 + s.size := by have := snapX_len h1 h2 h3; unfold snapL; rw [frameL_len]; omega
/-- no file is there -/
def noF : Key → St := fun _ => Pm.St.no
theorem noF_files : filesT noF = [] := rfl
theorem noF_fs : Fs3 noF := ⟨fun _ _ => rfl, fun _ _ => rfl⟩
theorem EnT.of_at {w : World} {g : Nat} {cs : Array Value} {l : List En} (h : At w g 30 cs) (he : cs.toList = enCells l) : EnT w (some ⟨g, 0, none⟩) l := fun i hi => by
  refine ⟨_, rfl, ⟨cs, (0, 0), h⟩, fun j u hj => ?_⟩
  have hadd : (⟨g, 0, none⟩ : Addr).add (i * 3 + j) = ⟨g, i * 3 + j, none⟩ := by unfold Addr.add; split <;> simp_all
  rw [hadd, h.cell, ← Array.getElem?_toList, he]
  exact enCells_get l i j l[i] u (List.getElem?_eq_getElem hi) hj

/-- block g is a calm disk; its files term, snap, log hold these bytes -/
def TX (w : World) (B g m : Nat) (rm : Int) (tl sl ll : List UInt8) : Prop := ∃ F, TD w B g m rm F ∧ (F kTerm).t = tl ∧ (F kSnap).t = sl ∧ (F kLog).t = ll
def TxEnds (w : World) (B g m : Nat) (rm : Int) (tl sl ll : List UInt8) (e : Ending) (w' : World) : Prop := e = .returned (.int .i64 0) ∧ (TX w' B g m rm tl sl ll ∧ Below B w w' ∧ PKeep w w')
section
variable {w w' : World} {B g m : Nat} {rm : Int} {tl sl ll : List UInt8}
theorem TX.below (h : TX w B g m rm tl sl ll) (hb : Below w.heap.size w w') : TX w' B g m rm tl sl ll := h.elim fun F h => ⟨F, h.1.below hb, h.2⟩
theorem TX.alloc (h : TX w B g m rm tl sl ll) (o : Obj) : TX (w.alloc o) B g m rm tl sl ll := h.elim fun F h => ⟨F, h.1.alloc o, h.2⟩
theorem TX.used {F : Key → St} (h1 : (F kTerm).t = tl) (h2 : (F kSnap).t = sl) (h3 : (F kLog).t = ll) : tdUsed F = tl.length + sl.length + ll.length := by unfold tdUsed; rw [h1, h2, h3]
theorem TX.grown {X : Nat} {t : TypeId} {cs : Array Value} (h : TX w B g m rm tl sl ll) (hX : At w X t cs) (h1 : t ≠ 61) (h2 : t ≠ 5) (hg : w.grownBy w' (some X)) : TX w' B g m rm tl sl ll := h.elim fun F h => ⟨F, h.1.grown hX h1 h2 hg, h.2⟩
end
theorem newX (room rm : Int) (hr : room ≤ 9223372036854775807) (hrm' : max room 0 = rm) (w : World) :
    Calls Tryd.prog 7 #[.int .i64 room] w fun e w' => ∃ g m, e = .returned (.pointer (some ⟨g, 0, none⟩)) ∧ TX w' w.heap.size g m rm [] [] [] ∧ Below w.heap.size w w' := by
  refine (new_any room rm hr hrm' w).mono ?_
  rintro e w' ⟨g, m, he, hH, hb⟩
  exact ⟨g, m, he, ⟨noF, ⟨by rw [noF_files]; exact hH, noF_fs⟩, rfl, rfl, rfl⟩, hb⟩
section
variable {w : World} {B g m : Nat} {rm : Int} {tl sl ll : List UInt8}
theorem saveTermX (h : TX w B g m rm tl sl ll) (hB : B ≤ w.heap.size) (hS : Steps w) (t v : Nat) (ht : t ≤ 1099511627776) (hv : v ≤ 1099511627776) (hs : ((tl.length + sl.length + ll.length : Nat) : Int) + 28 ≤ rm) (hrm : rm ≤ 10000000) :
    Calls Tryd.prog 11 #[.pointer (some ⟨g, 0, none⟩), .int .i64 (t : Int), .int .i64 (v : Int)] w (TxEnds w B g m rm (termL t v) sl ll) := by
  obtain ⟨F, hT, h1, h2, h3⟩ := h
  refine (saveTerm_any hT hB hS t v ht hv (by rw [TX.used h1 h2 h3]; exact hs) (by omega)).mono ?_
  rintro e w' ⟨he, h4, h5, h6⟩
  exact ⟨he, ⟨_, h4, by rw [updT_same], by rw [updT_other F (by decide)]; exact h2, by rw [updT_other F (by decide)]; exact h3⟩, h5, h6⟩
theorem appendX (h : TX w B g m rm tl sl ll) (hB : B ≤ w.heap.size) (hS : Steps w) (A : Option Addr) (c : Nat) (l : List En) (hl : l.length ≤ 1000) (hok : ∀ x ∈ l, x.ok) (hL : EnT w A l) (hs : ((tl.length + sl.length + ll.length : Nat) : Int) + (logOf l).length ≤ rm) (hrm : rm ≤ 10000000) :
    Calls Tryd.prog 10 #[.pointer (some ⟨g, 0, none⟩), .slice A l.length c] w (TxEnds w B g m rm tl sl (ll ++ logOf l)) := by
  obtain ⟨F, hT, h1, h2, h3⟩ := h
  refine (tappend_any hT hB hS A c l hl hok hL.at_ (by rw [TX.used h1 h2 h3]; exact hs) hrm).mono ?_
  rintro e w' ⟨he, h4, h5, h6⟩
  exact ⟨he, ⟨_, h4, by rw [updT_other F (by decide)]; exact h1, by rw [updT_other F (by decide)]; exact h2, by rw [updT_same, h3]⟩, h5, h6⟩
theorem saveSnapX (h : TX w B g m rm tl sl ll) (hB : B ≤ w.heap.size) (h0 : 0 < B) (hS : Steps w) (b bt : Nat) (hb : b ≤ 1099511627776) (hbt : bt ≤ 1099511627776) (s : ByteArray) (hsn : s.size ≤ 1000000) (A : Option Addr) (c : Nat) (l : List En) (hl : l.length ≤ 1000) (hok : ∀ x ∈ l, x.ok) (hL : EnT w A l)
    (hs : ((tl.length + sl.length + ll.length : Nat) : Int) + (38 + s.size) + (logOf l).length ≤ rm) (hrm : rm ≤ 10000000) :
    Calls Tryd.prog 12 #[.pointer (some ⟨g, 0, none⟩), .int .i64 (b : Int), .int .i64 (bt : Int), .string s, .slice A l.length c] w (TxEnds w B g m rm tl (snapL b bt s) (logOf l)) := by
  obtain ⟨F, hT, h1, h2, h3⟩ := h
  refine (saveSnap_any hT hB h0 hS b bt hb hbt s hsn A c l hl hok hL (by rw [TX.used h1 h2 h3]; exact hs) hrm).mono ?_
  rintro e w' ⟨he, h4, h5, h6⟩
  exact ⟨he, ⟨_, h4, by rw [updT_other _ (by decide), updT_other F (by decide)]; exact h1, by rw [updT_other _ (by decide), updT_same], by rw [updT_same]⟩, h5, h6⟩
/-- what the bytes say -/
def TermB (tl : List UInt8) (t v : Nat) : Prop := (tl = [] ∧ t = 0 ∧ v = 0) ∨ (t ≤ 1099511627776 ∧ v ≤ 5 ∧ tl = termL t v)
def SnapB (sl : List UInt8) (b bt : Nat) (sn : ByteArray) : Prop := (sl = [] ∧ b = 0 ∧ bt = 0 ∧ sn = ⟨#[]⟩) ∨ (b ≤ 1099511627776 ∧ bt ≤ 1099511627776 ∧ sn.size ≤ 1000000 ∧ sl = snapL b bt sn)
theorem loadX (h : TX w B g m rm tl sl ll) (hS : Steps w) {t v b bt : Nat} {sn : ByteArray} (hT : TermB tl t v) (hN : SnapB sl b bt sn) (l : List En) (hl : l.length ≤ 1000) (hok : ∀ x ∈ l, x.ok) (hlen : (logOf l).length ≤ 10000000) (hf : ll = logOf l) :
    Calls Tryd.prog 13 #[.pointer (some ⟨g, 0, none⟩)] w (LoadEnds w t v b bt sn (behind l b)) := by
  obtain ⟨F, hD, rfl, rfl, rfl⟩ := h
  exact load_any hD hS hT hN l hl hok hlen hf
end
end Go.Proofs.YtplmflagffloeaaDoor

/- glacierlaw09.awake: its walk. -/
namespace Go.Proofs.YtplmflagffloeaaDoor
open Go.RowKit
open Sm
open Wm (num)
open Pm (Key St)
set_option linter.unusedVariables false
set_option linter.unusedSimpArgs false

def ea : En := ⟨1, 3, ⟨#[97]⟩⟩
def eb : En := ⟨2, 3, ⟨#[98]⟩⟩
theorem ea_ok : ea.ok := ⟨by decide, by decide, by decide⟩
theorem eb_ok : eb.ok := ⟨by decide, by decide, by decide⟩
theorem ab_len : (logOf [ea, eb]).length ≤ 78 := logOf_len 1 (fun x hx => by simp at hx; rcases hx with rfl | rfl; exact ea_ok; exact eb_ok) (fun x hx => by simp at hx; rcases hx with rfl | rfl <;> decide)
theorem b_len : (logOf [eb]).length ≤ 39 := logOf_len 1 (fun x hx => by simp at hx; rcases hx with rfl; exact eb_ok) (fun x hx => by simp at hx; rcases hx with rfl; decide)

set_option maxRecDepth 100000 in
set_option maxHeartbeats 4000000 in
theorem awake_any (w : World) (hS : Steps w) : Calls Tryd.prog 8 #[] w fun e w' => e = .returned (.bool true) ∧ Below w.heap.size w w' := by
  have hN := newX 1000 1000 (by omega) rfl w
  obtain ⟨B, hB⟩ : ∃ B, w.heap.size = B := ⟨_, rfl⟩
  have hS0 := hS.1
  rw [hB] at hN hS0 ⊢
  have HST : Hid (∀ W, Below B w W → Steps W) := Lib.hid fun W h => hS.below h hS0
  clear hS
  go_enter Tryd.func8, Tryd.ntmps8
  go_wp2_with fail
  refine hN.mono ?_
  rintro e w1 ⟨g, m, rfl, hT1, hb1⟩
  have hz1 : B ≤ w1.heap.size := by have := hb1.size; omega
  have hA2 := (At.new w1 30 #[.int .i64 1, .int .i64 3, .string ⟨#[97]⟩]).alloc (.cells #[.int .i64 2, .int .i64 3, .string ⟨#[98]⟩] 30)
  have hzz : (w1.alloc (.cells #[.int .i64 1, .int .i64 3, .string ⟨#[97]⟩] 30)).heap.size = w1.heap.size + 1 := by simp
  have hB2 := At.new (w1.alloc (.cells #[.int .i64 1, .int .i64 3, .string ⟨#[97]⟩] 30)) 30 #[.int .i64 2, .int .i64 3, .string ⟨#[98]⟩]
  rw [hzz] at hB2
  have hT2 := (hT1.alloc (.cells #[.int .i64 1, .int .i64 3, .string ⟨#[97]⟩] 30)).alloc (.cells #[.int .i64 2, .int .i64 3, .string ⟨#[98]⟩] 30)
  have hb2 := (hb1.alloc hz1 (.cells #[.int .i64 1, .int .i64 3, .string ⟨#[97]⟩] 30)).alloc (by rw [hzz]; omega) (.cells #[.int .i64 2, .int .i64 3, .string ⟨#[98]⟩] 30)
  have HA2 := Lib.hid hA2
  have HB2 := Lib.hid hB2
  have HT2 := Lib.hid hT2
  have HL2 := Lib.hid hb2
  clear hN hT1 hb1 hA2 hB2 hT2 hb2 hzz
  go_upto_region 3 with fail
  generalize (w1.alloc (.cells #[.int .i64 1, .int .i64 3, .string ⟨#[97]⟩] 30)).alloc (.cells #[.int .i64 2, .int .i64 3, .string ⟨#[98]⟩] 30) = w2 at *
  generalize w1.heap.size = X at *
  have hC := saveTermX HT2.out (by have := HL2.out.size; omega) (HST.out w2 HL2.out) 3 1 (by omega) (by omega) (by decide) (by omega)
  go_wp2_with fail
  refine hC.mono ?_
  rintro e w3 ⟨rfl, hT3, hb3, hk3⟩
  have hA3 := hk3.at_ HA2.out (by decide) (by decide)
  have hB3 := hk3.at_ HB2.out (by decide) (by decide)
  have hb3 := HL2.out.trans hb3
  have a0 : w3.cell? ⟨X, 0, none⟩ = some (.int .i64 1) := hA3.cell 0
  have a1 : w3.cell? ⟨X, 1, none⟩ = some (.int .i64 3) := hA3.cell 1
  have a2 : w3.cell? ⟨X, 2, none⟩ = some (.string ⟨#[97]⟩) := hA3.cell 2
  have b0 : w3.cell? ⟨X + 1, 0, none⟩ = some (.int .i64 2) := hB3.cell 0
  have b1 : w3.cell? ⟨X + 1, 1, none⟩ = some (.int .i64 3) := hB3.cell 1
  have b2 : w3.cell? ⟨X + 1, 2, none⟩ = some (.string ⟨#[98]⟩) := hB3.cell 2
  have hN4 := At.new w3 30 #[.int .i64 1, .int .i64 3, .string ⟨#[97]⟩, .int .i64 2, .int .i64 3, .string ⟨#[98]⟩]
  have hT4 := hT3.alloc (.cells #[.int .i64 1, .int .i64 3, .string ⟨#[97]⟩, .int .i64 2, .int .i64 3, .string ⟨#[98]⟩] 30)
  have hb4 := hb3.alloc (by have := hb3.size; omega) (.cells #[.int .i64 1, .int .i64 3, .string ⟨#[97]⟩, .int .i64 2, .int .i64 3, .string ⟨#[98]⟩] 30)
  have hB4 := hB3.alloc (.cells #[.int .i64 1, .int .i64 3, .string ⟨#[97]⟩, .int .i64 2, .int .i64 3, .string ⟨#[98]⟩] 30)
  have HN4 := Lib.hid hN4
  have HT4 := Lib.hid hT4
  have HL4 := Lib.hid hb4
  have HB4 := Lib.hid hB4
  clear hC hT3 hb3 hk3 hA3 hB3 hN4 hT4 hb4 hB4 HA2 HB2 HT2 HL2
  go_wp2_with fail
  generalize w3.alloc (.cells #[.int .i64 1, .int .i64 3, .string ⟨#[97]⟩, .int .i64 2, .int .i64 3, .string ⟨#[98]⟩] 30) = w4 at *
  have hC4 := appendX HT4.out (by have := HL4.out.size; omega) (HST.out w4 HL4.out) (some ⟨w3.heap.size, 0, none⟩) 2 [ea, eb] (by simp) (fun x hx => by simp at hx; rcases hx with rfl | rfl; exact ea_ok; exact eb_ok) (EnT.of_at HN4.out rfl) (by have h1 := ab_len; have h2 := termL_len (t := 3) (v := 1) (by omega) (by omega); simp only [List.length_nil]; omega) (by omega)
  refine hC4.mono ?_
  rintro e w5 ⟨rfl, hT5, hb5, hk5⟩
  have hB5 := hk5.at_ HB4.out (by decide) (by decide)
  have hb5 := HL4.out.trans hb5
  have c0 : w5.cell? ⟨X + 1, 0, none⟩ = some (.int .i64 2) := hB5.cell 0
  have c1 : w5.cell? ⟨X + 1, 1, none⟩ = some (.int .i64 3) := hB5.cell 1
  have c2 : w5.cell? ⟨X + 1, 2, none⟩ = some (.string ⟨#[98]⟩) := hB5.cell 2
  have hN6 := At.new w5 30 #[.int .i64 2, .int .i64 3, .string ⟨#[98]⟩]
  have hT6 := hT5.alloc (.cells #[.int .i64 2, .int .i64 3, .string ⟨#[98]⟩] 30)
  have hb6 := hb5.alloc (by have := hb5.size; omega) (.cells #[.int .i64 2, .int .i64 3, .string ⟨#[98]⟩] 30)
  have HN6 := Lib.hid hN6
  have HT6 := Lib.hid hT6
  have HL6 := Lib.hid hb6
  clear hC4 hT5 hb5 hk5 hB5 hN6 hT6 hb6 HN4 HT4 HL4 HB4 a0 a1 a2 b0 b1 b2
  go_wp2_with fail
  generalize w5.alloc (.cells #[.int .i64 2, .int .i64 3, .string ⟨#[98]⟩] 30) = w6 at *
  have hC6 := saveSnapX HT6.out (by have := HL6.out.size; omega) hS0 (HST.out w6 HL6.out) 1 3 (by omega) (by omega) ⟨#[115]⟩ (by decide) (some ⟨w5.heap.size, 0, none⟩) 1 [eb] (by simp) (fun x hx => by simp at hx; subst hx; exact eb_ok) (EnT.of_at HN6.out rfl) (by
    have h1 := ab_len
    have h2 := b_len
    have e1 := termL_len (t := 3) (v := 1) (by omega) (by omega)
    have e2 : (⟨#[115]⟩ : ByteArray).size = 1 := rfl
    rw [e2]
    simp only [List.nil_append, List.length_nil]
    omega) (by omega)
  refine hC6.mono ?_
  rintro e w7 ⟨rfl, hT7, hb7, hk7⟩
  have hb7 := HL6.out.trans hb7
  have hC7 := loadX hT7 (HST.out w7 hb7) (t := 3) (v := 1) (b := 1) (bt := 3) (sn := ⟨#[115]⟩) (.inr ⟨by omega, by omega, rfl⟩) (.inr ⟨by omega, by omega, by decide, rfl⟩) [eb] (by simp) (fun x hx => by simp at hx; subst hx; exact eb_ok) (by have := b_len; omega) rfl
  have eb1 : behind [eb] 1 = [eb] := rfl
  rw [eb1] at hC7
  have HL7 := Lib.hid hb7
  clear hC6 hT7 hb7 hk7 HN6 HT6 HL6 c0 c1 c2
  go_wp2_with fail
  refine hC7.mono ?_
  rintro e w8 ⟨A, c, rfl, hc, hEn, hb8⟩
  have hs8 : B ≤ w8.heap.size := by have := HL7.out.size; have := hb8.size; omega
  have hb8 := HL7.out.trans (hb8.mono (by have := HL7.out.size; omega))
  have hb9 := hb8.alloc hs8 (.cells #[.int .i64 3, .int .i64 1, .int .i64 1, .int .i64 3, .string ⟨#[115]⟩, .slice A 1 c] 36)
  have hN9 := At.new w8 36 #[.int .i64 3, .int .i64 1, .int .i64 1, .int .i64 3, .string ⟨#[115]⟩, .slice A 1 c]
  have hEn9 : EnT (w8.alloc (.cells #[.int .i64 3, .int .i64 1, .int .i64 1, .int .i64 3, .string ⟨#[115]⟩, .slice A 1 c] 36)) A [eb] := hEn.below ((Below.refl _ w8).alloc (Nat.le_refl _) _)
  have HL9 := Lib.hid hb9
  have HN9 := Lib.hid hN9
  have HE9 := Lib.hid hEn9
  clear hC7 hEn hb8 hb9 hN9 hEn9 HL7
  go_wp2_with fail
  generalize w8.alloc (.cells #[.int .i64 3, .int .i64 1, .int .i64 1, .int .i64 3, .string ⟨#[115]⟩, .slice A 1 c] 36) = w9 at *
  generalize w8.heap.size = S at *
  have hSA : SAt w9 S 3 1 1 3 ⟨#[115]⟩ A c [eb] := ⟨HN9.out, HE9.out, hc⟩
  have hC9 := last_some hSA (by simp) (by simp)
  refine hC9.mono ?_
  rintro e w10 ⟨rfl, hb10⟩
  have hN10 := HN9.out.below hb10 HN9.out.lt
  have HL10 := Lib.hid (HL9.out.trans (hb10.mono (by have := HL9.out.size; omega)))
  have s0 : w10.cell? ⟨S, 0, none⟩ = some (.int .i64 3) := hN10.cell 0
  have s1 : w10.cell? ⟨S, 1, none⟩ = some (.int .i64 1) := hN10.cell 1
  have s2 : w10.cell? ⟨S, 2, none⟩ = some (.int .i64 1) := hN10.cell 2
  have s4 : w10.cell? ⟨S, 4, none⟩ = some (.string ⟨#[115]⟩) := hN10.cell 4
  have s5 : w10.cell? ⟨S, 5, none⟩ = some (.slice A 1 c) := hN10.cell 5
  have el : ([eb][[eb].length - 1]'(by simp)) = eb := rfl
  rw [el]
  have ei : (eb.idx : Int) = 2 := rfl
  have et : (eb.tm : Int) = 3 := rfl
  rw [ei, et]
  clear hC9 hb10 hN10 hSA HN9 HE9 HL9 el ei et
  go_wp2
  go_ret
  exact ⟨rfl, HL10.out⟩
end Go.Proofs.YtplmflagffloeaaDoor
