/- Yr, Yl, Yd: merged (a claim holds few files). -/
import Derived.Test.YtplmflagffloeaaDoorB8
import Derived.Test.YtplmflagffloeaaDoorB2
import Derived.Test.YtplmflagffloeaaDoorVz
import Derived.Deep.CutRange
/- term: read, contents, loadTerm, loadSnap, decode: their walks. -/
namespace Go.Proofs.YtplmflagffloeaaDoor
open Go.RowKit
open Sm
open Wm (num)
open Pm (Key St)
set_option linter.unusedVariables false
set_option linter.unusedSimpArgs false

set_option maxRecDepth 100000 in
set_option maxHeartbeats 1000000 in
theorem tread_any {w : World} {B g m : Nat} {rm : Int} {F : Key → St} (h : TD w B g m rm F) (n : ByteArray) (hk : Three n.data.toList) :
    Calls Tryd.prog 55 #[.pointer (some ⟨g, 0, none⟩), .string n] w fun e w' => e = .returned (.tuple #[.string ⟨(F n.data.toList).t.toArray⟩, .int .i64 0]) ∧ Below w.heap.size w w' := by
  have hl := three_len hk
  have hn : n.size ≤ 4 := by rw [← size_list]; exact hl.1
  have hR := read_kp h.has n (by omega)
  rw [h.tf.fi] at hR
  have hok := h.tf.ok n.data.toList
  generalize hst : F n.data.toList = st at *
  obtain ⟨ex, t⟩ := st
  have hR : Calls Tryd.prog 75 #[.pointer (some ⟨g, 0, none⟩), .string n] w fun e w' => e = .returned (.tuple (if ex = true then #[.string ⟨t.toArray⟩, .int .i64 0] else #[.string ⟨#[]⟩, .int .i64 5])) ∧ Below w.heap.size w w' := hR
  simp only at hok ⊢
  obtain ⟨sx, hsx⟩ : ∃ sx : ByteArray, (⟨t.toArray⟩ : ByteArray) = sx := ⟨_, rfl⟩
  rw [hsx] at hR ⊢
  clear h hst
  cases ex with
  | true =>
    simp only [if_true] at hR
    go_enter Tryd.func55, Tryd.ntmps55
    go_wp2_with fail
    refine hR.mono ?_
    rintro e w1 ⟨rfl, hb⟩
    go_wp2
    go_ret2
    exact ⟨rfl, hb⟩
  | false =>
    have ht := hok rfl
    subst ht
    have hsx0 : sx = ⟨#[]⟩ := hsx.symm
    subst hsx0
    simp only [Bool.false_eq_true, if_false] at hR
    go_enter Tryd.func55, Tryd.ntmps55
    go_wp2_with fail
    refine hR.mono ?_
    rintro e w1 ⟨rfl, hb⟩
    go_wp2
    go_ret2
    exact ⟨rfl, hb⟩

theorem only_nil : onlyL [] = ([], 2) := by decide

set_option maxRecDepth 100000 in
set_option maxHeartbeats 1000000 in
theorem contents_none {w : World} {B g m : Nat} {rm : Int} {F : Key → St} (h : TD w B g m rm F) (hS : Steps w) (n : ByteArray) (hk : Three n.data.toList) (ht : (F n.data.toList).t = []) :
    Calls Tryd.prog 51 #[.pointer (some ⟨g, 0, none⟩), .string n] w fun e w' => e = .returned (.tuple #[.pointer none, .int .i64 0]) ∧ Below w.heap.size w w' := by
  have hR := tread_any h n hk
  rw [ht] at hR
  have hO := fun W h => only_any ⟨#[]⟩ (by decide) W h
  rw [show (⟨#[]⟩ : ByteArray).data.toList = [] from rfl, only_nil] at hO
  have HS := Lib.hid hS
  clear h hS
  go_enter Tryd.func51, Tryd.ntmps51
  go_wp2_with fail
  refine hR.mono ?_
  rintro e w1 ⟨rfl, hb1⟩
  have hO1 := hO w1 (HS.out.below hb1 HS.out.1)
  have HB1 := Lib.hid hb1
  clear hR hb1 hO
  go_wp2_with fail
  refine hO1.mono ?_
  rintro e w2 ⟨rfl, hb2⟩
  have HB2 := Lib.hid (HB1.out.trans (hb2.mono HB1.out.size))
  clear hO1 hb2 HB1
  go_wp2
  go_ret2
  exact ⟨rfl, HB2.out⟩

set_option maxRecDepth 100000 in
set_option maxHeartbeats 1000000 in
theorem contents_some {w : World} {B g m : Nat} {rm : Int} {F : Key → St} (h : TD w B g m rm F) (hS : Steps w) (n : ByteArray) (hk : Three n.data.toList) (x : List UInt8) (hx : x.length ≤ 1048576) (ht : (F n.data.toList).t = frameL x) :
    Calls Tryd.prog 51 #[.pointer (some ⟨g, 0, none⟩), .string n] w fun e w' => ∃ gd, e = .returned (.tuple #[.pointer (some ⟨gd, 0, none⟩), .int .i64 0]) ∧ w.heap.size ≤ gd ∧ DecIs w' gd x 0 ∧ Below w.heap.size w w' := by
  have hR := tread_any h n hk
  rw [ht] at hR
  obtain ⟨sf, hsf⟩ : ∃ sf : ByteArray, (⟨(frameL x).toArray⟩ : ByteArray) = sf := ⟨_, rfl⟩
  have hfd : sf.data.toList = frameL x := by rw [← hsf]
  have hfz : sf.size = 8 + x.length := by rw [← size_list, hfd, frameL_len]
  obtain ⟨sx, hsx⟩ : ∃ sx : ByteArray, (⟨x.toArray⟩ : ByteArray) = sx := ⟨_, rfl⟩
  have hxd : sx.data.toList = x := by rw [← hsx]
  have hxz : sx.size = x.length := by rw [← size_list, hxd]
  rw [hsf] at hR
  have hO := fun W h => only_any sf (by omega) W h
  rw [hfd, only_frame x hx, hsx] at hO
  have hFr := fun W => from_any sx W (by omega)
  rw [hxd] at hFr
  have HS := Lib.hid hS
  have HFR := Lib.hid hFr
  clear h hS hFr hxd hsx hfd hsf
  go_enter Tryd.func51, Tryd.ntmps51
  go_wp2_with fail
  refine hR.mono ?_
  rintro e w1 ⟨rfl, hb1⟩
  have hO1 := hO w1 (HS.out.below hb1 HS.out.1)
  have HB1 := Lib.hid hb1
  clear hR hb1 hO
  go_wp2_with fail
  refine hO1.mono ?_
  rintro e w2 ⟨rfl, hb2⟩
  have HB2 := Lib.hid (HB1.out.trans (hb2.mono HB1.out.size))
  clear hO1 hb2 HB1
  have hF2 := HFR.out w2
  go_wp2_with fail
  refine hF2.mono ?_
  rintro e w3 ⟨gd, rfl, hg, hd, hb3⟩
  have HB3 := Lib.hid (HB2.out.trans (hb3.mono HB2.out.size))
  have HD := Lib.hid hd
  have hgl : w.heap.size ≤ gd := by have := HB2.out.size; omega
  clear hF2 hb3 hd HB2 hg
  go_wp2
  go_ret2
  exact ⟨gd, rfl, hgl, HD.out, HB3.out⟩

/-- a block of another type has turned: the disk stays -/
theorem TD.grown {w w' : World} {B g m X : Nat} {rm : Int} {F : Key → St} {t : TypeId} {cs : Array Value} (h : TD w B g m rm F) (hX : At w X t cs) (h1 : t ≠ 61) (h2 : t ≠ 5) (hg : w.grownBy w' (some X)) : TD w' B g m rm F := by
  obtain ⟨⟨us, G, hd, he⟩, ht⟩ := h
  refine ⟨⟨us, G, hd.moved (F := fun b => b = X) (Moved.of_grown hg (fun k hk => (Option.some.inj hk).symm)) ?_, he⟩, ht⟩
  rintro b hb rfl
  unfold At at hX
  rcases hb with rfl | rfl | ⟨p, hp, hb⟩
  · have ha := hd.at_
    unfold At at ha
    rw [hX] at ha
    injection ha with ha
    injection ha with _ ha _
    exact h1 ha
  · obtain ⟨es, clock, hb, _⟩ := hd.map
    rw [hX] at hb
    injection hb with hb
    cases hb
  · obtain ⟨cur, hc⟩ := (hd.files p hp).1.bytes hb
    rw [hX] at hc
    injection hc with hc
    injection hc with _ hc _
    exact h2 hc

set_option maxRecDepth 100000 in
set_option maxHeartbeats 1000000 in
theorem loadTerm_none {w : World} {B g m X : Nat} {rm : Int} {F : Key → St} (h : TD w B g m rm F) (hS : Steps w) (ht : (F kTerm).t = []) :
    Calls Tryd.prog 30 #[.pointer (some ⟨X, 0, none⟩), .pointer (some ⟨g, 0, none⟩)] w fun e w' => e = .returned (.int .i64 0) ∧ Below w.heap.size w w' := by
  have hC := contents_none h hS ⟨#[116, 101, 114, 109]⟩ (.inl rfl) ht
  clear h hS
  go_enter Tryd.func30, Tryd.ntmps30
  go_wp2_with fail
  refine hC.mono ?_
  rintro e w1 ⟨rfl, hb1⟩
  go_wp2
  go_ret
  exact ⟨rfl, hb1⟩
set_option maxRecDepth 100000 in
set_option maxHeartbeats 1000000 in
theorem loadSnap_none {w : World} {B g m X : Nat} {rm : Int} {F : Key → St} (h : TD w B g m rm F) (hS : Steps w) (ht : (F kSnap).t = []) :
    Calls Tryd.prog 31 #[.pointer (some ⟨X, 0, none⟩), .pointer (some ⟨g, 0, none⟩)] w fun e w' => e = .returned (.int .i64 0) ∧ Below w.heap.size w w' := by
  have hC := contents_none h hS ⟨#[115, 110, 97, 112]⟩ (.inr (.inl rfl)) ht
  clear h hS
  go_enter Tryd.func31, Tryd.ntmps31
  go_wp2_with fail
  refine hC.mono ?_
  rintro e w1 ⟨rfl, hb1⟩
  go_wp2
  go_ret
  exact ⟨rfl, hb1⟩
end Go.Proofs.YtplmflagffloeaaDoor

/- term: loadTerm, loadSnap, decode: their walks. -/
namespace Go.Proofs.YtplmflagffloeaaDoor
open Go.RowKit
open Sm
open Wm (num)
open Pm (Key St)
set_option linter.unusedVariables false
set_option linter.unusedSimpArgs false

theorem grown_far {a w w' : World} {X gd : Nat} (h : a.grownBy w (some X)) (hg : w.grownBy w' (some gd)) (hgd : a.heap.size ≤ gd) : a.grownBy w' (some X) :=
  ⟨hg.os.trans h.os, hg.tape.trans h.tape, hg.output.trans h.output, Nat.le_trans h.size hg.size, fun i hi hne => (hg.block i (Nat.lt_of_lt_of_le hi h.size) (by simp; omega)).trans (h.block i hi hne)⟩

set_option maxRecDepth 100000 in
set_option maxHeartbeats 1000000 in
theorem loadTerm_some {w : World} {B g m X : Nat} {rm : Int} {F : Key → St} (h : TD w B g m rm F) (hS : Steps w) {a0 a1 a2 a3 a4 a5 : Value} (hX : At w X 36 #[a0, a1, a2, a3, a4, a5]) (t v : Nat) (ht : t ≤ 1099511627776) (hv : v ≤ 5) (hf : (F kTerm).t = termL t v) :
    Calls Tryd.prog 30 #[.pointer (some ⟨X, 0, none⟩), .pointer (some ⟨g, 0, none⟩)] w fun e w' => e = .returned (.int .i64 0) ∧ At w' X 36 #[.int .i64 (t : Int), .int .i64 (v : Int), a2, a3, a4, a5] ∧ w.grownBy w' (some X) := by
  have hC := contents_some h hS ⟨#[116, 101, 114, 109]⟩ (.inl rfl) (termX t v) (by have := termX_len ht (by omega : v ≤ 1099511627776); omega) hf
  have hI1 : Hid (∀ W gd, DecIs W gd (termX t v) 0 → Calls Tryd.prog 52 #[.pointer (some ⟨gd, 0, none⟩), .int .i64 1099511627776] W (DecRet gd (num v) 0 (.int .i64 (t : Int)) W)) := Lib.hid fun W gd hd => by
    have := decI_any gd _ 1099511627776 W hd (by omega)
    rw [show (1099511627776 : Int).toNat = 1099511627776 from rfl] at this
    unfold termX at this
    rw [tkI_numb t _ _ (by omega) ht] at this
    exact this
  have hI2 : Hid (∀ W gd, DecIs W gd (num v) 0 → Calls Tryd.prog 52 #[.pointer (some ⟨gd, 0, none⟩), .int .i64 5] W (DecRet gd [] 0 (.int .i64 (v : Int)) W)) := Lib.hid fun W gd hd => by
    have := decI_any gd _ 5 W hd (by omega)
    have e := tkI_numb v 5 [] (by omega) hv
    rw [List.append_nil] at e
    rw [show (5 : Int).toNat = 5 from rfl, e] at this
    exact this
  have HX := Lib.hid hX
  clear h hS hX hf
  go_enter Tryd.func30, Tryd.ntmps30
  go_wp2_with fail
  refine hC.mono ?_
  rintro e w1 ⟨gd, rfl, hgd, hd1, hb1⟩
  have hX1 := HX.out.below hb1 HX.out.lt
  have hXg : X ≠ gd := by have := HX.out.lt; omega
  have hg1 : w.grownBy w1 (some X) := grownBy_of_below hb1 rfl
  have hC1 := hI1.out w1 gd hd1
  have HX1 := Lib.hid hX1
  have HG1 := Lib.hid hg1
  clear hC hd1 hb1 hX1 hg1 HX hI1
  go_wp2_with fail
  refine hC1.mono ?_
  rintro e w2 ⟨rfl, hd2, hg2⟩
  have HX2 := Lib.hid (HX1.out.grown hg2 (by simpa using hXg))
  have HG2 := Lib.hid (grown_far HG1.out hg2 hgd)
  have hC2 := hI2.out w2 gd hd2
  clear hC1 hd2 hg2 HX1 HG1 hI2
  go_wp2_with fail
  refine hC2.mono ?_
  rintro e w3 ⟨rfl, hd3, hg3⟩
  have hX3 := HX2.out.grown hg3 (by simpa using hXg)
  have hG3 := grown_far HG2.out hg3 hgd
  have x0 : w3.cell? ⟨X, 0, none⟩ = some a0 := hX3.cell 0
  have x1 : w3.cell? ⟨X, 1, none⟩ = some a1 := hX3.cell 1
  have f0 : w3.frozen? ⟨X, 0, none⟩ = false := hX3.frozen 0
  have f1 : w3.frozen? ⟨X, 1, none⟩ = false := hX3.frozen 1
  have hX4 := (hX3.set 0 (.int .i64 (t : Int))).set 1 (.int .i64 (v : Int))
  have hG4 := grownBy_set (grownBy_set hG3 0 (.int .i64 (t : Int))) 1 (.int .i64 (v : Int))
  have hd4 := (At.far hd3 (p := ⟨X, 0, none⟩) (Ne.symm hXg) (.int .i64 (t : Int))).far (p := ⟨X, 1, none⟩) (Ne.symm hXg) (.int .i64 (v : Int))
  have HX4 := Lib.hid hX4
  have HG4 := Lib.hid hG4
  have HD4 : Hid (DecIs ((w3.setCell ⟨X, 0, none⟩ (.int .i64 (t : Int))).setCell ⟨X, 1, none⟩ (.int .i64 (v : Int))) gd [] 0) := Lib.hid hd4
  clear hC2 hd3 hg3 HX2 HG2 hX3 hG3 hX4 hG4 hd4
  go_wp2_with fail
  refine (done_any gd [] 0 _ HD4.out).mono ?_
  rintro e w5 ⟨rfl, hd5, hg5⟩
  have HX5 := Lib.hid (HX4.out.grown hg5 (by simpa using hXg))
  have HG5 := Lib.hid (grown_far HG4.out hg5 hgd)
  clear hd5 hg5 HX4 HG4 HD4
  go_wp2
  go_ret
  exact ⟨rfl, HX5.out, HG5.out⟩

set_option maxRecDepth 100000 in
set_option maxHeartbeats 1000000 in
theorem loadSnap_some {w : World} {B g m X : Nat} {rm : Int} {F : Key → St} (h : TD w B g m rm F) (hS : Steps w) {a0 a1 a2 a3 a4 a5 : Value} (hX : At w X 36 #[a0, a1, a2, a3, a4, a5]) (b bt : Nat) (hb : b ≤ 1099511627776) (hbt : bt ≤ 1099511627776) (s : ByteArray) (hs : s.size ≤ 1000000) (hf : (F kSnap).t = snapL b bt s) :
    Calls Tryd.prog 31 #[.pointer (some ⟨X, 0, none⟩), .pointer (some ⟨g, 0, none⟩)] w fun e w' => e = .returned (.int .i64 0) ∧ At w' X 36 #[a0, a1, .int .i64 (b : Int), .int .i64 (bt : Int), .string s, a5] ∧ w.grownBy w' (some X) := by
  have hC := contents_some h hS ⟨#[115, 110, 97, 112]⟩ (.inr (.inl rfl)) (snapX b bt s) (by have := snapX_len hb hbt hs; omega) hf
  have hI1 : Hid (∀ W gd, DecIs W gd (snapX b bt s) 0 → Calls Tryd.prog 52 #[.pointer (some ⟨gd, 0, none⟩), .int .i64 1099511627776] W (DecRet gd (num bt ++ text s) 0 (.int .i64 (b : Int)) W)) := Lib.hid fun W gd hd => by
    have := decI_any gd _ 1099511627776 W hd (by omega)
    rw [show (1099511627776 : Int).toNat = 1099511627776 from rfl] at this
    unfold snapX at this
    rw [List.append_assoc, tkI_numb b _ _ (by omega) hb] at this
    exact this
  have hI2 : Hid (∀ W gd, DecIs W gd (num bt ++ text s) 0 → Calls Tryd.prog 52 #[.pointer (some ⟨gd, 0, none⟩), .int .i64 1099511627776] W (DecRet gd (text s) 0 (.int .i64 (bt : Int)) W)) := Lib.hid fun W gd hd => by
    have := decI_any gd _ 1099511627776 W hd (by omega)
    rw [show (1099511627776 : Int).toNat = 1099511627776 from rfl, tkI_numb bt _ _ (by omega) hbt] at this
    exact this
  have hI3 : Hid (∀ W gd, DecIs W gd (text s) 0 → Calls Tryd.prog 54 #[.pointer (some ⟨gd, 0, none⟩), .int .i64 1000000] W (DecRet gd [] 0 (.string s) W)) := Lib.hid fun W gd hd => by
    have hl : (text s).length ≤ 140737488355328 := by have := Wm.num_len s.size (by omega); rw [text_len]; omega
    have := decS_cur gd (text s, 0) W 1000000 (by decide) hl hd
    have e := curS_text s [] 1000000 hs (by omega)
    rw [List.append_nil] at e
    rw [e, list_string] at this
    exact this
  have HX := Lib.hid hX
  clear h hS hX hf
  go_enter Tryd.func31, Tryd.ntmps31
  go_wp2_with fail
  refine hC.mono ?_
  rintro e w1 ⟨gd, rfl, hgd, hd1, hb1⟩
  have hX1 := HX.out.below hb1 HX.out.lt
  have hXg : X ≠ gd := by have := HX.out.lt; omega
  have hg1 : w.grownBy w1 (some X) := grownBy_of_below hb1 rfl
  have hC1 := hI1.out w1 gd hd1
  have HX1 := Lib.hid hX1
  have HG1 := Lib.hid hg1
  clear hC hd1 hb1 hX1 hg1 HX hI1
  go_wp2_with fail
  refine hC1.mono ?_
  rintro e w2 ⟨rfl, hd2, hg2⟩
  have HX2 := Lib.hid (HX1.out.grown hg2 (by simpa using hXg))
  have HG2 := Lib.hid (grown_far HG1.out hg2 hgd)
  have hC2 := hI2.out w2 gd hd2
  clear hC1 hd2 hg2 HX1 HG1 hI2
  go_wp2_with fail
  refine hC2.mono ?_
  rintro e w3 ⟨rfl, hd3, hg3⟩
  have HX3 := Lib.hid (HX2.out.grown hg3 (by simpa using hXg))
  have HG3 := Lib.hid (grown_far HG2.out hg3 hgd)
  have hC3 := hI3.out w3 gd hd3
  clear hC2 hd3 hg3 HX2 HG2 hI3
  go_wp2_with fail
  refine hC3.mono ?_
  rintro e w4 ⟨rfl, hd4, hg4⟩
  have hX4 := HX3.out.grown hg4 (by simpa using hXg)
  have hG4 := grown_far HG3.out hg4 hgd
  have x2 : w4.cell? ⟨X, 2, none⟩ = some a2 := hX4.cell 2
  have x3 : w4.cell? ⟨X, 3, none⟩ = some a3 := hX4.cell 3
  have x4 : w4.cell? ⟨X, 4, none⟩ = some a4 := hX4.cell 4
  have f2 : w4.frozen? ⟨X, 2, none⟩ = false := hX4.frozen 2
  have f3 : w4.frozen? ⟨X, 3, none⟩ = false := hX4.frozen 3
  have f4 : w4.frozen? ⟨X, 4, none⟩ = false := hX4.frozen 4
  have hX5 := ((hX4.set 2 (.int .i64 (b : Int))).set 3 (.int .i64 (bt : Int))).set 4 (.string s)
  have hG5 := grownBy_set (grownBy_set (grownBy_set hG4 2 (.int .i64 (b : Int))) 3 (.int .i64 (bt : Int))) 4 (.string s)
  have hd5 := ((At.far hd4 (p := ⟨X, 2, none⟩) (Ne.symm hXg) (.int .i64 (b : Int))).far (p := ⟨X, 3, none⟩) (Ne.symm hXg) (.int .i64 (bt : Int))).far (p := ⟨X, 4, none⟩) (Ne.symm hXg) (.string s)
  have HX5 := Lib.hid hX5
  have HG5 := Lib.hid hG5
  have HD5 : Hid (DecIs (((w4.setCell ⟨X, 2, none⟩ (.int .i64 (b : Int))).setCell ⟨X, 3, none⟩ (.int .i64 (bt : Int))).setCell ⟨X, 4, none⟩ (.string s)) gd [] 0) := Lib.hid hd5
  clear hC3 hd4 hg4 HX3 HG3 hX4 hG4 hX5 hG5 hd5
  go_wp2_with fail
  refine (done_any gd [] 0 _ HD5.out).mono ?_
  rintro e w6 ⟨rfl, hd6, hg6⟩
  have HX6 := Lib.hid (HX5.out.grown hg6 (by simpa using hXg))
  have HG6 := Lib.hid (grown_far HG5.out hg6 hgd)
  clear hd6 hg6 HX5 HG5 HD5
  go_wp2
  go_ret
  exact ⟨rfl, HX6.out, HG6.out⟩
end Go.Proofs.YtplmflagffloeaaDoor

/- term.decode: its walk. -/
namespace Go.Proofs.YtplmflagffloeaaDoor
open Go.RowKit
open Sm
open Wm (num)
set_option linter.unusedVariables false
set_option linter.unusedSimpArgs false

set_option maxRecDepth 100000 in
set_option maxHeartbeats 2000000 in
theorem decode_any (x : En) (hx : x.ok) (w : World) :
    Calls Tryd.prog 57 #[.string ⟨x.enc.toArray⟩] w fun e w' => e = .returned (.tuple #[.agg #[.int .i64 (x.idx : Int), .int .i64 (x.tm : Int), .string x.cmd], .bool true]) ∧ Below w.heap.size w w' := by
  obtain ⟨r1, r2, r3⟩ := read_en hx
  have hxl := enc_max hx
  have hcm := hx.cmd
  obtain ⟨sx, hsx⟩ : ∃ sx : ByteArray, (⟨x.enc.toArray⟩ : ByteArray) = sx := ⟨_, rfl⟩
  have hxd : sx.data.toList = x.enc := by rw [← hsx]
  have hxz : sx.size = x.enc.length := by rw [← size_list, hxd]
  have hFr := fun W => from_any sx W (by omega)
  rw [hxd] at hFr
  rw [hsx]
  have hI1 : Hid (∀ W gd, DecIs W gd x.enc 0 → Calls Tryd.prog 52 #[.pointer (some ⟨gd, 0, none⟩), .int .i64 1099511627776] W (DecRet gd (num x.tm ++ text x.cmd) 0 (.int .i64 (x.idx : Int)) W)) := Lib.hid fun W gd hd => by
    have := decI_cur gd (x.enc, 0) W 1099511627776 (by decide) hd
    rw [r1] at this
    exact this
  have hI2 : Hid (∀ W gd, DecIs W gd (num x.tm ++ text x.cmd) 0 → Calls Tryd.prog 52 #[.pointer (some ⟨gd, 0, none⟩), .int .i64 1099511627776] W (DecRet gd (text x.cmd) 0 (.int .i64 (x.tm : Int)) W)) := Lib.hid fun W gd hd => by
    have := decI_cur gd (num x.tm ++ text x.cmd, 0) W 1099511627776 (by decide) hd
    rw [r2] at this
    exact this
  have hI3 : Hid (∀ W gd, DecIs W gd (text x.cmd) 0 → Calls Tryd.prog 54 #[.pointer (some ⟨gd, 0, none⟩), .int .i64 100000] W (DecRet gd [] 0 (.string x.cmd) W)) := Lib.hid fun W gd hd => by
    have hl : (text x.cmd).length ≤ 140737488355328 := by have := Wm.num_len x.cmd.size (by omega); rw [text_len]; omega
    have := decS_cur gd (text x.cmd, 0) W 100000 (by decide) hl hd
    rw [r3, list_string] at this
    exact this
  have hR := At.new w 30 #[.int .i64 0, .int .i64 0, .string ⟨#[]⟩]
  have hbR := (Below.refl w.heap.size w).alloc (Nat.le_refl _) (.cells #[.int .i64 0, .int .i64 0, .string ⟨#[]⟩] 30)
  have HRR := Lib.hid hR
  have HBR := Lib.hid hbR
  clear r1 r2 r3 hsx hxd hxz hx hR hbR
  generalize x.idx = xi at *
  generalize x.tm = xt at *
  generalize x.cmd = xc at *
  generalize x.enc = xe at *
  go_enter Tryd.func57, Tryd.ntmps57
  go_wp2_with fail
  have hF1 := hFr (w.alloc (.cells #[.int .i64 0, .int .i64 0, .string ⟨#[]⟩] 30))
  generalize w.alloc (.cells #[.int .i64 0, .int .i64 0, .string ⟨#[]⟩] 30) = w1 at *
  refine hF1.mono ?_
  rintro e w2 ⟨gd, rfl, hgd, hd2, hb2⟩
  have hRlt := HRR.out.lt
  have HR2 := Lib.hid (HRR.out.below hb2 hRlt)
  have HB2 := Lib.hid (HBR.out.trans (hb2.mono HBR.out.size))
  have hXg : w.heap.size ≠ gd := by omega
  have hwg : w.heap.size ≤ gd := by omega
  have hC1 := hI1.out w2 gd hd2
  clear hF1 hb2 hd2 hFr HRR HBR hI1
  generalize hRR : w.heap.size = R at *
  go_wp2_with fail
  refine hC1.mono ?_
  rintro e w3 ⟨rfl, hd3, hg3⟩
  have HR3 := Lib.hid (HR2.out.grown hg3 (by simpa using hXg))
  have HB3 := Lib.hid (below_of_grownBy HB2.out hg3 (by have := HB2.out.size; omega) hwg)
  have hC2 := hI2.out w3 gd hd3
  clear hC1 hd3 hg3 HR2 HB2 hI2
  go_wp2_with fail
  refine hC2.mono ?_
  rintro e w4 ⟨rfl, hd4, hg4⟩
  have HR4 := Lib.hid (HR3.out.grown hg4 (by simpa using hXg))
  have HB4 := Lib.hid (below_of_grownBy HB3.out hg4 (by have := HB3.out.size; omega) hwg)
  have hC3 := hI3.out w4 gd hd4
  clear hC2 hd4 hg4 HR3 HB3 hI3
  go_wp2_with fail
  refine hC3.mono ?_
  rintro e w5 ⟨rfl, hd5, hg5⟩
  have hR5 := HR4.out.grown hg5 (by simpa using hXg)
  have hB5 := below_of_grownBy HB4.out hg5 (by have := HB4.out.size; omega) hwg
  have hX6 := At.new w5 30 #[.int .i64 (xi : Int), .int .i64 (xt : Int), .string xc]
  have hR6 := hR5.alloc (.cells #[.int .i64 (xi : Int), .int .i64 (xt : Int), .string xc] 30)
  have hd6 := At.alloc hd5 (.cells #[.int .i64 (xi : Int), .int .i64 (xt : Int), .string xc] 30)
  have hB6 := hB5.alloc (by have := hB5.size; omega) (.cells #[.int .i64 (xi : Int), .int .i64 (xt : Int), .string xc] 30)
  have hne : R ≠ w5.heap.size := by have := hR5.lt; omega
  have hge : gd ≠ w5.heap.size := by have := At.lt hd5; omega
  have HX6 := Lib.hid hX6
  have HR6 := Lib.hid hR6
  have HD6 := Lib.hid hd6
  have HB6 := Lib.hid hB6
  clear hC3 hd5 hg5 HR4 HB4 hR5 hB5 hX6 hR6 hd6 hB6
  go_upto_region 3 with fail
  generalize w5.alloc (.cells #[.int .i64 (xi : Int), .int .i64 (xt : Int), .string xc] 30) = w6 at *
  generalize w5.heap.size = X at *
  have hXg2 : X ≠ gd := Ne.symm hge
  have c0 : w6.cell? ⟨X, 0, none⟩ = some (.int .i64 (xi : Int)) := HX6.out.cell 0
  have c1 : w6.cell? ⟨X, 1, none⟩ = some (.int .i64 (xt : Int)) := HX6.out.cell 1
  have c2 : w6.cell? ⟨X, 2, none⟩ = some (.string xc) := HX6.out.cell 2
  have HDN : Hid (∀ W, DecIs W gd [] 0 → Calls Tryd.prog 53 #[.pointer (some ⟨gd, 0, none⟩)] W (DecRet gd [] 0 (.int .i64 0) W)) := Lib.hid fun W h => done_any gd [] 0 W h
  go_region_with (go_at_call 53; refine (HDN.out _ (by exact HD6.out)).mono ?_; rintro e w7 ⟨rfl, hd7, hg7⟩; have hR7 := HR6.out.drew.grown hg7 (by simpa using hXg); have hX7 := HX6.out.drew.grown hg7 (by simpa using hXg2); have d0 : w7.cell? ⟨X, 0, none⟩ = some (.int .i64 (xi : Int)) := hX7.cell 0; have d1 : w7.cell? ⟨X, 1, none⟩ = some (.int .i64 (xt : Int)) := hX7.cell 1; have d2 : w7.cell? ⟨X, 2, none⟩ = some (.string xc) := hX7.cell 2; have r0 : w7.cell? ⟨R, 0, none⟩ = some (.int .i64 0) := hR7.cell 0; have r1 : w7.cell? ⟨R, 1, none⟩ = some (.int .i64 0) := hR7.cell 1; have r2 : w7.cell? ⟨R, 2, none⟩ = some (.string ⟨#[]⟩) := hR7.cell 2; have g0 : w7.frozen? ⟨R, 0, none⟩ = false := hR7.frozen 0; have g1 : w7.frozen? ⟨R, 1, none⟩ = false := hR7.frozen 1; have g2 : w7.frozen? ⟨R, 2, none⟩ = false := hR7.frozen 2)
  all_goals
    have hR8 := ((hR7.set 0 (.int .i64 (xi : Int))).set 1 (.int .i64 (xt : Int))).set 2 (.string xc)
    have hG8 := grownBy_set (grownBy_set (grownBy_set (grownBy_refl w7 (some R)) 0 (.int .i64 (xi : Int))) 1 (.int .i64 (xt : Int))) 2 (.string xc)
    have hB7 := below_of_grownBy (Below.drew HB6.out) hg7 (by have := HB6.out.size; rw [hRR] at this; exact this) hwg
    have hB8 := below_of_grownBy hB7 hG8 (by have := hB7.size; omega) (Nat.le_refl _)
    have HR8 := Lib.hid hR8
    have HB8 := Lib.hid hB8
    clear hR8 hG8 hB7 hB8 hR7 hX7 hd7 hg7 c0 c1 c2 d0 d1 d2 r0 r1 r2 g0 g1 g2
    go_wp2
    refine bodyPost_ret (res_row_tmp rfl _ _ _ _ _ _ rfl HR8.out Tryd.underlying30 (by kernel_rfl)) rfl ⟨rfl, ?_⟩
    rw [hRR]
    exact HB8.out
end Go.Proofs.YtplmflagffloeaaDoor
