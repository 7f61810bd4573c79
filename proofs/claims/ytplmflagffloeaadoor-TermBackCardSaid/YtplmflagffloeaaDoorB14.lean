/- Ykr: merged (a claim holds few files). -/
import Derived.Test.YtplmflagffloeaaDoorB13
import Derived.Test.YtplmflagffloeaaDoorB12
/- TermBack: region 16: what is loaded is what was kept. Written by gen_rm.py. -/
namespace Go.Proofs.YtplmflagffloeaaDoor
open Go.RowKit
open Sm
set_option linter.unusedVariables false
set_option linter.unusedSimpArgs false


/-- what a state is told as -/
def ToldR (t v n ln : Nat) (sn : ByteArray) (l : List En) (u : Value) (W : World) : Prop := ∃ A c, u = .agg #[.int .i64 (t : Int), .int .i64 (v : Int), .int .i64 (n : Int), .int .i64 (t : Int), .string sn, .slice A ln c] ∧ ln ≤ c ∧ RnT W A l
/-- two states lie there -/
structure BkH (B : Nat) (w0 : World) (S1 S2 t v n ln : Nat) (sn : ByteArray) (A1 A2 A5 : Option Addr) (c1 c2 c5 : Nat) (l l5 : List En) (W : World) : Prop where
  s1 : At W S1 36 #[.int .i64 (t : Int), .int .i64 (v : Int), .int .i64 (n : Int), .int .i64 (t : Int), .string sn, .slice A1 ln c1]
  s2 : At W S2 36 #[.int .i64 (t : Int), .int .i64 (v : Int), .int .i64 (n : Int), .int .i64 (t : Int), .string sn, .slice A2 ln c2]
  e1 : EnT W A1 l
  e2 : EnT W A2 l
  e5 : EnT W A5 l5
  low : Below B w0 W
  big : B ≤ W.heap.size
theorem BkH.below {B : Nat} {w0 : World} {S1 S2 t v n ln : Nat} {sn : ByteArray} {A1 A2 A5 : Option Addr} {c1 c2 c5 : Nat} {l l5 : List En} {W W1 : World} (h : BkH B w0 S1 S2 t v n ln sn A1 A2 A5 c1 c2 c5 l l5 W) (hb : Below W.heap.size W W1) : BkH B w0 S1 S2 t v n ln sn A1 A2 A5 c1 c2 c5 l l5 W1 :=
  ⟨h.s1.below hb h.s1.lt, h.s2.below hb h.s2.lt, h.e1.below hb, h.e2.below hb, h.e5.below hb, h.low.trans (hb.mono h.big), Nat.le_trans h.big hb.size⟩
def bk9Tb (B : Nat) (w0 : World) (S1 S2 t v n ln lz : Nat) (sn : ByteArray) (A1 A2 A5 : Option Addr) (c1 c2 c5 : Nat) (l l5 : List En) (base : Array Value) : Tm where
  slots := [111, 112, 113, 114, 115, 116, 117, 118, 119, 120, 121, 122, 123, 124, 125, 126, 127, 128, 129, 130, 131, 132, 133, 134, 135, 136, 137, 138, 139, 140, 141, 142, 143, 144, 145, 146, 147, 148, 149, 150, 151, 152, 153, 154, 155, 156, 157, 158]
  size := 176
  base := base
  cv := fun
    | 0 => some (.int .i64 0)
    | 1 => some (.bool false)
    | 2 => some (.bool false)
    | 3 => some (.int .i64 0)
    | 4 => some (.bool false)
    | 5 => some (.bool false)
    | 6 => some (.bool false)
    | 7 => some (.agg #[.int .i64 (t : Int), .int .i64 (v : Int), .int .i64 (n : Int), .int .i64 (t : Int), .string sn, .slice A1 ln c1])
    | 9 => some (.agg #[.int .i64 (t : Int), .int .i64 (v : Int), .int .i64 (n : Int), .int .i64 (t : Int), .string sn, .slice A2 ln c2])
    | 11 => some (.bool true)
    | 12 => some (.bool false)
    | 13 => some (.bool false)
    | 14 => some (.bool false)
    | 15 => some (.pointer (some ⟨S1, 0, none⟩))
    | 16 => some (.int .i64 (t : Int))
    | 17 => some (.int .i64 (t : Int))
    | 18 => some (.bool false)
    | 19 => some (.bool false)
    | 20 => some (.bool false)
    | 21 => some (.pointer (some ⟨S1, 1, none⟩))
    | 22 => some (.int .i64 (v : Int))
    | 23 => some (.int .i64 (v : Int))
    | 24 => some (.bool false)
    | 25 => some (.bool false)
    | 26 => some (.bool false)
    | 27 => some (.pointer (some ⟨S1, 2, none⟩))
    | 28 => some (.int .i64 (n : Int))
    | 29 => some (.int .i64 (n : Int))
    | 30 => some (.bool false)
    | 31 => some (.bool false)
    | 32 => some (.bool false)
    | 33 => some (.pointer (some ⟨S1, 4, none⟩))
    | 34 => some (.string sn)
    | 35 => some (.string sn)
    | 36 => some (.bool false)
    | 37 => some (.bool false)
    | 38 => some (.bool false)
    | 39 => some (.pointer (some ⟨S1, 5, none⟩))
    | 40 => some (.slice A1 ln c1)
    | 41 => some (.int .i64 (ln : Int))
    | 42 => some (.slice A5 lz c5)
    | 43 => some (.int .i64 (lz : Int))
    | 44 => some (.int .i64 (n : Int))
    | 45 => some (.int .i64 (ln : Int))
    | 46 => some (.bool false)
    | 47 => some (.bool false)
    | _ => none
  rl := fun
    | 8 => some ((ToldR t v n ln sn l), 11)
    | 10 => some ((ToldR t v n ln sn l), 11)
    | _ => none

theorem bk9_keep {B : Nat} {w0 : World} {S1 S2 t v n ln lz : Nat} {sn : ByteArray} {A1 A2 A5 : Option Addr} {c1 c2 c5 : Nat} {l l5 : List En} {base : Array Value} {W W1 : World} (hb : Below W.heap.size W W1) : ∀ b R c u, (bk9Tb B w0 S1 S2 t v n ln lz sn A1 A2 A5 c1 c2 c5 l l5 base).rl b = some (R, c) → R u W → R u W1 := by
  intro b R c u h hu
  unfold bk9Tb at h
  simp only at h
  split at h
  all_goals first | (cases h; done) | (injection h with h; injection h with h _; subst h; obtain ⟨A9, c9, h1, h2, h3⟩ := hu; exact ⟨A9, c9, h1, h2, h3.below hb⟩)
structure bk9Env (B : Nat) (w0 : World) (S1 S2 t v n ln lz : Nat) (sn : ByteArray) (A1 A2 A5 : Option Addr) (c1 c2 c5 : Nat) (l l5 : List En) (base : Array Value) : Prop where
  b17 : base[17]?.getD undef = .int .i64 0
  b19 : base[19]?.getD undef = .int .i64 0
  b16 : base[16]?.getD undef = .pointer (some ⟨S1, 0, none⟩)
  b18 : base[18]?.getD undef = .pointer (some ⟨S2, 0, none⟩)
  b0 : base[0]?.getD undef = .int .i64 (t : Int)
  b1 : base[1]?.getD undef = .int .i64 (v : Int)
  b4 : base[4]?.getD undef = .int .i64 (n : Int)
  b2 : base[2]?.getD undef = .string sn
  b14 : base[14]?.getD undef = .slice A5 lz c5
  hln : l.length = ln
  hlz : lz = n + ln
  hz : lz ≤ 1000
  lc1 : ln ≤ c1
  lc2 : ln ≤ c2
  ta : ∀ W, BkH B w0 S1 S2 t v n ln sn A1 A2 A5 c1 c2 c5 l l5 W → Calls Tryd.prog 16 #[.agg #[.int .i64 (t : Int), .int .i64 (v : Int), .int .i64 (n : Int), .int .i64 (t : Int), .string sn, .slice A1 ln c1]] W fun e w' => ∃ A c, e = .returned (.agg #[.int .i64 (t : Int), .int .i64 (v : Int), .int .i64 (n : Int), .int .i64 (t : Int), .string sn, .slice A ln c]) ∧ ln ≤ c ∧ RnT w' A l ∧ Below W.heap.size W w'
  tb : ∀ W, BkH B w0 S1 S2 t v n ln sn A1 A2 A5 c1 c2 c5 l l5 W → Calls Tryd.prog 16 #[.agg #[.int .i64 (t : Int), .int .i64 (v : Int), .int .i64 (n : Int), .int .i64 (t : Int), .string sn, .slice A2 ln c2]] W fun e w' => ∃ A c, e = .returned (.agg #[.int .i64 (t : Int), .int .i64 (v : Int), .int .i64 (n : Int), .int .i64 (t : Int), .string sn, .slice A ln c]) ∧ ln ≤ c ∧ RnT w' A l ∧ Below W.heap.size W w'
  sm : ∀ W A c, ln ≤ c → RnT W A l → ∀ A' c', ln ≤ c' → RnT W A' l → BkH B w0 S1 S2 t v n ln sn A1 A2 A5 c1 c2 c5 l l5 W → Calls Tryd.prog 15 #[.agg #[.int .i64 (t : Int), .int .i64 (v : Int), .int .i64 (n : Int), .int .i64 (t : Int), .string sn, .slice A ln c], .agg #[.int .i64 (t : Int), .int .i64 (v : Int), .int .i64 (n : Int), .int .i64 (t : Int), .string sn, .slice A' ln c']] W fun e w' => e = .returned (.bool true) ∧ Below W.heap.size W w'
theorem bk9_nodup : [111, 112, 113, 114, 115, 116, 117, 118, 119, 120, 121, 122, 123, 124, 125, 126, 127, 128, 129, 130, 131, 132, 133, 134, 135, 136, 137, 138, 139, 140, 141, 142, 143, 144, 145, 146, 147, 148, 149, 150, 151, 152, 153, 154, 155, 156, 157, 158].Nodup := by decide
set_option maxRecDepth 100000 in
theorem bk9_0 {B : Nat} {w0 : World} {S1 S2 t v n ln lz : Nat} {sn : ByteArray} {A1 A2 A5 : Option Addr} {c1 c2 c5 : Nat} {l l5 : List En} {base : Array Value} {f : Nat → Bool} {a : Act} {W : World} {K : Act → World → Prop} {Q : Exit → Act → World → Prop} {ops : Array Oper} (E : bk9Env B w0 S1 S2 t v n ln lz sn A1 A2 A5 c1 c2 c5 l l5 base) (hI : (bk9Tb B w0 S1 S2 t v n ln lz sn A1 A2 A5 c1 c2 c5 l l5 base).Inv (BkH B w0 S1 S2 t v n ln sn A1 A2 A5 c1 c2 c5 l l5) f a W) (hf : f 0 = false) (pos : String) (hK : ∀ a' W', (bk9Tb B w0 S1 S2 t v n ln lz sn A1 A2 A5 c1 c2 c5 l l5 base).Inv (BkH B w0 S1 S2 t v n ln sn A1 A2 A5 c1 c2 c5 l l5) (hit f 0) a' W' → K a' W') : if Region.wanted { dst := some 111, op := Go.Op.move (Go.Operand.tmp 17), type := 31, pos := pos, after := #[], guard := none } (yielded ops a.tmps) = true then Oper.wp Tryd.prog { dst := some 111, op := Go.Op.move (Go.Operand.tmp 17), type := 31, pos := pos, after := #[], guard := none } a W K Q else K (a.put (some 111) undef) W := by
  have q : a.tmps[17]?.getD undef = .int .i64 0 := (hI.base 17 rfl).trans E.b17
  have R := Lib.hid (hI.step (i := 0) (d := 111) (v := .int .i64 0) rfl bk9_nodup (show 111 < 176 by decide) rfl rfl (fun _ _ _ _ _ h => h) hI.held)
  clear hI E hf
  go_simp
  exact hK _ _ R.out

set_option maxRecDepth 100000 in
theorem bk9_1 {B : Nat} {w0 : World} {S1 S2 t v n ln lz : Nat} {sn : ByteArray} {A1 A2 A5 : Option Addr} {c1 c2 c5 : Nat} {l l5 : List En} {base : Array Value} {f : Nat → Bool} {a : Act} {W : World} {K : Act → World → Prop} {Q : Exit → Act → World → Prop} {ops : Array Oper} (E : bk9Env B w0 S1 S2 t v n ln lz sn A1 A2 A5 c1 c2 c5 l l5 base) (hI : (bk9Tb B w0 S1 S2 t v n ln lz sn A1 A2 A5 c1 c2 c5 l l5 base).Inv (BkH B w0 S1 S2 t v n ln sn A1 A2 A5 c1 c2 c5 l l5) f a W) (hf : f 1 = false) (h0 : f 0 = true) (pos : String) (hK : ∀ a' W', (bk9Tb B w0 S1 S2 t v n ln lz sn A1 A2 A5 c1 c2 c5 l l5 base).Inv (BkH B w0 S1 S2 t v n ln sn A1 A2 A5 c1 c2 c5 l l5) (hit f 1) a' W' → K a' W') : if Region.wanted { dst := some 112, op := Go.Op.binOp Go.BinOp.neq 31 (Go.Operand.tmp 111) (Go.Operand.const (Go.Value.int Go.IntKind.i64 0)) 31, type := 4, pos := pos, after := #[{ on := 0, ground := Go.Ground.data }], guard := none } (yielded ops a.tmps) = true then Oper.wp Tryd.prog { dst := some 112, op := Go.Op.binOp Go.BinOp.neq 31 (Go.Operand.tmp 111) (Go.Operand.const (Go.Value.int Go.IntKind.i64 0)) 31, type := 4, pos := pos, after := #[{ on := 0, ground := Go.Ground.data }], guard := none } a W K Q else K (a.put (some 112) undef) W := by
  have y0 : a.tmps[111]?.getD undef = .int .i64 0 := hI.val 0 111 _ rfl rfl h0
  have R := Lib.hid (hI.step (i := 1) (d := 112) (v := .bool false) rfl bk9_nodup (show 112 < 176 by decide) rfl rfl (fun _ _ _ _ _ h => h) hI.held)
  clear hI E hf
  go_simp
  exact hK _ _ R.out

set_option maxRecDepth 100000 in
theorem bk9_2 {B : Nat} {w0 : World} {S1 S2 t v n ln lz : Nat} {sn : ByteArray} {A1 A2 A5 : Option Addr} {c1 c2 c5 : Nat} {l l5 : List En} {base : Array Value} {f : Nat → Bool} {a : Act} {W : World} {K : Act → World → Prop} {Q : Exit → Act → World → Prop} {ops : Array Oper} (E : bk9Env B w0 S1 S2 t v n ln lz sn A1 A2 A5 c1 c2 c5 l l5 base) (hI : (bk9Tb B w0 S1 S2 t v n ln lz sn A1 A2 A5 c1 c2 c5 l l5 base).Inv (BkH B w0 S1 S2 t v n ln sn A1 A2 A5 c1 c2 c5 l l5) f a W) (hf : f 2 = false) (h1 : f 1 = true) (pos : String) (hK : ∀ a' W', (bk9Tb B w0 S1 S2 t v n ln lz sn A1 A2 A5 c1 c2 c5 l l5 base).Inv (BkH B w0 S1 S2 t v n ln sn A1 A2 A5 c1 c2 c5 l l5) (hit f 2) a' W' → K a' W') : if Region.wanted { dst := some 113, op := Go.Op.move (Go.Operand.tmp 112), type := 4, pos := pos, after := #[{ on := 1, ground := Go.Ground.data }], guard := none } (yielded ops a.tmps) = true then Oper.wp Tryd.prog { dst := some 113, op := Go.Op.move (Go.Operand.tmp 112), type := 4, pos := pos, after := #[{ on := 1, ground := Go.Ground.data }], guard := none } a W K Q else K (a.put (some 113) undef) W := by
  have q : a.tmps[112]?.getD undef = .bool false := hI.val 1 112 _ rfl rfl h1
  have R := Lib.hid (hI.step (i := 2) (d := 113) (v := .bool false) rfl bk9_nodup (show 113 < 176 by decide) rfl rfl (fun _ _ _ _ _ h => h) hI.held)
  clear hI E hf
  go_simp
  exact hK _ _ R.out

set_option maxRecDepth 100000 in
theorem bk9_3 {B : Nat} {w0 : World} {S1 S2 t v n ln lz : Nat} {sn : ByteArray} {A1 A2 A5 : Option Addr} {c1 c2 c5 : Nat} {l l5 : List En} {base : Array Value} {f : Nat → Bool} {a : Act} {W : World} {K : Act → World → Prop} {Q : Exit → Act → World → Prop} {ops : Array Oper} (E : bk9Env B w0 S1 S2 t v n ln lz sn A1 A2 A5 c1 c2 c5 l l5 base) (hI : (bk9Tb B w0 S1 S2 t v n ln lz sn A1 A2 A5 c1 c2 c5 l l5 base).Inv (BkH B w0 S1 S2 t v n ln sn A1 A2 A5 c1 c2 c5 l l5) f a W) (hf : f 3 = false) (h2 : f 2 = true) (hgd : (ops[2]?).bind (·.dst) = some 113) (pos : String) (hK : ∀ a' W', (bk9Tb B w0 S1 S2 t v n ln lz sn A1 A2 A5 c1 c2 c5 l l5 base).Inv (BkH B w0 S1 S2 t v n ln sn A1 A2 A5 c1 c2 c5 l l5) (hit f 3) a' W' → K a' W') : if Region.wanted { dst := some 114, op := Go.Op.move (Go.Operand.tmp 19), type := 31, pos := pos, after := #[{ on := 2, ground := Go.Ground.guard }], guard := some (2, false) } (yielded ops a.tmps) = true then Oper.wp Tryd.prog { dst := some 114, op := Go.Op.move (Go.Operand.tmp 19), type := 31, pos := pos, after := #[{ on := 2, ground := Go.Ground.guard }], guard := some (2, false) } a W K Q else K (a.put (some 114) undef) W := by
  have hy : yielded ops a.tmps 2 = some false := yielded_of hgd (by rw [hI.size]; show 113 < 176; decide) (hI.val 2 113 _ rfl rfl h2)
  have hw : Region.wanted { dst := some 114, op := Go.Op.move (Go.Operand.tmp 19), type := 31, pos := pos, after := #[{ on := 2, ground := Go.Ground.guard }], guard := some (2, false) } (yielded ops a.tmps) = true := by
    show (yielded ops a.tmps 2 == some false) = true
    rw [hy]
    rfl
  rw [if_pos hw]
  clear hw hy
  have q : a.tmps[19]?.getD undef = .int .i64 0 := (hI.base 19 rfl).trans E.b19
  have R := Lib.hid (hI.step (i := 3) (d := 114) (v := .int .i64 0) rfl bk9_nodup (show 114 < 176 by decide) rfl rfl (fun _ _ _ _ _ h => h) hI.held)
  clear hI E hf
  go_simp
  exact hK _ _ R.out

set_option maxRecDepth 100000 in
theorem bk9_4 {B : Nat} {w0 : World} {S1 S2 t v n ln lz : Nat} {sn : ByteArray} {A1 A2 A5 : Option Addr} {c1 c2 c5 : Nat} {l l5 : List En} {base : Array Value} {f : Nat → Bool} {a : Act} {W : World} {K : Act → World → Prop} {Q : Exit → Act → World → Prop} {ops : Array Oper} (E : bk9Env B w0 S1 S2 t v n ln lz sn A1 A2 A5 c1 c2 c5 l l5 base) (hI : (bk9Tb B w0 S1 S2 t v n ln lz sn A1 A2 A5 c1 c2 c5 l l5 base).Inv (BkH B w0 S1 S2 t v n ln sn A1 A2 A5 c1 c2 c5 l l5) f a W) (hf : f 4 = false) (h2 : f 2 = true) (h3 : f 3 = true) (hgd : (ops[2]?).bind (·.dst) = some 113) (pos : String) (hK : ∀ a' W', (bk9Tb B w0 S1 S2 t v n ln lz sn A1 A2 A5 c1 c2 c5 l l5 base).Inv (BkH B w0 S1 S2 t v n ln sn A1 A2 A5 c1 c2 c5 l l5) (hit f 4) a' W' → K a' W') : if Region.wanted { dst := some 115, op := Go.Op.binOp Go.BinOp.neq 31 (Go.Operand.tmp 114) (Go.Operand.const (Go.Value.int Go.IntKind.i64 0)) 31, type := 4, pos := pos, after := #[{ on := 3, ground := Go.Ground.data }, { on := 2, ground := Go.Ground.guard }], guard := some (2, false) } (yielded ops a.tmps) = true then Oper.wp Tryd.prog { dst := some 115, op := Go.Op.binOp Go.BinOp.neq 31 (Go.Operand.tmp 114) (Go.Operand.const (Go.Value.int Go.IntKind.i64 0)) 31, type := 4, pos := pos, after := #[{ on := 3, ground := Go.Ground.data }, { on := 2, ground := Go.Ground.guard }], guard := some (2, false) } a W K Q else K (a.put (some 115) undef) W := by
  have hy : yielded ops a.tmps 2 = some false := yielded_of hgd (by rw [hI.size]; show 113 < 176; decide) (hI.val 2 113 _ rfl rfl h2)
  have hw : Region.wanted { dst := some 115, op := Go.Op.binOp Go.BinOp.neq 31 (Go.Operand.tmp 114) (Go.Operand.const (Go.Value.int Go.IntKind.i64 0)) 31, type := 4, pos := pos, after := #[{ on := 3, ground := Go.Ground.data }, { on := 2, ground := Go.Ground.guard }], guard := some (2, false) } (yielded ops a.tmps) = true := by
    show (yielded ops a.tmps 2 == some false) = true
    rw [hy]
    rfl
  rw [if_pos hw]
  clear hw hy
  have y0 : a.tmps[114]?.getD undef = .int .i64 0 := hI.val 3 114 _ rfl rfl h3
  have R := Lib.hid (hI.step (i := 4) (d := 115) (v := .bool false) rfl bk9_nodup (show 115 < 176 by decide) rfl rfl (fun _ _ _ _ _ h => h) hI.held)
  clear hI E hf
  go_simp
  exact hK _ _ R.out

set_option maxRecDepth 100000 in
theorem bk9_5 {B : Nat} {w0 : World} {S1 S2 t v n ln lz : Nat} {sn : ByteArray} {A1 A2 A5 : Option Addr} {c1 c2 c5 : Nat} {l l5 : List En} {base : Array Value} {f : Nat → Bool} {a : Act} {W : World} {K : Act → World → Prop} {Q : Exit → Act → World → Prop} {ops : Array Oper} (E : bk9Env B w0 S1 S2 t v n ln lz sn A1 A2 A5 c1 c2 c5 l l5 base) (hI : (bk9Tb B w0 S1 S2 t v n ln lz sn A1 A2 A5 c1 c2 c5 l l5 base).Inv (BkH B w0 S1 S2 t v n ln sn A1 A2 A5 c1 c2 c5 l l5) f a W) (hf : f 5 = false) (h2 : f 2 = true) (h4 : f 4 = true) (pos : String) (hK : ∀ a' W', (bk9Tb B w0 S1 S2 t v n ln lz sn A1 A2 A5 c1 c2 c5 l l5 base).Inv (BkH B w0 S1 S2 t v n ln sn A1 A2 A5 c1 c2 c5 l l5) (hit f 5) a' W' → K a' W') : if Region.wanted { dst := some 116, op := Go.Op.pick (Go.Operand.tmp 113) (Go.Operand.const (Go.Value.bool true)) (Go.Operand.tmp 115), type := 4, pos := pos, after := #[{ on := 2, ground := Go.Ground.data }, { on := 4, ground := Go.Ground.data }], guard := none } (yielded ops a.tmps) = true then Oper.wp Tryd.prog { dst := some 116, op := Go.Op.pick (Go.Operand.tmp 113) (Go.Operand.const (Go.Value.bool true)) (Go.Operand.tmp 115), type := 4, pos := pos, after := #[{ on := 2, ground := Go.Ground.data }, { on := 4, ground := Go.Ground.data }], guard := none } a W K Q else K (a.put (some 116) undef) W := by
  have y0 : a.tmps[113]?.getD undef = .bool false := hI.val 2 113 _ rfl rfl h2
  have y2 : a.tmps[115]?.getD undef = .bool false := hI.val 4 115 _ rfl rfl h4
  have R := Lib.hid (hI.step (i := 5) (d := 116) (v := .bool false) rfl bk9_nodup (show 116 < 176 by decide) rfl rfl (fun _ _ _ _ _ h => h) hI.held)
  clear hI E hf
  go_simp
  exact hK _ _ R.out

set_option maxRecDepth 100000 in
theorem bk9_6 {B : Nat} {w0 : World} {S1 S2 t v n ln lz : Nat} {sn : ByteArray} {A1 A2 A5 : Option Addr} {c1 c2 c5 : Nat} {l l5 : List En} {base : Array Value} {f : Nat → Bool} {a : Act} {W : World} {K : Act → World → Prop} {Q : Exit → Act → World → Prop} {ops : Array Oper} (E : bk9Env B w0 S1 S2 t v n ln lz sn A1 A2 A5 c1 c2 c5 l l5 base) (hI : (bk9Tb B w0 S1 S2 t v n ln lz sn A1 A2 A5 c1 c2 c5 l l5 base).Inv (BkH B w0 S1 S2 t v n ln sn A1 A2 A5 c1 c2 c5 l l5) f a W) (hf : f 6 = false) (h2 : f 2 = true) (h5 : f 5 = true) (pos : String) (hK : ∀ a' W', (bk9Tb B w0 S1 S2 t v n ln lz sn A1 A2 A5 c1 c2 c5 l l5 base).Inv (BkH B w0 S1 S2 t v n ln sn A1 A2 A5 c1 c2 c5 l l5) (hit f 6) a' W' → K a' W') : if Region.wanted { dst := some 117, op := Go.Op.move (Go.Operand.tmp 116), type := 4, pos := pos, after := #[{ on := 5, ground := Go.Ground.data }, { on := 2, ground := Go.Ground.chain }], guard := none } (yielded ops a.tmps) = true then Oper.wp Tryd.prog { dst := some 117, op := Go.Op.move (Go.Operand.tmp 116), type := 4, pos := pos, after := #[{ on := 5, ground := Go.Ground.data }, { on := 2, ground := Go.Ground.chain }], guard := none } a W K Q else K (a.put (some 117) undef) W := by
  have q : a.tmps[116]?.getD undef = .bool false := hI.val 5 116 _ rfl rfl h5
  have R := Lib.hid (hI.step (i := 6) (d := 117) (v := .bool false) rfl bk9_nodup (show 117 < 176 by decide) rfl rfl (fun _ _ _ _ _ h => h) hI.held)
  clear hI E hf
  go_simp
  exact hK _ _ R.out

set_option maxRecDepth 100000 in
theorem bk9_7 {B : Nat} {w0 : World} {S1 S2 t v n ln lz : Nat} {sn : ByteArray} {A1 A2 A5 : Option Addr} {c1 c2 c5 : Nat} {l l5 : List En} {base : Array Value} {f : Nat → Bool} {a : Act} {W : World} {K : Act → World → Prop} {Q : Exit → Act → World → Prop} {ops : Array Oper} (E : bk9Env B w0 S1 S2 t v n ln lz sn A1 A2 A5 c1 c2 c5 l l5 base) (hI : (bk9Tb B w0 S1 S2 t v n ln lz sn A1 A2 A5 c1 c2 c5 l l5 base).Inv (BkH B w0 S1 S2 t v n ln sn A1 A2 A5 c1 c2 c5 l l5) f a W) (hf : f 7 = false) (h6 : f 6 = true) (hgd : (ops[6]?).bind (·.dst) = some 117) (pos : String) (hK : ∀ a' W', (bk9Tb B w0 S1 S2 t v n ln lz sn A1 A2 A5 c1 c2 c5 l l5 base).Inv (BkH B w0 S1 S2 t v n ln sn A1 A2 A5 c1 c2 c5 l l5) (hit f 7) a' W' → K a' W') : if Region.wanted { dst := some 118, op := Go.Op.load 36 (Go.Operand.tmp 16), type := 36, pos := pos, after := #[{ on := 6, ground := Go.Ground.guard }], guard := some (6, false) } (yielded ops a.tmps) = true then Oper.wp Tryd.prog { dst := some 118, op := Go.Op.load 36 (Go.Operand.tmp 16), type := 36, pos := pos, after := #[{ on := 6, ground := Go.Ground.guard }], guard := some (6, false) } a W K Q else K (a.put (some 118) undef) W := by
  have hy : yielded ops a.tmps 6 = some false := yielded_of hgd (by rw [hI.size]; show 117 < 176; decide) (hI.val 6 117 _ rfl rfl h6)
  have hw : Region.wanted { dst := some 118, op := Go.Op.load 36 (Go.Operand.tmp 16), type := 36, pos := pos, after := #[{ on := 6, ground := Go.Ground.guard }], guard := some (6, false) } (yielded ops a.tmps) = true := by
    show (yielded ops a.tmps 6 == some false) = true
    rw [hy]
    rfl
  rw [if_pos hw]
  clear hw hy
  have q : a.tmps[16]?.getD undef = .pointer (some ⟨S1, 0, none⟩) := (hI.base 16 rfl).trans E.b16
  have x0 : W.cell? ⟨S1, 0, none⟩ = some (.int .i64 (t : Int)) := hI.held.s1.cell 0
  have x1 : W.cell? ⟨S1, 1, none⟩ = some (.int .i64 (v : Int)) := hI.held.s1.cell 1
  have x2 : W.cell? ⟨S1, 2, none⟩ = some (.int .i64 (n : Int)) := hI.held.s1.cell 2
  have x3 : W.cell? ⟨S1, 3, none⟩ = some (.int .i64 (t : Int)) := hI.held.s1.cell 3
  have x4 : W.cell? ⟨S1, 4, none⟩ = some (.string sn) := hI.held.s1.cell 4
  have x5 : W.cell? ⟨S1, 5, none⟩ = some (.slice A1 ln c1) := hI.held.s1.cell 5
  have R := Lib.hid (hI.step (i := 7) (d := 118) (v := .agg #[.int .i64 (t : Int), .int .i64 (v : Int), .int .i64 (n : Int), .int .i64 (t : Int), .string sn, .slice A1 ln c1]) rfl bk9_nodup (show 118 < 176 by decide) rfl rfl (fun _ _ _ _ _ h => h) hI.held)
  clear hI E hf
  go_simp
  exact hK _ _ R.out

set_option maxRecDepth 100000 in
theorem bk9_8 {B : Nat} {w0 : World} {S1 S2 t v n ln lz : Nat} {sn : ByteArray} {A1 A2 A5 : Option Addr} {c1 c2 c5 : Nat} {l l5 : List En} {base : Array Value} {f : Nat → Bool} {a : Act} {W : World} {K : Act → World → Prop} {Q : Exit → Act → World → Prop} {ops : Array Oper} (E : bk9Env B w0 S1 S2 t v n ln lz sn A1 A2 A5 c1 c2 c5 l l5 base) (hI : (bk9Tb B w0 S1 S2 t v n ln lz sn A1 A2 A5 c1 c2 c5 l l5 base).Inv (BkH B w0 S1 S2 t v n ln sn A1 A2 A5 c1 c2 c5 l l5) f a W) (hf : f 8 = false) (h6 : f 6 = true) (h7 : f 7 = true) (hgd : (ops[6]?).bind (·.dst) = some 117) (pos : String) (hK : ∀ a' W', (bk9Tb B w0 S1 S2 t v n ln lz sn A1 A2 A5 c1 c2 c5 l l5 base).Inv (BkH B w0 S1 S2 t v n ln sn A1 A2 A5 c1 c2 c5 l l5) (hit f 8) a' W' → K a' W') : if Region.wanted { dst := some 119, op := Go.Op.call { callee := Go.Callee.value (Go.Operand.func 16), args := #[Go.Operand.tmp 118], argTypes := #[36] }, type := 43, pos := pos, after := #[{ on := 7, ground := Go.Ground.data }, { on := 6, ground := Go.Ground.chain }, { on := 6, ground := Go.Ground.guard }], guard := some (6, false) } (yielded ops a.tmps) = true then Oper.wp Tryd.prog { dst := some 119, op := Go.Op.call { callee := Go.Callee.value (Go.Operand.func 16), args := #[Go.Operand.tmp 118], argTypes := #[36] }, type := 43, pos := pos, after := #[{ on := 7, ground := Go.Ground.data }, { on := 6, ground := Go.Ground.chain }, { on := 6, ground := Go.Ground.guard }], guard := some (6, false) } a W K Q else K (a.put (some 119) undef) W := by
  have hy : yielded ops a.tmps 6 = some false := yielded_of hgd (by rw [hI.size]; show 117 < 176; decide) (hI.val 6 117 _ rfl rfl h6)
  have hw : Region.wanted { dst := some 119, op := Go.Op.call { callee := Go.Callee.value (Go.Operand.func 16), args := #[Go.Operand.tmp 118], argTypes := #[36] }, type := 43, pos := pos, after := #[{ on := 7, ground := Go.Ground.data }, { on := 6, ground := Go.Ground.chain }, { on := 6, ground := Go.Ground.guard }], guard := some (6, false) } (yielded ops a.tmps) = true := by
    show (yielded ops a.tmps 6 == some false) = true
    rw [hy]
    rfl
  rw [if_pos hw]
  clear hw hy
  have y0 : a.tmps[118]?.getD undef = .agg #[.int .i64 (t : Int), .int .i64 (v : Int), .int .i64 (n : Int), .int .i64 (t : Int), .string sn, .slice A1 ln c1] := hI.val 7 118 _ rfl rfl h7
  have hC := E.ta W hI.held
  have HR := Lib.hid (fun u W1 (hu : (ToldR t v n ln sn l) u W1) (hb : Below W.heap.size W W1) => hI.slot (i := 8) (d := 119) (W' := W1) u rfl bk9_nodup (show 119 < 176 by decide) (.inr rfl) (fun R c h => by cases h; exact hu) (bk9_keep hb) (hI.held.below hb))
  clear hI E hf
  go_simp
  refine hC.mono ?_
  rintro e W1 ⟨A9, c9, rfl, hc9, hr9, hb⟩
  exact hK _ _ (HR.out _ W1 ⟨A9, c9, rfl, hc9, hr9⟩ hb)

set_option maxRecDepth 100000 in
theorem bk9_9 {B : Nat} {w0 : World} {S1 S2 t v n ln lz : Nat} {sn : ByteArray} {A1 A2 A5 : Option Addr} {c1 c2 c5 : Nat} {l l5 : List En} {base : Array Value} {f : Nat → Bool} {a : Act} {W : World} {K : Act → World → Prop} {Q : Exit → Act → World → Prop} {ops : Array Oper} (E : bk9Env B w0 S1 S2 t v n ln lz sn A1 A2 A5 c1 c2 c5 l l5 base) (hI : (bk9Tb B w0 S1 S2 t v n ln lz sn A1 A2 A5 c1 c2 c5 l l5 base).Inv (BkH B w0 S1 S2 t v n ln sn A1 A2 A5 c1 c2 c5 l l5) f a W) (hf : f 9 = false) (h6 : f 6 = true) (hgd : (ops[6]?).bind (·.dst) = some 117) (pos : String) (hK : ∀ a' W', (bk9Tb B w0 S1 S2 t v n ln lz sn A1 A2 A5 c1 c2 c5 l l5 base).Inv (BkH B w0 S1 S2 t v n ln sn A1 A2 A5 c1 c2 c5 l l5) (hit f 9) a' W' → K a' W') : if Region.wanted { dst := some 120, op := Go.Op.load 36 (Go.Operand.tmp 18), type := 36, pos := pos, after := #[{ on := 6, ground := Go.Ground.guard }], guard := some (6, false) } (yielded ops a.tmps) = true then Oper.wp Tryd.prog { dst := some 120, op := Go.Op.load 36 (Go.Operand.tmp 18), type := 36, pos := pos, after := #[{ on := 6, ground := Go.Ground.guard }], guard := some (6, false) } a W K Q else K (a.put (some 120) undef) W := by
  have hy : yielded ops a.tmps 6 = some false := yielded_of hgd (by rw [hI.size]; show 117 < 176; decide) (hI.val 6 117 _ rfl rfl h6)
  have hw : Region.wanted { dst := some 120, op := Go.Op.load 36 (Go.Operand.tmp 18), type := 36, pos := pos, after := #[{ on := 6, ground := Go.Ground.guard }], guard := some (6, false) } (yielded ops a.tmps) = true := by
    show (yielded ops a.tmps 6 == some false) = true
    rw [hy]
    rfl
  rw [if_pos hw]
  clear hw hy
  have q : a.tmps[18]?.getD undef = .pointer (some ⟨S2, 0, none⟩) := (hI.base 18 rfl).trans E.b18
  have x0 : W.cell? ⟨S2, 0, none⟩ = some (.int .i64 (t : Int)) := hI.held.s2.cell 0
  have x1 : W.cell? ⟨S2, 1, none⟩ = some (.int .i64 (v : Int)) := hI.held.s2.cell 1
  have x2 : W.cell? ⟨S2, 2, none⟩ = some (.int .i64 (n : Int)) := hI.held.s2.cell 2
  have x3 : W.cell? ⟨S2, 3, none⟩ = some (.int .i64 (t : Int)) := hI.held.s2.cell 3
  have x4 : W.cell? ⟨S2, 4, none⟩ = some (.string sn) := hI.held.s2.cell 4
  have x5 : W.cell? ⟨S2, 5, none⟩ = some (.slice A2 ln c2) := hI.held.s2.cell 5
  have R := Lib.hid (hI.step (i := 9) (d := 120) (v := .agg #[.int .i64 (t : Int), .int .i64 (v : Int), .int .i64 (n : Int), .int .i64 (t : Int), .string sn, .slice A2 ln c2]) rfl bk9_nodup (show 120 < 176 by decide) rfl rfl (fun _ _ _ _ _ h => h) hI.held)
  clear hI E hf
  go_simp
  exact hK _ _ R.out

set_option maxRecDepth 100000 in
theorem bk9_10 {B : Nat} {w0 : World} {S1 S2 t v n ln lz : Nat} {sn : ByteArray} {A1 A2 A5 : Option Addr} {c1 c2 c5 : Nat} {l l5 : List En} {base : Array Value} {f : Nat → Bool} {a : Act} {W : World} {K : Act → World → Prop} {Q : Exit → Act → World → Prop} {ops : Array Oper} (E : bk9Env B w0 S1 S2 t v n ln lz sn A1 A2 A5 c1 c2 c5 l l5 base) (hI : (bk9Tb B w0 S1 S2 t v n ln lz sn A1 A2 A5 c1 c2 c5 l l5 base).Inv (BkH B w0 S1 S2 t v n ln sn A1 A2 A5 c1 c2 c5 l l5) f a W) (hf : f 10 = false) (h6 : f 6 = true) (h8 : f 8 = true) (h9 : f 9 = true) (hgd : (ops[6]?).bind (·.dst) = some 117) (pos : String) (hK : ∀ a' W', (bk9Tb B w0 S1 S2 t v n ln lz sn A1 A2 A5 c1 c2 c5 l l5 base).Inv (BkH B w0 S1 S2 t v n ln sn A1 A2 A5 c1 c2 c5 l l5) (hit f 10) a' W' → K a' W') : if Region.wanted { dst := some 121, op := Go.Op.call { callee := Go.Callee.value (Go.Operand.func 16), args := #[Go.Operand.tmp 120], argTypes := #[36] }, type := 43, pos := pos, after := #[{ on := 9, ground := Go.Ground.data }, { on := 8, ground := Go.Ground.chain }, { on := 6, ground := Go.Ground.guard }], guard := some (6, false) } (yielded ops a.tmps) = true then Oper.wp Tryd.prog { dst := some 121, op := Go.Op.call { callee := Go.Callee.value (Go.Operand.func 16), args := #[Go.Operand.tmp 120], argTypes := #[36] }, type := 43, pos := pos, after := #[{ on := 9, ground := Go.Ground.data }, { on := 8, ground := Go.Ground.chain }, { on := 6, ground := Go.Ground.guard }], guard := some (6, false) } a W K Q else K (a.put (some 121) undef) W := by
  have hy : yielded ops a.tmps 6 = some false := yielded_of hgd (by rw [hI.size]; show 117 < 176; decide) (hI.val 6 117 _ rfl rfl h6)
  have hw : Region.wanted { dst := some 121, op := Go.Op.call { callee := Go.Callee.value (Go.Operand.func 16), args := #[Go.Operand.tmp 120], argTypes := #[36] }, type := 43, pos := pos, after := #[{ on := 9, ground := Go.Ground.data }, { on := 8, ground := Go.Ground.chain }, { on := 6, ground := Go.Ground.guard }], guard := some (6, false) } (yielded ops a.tmps) = true := by
    show (yielded ops a.tmps 6 == some false) = true
    rw [hy]
    rfl
  rw [if_pos hw]
  clear hw hy
  have y0 : a.tmps[120]?.getD undef = .agg #[.int .i64 (t : Int), .int .i64 (v : Int), .int .i64 (n : Int), .int .i64 (t : Int), .string sn, .slice A2 ln c2] := hI.val 9 120 _ rfl rfl h9
  have hC := E.tb W hI.held
  have HR := Lib.hid (fun u W1 (hu : (ToldR t v n ln sn l) u W1) (hb : Below W.heap.size W W1) => hI.slot (i := 10) (d := 121) (W' := W1) u rfl bk9_nodup (show 121 < 176 by decide) (.inr rfl) (fun R c h => by cases h; exact hu) (bk9_keep hb) (hI.held.below hb))
  clear hI E hf
  go_simp
  refine hC.mono ?_
  rintro e W1 ⟨A9, c9, rfl, hc9, hr9, hb⟩
  exact hK _ _ (HR.out _ W1 ⟨A9, c9, rfl, hc9, hr9⟩ hb)

set_option maxRecDepth 100000 in
theorem bk9_11 {B : Nat} {w0 : World} {S1 S2 t v n ln lz : Nat} {sn : ByteArray} {A1 A2 A5 : Option Addr} {c1 c2 c5 : Nat} {l l5 : List En} {base : Array Value} {f : Nat → Bool} {a : Act} {W : World} {K : Act → World → Prop} {Q : Exit → Act → World → Prop} {ops : Array Oper} (E : bk9Env B w0 S1 S2 t v n ln lz sn A1 A2 A5 c1 c2 c5 l l5 base) (hI : (bk9Tb B w0 S1 S2 t v n ln lz sn A1 A2 A5 c1 c2 c5 l l5 base).Inv (BkH B w0 S1 S2 t v n ln sn A1 A2 A5 c1 c2 c5 l l5) f a W) (hf : f 11 = false) (h6 : f 6 = true) (h8 : f 8 = true) (h10 : f 10 = true) (hgd : (ops[6]?).bind (·.dst) = some 117) (pos : String) (hK : ∀ a' W', (bk9Tb B w0 S1 S2 t v n ln lz sn A1 A2 A5 c1 c2 c5 l l5 base).Inv (BkH B w0 S1 S2 t v n ln sn A1 A2 A5 c1 c2 c5 l l5) (hit f 11) a' W' → K a' W') : if Region.wanted { dst := some 122, op := Go.Op.call { callee := Go.Callee.value (Go.Operand.func 15), args := #[Go.Operand.tmp 119, Go.Operand.tmp 121], argTypes := #[43, 43] }, type := 4, pos := pos, after := #[{ on := 8, ground := Go.Ground.data }, { on := 10, ground := Go.Ground.data }, { on := 10, ground := Go.Ground.chain }, { on := 6, ground := Go.Ground.guard }], guard := some (6, false) } (yielded ops a.tmps) = true then Oper.wp Tryd.prog { dst := some 122, op := Go.Op.call { callee := Go.Callee.value (Go.Operand.func 15), args := #[Go.Operand.tmp 119, Go.Operand.tmp 121], argTypes := #[43, 43] }, type := 4, pos := pos, after := #[{ on := 8, ground := Go.Ground.data }, { on := 10, ground := Go.Ground.data }, { on := 10, ground := Go.Ground.chain }, { on := 6, ground := Go.Ground.guard }], guard := some (6, false) } a W K Q else K (a.put (some 122) undef) W := by
  have hy : yielded ops a.tmps 6 = some false := yielded_of hgd (by rw [hI.size]; show 117 < 176; decide) (hI.val 6 117 _ rfl rfl h6)
  have hw : Region.wanted { dst := some 122, op := Go.Op.call { callee := Go.Callee.value (Go.Operand.func 15), args := #[Go.Operand.tmp 119, Go.Operand.tmp 121], argTypes := #[43, 43] }, type := 4, pos := pos, after := #[{ on := 8, ground := Go.Ground.data }, { on := 10, ground := Go.Ground.data }, { on := 10, ground := Go.Ground.chain }, { on := 6, ground := Go.Ground.guard }], guard := some (6, false) } (yielded ops a.tmps) = true := by
    show (yielded ops a.tmps 6 == some false) = true
    rw [hy]
    rfl
  rw [if_pos hw]
  clear hw hy
  obtain ⟨A8, c8, y0, hc8, hr8⟩ := hI.rels 8 119 _ _ rfl rfl h8 hf
  obtain ⟨A10, c10, y1, hc10, hr10⟩ := hI.rels 10 121 _ _ rfl rfl h10 hf
  have hC := E.sm W A8 c8 hc8 hr8 A10 c10 hc10 hr10 hI.held
  have HR := Lib.hid (fun W1 (hb : Below W.heap.size W W1) => hI.step (i := 11) (d := 122) (v := .bool true) (W' := W1) rfl bk9_nodup (show 122 < 176 by decide) rfl rfl (bk9_keep hb) (hI.held.below hb))
  clear hI E hf
  go_simp
  refine hC.mono ?_
  rintro e W1 ⟨rfl, hb⟩
  exact hK _ _ (HR.out W1 hb)

set_option maxRecDepth 100000 in
theorem bk9_12 {B : Nat} {w0 : World} {S1 S2 t v n ln lz : Nat} {sn : ByteArray} {A1 A2 A5 : Option Addr} {c1 c2 c5 : Nat} {l l5 : List En} {base : Array Value} {f : Nat → Bool} {a : Act} {W : World} {K : Act → World → Prop} {Q : Exit → Act → World → Prop} {ops : Array Oper} (E : bk9Env B w0 S1 S2 t v n ln lz sn A1 A2 A5 c1 c2 c5 l l5 base) (hI : (bk9Tb B w0 S1 S2 t v n ln lz sn A1 A2 A5 c1 c2 c5 l l5 base).Inv (BkH B w0 S1 S2 t v n ln sn A1 A2 A5 c1 c2 c5 l l5) f a W) (hf : f 12 = false) (h6 : f 6 = true) (h11 : f 11 = true) (hgd : (ops[6]?).bind (·.dst) = some 117) (pos : String) (hK : ∀ a' W', (bk9Tb B w0 S1 S2 t v n ln lz sn A1 A2 A5 c1 c2 c5 l l5 base).Inv (BkH B w0 S1 S2 t v n ln sn A1 A2 A5 c1 c2 c5 l l5) (hit f 12) a' W' → K a' W') : if Region.wanted { dst := some 123, op := Go.Op.unOp Go.UnOp.not 4 (Go.Operand.tmp 122), type := 4, pos := pos, after := #[{ on := 11, ground := Go.Ground.data }, { on := 6, ground := Go.Ground.guard }], guard := some (6, false) } (yielded ops a.tmps) = true then Oper.wp Tryd.prog { dst := some 123, op := Go.Op.unOp Go.UnOp.not 4 (Go.Operand.tmp 122), type := 4, pos := pos, after := #[{ on := 11, ground := Go.Ground.data }, { on := 6, ground := Go.Ground.guard }], guard := some (6, false) } a W K Q else K (a.put (some 123) undef) W := by
  have hy : yielded ops a.tmps 6 = some false := yielded_of hgd (by rw [hI.size]; show 117 < 176; decide) (hI.val 6 117 _ rfl rfl h6)
  have hw : Region.wanted { dst := some 123, op := Go.Op.unOp Go.UnOp.not 4 (Go.Operand.tmp 122), type := 4, pos := pos, after := #[{ on := 11, ground := Go.Ground.data }, { on := 6, ground := Go.Ground.guard }], guard := some (6, false) } (yielded ops a.tmps) = true := by
    show (yielded ops a.tmps 6 == some false) = true
    rw [hy]
    rfl
  rw [if_pos hw]
  clear hw hy
  have y0 : a.tmps[122]?.getD undef = .bool true := hI.val 11 122 _ rfl rfl h11
  have R := Lib.hid (hI.step (i := 12) (d := 123) (v := .bool false) rfl bk9_nodup (show 123 < 176 by decide) rfl rfl (fun _ _ _ _ _ h => h) hI.held)
  clear hI E hf
  go_simp
  exact hK _ _ R.out

set_option maxRecDepth 100000 in
theorem bk9_13 {B : Nat} {w0 : World} {S1 S2 t v n ln lz : Nat} {sn : ByteArray} {A1 A2 A5 : Option Addr} {c1 c2 c5 : Nat} {l l5 : List En} {base : Array Value} {f : Nat → Bool} {a : Act} {W : World} {K : Act → World → Prop} {Q : Exit → Act → World → Prop} {ops : Array Oper} (E : bk9Env B w0 S1 S2 t v n ln lz sn A1 A2 A5 c1 c2 c5 l l5 base) (hI : (bk9Tb B w0 S1 S2 t v n ln lz sn A1 A2 A5 c1 c2 c5 l l5 base).Inv (BkH B w0 S1 S2 t v n ln sn A1 A2 A5 c1 c2 c5 l l5) f a W) (hf : f 13 = false) (h6 : f 6 = true) (h12 : f 12 = true) (pos : String) (hK : ∀ a' W', (bk9Tb B w0 S1 S2 t v n ln lz sn A1 A2 A5 c1 c2 c5 l l5 base).Inv (BkH B w0 S1 S2 t v n ln sn A1 A2 A5 c1 c2 c5 l l5) (hit f 13) a' W' → K a' W') : if Region.wanted { dst := some 124, op := Go.Op.pick (Go.Operand.tmp 117) (Go.Operand.const (Go.Value.bool true)) (Go.Operand.tmp 123), type := 4, pos := pos, after := #[{ on := 6, ground := Go.Ground.data }, { on := 12, ground := Go.Ground.data }], guard := none } (yielded ops a.tmps) = true then Oper.wp Tryd.prog { dst := some 124, op := Go.Op.pick (Go.Operand.tmp 117) (Go.Operand.const (Go.Value.bool true)) (Go.Operand.tmp 123), type := 4, pos := pos, after := #[{ on := 6, ground := Go.Ground.data }, { on := 12, ground := Go.Ground.data }], guard := none } a W K Q else K (a.put (some 124) undef) W := by
  have y0 : a.tmps[117]?.getD undef = .bool false := hI.val 6 117 _ rfl rfl h6
  have y2 : a.tmps[123]?.getD undef = .bool false := hI.val 12 123 _ rfl rfl h12
  have R := Lib.hid (hI.step (i := 13) (d := 124) (v := .bool false) rfl bk9_nodup (show 124 < 176 by decide) rfl rfl (fun _ _ _ _ _ h => h) hI.held)
  clear hI E hf
  go_simp
  exact hK _ _ R.out

set_option maxRecDepth 100000 in
theorem bk9_14 {B : Nat} {w0 : World} {S1 S2 t v n ln lz : Nat} {sn : ByteArray} {A1 A2 A5 : Option Addr} {c1 c2 c5 : Nat} {l l5 : List En} {base : Array Value} {f : Nat → Bool} {a : Act} {W : World} {K : Act → World → Prop} {Q : Exit → Act → World → Prop} {ops : Array Oper} (E : bk9Env B w0 S1 S2 t v n ln lz sn A1 A2 A5 c1 c2 c5 l l5 base) (hI : (bk9Tb B w0 S1 S2 t v n ln lz sn A1 A2 A5 c1 c2 c5 l l5 base).Inv (BkH B w0 S1 S2 t v n ln sn A1 A2 A5 c1 c2 c5 l l5) f a W) (hf : f 14 = false) (h11 : f 11 = true) (h13 : f 13 = true) (pos : String) (hK : ∀ a' W', (bk9Tb B w0 S1 S2 t v n ln lz sn A1 A2 A5 c1 c2 c5 l l5 base).Inv (BkH B w0 S1 S2 t v n ln sn A1 A2 A5 c1 c2 c5 l l5) (hit f 14) a' W' → K a' W') : if Region.wanted { dst := some 125, op := Go.Op.move (Go.Operand.tmp 124), type := 4, pos := pos, after := #[{ on := 13, ground := Go.Ground.data }, { on := 11, ground := Go.Ground.chain }], guard := none } (yielded ops a.tmps) = true then Oper.wp Tryd.prog { dst := some 125, op := Go.Op.move (Go.Operand.tmp 124), type := 4, pos := pos, after := #[{ on := 13, ground := Go.Ground.data }, { on := 11, ground := Go.Ground.chain }], guard := none } a W K Q else K (a.put (some 125) undef) W := by
  have q : a.tmps[124]?.getD undef = .bool false := hI.val 13 124 _ rfl rfl h13
  have R := Lib.hid (hI.step (i := 14) (d := 125) (v := .bool false) rfl bk9_nodup (show 125 < 176 by decide) rfl rfl (fun _ _ _ _ _ h => h) hI.held)
  clear hI E hf
  go_simp
  exact hK _ _ R.out

set_option maxRecDepth 100000 in
theorem bk9_15 {B : Nat} {w0 : World} {S1 S2 t v n ln lz : Nat} {sn : ByteArray} {A1 A2 A5 : Option Addr} {c1 c2 c5 : Nat} {l l5 : List En} {base : Array Value} {f : Nat → Bool} {a : Act} {W : World} {K : Act → World → Prop} {Q : Exit → Act → World → Prop} {ops : Array Oper} (E : bk9Env B w0 S1 S2 t v n ln lz sn A1 A2 A5 c1 c2 c5 l l5 base) (hI : (bk9Tb B w0 S1 S2 t v n ln lz sn A1 A2 A5 c1 c2 c5 l l5 base).Inv (BkH B w0 S1 S2 t v n ln sn A1 A2 A5 c1 c2 c5 l l5) f a W) (hf : f 15 = false) (h14 : f 14 = true) (hgd : (ops[14]?).bind (·.dst) = some 125) (pos : String) (hK : ∀ a' W', (bk9Tb B w0 S1 S2 t v n ln lz sn A1 A2 A5 c1 c2 c5 l l5 base).Inv (BkH B w0 S1 S2 t v n ln sn A1 A2 A5 c1 c2 c5 l l5) (hit f 15) a' W' → K a' W') : if Region.wanted { dst := some 126, op := Go.Op.fieldAddr 36 (Go.Operand.tmp 16) 0, type := 0, pos := pos, after := #[{ on := 14, ground := Go.Ground.guard }], guard := some (14, false) } (yielded ops a.tmps) = true then Oper.wp Tryd.prog { dst := some 126, op := Go.Op.fieldAddr 36 (Go.Operand.tmp 16) 0, type := 0, pos := pos, after := #[{ on := 14, ground := Go.Ground.guard }], guard := some (14, false) } a W K Q else K (a.put (some 126) undef) W := by
  have hy : yielded ops a.tmps 14 = some false := yielded_of hgd (by rw [hI.size]; show 125 < 176; decide) (hI.val 14 125 _ rfl rfl h14)
  have hw : Region.wanted { dst := some 126, op := Go.Op.fieldAddr 36 (Go.Operand.tmp 16) 0, type := 0, pos := pos, after := #[{ on := 14, ground := Go.Ground.guard }], guard := some (14, false) } (yielded ops a.tmps) = true := by
    show (yielded ops a.tmps 14 == some false) = true
    rw [hy]
    rfl
  rw [if_pos hw]
  clear hw hy
  have q : a.tmps[16]?.getD undef = .pointer (some ⟨S1, 0, none⟩) := (hI.base 16 rfl).trans E.b16
  have R := Lib.hid (hI.step (i := 15) (d := 126) (v := .pointer (some ⟨S1, 0, none⟩)) rfl bk9_nodup (show 126 < 176 by decide) rfl rfl (fun _ _ _ _ _ h => h) hI.held)
  clear hI E hf
  go_simp
  exact hK _ _ R.out

set_option maxRecDepth 100000 in
theorem bk9_16 {B : Nat} {w0 : World} {S1 S2 t v n ln lz : Nat} {sn : ByteArray} {A1 A2 A5 : Option Addr} {c1 c2 c5 : Nat} {l l5 : List En} {base : Array Value} {f : Nat → Bool} {a : Act} {W : World} {K : Act → World → Prop} {Q : Exit → Act → World → Prop} {ops : Array Oper} (E : bk9Env B w0 S1 S2 t v n ln lz sn A1 A2 A5 c1 c2 c5 l l5 base) (hI : (bk9Tb B w0 S1 S2 t v n ln lz sn A1 A2 A5 c1 c2 c5 l l5 base).Inv (BkH B w0 S1 S2 t v n ln sn A1 A2 A5 c1 c2 c5 l l5) f a W) (hf : f 16 = false) (h14 : f 14 = true) (h15 : f 15 = true) (hgd : (ops[14]?).bind (·.dst) = some 125) (pos : String) (hK : ∀ a' W', (bk9Tb B w0 S1 S2 t v n ln lz sn A1 A2 A5 c1 c2 c5 l l5 base).Inv (BkH B w0 S1 S2 t v n ln sn A1 A2 A5 c1 c2 c5 l l5) (hit f 16) a' W' → K a' W') : if Region.wanted { dst := some 127, op := Go.Op.load 3 (Go.Operand.tmp 126), type := 3, pos := pos, after := #[{ on := 15, ground := Go.Ground.data }, { on := 14, ground := Go.Ground.guard }], guard := some (14, false) } (yielded ops a.tmps) = true then Oper.wp Tryd.prog { dst := some 127, op := Go.Op.load 3 (Go.Operand.tmp 126), type := 3, pos := pos, after := #[{ on := 15, ground := Go.Ground.data }, { on := 14, ground := Go.Ground.guard }], guard := some (14, false) } a W K Q else K (a.put (some 127) undef) W := by
  have hy : yielded ops a.tmps 14 = some false := yielded_of hgd (by rw [hI.size]; show 125 < 176; decide) (hI.val 14 125 _ rfl rfl h14)
  have hw : Region.wanted { dst := some 127, op := Go.Op.load 3 (Go.Operand.tmp 126), type := 3, pos := pos, after := #[{ on := 15, ground := Go.Ground.data }, { on := 14, ground := Go.Ground.guard }], guard := some (14, false) } (yielded ops a.tmps) = true := by
    show (yielded ops a.tmps 14 == some false) = true
    rw [hy]
    rfl
  rw [if_pos hw]
  clear hw hy
  have q : a.tmps[126]?.getD undef = .pointer (some ⟨S1, 0, none⟩) := hI.val 15 126 _ rfl rfl h15
  have c : W.cell? ⟨S1, 0, none⟩ = some (.int .i64 (t : Int)) := hI.held.s1.cell 0
  have R := Lib.hid (hI.step (i := 16) (d := 127) (v := .int .i64 (t : Int)) rfl bk9_nodup (show 127 < 176 by decide) rfl rfl (fun _ _ _ _ _ h => h) hI.held)
  clear hI E hf
  go_simp
  exact hK _ _ R.out

set_option maxRecDepth 100000 in
theorem bk9_17 {B : Nat} {w0 : World} {S1 S2 t v n ln lz : Nat} {sn : ByteArray} {A1 A2 A5 : Option Addr} {c1 c2 c5 : Nat} {l l5 : List En} {base : Array Value} {f : Nat → Bool} {a : Act} {W : World} {K : Act → World → Prop} {Q : Exit → Act → World → Prop} {ops : Array Oper} (E : bk9Env B w0 S1 S2 t v n ln lz sn A1 A2 A5 c1 c2 c5 l l5 base) (hI : (bk9Tb B w0 S1 S2 t v n ln lz sn A1 A2 A5 c1 c2 c5 l l5 base).Inv (BkH B w0 S1 S2 t v n ln sn A1 A2 A5 c1 c2 c5 l l5) f a W) (hf : f 17 = false) (h14 : f 14 = true) (hgd : (ops[14]?).bind (·.dst) = some 125) (pos : String) (hK : ∀ a' W', (bk9Tb B w0 S1 S2 t v n ln lz sn A1 A2 A5 c1 c2 c5 l l5 base).Inv (BkH B w0 S1 S2 t v n ln sn A1 A2 A5 c1 c2 c5 l l5) (hit f 17) a' W' → K a' W') : if Region.wanted { dst := some 128, op := Go.Op.move (Go.Operand.tmp 0), type := 3, pos := pos, after := #[{ on := 14, ground := Go.Ground.guard }], guard := some (14, false) } (yielded ops a.tmps) = true then Oper.wp Tryd.prog { dst := some 128, op := Go.Op.move (Go.Operand.tmp 0), type := 3, pos := pos, after := #[{ on := 14, ground := Go.Ground.guard }], guard := some (14, false) } a W K Q else K (a.put (some 128) undef) W := by
  have hy : yielded ops a.tmps 14 = some false := yielded_of hgd (by rw [hI.size]; show 125 < 176; decide) (hI.val 14 125 _ rfl rfl h14)
  have hw : Region.wanted { dst := some 128, op := Go.Op.move (Go.Operand.tmp 0), type := 3, pos := pos, after := #[{ on := 14, ground := Go.Ground.guard }], guard := some (14, false) } (yielded ops a.tmps) = true := by
    show (yielded ops a.tmps 14 == some false) = true
    rw [hy]
    rfl
  rw [if_pos hw]
  clear hw hy
  have q : a.tmps[0]?.getD undef = .int .i64 (t : Int) := (hI.base 0 rfl).trans E.b0
  have R := Lib.hid (hI.step (i := 17) (d := 128) (v := .int .i64 (t : Int)) rfl bk9_nodup (show 128 < 176 by decide) rfl rfl (fun _ _ _ _ _ h => h) hI.held)
  clear hI E hf
  go_simp
  exact hK _ _ R.out

set_option maxRecDepth 100000 in
theorem bk9_18 {B : Nat} {w0 : World} {S1 S2 t v n ln lz : Nat} {sn : ByteArray} {A1 A2 A5 : Option Addr} {c1 c2 c5 : Nat} {l l5 : List En} {base : Array Value} {f : Nat → Bool} {a : Act} {W : World} {K : Act → World → Prop} {Q : Exit → Act → World → Prop} {ops : Array Oper} (E : bk9Env B w0 S1 S2 t v n ln lz sn A1 A2 A5 c1 c2 c5 l l5 base) (hI : (bk9Tb B w0 S1 S2 t v n ln lz sn A1 A2 A5 c1 c2 c5 l l5 base).Inv (BkH B w0 S1 S2 t v n ln sn A1 A2 A5 c1 c2 c5 l l5) f a W) (hf : f 18 = false) (h14 : f 14 = true) (h16 : f 16 = true) (h17 : f 17 = true) (hgd : (ops[14]?).bind (·.dst) = some 125) (pos : String) (hK : ∀ a' W', (bk9Tb B w0 S1 S2 t v n ln lz sn A1 A2 A5 c1 c2 c5 l l5 base).Inv (BkH B w0 S1 S2 t v n ln sn A1 A2 A5 c1 c2 c5 l l5) (hit f 18) a' W' → K a' W') : if Region.wanted { dst := some 129, op := Go.Op.binOp Go.BinOp.neq 3 (Go.Operand.tmp 127) (Go.Operand.tmp 128) 3, type := 4, pos := pos, after := #[{ on := 16, ground := Go.Ground.data }, { on := 17, ground := Go.Ground.data }, { on := 14, ground := Go.Ground.guard }], guard := some (14, false) } (yielded ops a.tmps) = true then Oper.wp Tryd.prog { dst := some 129, op := Go.Op.binOp Go.BinOp.neq 3 (Go.Operand.tmp 127) (Go.Operand.tmp 128) 3, type := 4, pos := pos, after := #[{ on := 16, ground := Go.Ground.data }, { on := 17, ground := Go.Ground.data }, { on := 14, ground := Go.Ground.guard }], guard := some (14, false) } a W K Q else K (a.put (some 129) undef) W := by
  have hy : yielded ops a.tmps 14 = some false := yielded_of hgd (by rw [hI.size]; show 125 < 176; decide) (hI.val 14 125 _ rfl rfl h14)
  have hw : Region.wanted { dst := some 129, op := Go.Op.binOp Go.BinOp.neq 3 (Go.Operand.tmp 127) (Go.Operand.tmp 128) 3, type := 4, pos := pos, after := #[{ on := 16, ground := Go.Ground.data }, { on := 17, ground := Go.Ground.data }, { on := 14, ground := Go.Ground.guard }], guard := some (14, false) } (yielded ops a.tmps) = true := by
    show (yielded ops a.tmps 14 == some false) = true
    rw [hy]
    rfl
  rw [if_pos hw]
  clear hw hy
  have y0 : a.tmps[127]?.getD undef = .int .i64 (t : Int) := hI.val 16 127 _ rfl rfl h16
  have y1 : a.tmps[128]?.getD undef = .int .i64 (t : Int) := hI.val 17 128 _ rfl rfl h17
  have hz : ((t : Int) != (t : Int)) = false := by simp
  have R := Lib.hid (hI.step (i := 18) (d := 129) (v := .bool false) rfl bk9_nodup (show 129 < 176 by decide) rfl rfl (fun _ _ _ _ _ h => h) hI.held)
  clear hI E hf
  go_simp
  exact hK _ _ R.out

set_option maxRecDepth 100000 in
theorem bk9_19 {B : Nat} {w0 : World} {S1 S2 t v n ln lz : Nat} {sn : ByteArray} {A1 A2 A5 : Option Addr} {c1 c2 c5 : Nat} {l l5 : List En} {base : Array Value} {f : Nat → Bool} {a : Act} {W : World} {K : Act → World → Prop} {Q : Exit → Act → World → Prop} {ops : Array Oper} (E : bk9Env B w0 S1 S2 t v n ln lz sn A1 A2 A5 c1 c2 c5 l l5 base) (hI : (bk9Tb B w0 S1 S2 t v n ln lz sn A1 A2 A5 c1 c2 c5 l l5 base).Inv (BkH B w0 S1 S2 t v n ln sn A1 A2 A5 c1 c2 c5 l l5) f a W) (hf : f 19 = false) (h14 : f 14 = true) (h18 : f 18 = true) (pos : String) (hK : ∀ a' W', (bk9Tb B w0 S1 S2 t v n ln lz sn A1 A2 A5 c1 c2 c5 l l5 base).Inv (BkH B w0 S1 S2 t v n ln sn A1 A2 A5 c1 c2 c5 l l5) (hit f 19) a' W' → K a' W') : if Region.wanted { dst := some 130, op := Go.Op.pick (Go.Operand.tmp 125) (Go.Operand.const (Go.Value.bool true)) (Go.Operand.tmp 129), type := 4, pos := pos, after := #[{ on := 14, ground := Go.Ground.data }, { on := 18, ground := Go.Ground.data }], guard := none } (yielded ops a.tmps) = true then Oper.wp Tryd.prog { dst := some 130, op := Go.Op.pick (Go.Operand.tmp 125) (Go.Operand.const (Go.Value.bool true)) (Go.Operand.tmp 129), type := 4, pos := pos, after := #[{ on := 14, ground := Go.Ground.data }, { on := 18, ground := Go.Ground.data }], guard := none } a W K Q else K (a.put (some 130) undef) W := by
  have y0 : a.tmps[125]?.getD undef = .bool false := hI.val 14 125 _ rfl rfl h14
  have y2 : a.tmps[129]?.getD undef = .bool false := hI.val 18 129 _ rfl rfl h18
  have R := Lib.hid (hI.step (i := 19) (d := 130) (v := .bool false) rfl bk9_nodup (show 130 < 176 by decide) rfl rfl (fun _ _ _ _ _ h => h) hI.held)
  clear hI E hf
  go_simp
  exact hK _ _ R.out

set_option maxRecDepth 100000 in
theorem bk9_20 {B : Nat} {w0 : World} {S1 S2 t v n ln lz : Nat} {sn : ByteArray} {A1 A2 A5 : Option Addr} {c1 c2 c5 : Nat} {l l5 : List En} {base : Array Value} {f : Nat → Bool} {a : Act} {W : World} {K : Act → World → Prop} {Q : Exit → Act → World → Prop} {ops : Array Oper} (E : bk9Env B w0 S1 S2 t v n ln lz sn A1 A2 A5 c1 c2 c5 l l5 base) (hI : (bk9Tb B w0 S1 S2 t v n ln lz sn A1 A2 A5 c1 c2 c5 l l5 base).Inv (BkH B w0 S1 S2 t v n ln sn A1 A2 A5 c1 c2 c5 l l5) f a W) (hf : f 20 = false) (h14 : f 14 = true) (h19 : f 19 = true) (pos : String) (hK : ∀ a' W', (bk9Tb B w0 S1 S2 t v n ln lz sn A1 A2 A5 c1 c2 c5 l l5 base).Inv (BkH B w0 S1 S2 t v n ln sn A1 A2 A5 c1 c2 c5 l l5) (hit f 20) a' W' → K a' W') : if Region.wanted { dst := some 131, op := Go.Op.move (Go.Operand.tmp 130), type := 4, pos := pos, after := #[{ on := 19, ground := Go.Ground.data }, { on := 14, ground := Go.Ground.chain }], guard := none } (yielded ops a.tmps) = true then Oper.wp Tryd.prog { dst := some 131, op := Go.Op.move (Go.Operand.tmp 130), type := 4, pos := pos, after := #[{ on := 19, ground := Go.Ground.data }, { on := 14, ground := Go.Ground.chain }], guard := none } a W K Q else K (a.put (some 131) undef) W := by
  have q : a.tmps[130]?.getD undef = .bool false := hI.val 19 130 _ rfl rfl h19
  have R := Lib.hid (hI.step (i := 20) (d := 131) (v := .bool false) rfl bk9_nodup (show 131 < 176 by decide) rfl rfl (fun _ _ _ _ _ h => h) hI.held)
  clear hI E hf
  go_simp
  exact hK _ _ R.out

set_option maxRecDepth 100000 in
theorem bk9_21 {B : Nat} {w0 : World} {S1 S2 t v n ln lz : Nat} {sn : ByteArray} {A1 A2 A5 : Option Addr} {c1 c2 c5 : Nat} {l l5 : List En} {base : Array Value} {f : Nat → Bool} {a : Act} {W : World} {K : Act → World → Prop} {Q : Exit → Act → World → Prop} {ops : Array Oper} (E : bk9Env B w0 S1 S2 t v n ln lz sn A1 A2 A5 c1 c2 c5 l l5 base) (hI : (bk9Tb B w0 S1 S2 t v n ln lz sn A1 A2 A5 c1 c2 c5 l l5 base).Inv (BkH B w0 S1 S2 t v n ln sn A1 A2 A5 c1 c2 c5 l l5) f a W) (hf : f 21 = false) (h20 : f 20 = true) (hgd : (ops[20]?).bind (·.dst) = some 131) (pos : String) (hK : ∀ a' W', (bk9Tb B w0 S1 S2 t v n ln lz sn A1 A2 A5 c1 c2 c5 l l5 base).Inv (BkH B w0 S1 S2 t v n ln sn A1 A2 A5 c1 c2 c5 l l5) (hit f 21) a' W' → K a' W') : if Region.wanted { dst := some 132, op := Go.Op.fieldAddr 36 (Go.Operand.tmp 16) 1, type := 0, pos := pos, after := #[{ on := 20, ground := Go.Ground.guard }], guard := some (20, false) } (yielded ops a.tmps) = true then Oper.wp Tryd.prog { dst := some 132, op := Go.Op.fieldAddr 36 (Go.Operand.tmp 16) 1, type := 0, pos := pos, after := #[{ on := 20, ground := Go.Ground.guard }], guard := some (20, false) } a W K Q else K (a.put (some 132) undef) W := by
  have hy : yielded ops a.tmps 20 = some false := yielded_of hgd (by rw [hI.size]; show 131 < 176; decide) (hI.val 20 131 _ rfl rfl h20)
  have hw : Region.wanted { dst := some 132, op := Go.Op.fieldAddr 36 (Go.Operand.tmp 16) 1, type := 0, pos := pos, after := #[{ on := 20, ground := Go.Ground.guard }], guard := some (20, false) } (yielded ops a.tmps) = true := by
    show (yielded ops a.tmps 20 == some false) = true
    rw [hy]
    rfl
  rw [if_pos hw]
  clear hw hy
  have q : a.tmps[16]?.getD undef = .pointer (some ⟨S1, 0, none⟩) := (hI.base 16 rfl).trans E.b16
  have R := Lib.hid (hI.step (i := 21) (d := 132) (v := .pointer (some ⟨S1, 1, none⟩)) rfl bk9_nodup (show 132 < 176 by decide) rfl rfl (fun _ _ _ _ _ h => h) hI.held)
  clear hI E hf
  go_simp
  exact hK _ _ R.out

set_option maxRecDepth 100000 in
theorem bk9_22 {B : Nat} {w0 : World} {S1 S2 t v n ln lz : Nat} {sn : ByteArray} {A1 A2 A5 : Option Addr} {c1 c2 c5 : Nat} {l l5 : List En} {base : Array Value} {f : Nat → Bool} {a : Act} {W : World} {K : Act → World → Prop} {Q : Exit → Act → World → Prop} {ops : Array Oper} (E : bk9Env B w0 S1 S2 t v n ln lz sn A1 A2 A5 c1 c2 c5 l l5 base) (hI : (bk9Tb B w0 S1 S2 t v n ln lz sn A1 A2 A5 c1 c2 c5 l l5 base).Inv (BkH B w0 S1 S2 t v n ln sn A1 A2 A5 c1 c2 c5 l l5) f a W) (hf : f 22 = false) (h20 : f 20 = true) (h21 : f 21 = true) (hgd : (ops[20]?).bind (·.dst) = some 131) (pos : String) (hK : ∀ a' W', (bk9Tb B w0 S1 S2 t v n ln lz sn A1 A2 A5 c1 c2 c5 l l5 base).Inv (BkH B w0 S1 S2 t v n ln sn A1 A2 A5 c1 c2 c5 l l5) (hit f 22) a' W' → K a' W') : if Region.wanted { dst := some 133, op := Go.Op.load 3 (Go.Operand.tmp 132), type := 3, pos := pos, after := #[{ on := 21, ground := Go.Ground.data }, { on := 20, ground := Go.Ground.guard }], guard := some (20, false) } (yielded ops a.tmps) = true then Oper.wp Tryd.prog { dst := some 133, op := Go.Op.load 3 (Go.Operand.tmp 132), type := 3, pos := pos, after := #[{ on := 21, ground := Go.Ground.data }, { on := 20, ground := Go.Ground.guard }], guard := some (20, false) } a W K Q else K (a.put (some 133) undef) W := by
  have hy : yielded ops a.tmps 20 = some false := yielded_of hgd (by rw [hI.size]; show 131 < 176; decide) (hI.val 20 131 _ rfl rfl h20)
  have hw : Region.wanted { dst := some 133, op := Go.Op.load 3 (Go.Operand.tmp 132), type := 3, pos := pos, after := #[{ on := 21, ground := Go.Ground.data }, { on := 20, ground := Go.Ground.guard }], guard := some (20, false) } (yielded ops a.tmps) = true := by
    show (yielded ops a.tmps 20 == some false) = true
    rw [hy]
    rfl
  rw [if_pos hw]
  clear hw hy
  have q : a.tmps[132]?.getD undef = .pointer (some ⟨S1, 1, none⟩) := hI.val 21 132 _ rfl rfl h21
  have c : W.cell? ⟨S1, 1, none⟩ = some (.int .i64 (v : Int)) := hI.held.s1.cell 1
  have R := Lib.hid (hI.step (i := 22) (d := 133) (v := .int .i64 (v : Int)) rfl bk9_nodup (show 133 < 176 by decide) rfl rfl (fun _ _ _ _ _ h => h) hI.held)
  clear hI E hf
  go_simp
  exact hK _ _ R.out

set_option maxRecDepth 100000 in
theorem bk9_23 {B : Nat} {w0 : World} {S1 S2 t v n ln lz : Nat} {sn : ByteArray} {A1 A2 A5 : Option Addr} {c1 c2 c5 : Nat} {l l5 : List En} {base : Array Value} {f : Nat → Bool} {a : Act} {W : World} {K : Act → World → Prop} {Q : Exit → Act → World → Prop} {ops : Array Oper} (E : bk9Env B w0 S1 S2 t v n ln lz sn A1 A2 A5 c1 c2 c5 l l5 base) (hI : (bk9Tb B w0 S1 S2 t v n ln lz sn A1 A2 A5 c1 c2 c5 l l5 base).Inv (BkH B w0 S1 S2 t v n ln sn A1 A2 A5 c1 c2 c5 l l5) f a W) (hf : f 23 = false) (h20 : f 20 = true) (hgd : (ops[20]?).bind (·.dst) = some 131) (pos : String) (hK : ∀ a' W', (bk9Tb B w0 S1 S2 t v n ln lz sn A1 A2 A5 c1 c2 c5 l l5 base).Inv (BkH B w0 S1 S2 t v n ln sn A1 A2 A5 c1 c2 c5 l l5) (hit f 23) a' W' → K a' W') : if Region.wanted { dst := some 134, op := Go.Op.move (Go.Operand.tmp 1), type := 3, pos := pos, after := #[{ on := 20, ground := Go.Ground.guard }], guard := some (20, false) } (yielded ops a.tmps) = true then Oper.wp Tryd.prog { dst := some 134, op := Go.Op.move (Go.Operand.tmp 1), type := 3, pos := pos, after := #[{ on := 20, ground := Go.Ground.guard }], guard := some (20, false) } a W K Q else K (a.put (some 134) undef) W := by
  have hy : yielded ops a.tmps 20 = some false := yielded_of hgd (by rw [hI.size]; show 131 < 176; decide) (hI.val 20 131 _ rfl rfl h20)
  have hw : Region.wanted { dst := some 134, op := Go.Op.move (Go.Operand.tmp 1), type := 3, pos := pos, after := #[{ on := 20, ground := Go.Ground.guard }], guard := some (20, false) } (yielded ops a.tmps) = true := by
    show (yielded ops a.tmps 20 == some false) = true
    rw [hy]
    rfl
  rw [if_pos hw]
  clear hw hy
  have q : a.tmps[1]?.getD undef = .int .i64 (v : Int) := (hI.base 1 rfl).trans E.b1
  have R := Lib.hid (hI.step (i := 23) (d := 134) (v := .int .i64 (v : Int)) rfl bk9_nodup (show 134 < 176 by decide) rfl rfl (fun _ _ _ _ _ h => h) hI.held)
  clear hI E hf
  go_simp
  exact hK _ _ R.out

set_option maxRecDepth 100000 in
theorem bk9_24 {B : Nat} {w0 : World} {S1 S2 t v n ln lz : Nat} {sn : ByteArray} {A1 A2 A5 : Option Addr} {c1 c2 c5 : Nat} {l l5 : List En} {base : Array Value} {f : Nat → Bool} {a : Act} {W : World} {K : Act → World → Prop} {Q : Exit → Act → World → Prop} {ops : Array Oper} (E : bk9Env B w0 S1 S2 t v n ln lz sn A1 A2 A5 c1 c2 c5 l l5 base) (hI : (bk9Tb B w0 S1 S2 t v n ln lz sn A1 A2 A5 c1 c2 c5 l l5 base).Inv (BkH B w0 S1 S2 t v n ln sn A1 A2 A5 c1 c2 c5 l l5) f a W) (hf : f 24 = false) (h20 : f 20 = true) (h22 : f 22 = true) (h23 : f 23 = true) (hgd : (ops[20]?).bind (·.dst) = some 131) (pos : String) (hK : ∀ a' W', (bk9Tb B w0 S1 S2 t v n ln lz sn A1 A2 A5 c1 c2 c5 l l5 base).Inv (BkH B w0 S1 S2 t v n ln sn A1 A2 A5 c1 c2 c5 l l5) (hit f 24) a' W' → K a' W') : if Region.wanted { dst := some 135, op := Go.Op.binOp Go.BinOp.neq 3 (Go.Operand.tmp 133) (Go.Operand.tmp 134) 3, type := 4, pos := pos, after := #[{ on := 22, ground := Go.Ground.data }, { on := 23, ground := Go.Ground.data }, { on := 20, ground := Go.Ground.guard }], guard := some (20, false) } (yielded ops a.tmps) = true then Oper.wp Tryd.prog { dst := some 135, op := Go.Op.binOp Go.BinOp.neq 3 (Go.Operand.tmp 133) (Go.Operand.tmp 134) 3, type := 4, pos := pos, after := #[{ on := 22, ground := Go.Ground.data }, { on := 23, ground := Go.Ground.data }, { on := 20, ground := Go.Ground.guard }], guard := some (20, false) } a W K Q else K (a.put (some 135) undef) W := by
  have hy : yielded ops a.tmps 20 = some false := yielded_of hgd (by rw [hI.size]; show 131 < 176; decide) (hI.val 20 131 _ rfl rfl h20)
  have hw : Region.wanted { dst := some 135, op := Go.Op.binOp Go.BinOp.neq 3 (Go.Operand.tmp 133) (Go.Operand.tmp 134) 3, type := 4, pos := pos, after := #[{ on := 22, ground := Go.Ground.data }, { on := 23, ground := Go.Ground.data }, { on := 20, ground := Go.Ground.guard }], guard := some (20, false) } (yielded ops a.tmps) = true := by
    show (yielded ops a.tmps 20 == some false) = true
    rw [hy]
    rfl
  rw [if_pos hw]
  clear hw hy
  have y0 : a.tmps[133]?.getD undef = .int .i64 (v : Int) := hI.val 22 133 _ rfl rfl h22
  have y1 : a.tmps[134]?.getD undef = .int .i64 (v : Int) := hI.val 23 134 _ rfl rfl h23
  have hz : ((v : Int) != (v : Int)) = false := by simp
  have R := Lib.hid (hI.step (i := 24) (d := 135) (v := .bool false) rfl bk9_nodup (show 135 < 176 by decide) rfl rfl (fun _ _ _ _ _ h => h) hI.held)
  clear hI E hf
  go_simp
  exact hK _ _ R.out

set_option maxRecDepth 100000 in
theorem bk9_25 {B : Nat} {w0 : World} {S1 S2 t v n ln lz : Nat} {sn : ByteArray} {A1 A2 A5 : Option Addr} {c1 c2 c5 : Nat} {l l5 : List En} {base : Array Value} {f : Nat → Bool} {a : Act} {W : World} {K : Act → World → Prop} {Q : Exit → Act → World → Prop} {ops : Array Oper} (E : bk9Env B w0 S1 S2 t v n ln lz sn A1 A2 A5 c1 c2 c5 l l5 base) (hI : (bk9Tb B w0 S1 S2 t v n ln lz sn A1 A2 A5 c1 c2 c5 l l5 base).Inv (BkH B w0 S1 S2 t v n ln sn A1 A2 A5 c1 c2 c5 l l5) f a W) (hf : f 25 = false) (h20 : f 20 = true) (h24 : f 24 = true) (pos : String) (hK : ∀ a' W', (bk9Tb B w0 S1 S2 t v n ln lz sn A1 A2 A5 c1 c2 c5 l l5 base).Inv (BkH B w0 S1 S2 t v n ln sn A1 A2 A5 c1 c2 c5 l l5) (hit f 25) a' W' → K a' W') : if Region.wanted { dst := some 136, op := Go.Op.pick (Go.Operand.tmp 131) (Go.Operand.const (Go.Value.bool true)) (Go.Operand.tmp 135), type := 4, pos := pos, after := #[{ on := 20, ground := Go.Ground.data }, { on := 24, ground := Go.Ground.data }], guard := none } (yielded ops a.tmps) = true then Oper.wp Tryd.prog { dst := some 136, op := Go.Op.pick (Go.Operand.tmp 131) (Go.Operand.const (Go.Value.bool true)) (Go.Operand.tmp 135), type := 4, pos := pos, after := #[{ on := 20, ground := Go.Ground.data }, { on := 24, ground := Go.Ground.data }], guard := none } a W K Q else K (a.put (some 136) undef) W := by
  have y0 : a.tmps[131]?.getD undef = .bool false := hI.val 20 131 _ rfl rfl h20
  have y2 : a.tmps[135]?.getD undef = .bool false := hI.val 24 135 _ rfl rfl h24
  have R := Lib.hid (hI.step (i := 25) (d := 136) (v := .bool false) rfl bk9_nodup (show 136 < 176 by decide) rfl rfl (fun _ _ _ _ _ h => h) hI.held)
  clear hI E hf
  go_simp
  exact hK _ _ R.out

set_option maxRecDepth 100000 in
theorem bk9_26 {B : Nat} {w0 : World} {S1 S2 t v n ln lz : Nat} {sn : ByteArray} {A1 A2 A5 : Option Addr} {c1 c2 c5 : Nat} {l l5 : List En} {base : Array Value} {f : Nat → Bool} {a : Act} {W : World} {K : Act → World → Prop} {Q : Exit → Act → World → Prop} {ops : Array Oper} (E : bk9Env B w0 S1 S2 t v n ln lz sn A1 A2 A5 c1 c2 c5 l l5 base) (hI : (bk9Tb B w0 S1 S2 t v n ln lz sn A1 A2 A5 c1 c2 c5 l l5 base).Inv (BkH B w0 S1 S2 t v n ln sn A1 A2 A5 c1 c2 c5 l l5) f a W) (hf : f 26 = false) (h20 : f 20 = true) (h25 : f 25 = true) (pos : String) (hK : ∀ a' W', (bk9Tb B w0 S1 S2 t v n ln lz sn A1 A2 A5 c1 c2 c5 l l5 base).Inv (BkH B w0 S1 S2 t v n ln sn A1 A2 A5 c1 c2 c5 l l5) (hit f 26) a' W' → K a' W') : if Region.wanted { dst := some 137, op := Go.Op.move (Go.Operand.tmp 136), type := 4, pos := pos, after := #[{ on := 25, ground := Go.Ground.data }, { on := 20, ground := Go.Ground.chain }], guard := none } (yielded ops a.tmps) = true then Oper.wp Tryd.prog { dst := some 137, op := Go.Op.move (Go.Operand.tmp 136), type := 4, pos := pos, after := #[{ on := 25, ground := Go.Ground.data }, { on := 20, ground := Go.Ground.chain }], guard := none } a W K Q else K (a.put (some 137) undef) W := by
  have q : a.tmps[136]?.getD undef = .bool false := hI.val 25 136 _ rfl rfl h25
  have R := Lib.hid (hI.step (i := 26) (d := 137) (v := .bool false) rfl bk9_nodup (show 137 < 176 by decide) rfl rfl (fun _ _ _ _ _ h => h) hI.held)
  clear hI E hf
  go_simp
  exact hK _ _ R.out

set_option maxRecDepth 100000 in
theorem bk9_27 {B : Nat} {w0 : World} {S1 S2 t v n ln lz : Nat} {sn : ByteArray} {A1 A2 A5 : Option Addr} {c1 c2 c5 : Nat} {l l5 : List En} {base : Array Value} {f : Nat → Bool} {a : Act} {W : World} {K : Act → World → Prop} {Q : Exit → Act → World → Prop} {ops : Array Oper} (E : bk9Env B w0 S1 S2 t v n ln lz sn A1 A2 A5 c1 c2 c5 l l5 base) (hI : (bk9Tb B w0 S1 S2 t v n ln lz sn A1 A2 A5 c1 c2 c5 l l5 base).Inv (BkH B w0 S1 S2 t v n ln sn A1 A2 A5 c1 c2 c5 l l5) f a W) (hf : f 27 = false) (h26 : f 26 = true) (hgd : (ops[26]?).bind (·.dst) = some 137) (pos : String) (hK : ∀ a' W', (bk9Tb B w0 S1 S2 t v n ln lz sn A1 A2 A5 c1 c2 c5 l l5 base).Inv (BkH B w0 S1 S2 t v n ln sn A1 A2 A5 c1 c2 c5 l l5) (hit f 27) a' W' → K a' W') : if Region.wanted { dst := some 138, op := Go.Op.fieldAddr 36 (Go.Operand.tmp 16) 2, type := 0, pos := pos, after := #[{ on := 26, ground := Go.Ground.guard }], guard := some (26, false) } (yielded ops a.tmps) = true then Oper.wp Tryd.prog { dst := some 138, op := Go.Op.fieldAddr 36 (Go.Operand.tmp 16) 2, type := 0, pos := pos, after := #[{ on := 26, ground := Go.Ground.guard }], guard := some (26, false) } a W K Q else K (a.put (some 138) undef) W := by
  have hy : yielded ops a.tmps 26 = some false := yielded_of hgd (by rw [hI.size]; show 137 < 176; decide) (hI.val 26 137 _ rfl rfl h26)
  have hw : Region.wanted { dst := some 138, op := Go.Op.fieldAddr 36 (Go.Operand.tmp 16) 2, type := 0, pos := pos, after := #[{ on := 26, ground := Go.Ground.guard }], guard := some (26, false) } (yielded ops a.tmps) = true := by
    show (yielded ops a.tmps 26 == some false) = true
    rw [hy]
    rfl
  rw [if_pos hw]
  clear hw hy
  have q : a.tmps[16]?.getD undef = .pointer (some ⟨S1, 0, none⟩) := (hI.base 16 rfl).trans E.b16
  have R := Lib.hid (hI.step (i := 27) (d := 138) (v := .pointer (some ⟨S1, 2, none⟩)) rfl bk9_nodup (show 138 < 176 by decide) rfl rfl (fun _ _ _ _ _ h => h) hI.held)
  clear hI E hf
  go_simp
  exact hK _ _ R.out

set_option maxRecDepth 100000 in
theorem bk9_28 {B : Nat} {w0 : World} {S1 S2 t v n ln lz : Nat} {sn : ByteArray} {A1 A2 A5 : Option Addr} {c1 c2 c5 : Nat} {l l5 : List En} {base : Array Value} {f : Nat → Bool} {a : Act} {W : World} {K : Act → World → Prop} {Q : Exit → Act → World → Prop} {ops : Array Oper} (E : bk9Env B w0 S1 S2 t v n ln lz sn A1 A2 A5 c1 c2 c5 l l5 base) (hI : (bk9Tb B w0 S1 S2 t v n ln lz sn A1 A2 A5 c1 c2 c5 l l5 base).Inv (BkH B w0 S1 S2 t v n ln sn A1 A2 A5 c1 c2 c5 l l5) f a W) (hf : f 28 = false) (h26 : f 26 = true) (h27 : f 27 = true) (hgd : (ops[26]?).bind (·.dst) = some 137) (pos : String) (hK : ∀ a' W', (bk9Tb B w0 S1 S2 t v n ln lz sn A1 A2 A5 c1 c2 c5 l l5 base).Inv (BkH B w0 S1 S2 t v n ln sn A1 A2 A5 c1 c2 c5 l l5) (hit f 28) a' W' → K a' W') : if Region.wanted { dst := some 139, op := Go.Op.load 3 (Go.Operand.tmp 138), type := 3, pos := pos, after := #[{ on := 27, ground := Go.Ground.data }, { on := 26, ground := Go.Ground.guard }], guard := some (26, false) } (yielded ops a.tmps) = true then Oper.wp Tryd.prog { dst := some 139, op := Go.Op.load 3 (Go.Operand.tmp 138), type := 3, pos := pos, after := #[{ on := 27, ground := Go.Ground.data }, { on := 26, ground := Go.Ground.guard }], guard := some (26, false) } a W K Q else K (a.put (some 139) undef) W := by
  have hy : yielded ops a.tmps 26 = some false := yielded_of hgd (by rw [hI.size]; show 137 < 176; decide) (hI.val 26 137 _ rfl rfl h26)
  have hw : Region.wanted { dst := some 139, op := Go.Op.load 3 (Go.Operand.tmp 138), type := 3, pos := pos, after := #[{ on := 27, ground := Go.Ground.data }, { on := 26, ground := Go.Ground.guard }], guard := some (26, false) } (yielded ops a.tmps) = true := by
    show (yielded ops a.tmps 26 == some false) = true
    rw [hy]
    rfl
  rw [if_pos hw]
  clear hw hy
  have q : a.tmps[138]?.getD undef = .pointer (some ⟨S1, 2, none⟩) := hI.val 27 138 _ rfl rfl h27
  have c : W.cell? ⟨S1, 2, none⟩ = some (.int .i64 (n : Int)) := hI.held.s1.cell 2
  have R := Lib.hid (hI.step (i := 28) (d := 139) (v := .int .i64 (n : Int)) rfl bk9_nodup (show 139 < 176 by decide) rfl rfl (fun _ _ _ _ _ h => h) hI.held)
  clear hI E hf
  go_simp
  exact hK _ _ R.out

set_option maxRecDepth 100000 in
theorem bk9_29 {B : Nat} {w0 : World} {S1 S2 t v n ln lz : Nat} {sn : ByteArray} {A1 A2 A5 : Option Addr} {c1 c2 c5 : Nat} {l l5 : List En} {base : Array Value} {f : Nat → Bool} {a : Act} {W : World} {K : Act → World → Prop} {Q : Exit → Act → World → Prop} {ops : Array Oper} (E : bk9Env B w0 S1 S2 t v n ln lz sn A1 A2 A5 c1 c2 c5 l l5 base) (hI : (bk9Tb B w0 S1 S2 t v n ln lz sn A1 A2 A5 c1 c2 c5 l l5 base).Inv (BkH B w0 S1 S2 t v n ln sn A1 A2 A5 c1 c2 c5 l l5) f a W) (hf : f 29 = false) (h26 : f 26 = true) (hgd : (ops[26]?).bind (·.dst) = some 137) (pos : String) (hK : ∀ a' W', (bk9Tb B w0 S1 S2 t v n ln lz sn A1 A2 A5 c1 c2 c5 l l5 base).Inv (BkH B w0 S1 S2 t v n ln sn A1 A2 A5 c1 c2 c5 l l5) (hit f 29) a' W' → K a' W') : if Region.wanted { dst := some 140, op := Go.Op.move (Go.Operand.tmp 4), type := 3, pos := pos, after := #[{ on := 26, ground := Go.Ground.guard }], guard := some (26, false) } (yielded ops a.tmps) = true then Oper.wp Tryd.prog { dst := some 140, op := Go.Op.move (Go.Operand.tmp 4), type := 3, pos := pos, after := #[{ on := 26, ground := Go.Ground.guard }], guard := some (26, false) } a W K Q else K (a.put (some 140) undef) W := by
  have hy : yielded ops a.tmps 26 = some false := yielded_of hgd (by rw [hI.size]; show 137 < 176; decide) (hI.val 26 137 _ rfl rfl h26)
  have hw : Region.wanted { dst := some 140, op := Go.Op.move (Go.Operand.tmp 4), type := 3, pos := pos, after := #[{ on := 26, ground := Go.Ground.guard }], guard := some (26, false) } (yielded ops a.tmps) = true := by
    show (yielded ops a.tmps 26 == some false) = true
    rw [hy]
    rfl
  rw [if_pos hw]
  clear hw hy
  have q : a.tmps[4]?.getD undef = .int .i64 (n : Int) := (hI.base 4 rfl).trans E.b4
  have R := Lib.hid (hI.step (i := 29) (d := 140) (v := .int .i64 (n : Int)) rfl bk9_nodup (show 140 < 176 by decide) rfl rfl (fun _ _ _ _ _ h => h) hI.held)
  clear hI E hf
  go_simp
  exact hK _ _ R.out

set_option maxRecDepth 100000 in
theorem bk9_30 {B : Nat} {w0 : World} {S1 S2 t v n ln lz : Nat} {sn : ByteArray} {A1 A2 A5 : Option Addr} {c1 c2 c5 : Nat} {l l5 : List En} {base : Array Value} {f : Nat → Bool} {a : Act} {W : World} {K : Act → World → Prop} {Q : Exit → Act → World → Prop} {ops : Array Oper} (E : bk9Env B w0 S1 S2 t v n ln lz sn A1 A2 A5 c1 c2 c5 l l5 base) (hI : (bk9Tb B w0 S1 S2 t v n ln lz sn A1 A2 A5 c1 c2 c5 l l5 base).Inv (BkH B w0 S1 S2 t v n ln sn A1 A2 A5 c1 c2 c5 l l5) f a W) (hf : f 30 = false) (h26 : f 26 = true) (h28 : f 28 = true) (h29 : f 29 = true) (hgd : (ops[26]?).bind (·.dst) = some 137) (pos : String) (hK : ∀ a' W', (bk9Tb B w0 S1 S2 t v n ln lz sn A1 A2 A5 c1 c2 c5 l l5 base).Inv (BkH B w0 S1 S2 t v n ln sn A1 A2 A5 c1 c2 c5 l l5) (hit f 30) a' W' → K a' W') : if Region.wanted { dst := some 141, op := Go.Op.binOp Go.BinOp.neq 3 (Go.Operand.tmp 139) (Go.Operand.tmp 140) 3, type := 4, pos := pos, after := #[{ on := 28, ground := Go.Ground.data }, { on := 29, ground := Go.Ground.data }, { on := 26, ground := Go.Ground.guard }], guard := some (26, false) } (yielded ops a.tmps) = true then Oper.wp Tryd.prog { dst := some 141, op := Go.Op.binOp Go.BinOp.neq 3 (Go.Operand.tmp 139) (Go.Operand.tmp 140) 3, type := 4, pos := pos, after := #[{ on := 28, ground := Go.Ground.data }, { on := 29, ground := Go.Ground.data }, { on := 26, ground := Go.Ground.guard }], guard := some (26, false) } a W K Q else K (a.put (some 141) undef) W := by
  have hy : yielded ops a.tmps 26 = some false := yielded_of hgd (by rw [hI.size]; show 137 < 176; decide) (hI.val 26 137 _ rfl rfl h26)
  have hw : Region.wanted { dst := some 141, op := Go.Op.binOp Go.BinOp.neq 3 (Go.Operand.tmp 139) (Go.Operand.tmp 140) 3, type := 4, pos := pos, after := #[{ on := 28, ground := Go.Ground.data }, { on := 29, ground := Go.Ground.data }, { on := 26, ground := Go.Ground.guard }], guard := some (26, false) } (yielded ops a.tmps) = true := by
    show (yielded ops a.tmps 26 == some false) = true
    rw [hy]
    rfl
  rw [if_pos hw]
  clear hw hy
  have y0 : a.tmps[139]?.getD undef = .int .i64 (n : Int) := hI.val 28 139 _ rfl rfl h28
  have y1 : a.tmps[140]?.getD undef = .int .i64 (n : Int) := hI.val 29 140 _ rfl rfl h29
  have hz : ((n : Int) != (n : Int)) = false := by simp
  have R := Lib.hid (hI.step (i := 30) (d := 141) (v := .bool false) rfl bk9_nodup (show 141 < 176 by decide) rfl rfl (fun _ _ _ _ _ h => h) hI.held)
  clear hI E hf
  go_simp
  exact hK _ _ R.out

set_option maxRecDepth 100000 in
theorem bk9_31 {B : Nat} {w0 : World} {S1 S2 t v n ln lz : Nat} {sn : ByteArray} {A1 A2 A5 : Option Addr} {c1 c2 c5 : Nat} {l l5 : List En} {base : Array Value} {f : Nat → Bool} {a : Act} {W : World} {K : Act → World → Prop} {Q : Exit → Act → World → Prop} {ops : Array Oper} (E : bk9Env B w0 S1 S2 t v n ln lz sn A1 A2 A5 c1 c2 c5 l l5 base) (hI : (bk9Tb B w0 S1 S2 t v n ln lz sn A1 A2 A5 c1 c2 c5 l l5 base).Inv (BkH B w0 S1 S2 t v n ln sn A1 A2 A5 c1 c2 c5 l l5) f a W) (hf : f 31 = false) (h26 : f 26 = true) (h30 : f 30 = true) (pos : String) (hK : ∀ a' W', (bk9Tb B w0 S1 S2 t v n ln lz sn A1 A2 A5 c1 c2 c5 l l5 base).Inv (BkH B w0 S1 S2 t v n ln sn A1 A2 A5 c1 c2 c5 l l5) (hit f 31) a' W' → K a' W') : if Region.wanted { dst := some 142, op := Go.Op.pick (Go.Operand.tmp 137) (Go.Operand.const (Go.Value.bool true)) (Go.Operand.tmp 141), type := 4, pos := pos, after := #[{ on := 26, ground := Go.Ground.data }, { on := 30, ground := Go.Ground.data }], guard := none } (yielded ops a.tmps) = true then Oper.wp Tryd.prog { dst := some 142, op := Go.Op.pick (Go.Operand.tmp 137) (Go.Operand.const (Go.Value.bool true)) (Go.Operand.tmp 141), type := 4, pos := pos, after := #[{ on := 26, ground := Go.Ground.data }, { on := 30, ground := Go.Ground.data }], guard := none } a W K Q else K (a.put (some 142) undef) W := by
  have y0 : a.tmps[137]?.getD undef = .bool false := hI.val 26 137 _ rfl rfl h26
  have y2 : a.tmps[141]?.getD undef = .bool false := hI.val 30 141 _ rfl rfl h30
  have R := Lib.hid (hI.step (i := 31) (d := 142) (v := .bool false) rfl bk9_nodup (show 142 < 176 by decide) rfl rfl (fun _ _ _ _ _ h => h) hI.held)
  clear hI E hf
  go_simp
  exact hK _ _ R.out

set_option maxRecDepth 100000 in
theorem bk9_32 {B : Nat} {w0 : World} {S1 S2 t v n ln lz : Nat} {sn : ByteArray} {A1 A2 A5 : Option Addr} {c1 c2 c5 : Nat} {l l5 : List En} {base : Array Value} {f : Nat → Bool} {a : Act} {W : World} {K : Act → World → Prop} {Q : Exit → Act → World → Prop} {ops : Array Oper} (E : bk9Env B w0 S1 S2 t v n ln lz sn A1 A2 A5 c1 c2 c5 l l5 base) (hI : (bk9Tb B w0 S1 S2 t v n ln lz sn A1 A2 A5 c1 c2 c5 l l5 base).Inv (BkH B w0 S1 S2 t v n ln sn A1 A2 A5 c1 c2 c5 l l5) f a W) (hf : f 32 = false) (h26 : f 26 = true) (h31 : f 31 = true) (pos : String) (hK : ∀ a' W', (bk9Tb B w0 S1 S2 t v n ln lz sn A1 A2 A5 c1 c2 c5 l l5 base).Inv (BkH B w0 S1 S2 t v n ln sn A1 A2 A5 c1 c2 c5 l l5) (hit f 32) a' W' → K a' W') : if Region.wanted { dst := some 143, op := Go.Op.move (Go.Operand.tmp 142), type := 4, pos := pos, after := #[{ on := 31, ground := Go.Ground.data }, { on := 26, ground := Go.Ground.chain }], guard := none } (yielded ops a.tmps) = true then Oper.wp Tryd.prog { dst := some 143, op := Go.Op.move (Go.Operand.tmp 142), type := 4, pos := pos, after := #[{ on := 31, ground := Go.Ground.data }, { on := 26, ground := Go.Ground.chain }], guard := none } a W K Q else K (a.put (some 143) undef) W := by
  have q : a.tmps[142]?.getD undef = .bool false := hI.val 31 142 _ rfl rfl h31
  have R := Lib.hid (hI.step (i := 32) (d := 143) (v := .bool false) rfl bk9_nodup (show 143 < 176 by decide) rfl rfl (fun _ _ _ _ _ h => h) hI.held)
  clear hI E hf
  go_simp
  exact hK _ _ R.out

set_option maxRecDepth 100000 in
theorem bk9_33 {B : Nat} {w0 : World} {S1 S2 t v n ln lz : Nat} {sn : ByteArray} {A1 A2 A5 : Option Addr} {c1 c2 c5 : Nat} {l l5 : List En} {base : Array Value} {f : Nat → Bool} {a : Act} {W : World} {K : Act → World → Prop} {Q : Exit → Act → World → Prop} {ops : Array Oper} (E : bk9Env B w0 S1 S2 t v n ln lz sn A1 A2 A5 c1 c2 c5 l l5 base) (hI : (bk9Tb B w0 S1 S2 t v n ln lz sn A1 A2 A5 c1 c2 c5 l l5 base).Inv (BkH B w0 S1 S2 t v n ln sn A1 A2 A5 c1 c2 c5 l l5) f a W) (hf : f 33 = false) (h32 : f 32 = true) (hgd : (ops[32]?).bind (·.dst) = some 143) (pos : String) (hK : ∀ a' W', (bk9Tb B w0 S1 S2 t v n ln lz sn A1 A2 A5 c1 c2 c5 l l5 base).Inv (BkH B w0 S1 S2 t v n ln sn A1 A2 A5 c1 c2 c5 l l5) (hit f 33) a' W' → K a' W') : if Region.wanted { dst := some 144, op := Go.Op.fieldAddr 36 (Go.Operand.tmp 16) 4, type := 0, pos := pos, after := #[{ on := 32, ground := Go.Ground.guard }], guard := some (32, false) } (yielded ops a.tmps) = true then Oper.wp Tryd.prog { dst := some 144, op := Go.Op.fieldAddr 36 (Go.Operand.tmp 16) 4, type := 0, pos := pos, after := #[{ on := 32, ground := Go.Ground.guard }], guard := some (32, false) } a W K Q else K (a.put (some 144) undef) W := by
  have hy : yielded ops a.tmps 32 = some false := yielded_of hgd (by rw [hI.size]; show 143 < 176; decide) (hI.val 32 143 _ rfl rfl h32)
  have hw : Region.wanted { dst := some 144, op := Go.Op.fieldAddr 36 (Go.Operand.tmp 16) 4, type := 0, pos := pos, after := #[{ on := 32, ground := Go.Ground.guard }], guard := some (32, false) } (yielded ops a.tmps) = true := by
    show (yielded ops a.tmps 32 == some false) = true
    rw [hy]
    rfl
  rw [if_pos hw]
  clear hw hy
  have q : a.tmps[16]?.getD undef = .pointer (some ⟨S1, 0, none⟩) := (hI.base 16 rfl).trans E.b16
  have R := Lib.hid (hI.step (i := 33) (d := 144) (v := .pointer (some ⟨S1, 4, none⟩)) rfl bk9_nodup (show 144 < 176 by decide) rfl rfl (fun _ _ _ _ _ h => h) hI.held)
  clear hI E hf
  go_simp
  exact hK _ _ R.out

set_option maxRecDepth 100000 in
theorem bk9_34 {B : Nat} {w0 : World} {S1 S2 t v n ln lz : Nat} {sn : ByteArray} {A1 A2 A5 : Option Addr} {c1 c2 c5 : Nat} {l l5 : List En} {base : Array Value} {f : Nat → Bool} {a : Act} {W : World} {K : Act → World → Prop} {Q : Exit → Act → World → Prop} {ops : Array Oper} (E : bk9Env B w0 S1 S2 t v n ln lz sn A1 A2 A5 c1 c2 c5 l l5 base) (hI : (bk9Tb B w0 S1 S2 t v n ln lz sn A1 A2 A5 c1 c2 c5 l l5 base).Inv (BkH B w0 S1 S2 t v n ln sn A1 A2 A5 c1 c2 c5 l l5) f a W) (hf : f 34 = false) (h32 : f 32 = true) (h33 : f 33 = true) (hgd : (ops[32]?).bind (·.dst) = some 143) (pos : String) (hK : ∀ a' W', (bk9Tb B w0 S1 S2 t v n ln lz sn A1 A2 A5 c1 c2 c5 l l5 base).Inv (BkH B w0 S1 S2 t v n ln sn A1 A2 A5 c1 c2 c5 l l5) (hit f 34) a' W' → K a' W') : if Region.wanted { dst := some 145, op := Go.Op.load 9 (Go.Operand.tmp 144), type := 9, pos := pos, after := #[{ on := 33, ground := Go.Ground.data }, { on := 32, ground := Go.Ground.guard }], guard := some (32, false) } (yielded ops a.tmps) = true then Oper.wp Tryd.prog { dst := some 145, op := Go.Op.load 9 (Go.Operand.tmp 144), type := 9, pos := pos, after := #[{ on := 33, ground := Go.Ground.data }, { on := 32, ground := Go.Ground.guard }], guard := some (32, false) } a W K Q else K (a.put (some 145) undef) W := by
  have hy : yielded ops a.tmps 32 = some false := yielded_of hgd (by rw [hI.size]; show 143 < 176; decide) (hI.val 32 143 _ rfl rfl h32)
  have hw : Region.wanted { dst := some 145, op := Go.Op.load 9 (Go.Operand.tmp 144), type := 9, pos := pos, after := #[{ on := 33, ground := Go.Ground.data }, { on := 32, ground := Go.Ground.guard }], guard := some (32, false) } (yielded ops a.tmps) = true := by
    show (yielded ops a.tmps 32 == some false) = true
    rw [hy]
    rfl
  rw [if_pos hw]
  clear hw hy
  have q : a.tmps[144]?.getD undef = .pointer (some ⟨S1, 4, none⟩) := hI.val 33 144 _ rfl rfl h33
  have c : W.cell? ⟨S1, 4, none⟩ = some (.string sn) := hI.held.s1.cell 4
  have R := Lib.hid (hI.step (i := 34) (d := 145) (v := .string sn) rfl bk9_nodup (show 145 < 176 by decide) rfl rfl (fun _ _ _ _ _ h => h) hI.held)
  clear hI E hf
  go_simp
  exact hK _ _ R.out

set_option maxRecDepth 100000 in
theorem bk9_35 {B : Nat} {w0 : World} {S1 S2 t v n ln lz : Nat} {sn : ByteArray} {A1 A2 A5 : Option Addr} {c1 c2 c5 : Nat} {l l5 : List En} {base : Array Value} {f : Nat → Bool} {a : Act} {W : World} {K : Act → World → Prop} {Q : Exit → Act → World → Prop} {ops : Array Oper} (E : bk9Env B w0 S1 S2 t v n ln lz sn A1 A2 A5 c1 c2 c5 l l5 base) (hI : (bk9Tb B w0 S1 S2 t v n ln lz sn A1 A2 A5 c1 c2 c5 l l5 base).Inv (BkH B w0 S1 S2 t v n ln sn A1 A2 A5 c1 c2 c5 l l5) f a W) (hf : f 35 = false) (h32 : f 32 = true) (hgd : (ops[32]?).bind (·.dst) = some 143) (pos : String) (hK : ∀ a' W', (bk9Tb B w0 S1 S2 t v n ln lz sn A1 A2 A5 c1 c2 c5 l l5 base).Inv (BkH B w0 S1 S2 t v n ln sn A1 A2 A5 c1 c2 c5 l l5) (hit f 35) a' W' → K a' W') : if Region.wanted { dst := some 146, op := Go.Op.move (Go.Operand.tmp 2), type := 9, pos := pos, after := #[{ on := 32, ground := Go.Ground.guard }], guard := some (32, false) } (yielded ops a.tmps) = true then Oper.wp Tryd.prog { dst := some 146, op := Go.Op.move (Go.Operand.tmp 2), type := 9, pos := pos, after := #[{ on := 32, ground := Go.Ground.guard }], guard := some (32, false) } a W K Q else K (a.put (some 146) undef) W := by
  have hy : yielded ops a.tmps 32 = some false := yielded_of hgd (by rw [hI.size]; show 143 < 176; decide) (hI.val 32 143 _ rfl rfl h32)
  have hw : Region.wanted { dst := some 146, op := Go.Op.move (Go.Operand.tmp 2), type := 9, pos := pos, after := #[{ on := 32, ground := Go.Ground.guard }], guard := some (32, false) } (yielded ops a.tmps) = true := by
    show (yielded ops a.tmps 32 == some false) = true
    rw [hy]
    rfl
  rw [if_pos hw]
  clear hw hy
  have q : a.tmps[2]?.getD undef = .string sn := (hI.base 2 rfl).trans E.b2
  have R := Lib.hid (hI.step (i := 35) (d := 146) (v := .string sn) rfl bk9_nodup (show 146 < 176 by decide) rfl rfl (fun _ _ _ _ _ h => h) hI.held)
  clear hI E hf
  go_simp
  exact hK _ _ R.out

set_option maxRecDepth 100000 in
theorem bk9_36 {B : Nat} {w0 : World} {S1 S2 t v n ln lz : Nat} {sn : ByteArray} {A1 A2 A5 : Option Addr} {c1 c2 c5 : Nat} {l l5 : List En} {base : Array Value} {f : Nat → Bool} {a : Act} {W : World} {K : Act → World → Prop} {Q : Exit → Act → World → Prop} {ops : Array Oper} (E : bk9Env B w0 S1 S2 t v n ln lz sn A1 A2 A5 c1 c2 c5 l l5 base) (hI : (bk9Tb B w0 S1 S2 t v n ln lz sn A1 A2 A5 c1 c2 c5 l l5 base).Inv (BkH B w0 S1 S2 t v n ln sn A1 A2 A5 c1 c2 c5 l l5) f a W) (hf : f 36 = false) (h32 : f 32 = true) (h34 : f 34 = true) (h35 : f 35 = true) (hgd : (ops[32]?).bind (·.dst) = some 143) (pos : String) (hK : ∀ a' W', (bk9Tb B w0 S1 S2 t v n ln lz sn A1 A2 A5 c1 c2 c5 l l5 base).Inv (BkH B w0 S1 S2 t v n ln sn A1 A2 A5 c1 c2 c5 l l5) (hit f 36) a' W' → K a' W') : if Region.wanted { dst := some 147, op := Go.Op.binOp Go.BinOp.neq 9 (Go.Operand.tmp 145) (Go.Operand.tmp 146) 9, type := 4, pos := pos, after := #[{ on := 34, ground := Go.Ground.data }, { on := 35, ground := Go.Ground.data }, { on := 32, ground := Go.Ground.guard }], guard := some (32, false) } (yielded ops a.tmps) = true then Oper.wp Tryd.prog { dst := some 147, op := Go.Op.binOp Go.BinOp.neq 9 (Go.Operand.tmp 145) (Go.Operand.tmp 146) 9, type := 4, pos := pos, after := #[{ on := 34, ground := Go.Ground.data }, { on := 35, ground := Go.Ground.data }, { on := 32, ground := Go.Ground.guard }], guard := some (32, false) } a W K Q else K (a.put (some 147) undef) W := by
  have hy : yielded ops a.tmps 32 = some false := yielded_of hgd (by rw [hI.size]; show 143 < 176; decide) (hI.val 32 143 _ rfl rfl h32)
  have hw : Region.wanted { dst := some 147, op := Go.Op.binOp Go.BinOp.neq 9 (Go.Operand.tmp 145) (Go.Operand.tmp 146) 9, type := 4, pos := pos, after := #[{ on := 34, ground := Go.Ground.data }, { on := 35, ground := Go.Ground.data }, { on := 32, ground := Go.Ground.guard }], guard := some (32, false) } (yielded ops a.tmps) = true := by
    show (yielded ops a.tmps 32 == some false) = true
    rw [hy]
    rfl
  rw [if_pos hw]
  clear hw hy
  have y0 : a.tmps[145]?.getD undef = .string sn := hI.val 34 145 _ rfl rfl h34
  have y1 : a.tmps[146]?.getD undef = .string sn := hI.val 35 146 _ rfl rfl h35
  have hz : (!sn.toList == sn.toList) = false := by simp
  have R := Lib.hid (hI.step (i := 36) (d := 147) (v := .bool false) rfl bk9_nodup (show 147 < 176 by decide) rfl rfl (fun _ _ _ _ _ h => h) hI.held)
  clear hI E hf
  go_simp
  exact hK _ _ R.out

set_option maxRecDepth 100000 in
theorem bk9_37 {B : Nat} {w0 : World} {S1 S2 t v n ln lz : Nat} {sn : ByteArray} {A1 A2 A5 : Option Addr} {c1 c2 c5 : Nat} {l l5 : List En} {base : Array Value} {f : Nat → Bool} {a : Act} {W : World} {K : Act → World → Prop} {Q : Exit → Act → World → Prop} {ops : Array Oper} (E : bk9Env B w0 S1 S2 t v n ln lz sn A1 A2 A5 c1 c2 c5 l l5 base) (hI : (bk9Tb B w0 S1 S2 t v n ln lz sn A1 A2 A5 c1 c2 c5 l l5 base).Inv (BkH B w0 S1 S2 t v n ln sn A1 A2 A5 c1 c2 c5 l l5) f a W) (hf : f 37 = false) (h32 : f 32 = true) (h36 : f 36 = true) (pos : String) (hK : ∀ a' W', (bk9Tb B w0 S1 S2 t v n ln lz sn A1 A2 A5 c1 c2 c5 l l5 base).Inv (BkH B w0 S1 S2 t v n ln sn A1 A2 A5 c1 c2 c5 l l5) (hit f 37) a' W' → K a' W') : if Region.wanted { dst := some 148, op := Go.Op.pick (Go.Operand.tmp 143) (Go.Operand.const (Go.Value.bool true)) (Go.Operand.tmp 147), type := 4, pos := pos, after := #[{ on := 32, ground := Go.Ground.data }, { on := 36, ground := Go.Ground.data }], guard := none } (yielded ops a.tmps) = true then Oper.wp Tryd.prog { dst := some 148, op := Go.Op.pick (Go.Operand.tmp 143) (Go.Operand.const (Go.Value.bool true)) (Go.Operand.tmp 147), type := 4, pos := pos, after := #[{ on := 32, ground := Go.Ground.data }, { on := 36, ground := Go.Ground.data }], guard := none } a W K Q else K (a.put (some 148) undef) W := by
  have y0 : a.tmps[143]?.getD undef = .bool false := hI.val 32 143 _ rfl rfl h32
  have y2 : a.tmps[147]?.getD undef = .bool false := hI.val 36 147 _ rfl rfl h36
  have R := Lib.hid (hI.step (i := 37) (d := 148) (v := .bool false) rfl bk9_nodup (show 148 < 176 by decide) rfl rfl (fun _ _ _ _ _ h => h) hI.held)
  clear hI E hf
  go_simp
  exact hK _ _ R.out

set_option maxRecDepth 100000 in
theorem bk9_38 {B : Nat} {w0 : World} {S1 S2 t v n ln lz : Nat} {sn : ByteArray} {A1 A2 A5 : Option Addr} {c1 c2 c5 : Nat} {l l5 : List En} {base : Array Value} {f : Nat → Bool} {a : Act} {W : World} {K : Act → World → Prop} {Q : Exit → Act → World → Prop} {ops : Array Oper} (E : bk9Env B w0 S1 S2 t v n ln lz sn A1 A2 A5 c1 c2 c5 l l5 base) (hI : (bk9Tb B w0 S1 S2 t v n ln lz sn A1 A2 A5 c1 c2 c5 l l5 base).Inv (BkH B w0 S1 S2 t v n ln sn A1 A2 A5 c1 c2 c5 l l5) f a W) (hf : f 38 = false) (h32 : f 32 = true) (h37 : f 37 = true) (pos : String) (hK : ∀ a' W', (bk9Tb B w0 S1 S2 t v n ln lz sn A1 A2 A5 c1 c2 c5 l l5 base).Inv (BkH B w0 S1 S2 t v n ln sn A1 A2 A5 c1 c2 c5 l l5) (hit f 38) a' W' → K a' W') : if Region.wanted { dst := some 149, op := Go.Op.move (Go.Operand.tmp 148), type := 4, pos := pos, after := #[{ on := 37, ground := Go.Ground.data }, { on := 32, ground := Go.Ground.chain }], guard := none } (yielded ops a.tmps) = true then Oper.wp Tryd.prog { dst := some 149, op := Go.Op.move (Go.Operand.tmp 148), type := 4, pos := pos, after := #[{ on := 37, ground := Go.Ground.data }, { on := 32, ground := Go.Ground.chain }], guard := none } a W K Q else K (a.put (some 149) undef) W := by
  have q : a.tmps[148]?.getD undef = .bool false := hI.val 37 148 _ rfl rfl h37
  have R := Lib.hid (hI.step (i := 38) (d := 149) (v := .bool false) rfl bk9_nodup (show 149 < 176 by decide) rfl rfl (fun _ _ _ _ _ h => h) hI.held)
  clear hI E hf
  go_simp
  exact hK _ _ R.out

set_option maxRecDepth 100000 in
theorem bk9_39 {B : Nat} {w0 : World} {S1 S2 t v n ln lz : Nat} {sn : ByteArray} {A1 A2 A5 : Option Addr} {c1 c2 c5 : Nat} {l l5 : List En} {base : Array Value} {f : Nat → Bool} {a : Act} {W : World} {K : Act → World → Prop} {Q : Exit → Act → World → Prop} {ops : Array Oper} (E : bk9Env B w0 S1 S2 t v n ln lz sn A1 A2 A5 c1 c2 c5 l l5 base) (hI : (bk9Tb B w0 S1 S2 t v n ln lz sn A1 A2 A5 c1 c2 c5 l l5 base).Inv (BkH B w0 S1 S2 t v n ln sn A1 A2 A5 c1 c2 c5 l l5) f a W) (hf : f 39 = false) (h38 : f 38 = true) (hgd : (ops[38]?).bind (·.dst) = some 149) (pos : String) (hK : ∀ a' W', (bk9Tb B w0 S1 S2 t v n ln lz sn A1 A2 A5 c1 c2 c5 l l5 base).Inv (BkH B w0 S1 S2 t v n ln sn A1 A2 A5 c1 c2 c5 l l5) (hit f 39) a' W' → K a' W') : if Region.wanted { dst := some 150, op := Go.Op.fieldAddr 36 (Go.Operand.tmp 16) 5, type := 0, pos := pos, after := #[{ on := 38, ground := Go.Ground.guard }], guard := some (38, false) } (yielded ops a.tmps) = true then Oper.wp Tryd.prog { dst := some 150, op := Go.Op.fieldAddr 36 (Go.Operand.tmp 16) 5, type := 0, pos := pos, after := #[{ on := 38, ground := Go.Ground.guard }], guard := some (38, false) } a W K Q else K (a.put (some 150) undef) W := by
  have hy : yielded ops a.tmps 38 = some false := yielded_of hgd (by rw [hI.size]; show 149 < 176; decide) (hI.val 38 149 _ rfl rfl h38)
  have hw : Region.wanted { dst := some 150, op := Go.Op.fieldAddr 36 (Go.Operand.tmp 16) 5, type := 0, pos := pos, after := #[{ on := 38, ground := Go.Ground.guard }], guard := some (38, false) } (yielded ops a.tmps) = true := by
    show (yielded ops a.tmps 38 == some false) = true
    rw [hy]
    rfl
  rw [if_pos hw]
  clear hw hy
  have q : a.tmps[16]?.getD undef = .pointer (some ⟨S1, 0, none⟩) := (hI.base 16 rfl).trans E.b16
  have R := Lib.hid (hI.step (i := 39) (d := 150) (v := .pointer (some ⟨S1, 5, none⟩)) rfl bk9_nodup (show 150 < 176 by decide) rfl rfl (fun _ _ _ _ _ h => h) hI.held)
  clear hI E hf
  go_simp
  exact hK _ _ R.out

set_option maxRecDepth 100000 in
theorem bk9_40 {B : Nat} {w0 : World} {S1 S2 t v n ln lz : Nat} {sn : ByteArray} {A1 A2 A5 : Option Addr} {c1 c2 c5 : Nat} {l l5 : List En} {base : Array Value} {f : Nat → Bool} {a : Act} {W : World} {K : Act → World → Prop} {Q : Exit → Act → World → Prop} {ops : Array Oper} (E : bk9Env B w0 S1 S2 t v n ln lz sn A1 A2 A5 c1 c2 c5 l l5 base) (hI : (bk9Tb B w0 S1 S2 t v n ln lz sn A1 A2 A5 c1 c2 c5 l l5 base).Inv (BkH B w0 S1 S2 t v n ln sn A1 A2 A5 c1 c2 c5 l l5) f a W) (hf : f 40 = false) (h38 : f 38 = true) (h39 : f 39 = true) (hgd : (ops[38]?).bind (·.dst) = some 149) (pos : String) (hK : ∀ a' W', (bk9Tb B w0 S1 S2 t v n ln lz sn A1 A2 A5 c1 c2 c5 l l5 base).Inv (BkH B w0 S1 S2 t v n ln sn A1 A2 A5 c1 c2 c5 l l5) (hit f 40) a' W' → K a' W') : if Region.wanted { dst := some 151, op := Go.Op.load 27 (Go.Operand.tmp 150), type := 27, pos := pos, after := #[{ on := 39, ground := Go.Ground.data }, { on := 38, ground := Go.Ground.guard }], guard := some (38, false) } (yielded ops a.tmps) = true then Oper.wp Tryd.prog { dst := some 151, op := Go.Op.load 27 (Go.Operand.tmp 150), type := 27, pos := pos, after := #[{ on := 39, ground := Go.Ground.data }, { on := 38, ground := Go.Ground.guard }], guard := some (38, false) } a W K Q else K (a.put (some 151) undef) W := by
  have hy : yielded ops a.tmps 38 = some false := yielded_of hgd (by rw [hI.size]; show 149 < 176; decide) (hI.val 38 149 _ rfl rfl h38)
  have hw : Region.wanted { dst := some 151, op := Go.Op.load 27 (Go.Operand.tmp 150), type := 27, pos := pos, after := #[{ on := 39, ground := Go.Ground.data }, { on := 38, ground := Go.Ground.guard }], guard := some (38, false) } (yielded ops a.tmps) = true := by
    show (yielded ops a.tmps 38 == some false) = true
    rw [hy]
    rfl
  rw [if_pos hw]
  clear hw hy
  have q : a.tmps[150]?.getD undef = .pointer (some ⟨S1, 5, none⟩) := hI.val 39 150 _ rfl rfl h39
  have c : W.cell? ⟨S1, 5, none⟩ = some (.slice A1 ln c1) := hI.held.s1.cell 5
  have R := Lib.hid (hI.step (i := 40) (d := 151) (v := .slice A1 ln c1) rfl bk9_nodup (show 151 < 176 by decide) rfl rfl (fun _ _ _ _ _ h => h) hI.held)
  clear hI E hf
  go_simp
  exact hK _ _ R.out

set_option maxRecDepth 100000 in
theorem bk9_41 {B : Nat} {w0 : World} {S1 S2 t v n ln lz : Nat} {sn : ByteArray} {A1 A2 A5 : Option Addr} {c1 c2 c5 : Nat} {l l5 : List En} {base : Array Value} {f : Nat → Bool} {a : Act} {W : World} {K : Act → World → Prop} {Q : Exit → Act → World → Prop} {ops : Array Oper} (E : bk9Env B w0 S1 S2 t v n ln lz sn A1 A2 A5 c1 c2 c5 l l5 base) (hI : (bk9Tb B w0 S1 S2 t v n ln lz sn A1 A2 A5 c1 c2 c5 l l5 base).Inv (BkH B w0 S1 S2 t v n ln sn A1 A2 A5 c1 c2 c5 l l5) f a W) (hf : f 41 = false) (h38 : f 38 = true) (h40 : f 40 = true) (hgd : (ops[38]?).bind (·.dst) = some 149) (pos : String) (hK : ∀ a' W', (bk9Tb B w0 S1 S2 t v n ln lz sn A1 A2 A5 c1 c2 c5 l l5 base).Inv (BkH B w0 S1 S2 t v n ln sn A1 A2 A5 c1 c2 c5 l l5) (hit f 41) a' W' → K a' W') : if Region.wanted { dst := some 152, op := Go.Op.call { callee := Go.Callee.builtin Go.Builtin.len, args := #[Go.Operand.tmp 151], argTypes := #[27] }, type := 3, pos := pos, after := #[{ on := 40, ground := Go.Ground.data }, { on := 38, ground := Go.Ground.guard }], guard := some (38, false) } (yielded ops a.tmps) = true then Oper.wp Tryd.prog { dst := some 152, op := Go.Op.call { callee := Go.Callee.builtin Go.Builtin.len, args := #[Go.Operand.tmp 151], argTypes := #[27] }, type := 3, pos := pos, after := #[{ on := 40, ground := Go.Ground.data }, { on := 38, ground := Go.Ground.guard }], guard := some (38, false) } a W K Q else K (a.put (some 152) undef) W := by
  have hy : yielded ops a.tmps 38 = some false := yielded_of hgd (by rw [hI.size]; show 149 < 176; decide) (hI.val 38 149 _ rfl rfl h38)
  have hw : Region.wanted { dst := some 152, op := Go.Op.call { callee := Go.Callee.builtin Go.Builtin.len, args := #[Go.Operand.tmp 151], argTypes := #[27] }, type := 3, pos := pos, after := #[{ on := 40, ground := Go.Ground.data }, { on := 38, ground := Go.Ground.guard }], guard := some (38, false) } (yielded ops a.tmps) = true := by
    show (yielded ops a.tmps 38 == some false) = true
    rw [hy]
    rfl
  rw [if_pos hw]
  clear hw hy
  have q : a.tmps[151]?.getD undef = .slice A1 ln c1 := hI.val 40 151 _ rfl rfl h40
  have R := Lib.hid (hI.step (i := 41) (d := 152) (v := .int .i64 (ln : Int)) rfl bk9_nodup (show 152 < 176 by decide) rfl rfl (fun _ _ _ _ _ h => h) hI.held)
  clear hI E hf
  go_simp
  exact hK _ _ R.out

set_option maxRecDepth 100000 in
theorem bk9_42 {B : Nat} {w0 : World} {S1 S2 t v n ln lz : Nat} {sn : ByteArray} {A1 A2 A5 : Option Addr} {c1 c2 c5 : Nat} {l l5 : List En} {base : Array Value} {f : Nat → Bool} {a : Act} {W : World} {K : Act → World → Prop} {Q : Exit → Act → World → Prop} {ops : Array Oper} (E : bk9Env B w0 S1 S2 t v n ln lz sn A1 A2 A5 c1 c2 c5 l l5 base) (hI : (bk9Tb B w0 S1 S2 t v n ln lz sn A1 A2 A5 c1 c2 c5 l l5 base).Inv (BkH B w0 S1 S2 t v n ln sn A1 A2 A5 c1 c2 c5 l l5) f a W) (hf : f 42 = false) (h38 : f 38 = true) (hgd : (ops[38]?).bind (·.dst) = some 149) (pos : String) (hK : ∀ a' W', (bk9Tb B w0 S1 S2 t v n ln lz sn A1 A2 A5 c1 c2 c5 l l5 base).Inv (BkH B w0 S1 S2 t v n ln sn A1 A2 A5 c1 c2 c5 l l5) (hit f 42) a' W' → K a' W') : if Region.wanted { dst := some 153, op := Go.Op.move (Go.Operand.tmp 14), type := 27, pos := pos, after := #[{ on := 38, ground := Go.Ground.guard }], guard := some (38, false) } (yielded ops a.tmps) = true then Oper.wp Tryd.prog { dst := some 153, op := Go.Op.move (Go.Operand.tmp 14), type := 27, pos := pos, after := #[{ on := 38, ground := Go.Ground.guard }], guard := some (38, false) } a W K Q else K (a.put (some 153) undef) W := by
  have hy : yielded ops a.tmps 38 = some false := yielded_of hgd (by rw [hI.size]; show 149 < 176; decide) (hI.val 38 149 _ rfl rfl h38)
  have hw : Region.wanted { dst := some 153, op := Go.Op.move (Go.Operand.tmp 14), type := 27, pos := pos, after := #[{ on := 38, ground := Go.Ground.guard }], guard := some (38, false) } (yielded ops a.tmps) = true := by
    show (yielded ops a.tmps 38 == some false) = true
    rw [hy]
    rfl
  rw [if_pos hw]
  clear hw hy
  have q : a.tmps[14]?.getD undef = .slice A5 lz c5 := (hI.base 14 rfl).trans E.b14
  have R := Lib.hid (hI.step (i := 42) (d := 153) (v := .slice A5 lz c5) rfl bk9_nodup (show 153 < 176 by decide) rfl rfl (fun _ _ _ _ _ h => h) hI.held)
  clear hI E hf
  go_simp
  exact hK _ _ R.out

set_option maxRecDepth 100000 in
theorem bk9_43 {B : Nat} {w0 : World} {S1 S2 t v n ln lz : Nat} {sn : ByteArray} {A1 A2 A5 : Option Addr} {c1 c2 c5 : Nat} {l l5 : List En} {base : Array Value} {f : Nat → Bool} {a : Act} {W : World} {K : Act → World → Prop} {Q : Exit → Act → World → Prop} {ops : Array Oper} (E : bk9Env B w0 S1 S2 t v n ln lz sn A1 A2 A5 c1 c2 c5 l l5 base) (hI : (bk9Tb B w0 S1 S2 t v n ln lz sn A1 A2 A5 c1 c2 c5 l l5 base).Inv (BkH B w0 S1 S2 t v n ln sn A1 A2 A5 c1 c2 c5 l l5) f a W) (hf : f 43 = false) (h38 : f 38 = true) (h42 : f 42 = true) (hgd : (ops[38]?).bind (·.dst) = some 149) (pos : String) (hK : ∀ a' W', (bk9Tb B w0 S1 S2 t v n ln lz sn A1 A2 A5 c1 c2 c5 l l5 base).Inv (BkH B w0 S1 S2 t v n ln sn A1 A2 A5 c1 c2 c5 l l5) (hit f 43) a' W' → K a' W') : if Region.wanted { dst := some 154, op := Go.Op.call { callee := Go.Callee.builtin Go.Builtin.len, args := #[Go.Operand.tmp 153], argTypes := #[27] }, type := 3, pos := pos, after := #[{ on := 42, ground := Go.Ground.data }, { on := 38, ground := Go.Ground.guard }], guard := some (38, false) } (yielded ops a.tmps) = true then Oper.wp Tryd.prog { dst := some 154, op := Go.Op.call { callee := Go.Callee.builtin Go.Builtin.len, args := #[Go.Operand.tmp 153], argTypes := #[27] }, type := 3, pos := pos, after := #[{ on := 42, ground := Go.Ground.data }, { on := 38, ground := Go.Ground.guard }], guard := some (38, false) } a W K Q else K (a.put (some 154) undef) W := by
  have hy : yielded ops a.tmps 38 = some false := yielded_of hgd (by rw [hI.size]; show 149 < 176; decide) (hI.val 38 149 _ rfl rfl h38)
  have hw : Region.wanted { dst := some 154, op := Go.Op.call { callee := Go.Callee.builtin Go.Builtin.len, args := #[Go.Operand.tmp 153], argTypes := #[27] }, type := 3, pos := pos, after := #[{ on := 42, ground := Go.Ground.data }, { on := 38, ground := Go.Ground.guard }], guard := some (38, false) } (yielded ops a.tmps) = true := by
    show (yielded ops a.tmps 38 == some false) = true
    rw [hy]
    rfl
  rw [if_pos hw]
  clear hw hy
  have q : a.tmps[153]?.getD undef = .slice A5 lz c5 := hI.val 42 153 _ rfl rfl h42
  have R := Lib.hid (hI.step (i := 43) (d := 154) (v := .int .i64 (lz : Int)) rfl bk9_nodup (show 154 < 176 by decide) rfl rfl (fun _ _ _ _ _ h => h) hI.held)
  clear hI E hf
  go_simp
  exact hK _ _ R.out

set_option maxRecDepth 100000 in
theorem bk9_44 {B : Nat} {w0 : World} {S1 S2 t v n ln lz : Nat} {sn : ByteArray} {A1 A2 A5 : Option Addr} {c1 c2 c5 : Nat} {l l5 : List En} {base : Array Value} {f : Nat → Bool} {a : Act} {W : World} {K : Act → World → Prop} {Q : Exit → Act → World → Prop} {ops : Array Oper} (E : bk9Env B w0 S1 S2 t v n ln lz sn A1 A2 A5 c1 c2 c5 l l5 base) (hI : (bk9Tb B w0 S1 S2 t v n ln lz sn A1 A2 A5 c1 c2 c5 l l5 base).Inv (BkH B w0 S1 S2 t v n ln sn A1 A2 A5 c1 c2 c5 l l5) f a W) (hf : f 44 = false) (h38 : f 38 = true) (hgd : (ops[38]?).bind (·.dst) = some 149) (pos : String) (hK : ∀ a' W', (bk9Tb B w0 S1 S2 t v n ln lz sn A1 A2 A5 c1 c2 c5 l l5 base).Inv (BkH B w0 S1 S2 t v n ln sn A1 A2 A5 c1 c2 c5 l l5) (hit f 44) a' W' → K a' W') : if Region.wanted { dst := some 155, op := Go.Op.move (Go.Operand.tmp 4), type := 3, pos := pos, after := #[{ on := 38, ground := Go.Ground.guard }], guard := some (38, false) } (yielded ops a.tmps) = true then Oper.wp Tryd.prog { dst := some 155, op := Go.Op.move (Go.Operand.tmp 4), type := 3, pos := pos, after := #[{ on := 38, ground := Go.Ground.guard }], guard := some (38, false) } a W K Q else K (a.put (some 155) undef) W := by
  have hy : yielded ops a.tmps 38 = some false := yielded_of hgd (by rw [hI.size]; show 149 < 176; decide) (hI.val 38 149 _ rfl rfl h38)
  have hw : Region.wanted { dst := some 155, op := Go.Op.move (Go.Operand.tmp 4), type := 3, pos := pos, after := #[{ on := 38, ground := Go.Ground.guard }], guard := some (38, false) } (yielded ops a.tmps) = true := by
    show (yielded ops a.tmps 38 == some false) = true
    rw [hy]
    rfl
  rw [if_pos hw]
  clear hw hy
  have q : a.tmps[4]?.getD undef = .int .i64 (n : Int) := (hI.base 4 rfl).trans E.b4
  have R := Lib.hid (hI.step (i := 44) (d := 155) (v := .int .i64 (n : Int)) rfl bk9_nodup (show 155 < 176 by decide) rfl rfl (fun _ _ _ _ _ h => h) hI.held)
  clear hI E hf
  go_simp
  exact hK _ _ R.out

set_option maxRecDepth 100000 in
theorem bk9_45 {B : Nat} {w0 : World} {S1 S2 t v n ln lz : Nat} {sn : ByteArray} {A1 A2 A5 : Option Addr} {c1 c2 c5 : Nat} {l l5 : List En} {base : Array Value} {f : Nat → Bool} {a : Act} {W : World} {K : Act → World → Prop} {Q : Exit → Act → World → Prop} {ops : Array Oper} (E : bk9Env B w0 S1 S2 t v n ln lz sn A1 A2 A5 c1 c2 c5 l l5 base) (hI : (bk9Tb B w0 S1 S2 t v n ln lz sn A1 A2 A5 c1 c2 c5 l l5 base).Inv (BkH B w0 S1 S2 t v n ln sn A1 A2 A5 c1 c2 c5 l l5) f a W) (hf : f 45 = false) (h38 : f 38 = true) (h43 : f 43 = true) (h44 : f 44 = true) (hgd : (ops[38]?).bind (·.dst) = some 149) (pos : String) (hK : ∀ a' W', (bk9Tb B w0 S1 S2 t v n ln lz sn A1 A2 A5 c1 c2 c5 l l5 base).Inv (BkH B w0 S1 S2 t v n ln sn A1 A2 A5 c1 c2 c5 l l5) (hit f 45) a' W' → K a' W') : if Region.wanted { dst := some 156, op := Go.Op.binOp Go.BinOp.sub 3 (Go.Operand.tmp 154) (Go.Operand.tmp 155) 3, type := 3, pos := pos, after := #[{ on := 43, ground := Go.Ground.data }, { on := 44, ground := Go.Ground.data }, { on := 38, ground := Go.Ground.guard }], guard := some (38, false) } (yielded ops a.tmps) = true then Oper.wp Tryd.prog { dst := some 156, op := Go.Op.binOp Go.BinOp.sub 3 (Go.Operand.tmp 154) (Go.Operand.tmp 155) 3, type := 3, pos := pos, after := #[{ on := 43, ground := Go.Ground.data }, { on := 44, ground := Go.Ground.data }, { on := 38, ground := Go.Ground.guard }], guard := some (38, false) } a W K Q else K (a.put (some 156) undef) W := by
  have hy : yielded ops a.tmps 38 = some false := yielded_of hgd (by rw [hI.size]; show 149 < 176; decide) (hI.val 38 149 _ rfl rfl h38)
  have hw : Region.wanted { dst := some 156, op := Go.Op.binOp Go.BinOp.sub 3 (Go.Operand.tmp 154) (Go.Operand.tmp 155) 3, type := 3, pos := pos, after := #[{ on := 43, ground := Go.Ground.data }, { on := 44, ground := Go.Ground.data }, { on := 38, ground := Go.Ground.guard }], guard := some (38, false) } (yielded ops a.tmps) = true := by
    show (yielded ops a.tmps 38 == some false) = true
    rw [hy]
    rfl
  rw [if_pos hw]
  clear hw hy
  have y0 : a.tmps[154]?.getD undef = .int .i64 (lz : Int) := hI.val 43 154 _ rfl rfl h43
  have y1 : a.tmps[155]?.getD undef = .int .i64 (n : Int) := hI.val 44 155 _ rfl rfl h44
  have hlz := E.hlz
  have hzz := E.hz
  have hw : IntKind.i64.wrap ((lz : Int) - (n : Int)) = (ln : Int) := by rw [IntKind.wrap_i64] <;> omega
  have hw2 : (lz : Int) - (n : Int) = (ln : Int) := by omega
  have hw3 : IntKind.i64.wrap (ln : Int) = (ln : Int) := by rw [IntKind.wrap_i64] <;> omega
  clear hlz hzz
  have R := Lib.hid (hI.step (i := 45) (d := 156) (v := .int .i64 (ln : Int)) rfl bk9_nodup (show 156 < 176 by decide) rfl rfl (fun _ _ _ _ _ h => h) hI.held)
  clear hI E hf
  go_simp
  exact hK _ _ R.out

set_option maxRecDepth 100000 in
theorem bk9_46 {B : Nat} {w0 : World} {S1 S2 t v n ln lz : Nat} {sn : ByteArray} {A1 A2 A5 : Option Addr} {c1 c2 c5 : Nat} {l l5 : List En} {base : Array Value} {f : Nat → Bool} {a : Act} {W : World} {K : Act → World → Prop} {Q : Exit → Act → World → Prop} {ops : Array Oper} (E : bk9Env B w0 S1 S2 t v n ln lz sn A1 A2 A5 c1 c2 c5 l l5 base) (hI : (bk9Tb B w0 S1 S2 t v n ln lz sn A1 A2 A5 c1 c2 c5 l l5 base).Inv (BkH B w0 S1 S2 t v n ln sn A1 A2 A5 c1 c2 c5 l l5) f a W) (hf : f 46 = false) (h38 : f 38 = true) (h41 : f 41 = true) (h45 : f 45 = true) (hgd : (ops[38]?).bind (·.dst) = some 149) (pos : String) (hK : ∀ a' W', (bk9Tb B w0 S1 S2 t v n ln lz sn A1 A2 A5 c1 c2 c5 l l5 base).Inv (BkH B w0 S1 S2 t v n ln sn A1 A2 A5 c1 c2 c5 l l5) (hit f 46) a' W' → K a' W') : if Region.wanted { dst := some 157, op := Go.Op.binOp Go.BinOp.neq 3 (Go.Operand.tmp 152) (Go.Operand.tmp 156) 3, type := 4, pos := pos, after := #[{ on := 41, ground := Go.Ground.data }, { on := 45, ground := Go.Ground.data }, { on := 38, ground := Go.Ground.guard }], guard := some (38, false) } (yielded ops a.tmps) = true then Oper.wp Tryd.prog { dst := some 157, op := Go.Op.binOp Go.BinOp.neq 3 (Go.Operand.tmp 152) (Go.Operand.tmp 156) 3, type := 4, pos := pos, after := #[{ on := 41, ground := Go.Ground.data }, { on := 45, ground := Go.Ground.data }, { on := 38, ground := Go.Ground.guard }], guard := some (38, false) } a W K Q else K (a.put (some 157) undef) W := by
  have hy : yielded ops a.tmps 38 = some false := yielded_of hgd (by rw [hI.size]; show 149 < 176; decide) (hI.val 38 149 _ rfl rfl h38)
  have hw : Region.wanted { dst := some 157, op := Go.Op.binOp Go.BinOp.neq 3 (Go.Operand.tmp 152) (Go.Operand.tmp 156) 3, type := 4, pos := pos, after := #[{ on := 41, ground := Go.Ground.data }, { on := 45, ground := Go.Ground.data }, { on := 38, ground := Go.Ground.guard }], guard := some (38, false) } (yielded ops a.tmps) = true := by
    show (yielded ops a.tmps 38 == some false) = true
    rw [hy]
    rfl
  rw [if_pos hw]
  clear hw hy
  have y0 : a.tmps[152]?.getD undef = .int .i64 (ln : Int) := hI.val 41 152 _ rfl rfl h41
  have y1 : a.tmps[156]?.getD undef = .int .i64 (ln : Int) := hI.val 45 156 _ rfl rfl h45
  have hz : ((ln : Int) != (ln : Int)) = false := by simp
  have R := Lib.hid (hI.step (i := 46) (d := 157) (v := .bool false) rfl bk9_nodup (show 157 < 176 by decide) rfl rfl (fun _ _ _ _ _ h => h) hI.held)
  clear hI E hf
  go_simp
  exact hK _ _ R.out

set_option maxRecDepth 100000 in
theorem bk9_47 {B : Nat} {w0 : World} {S1 S2 t v n ln lz : Nat} {sn : ByteArray} {A1 A2 A5 : Option Addr} {c1 c2 c5 : Nat} {l l5 : List En} {base : Array Value} {f : Nat → Bool} {a : Act} {W : World} {K : Act → World → Prop} {Q : Exit → Act → World → Prop} {ops : Array Oper} (E : bk9Env B w0 S1 S2 t v n ln lz sn A1 A2 A5 c1 c2 c5 l l5 base) (hI : (bk9Tb B w0 S1 S2 t v n ln lz sn A1 A2 A5 c1 c2 c5 l l5 base).Inv (BkH B w0 S1 S2 t v n ln sn A1 A2 A5 c1 c2 c5 l l5) f a W) (hf : f 47 = false) (h38 : f 38 = true) (h46 : f 46 = true) (pos : String) (hK : ∀ a' W', (bk9Tb B w0 S1 S2 t v n ln lz sn A1 A2 A5 c1 c2 c5 l l5 base).Inv (BkH B w0 S1 S2 t v n ln sn A1 A2 A5 c1 c2 c5 l l5) (hit f 47) a' W' → K a' W') : if Region.wanted { dst := some 158, op := Go.Op.pick (Go.Operand.tmp 149) (Go.Operand.const (Go.Value.bool true)) (Go.Operand.tmp 157), type := 4, pos := pos, after := #[{ on := 38, ground := Go.Ground.data }, { on := 46, ground := Go.Ground.data }], guard := none } (yielded ops a.tmps) = true then Oper.wp Tryd.prog { dst := some 158, op := Go.Op.pick (Go.Operand.tmp 149) (Go.Operand.const (Go.Value.bool true)) (Go.Operand.tmp 157), type := 4, pos := pos, after := #[{ on := 38, ground := Go.Ground.data }, { on := 46, ground := Go.Ground.data }], guard := none } a W K Q else K (a.put (some 158) undef) W := by
  have y0 : a.tmps[149]?.getD undef = .bool false := hI.val 38 149 _ rfl rfl h38
  have y2 : a.tmps[157]?.getD undef = .bool false := hI.val 46 157 _ rfl rfl h46
  have R := Lib.hid (hI.step (i := 47) (d := 158) (v := .bool false) rfl bk9_nodup (show 158 < 176 by decide) rfl rfl (fun _ _ _ _ _ h => h) hI.held)
  clear hI E hf
  go_simp
  exact hK _ _ R.out

abbrev bk9Ops : Array Oper := #[{ dst := some 111, op := Go.Op.move (Go.Operand.tmp 17), type := 31, pos := "outright.go:29", after := #[], guard := none }, { dst := some 112, op := Go.Op.binOp Go.BinOp.neq 31 (Go.Operand.tmp 111) (Go.Operand.const (Go.Value.int Go.IntKind.i64 0)) 31, type := 4, pos := "outright.go:29", after := #[{ on := 0, ground := Go.Ground.data }], guard := none }, { dst := some 113, op := Go.Op.move (Go.Operand.tmp 112), type := 4, pos := "outright.go:29", after := #[{ on := 1, ground := Go.Ground.data }], guard := none }, { dst := some 114, op := Go.Op.move (Go.Operand.tmp 19), type := 31, pos := "outright.go:29", after := #[{ on := 2, ground := Go.Ground.guard }], guard := some (2, false) }, { dst := some 115, op := Go.Op.binOp Go.BinOp.neq 31 (Go.Operand.tmp 114) (Go.Operand.const (Go.Value.int Go.IntKind.i64 0)) 31, type := 4, pos := "outright.go:29", after := #[{ on := 3, ground := Go.Ground.data }, { on := 2, ground := Go.Ground.guard }], guard := some (2, false) }, { dst := some 116, op := Go.Op.pick (Go.Operand.tmp 113) (Go.Operand.const (Go.Value.bool true)) (Go.Operand.tmp 115), type := 4, pos := "outright.go:29", after := #[{ on := 2, ground := Go.Ground.data }, { on := 4, ground := Go.Ground.data }], guard := none }, { dst := some 117, op := Go.Op.move (Go.Operand.tmp 116), type := 4, pos := "outright.go:29", after := #[{ on := 5, ground := Go.Ground.data }, { on := 2, ground := Go.Ground.chain }], guard := none }, { dst := some 118, op := Go.Op.load 36 (Go.Operand.tmp 16), type := 36, pos := "outright.go:29", after := #[{ on := 6, ground := Go.Ground.guard }], guard := some (6, false) }, { dst := some 119, op := Go.Op.call { callee := Go.Callee.value (Go.Operand.func 16), args := #[Go.Operand.tmp 118], argTypes := #[36] }, type := 43, pos := "outright.go:29", after := #[{ on := 7, ground := Go.Ground.data }, { on := 6, ground := Go.Ground.chain }, { on := 6, ground := Go.Ground.guard }], guard := some (6, false) }, { dst := some 120, op := Go.Op.load 36 (Go.Operand.tmp 18), type := 36, pos := "outright.go:29", after := #[{ on := 6, ground := Go.Ground.guard }], guard := some (6, false) }, { dst := some 121, op := Go.Op.call { callee := Go.Callee.value (Go.Operand.func 16), args := #[Go.Operand.tmp 120], argTypes := #[36] }, type := 43, pos := "outright.go:29", after := #[{ on := 9, ground := Go.Ground.data }, { on := 8, ground := Go.Ground.chain }, { on := 6, ground := Go.Ground.guard }], guard := some (6, false) }, { dst := some 122, op := Go.Op.call { callee := Go.Callee.value (Go.Operand.func 15), args := #[Go.Operand.tmp 119, Go.Operand.tmp 121], argTypes := #[43, 43] }, type := 4, pos := "outright.go:29", after := #[{ on := 8, ground := Go.Ground.data }, { on := 10, ground := Go.Ground.data }, { on := 10, ground := Go.Ground.chain }, { on := 6, ground := Go.Ground.guard }], guard := some (6, false) }, { dst := some 123, op := Go.Op.unOp Go.UnOp.not 4 (Go.Operand.tmp 122), type := 4, pos := "outright.go:29", after := #[{ on := 11, ground := Go.Ground.data }, { on := 6, ground := Go.Ground.guard }], guard := some (6, false) }, { dst := some 124, op := Go.Op.pick (Go.Operand.tmp 117) (Go.Operand.const (Go.Value.bool true)) (Go.Operand.tmp 123), type := 4, pos := "outright.go:29", after := #[{ on := 6, ground := Go.Ground.data }, { on := 12, ground := Go.Ground.data }], guard := none }, { dst := some 125, op := Go.Op.move (Go.Operand.tmp 124), type := 4, pos := "outright.go:29", after := #[{ on := 13, ground := Go.Ground.data }, { on := 11, ground := Go.Ground.chain }], guard := none }, { dst := some 126, op := Go.Op.fieldAddr 36 (Go.Operand.tmp 16) 0, type := 0, pos := "outright.go:29", after := #[{ on := 14, ground := Go.Ground.guard }], guard := some (14, false) }, { dst := some 127, op := Go.Op.load 3 (Go.Operand.tmp 126), type := 3, pos := "outright.go:29", after := #[{ on := 15, ground := Go.Ground.data }, { on := 14, ground := Go.Ground.guard }], guard := some (14, false) }, { dst := some 128, op := Go.Op.move (Go.Operand.tmp 0), type := 3, pos := "outright.go:29", after := #[{ on := 14, ground := Go.Ground.guard }], guard := some (14, false) }, { dst := some 129, op := Go.Op.binOp Go.BinOp.neq 3 (Go.Operand.tmp 127) (Go.Operand.tmp 128) 3, type := 4, pos := "outright.go:29", after := #[{ on := 16, ground := Go.Ground.data }, { on := 17, ground := Go.Ground.data }, { on := 14, ground := Go.Ground.guard }], guard := some (14, false) }, { dst := some 130, op := Go.Op.pick (Go.Operand.tmp 125) (Go.Operand.const (Go.Value.bool true)) (Go.Operand.tmp 129), type := 4, pos := "outright.go:29", after := #[{ on := 14, ground := Go.Ground.data }, { on := 18, ground := Go.Ground.data }], guard := none }, { dst := some 131, op := Go.Op.move (Go.Operand.tmp 130), type := 4, pos := "outright.go:29", after := #[{ on := 19, ground := Go.Ground.data }, { on := 14, ground := Go.Ground.chain }], guard := none }, { dst := some 132, op := Go.Op.fieldAddr 36 (Go.Operand.tmp 16) 1, type := 0, pos := "outright.go:29", after := #[{ on := 20, ground := Go.Ground.guard }], guard := some (20, false) }, { dst := some 133, op := Go.Op.load 3 (Go.Operand.tmp 132), type := 3, pos := "outright.go:29", after := #[{ on := 21, ground := Go.Ground.data }, { on := 20, ground := Go.Ground.guard }], guard := some (20, false) }, { dst := some 134, op := Go.Op.move (Go.Operand.tmp 1), type := 3, pos := "outright.go:29", after := #[{ on := 20, ground := Go.Ground.guard }], guard := some (20, false) }, { dst := some 135, op := Go.Op.binOp Go.BinOp.neq 3 (Go.Operand.tmp 133) (Go.Operand.tmp 134) 3, type := 4, pos := "outright.go:29", after := #[{ on := 22, ground := Go.Ground.data }, { on := 23, ground := Go.Ground.data }, { on := 20, ground := Go.Ground.guard }], guard := some (20, false) }, { dst := some 136, op := Go.Op.pick (Go.Operand.tmp 131) (Go.Operand.const (Go.Value.bool true)) (Go.Operand.tmp 135), type := 4, pos := "outright.go:29", after := #[{ on := 20, ground := Go.Ground.data }, { on := 24, ground := Go.Ground.data }], guard := none }, { dst := some 137, op := Go.Op.move (Go.Operand.tmp 136), type := 4, pos := "outright.go:29", after := #[{ on := 25, ground := Go.Ground.data }, { on := 20, ground := Go.Ground.chain }], guard := none }, { dst := some 138, op := Go.Op.fieldAddr 36 (Go.Operand.tmp 16) 2, type := 0, pos := "outright.go:29", after := #[{ on := 26, ground := Go.Ground.guard }], guard := some (26, false) }, { dst := some 139, op := Go.Op.load 3 (Go.Operand.tmp 138), type := 3, pos := "outright.go:29", after := #[{ on := 27, ground := Go.Ground.data }, { on := 26, ground := Go.Ground.guard }], guard := some (26, false) }, { dst := some 140, op := Go.Op.move (Go.Operand.tmp 4), type := 3, pos := "outright.go:29", after := #[{ on := 26, ground := Go.Ground.guard }], guard := some (26, false) }, { dst := some 141, op := Go.Op.binOp Go.BinOp.neq 3 (Go.Operand.tmp 139) (Go.Operand.tmp 140) 3, type := 4, pos := "outright.go:29", after := #[{ on := 28, ground := Go.Ground.data }, { on := 29, ground := Go.Ground.data }, { on := 26, ground := Go.Ground.guard }], guard := some (26, false) }, { dst := some 142, op := Go.Op.pick (Go.Operand.tmp 137) (Go.Operand.const (Go.Value.bool true)) (Go.Operand.tmp 141), type := 4, pos := "outright.go:29", after := #[{ on := 26, ground := Go.Ground.data }, { on := 30, ground := Go.Ground.data }], guard := none }, { dst := some 143, op := Go.Op.move (Go.Operand.tmp 142), type := 4, pos := "outright.go:29", after := #[{ on := 31, ground := Go.Ground.data }, { on := 26, ground := Go.Ground.chain }], guard := none }, { dst := some 144, op := Go.Op.fieldAddr 36 (Go.Operand.tmp 16) 4, type := 0, pos := "outright.go:29", after := #[{ on := 32, ground := Go.Ground.guard }], guard := some (32, false) }, { dst := some 145, op := Go.Op.load 9 (Go.Operand.tmp 144), type := 9, pos := "outright.go:29", after := #[{ on := 33, ground := Go.Ground.data }, { on := 32, ground := Go.Ground.guard }], guard := some (32, false) }, { dst := some 146, op := Go.Op.move (Go.Operand.tmp 2), type := 9, pos := "outright.go:29", after := #[{ on := 32, ground := Go.Ground.guard }], guard := some (32, false) }, { dst := some 147, op := Go.Op.binOp Go.BinOp.neq 9 (Go.Operand.tmp 145) (Go.Operand.tmp 146) 9, type := 4, pos := "outright.go:29", after := #[{ on := 34, ground := Go.Ground.data }, { on := 35, ground := Go.Ground.data }, { on := 32, ground := Go.Ground.guard }], guard := some (32, false) }, { dst := some 148, op := Go.Op.pick (Go.Operand.tmp 143) (Go.Operand.const (Go.Value.bool true)) (Go.Operand.tmp 147), type := 4, pos := "outright.go:29", after := #[{ on := 32, ground := Go.Ground.data }, { on := 36, ground := Go.Ground.data }], guard := none }, { dst := some 149, op := Go.Op.move (Go.Operand.tmp 148), type := 4, pos := "outright.go:29", after := #[{ on := 37, ground := Go.Ground.data }, { on := 32, ground := Go.Ground.chain }], guard := none }, { dst := some 150, op := Go.Op.fieldAddr 36 (Go.Operand.tmp 16) 5, type := 0, pos := "outright.go:29", after := #[{ on := 38, ground := Go.Ground.guard }], guard := some (38, false) }, { dst := some 151, op := Go.Op.load 27 (Go.Operand.tmp 150), type := 27, pos := "outright.go:29", after := #[{ on := 39, ground := Go.Ground.data }, { on := 38, ground := Go.Ground.guard }], guard := some (38, false) }, { dst := some 152, op := Go.Op.call { callee := Go.Callee.builtin Go.Builtin.len, args := #[Go.Operand.tmp 151], argTypes := #[27] }, type := 3, pos := "outright.go:29", after := #[{ on := 40, ground := Go.Ground.data }, { on := 38, ground := Go.Ground.guard }], guard := some (38, false) }, { dst := some 153, op := Go.Op.move (Go.Operand.tmp 14), type := 27, pos := "outright.go:29", after := #[{ on := 38, ground := Go.Ground.guard }], guard := some (38, false) }, { dst := some 154, op := Go.Op.call { callee := Go.Callee.builtin Go.Builtin.len, args := #[Go.Operand.tmp 153], argTypes := #[27] }, type := 3, pos := "outright.go:29", after := #[{ on := 42, ground := Go.Ground.data }, { on := 38, ground := Go.Ground.guard }], guard := some (38, false) }, { dst := some 155, op := Go.Op.move (Go.Operand.tmp 4), type := 3, pos := "outright.go:29", after := #[{ on := 38, ground := Go.Ground.guard }], guard := some (38, false) }, { dst := some 156, op := Go.Op.binOp Go.BinOp.sub 3 (Go.Operand.tmp 154) (Go.Operand.tmp 155) 3, type := 3, pos := "outright.go:29", after := #[{ on := 43, ground := Go.Ground.data }, { on := 44, ground := Go.Ground.data }, { on := 38, ground := Go.Ground.guard }], guard := some (38, false) }, { dst := some 157, op := Go.Op.binOp Go.BinOp.neq 3 (Go.Operand.tmp 152) (Go.Operand.tmp 156) 3, type := 4, pos := "outright.go:29", after := #[{ on := 41, ground := Go.Ground.data }, { on := 45, ground := Go.Ground.data }, { on := 38, ground := Go.Ground.guard }], guard := some (38, false) }, { dst := some 158, op := Go.Op.pick (Go.Operand.tmp 149) (Go.Operand.const (Go.Value.bool true)) (Go.Operand.tmp 157), type := 4, pos := "outright.go:29", after := #[{ on := 38, ground := Go.Ground.data }, { on := 46, ground := Go.Ground.data }], guard := none }]
set_option maxRecDepth 100000 in
set_option maxHeartbeats 4000000 in
theorem bk9_step {B : Nat} {w0 : World} {S1 S2 t v n ln lz : Nat} {sn : ByteArray} {A1 A2 A5 : Option Addr} {c1 c2 c5 : Nat} {l l5 : List En} {base : Array Value} {Q : Exit → Act → World → Prop} (E : bk9Env B w0 S1 S2 t v n ln lz sn A1 A2 A5 c1 c2 c5 l l5 base) :
    ∀ f a W i o, bk9Ops[i]? = some o → f i = false → (∀ e ∈ o.after, Region.binds .any e = true → f e.on = true) → (bk9Tb B w0 S1 S2 t v n ln lz sn A1 A2 A5 c1 c2 c5 l l5 base).Inv (BkH B w0 S1 S2 t v n ln sn A1 A2 A5 c1 c2 c5 l l5) f a W → wpOp Tryd.prog bk9Ops Q i (fun a' W' => (bk9Tb B w0 S1 S2 t v n ln lz sn A1 A2 A5 c1 c2 c5 l l5 base).Inv (BkH B w0 S1 S2 t v n ln sn A1 A2 A5 c1 c2 c5 l l5) (hit f i) a' W') a W := by
  intro f a W i o ho hf hed hI
  have hi : i < 48 := (Array.getElem?_eq_some_iff.1 ho).1
  have hc : i = 0 ∨ i = 1 ∨ i = 2 ∨ i = 3 ∨ i = 4 ∨ i = 5 ∨ i = 6 ∨ i = 7 ∨ i = 8 ∨ i = 9 ∨ i = 10 ∨ i = 11 ∨ i = 12 ∨ i = 13 ∨ i = 14 ∨ i = 15 ∨ i = 16 ∨ i = 17 ∨ i = 18 ∨ i = 19 ∨ i = 20 ∨ i = 21 ∨ i = 22 ∨ i = 23 ∨ i = 24 ∨ i = 25 ∨ i = 26 ∨ i = 27 ∨ i = 28 ∨ i = 29 ∨ i = 30 ∨ i = 31 ∨ i = 32 ∨ i = 33 ∨ i = 34 ∨ i = 35 ∨ i = 36 ∨ i = 37 ∨ i = 38 ∨ i = 39 ∨ i = 40 ∨ i = 41 ∨ i = 42 ∨ i = 43 ∨ i = 44 ∨ i = 45 ∨ i = 46 ∨ i = 47 := by omega
  rcases hc with rfl | rfl | rfl | rfl | rfl | rfl | rfl | rfl | rfl | rfl | rfl | rfl | rfl | rfl | rfl | rfl | rfl | rfl | rfl | rfl | rfl | rfl | rfl | rfl | rfl | rfl | rfl | rfl | rfl | rfl | rfl | rfl | rfl | rfl | rfl | rfl | rfl | rfl | rfl | rfl | rfl | rfl | rfl | rfl | rfl | rfl | rfl | rfl
  · cases ho
    exact wpOp_step (o := { dst := some 111, op := Go.Op.move (Go.Operand.tmp 17), type := 31, pos := "outright.go:29", after := #[], guard := none }) rfl fun K hK => bk9_0 E hI hf "outright.go:29" (fun a' W' h => hK a' W' h)
  · cases ho
    exact wpOp_step (o := { dst := some 112, op := Go.Op.binOp Go.BinOp.neq 31 (Go.Operand.tmp 111) (Go.Operand.const (Go.Value.int Go.IntKind.i64 0)) 31, type := 4, pos := "outright.go:29", after := #[{ on := 0, ground := Go.Ground.data }], guard := none }) rfl fun K hK => bk9_1 E hI hf (hed ⟨0, Go.Ground.data⟩ (Array.mem_of_getElem? (i := 0) rfl) rfl) "outright.go:29" (fun a' W' h => hK a' W' h)
  · cases ho
    exact wpOp_step (o := { dst := some 113, op := Go.Op.move (Go.Operand.tmp 112), type := 4, pos := "outright.go:29", after := #[{ on := 1, ground := Go.Ground.data }], guard := none }) rfl fun K hK => bk9_2 E hI hf (hed ⟨1, Go.Ground.data⟩ (Array.mem_of_getElem? (i := 0) rfl) rfl) "outright.go:29" (fun a' W' h => hK a' W' h)
  · cases ho
    exact wpOp_step (o := { dst := some 114, op := Go.Op.move (Go.Operand.tmp 19), type := 31, pos := "outright.go:29", after := #[{ on := 2, ground := Go.Ground.guard }], guard := some (2, false) }) rfl fun K hK => bk9_3 E hI hf (hed ⟨2, Go.Ground.guard⟩ (Array.mem_of_getElem? (i := 0) rfl) rfl) rfl "outright.go:29" (fun a' W' h => hK a' W' h)
  · cases ho
    exact wpOp_step (o := { dst := some 115, op := Go.Op.binOp Go.BinOp.neq 31 (Go.Operand.tmp 114) (Go.Operand.const (Go.Value.int Go.IntKind.i64 0)) 31, type := 4, pos := "outright.go:29", after := #[{ on := 3, ground := Go.Ground.data }, { on := 2, ground := Go.Ground.guard }], guard := some (2, false) }) rfl fun K hK => bk9_4 E hI hf (hed ⟨2, Go.Ground.guard⟩ (Array.mem_of_getElem? (i := 1) rfl) rfl) (hed ⟨3, Go.Ground.data⟩ (Array.mem_of_getElem? (i := 0) rfl) rfl) rfl "outright.go:29" (fun a' W' h => hK a' W' h)
  · cases ho
    exact wpOp_step (o := { dst := some 116, op := Go.Op.pick (Go.Operand.tmp 113) (Go.Operand.const (Go.Value.bool true)) (Go.Operand.tmp 115), type := 4, pos := "outright.go:29", after := #[{ on := 2, ground := Go.Ground.data }, { on := 4, ground := Go.Ground.data }], guard := none }) rfl fun K hK => bk9_5 E hI hf (hed ⟨2, Go.Ground.data⟩ (Array.mem_of_getElem? (i := 0) rfl) rfl) (hed ⟨4, Go.Ground.data⟩ (Array.mem_of_getElem? (i := 1) rfl) rfl) "outright.go:29" (fun a' W' h => hK a' W' h)
  · cases ho
    exact wpOp_step (o := { dst := some 117, op := Go.Op.move (Go.Operand.tmp 116), type := 4, pos := "outright.go:29", after := #[{ on := 5, ground := Go.Ground.data }, { on := 2, ground := Go.Ground.chain }], guard := none }) rfl fun K hK => bk9_6 E hI hf (hed ⟨2, Go.Ground.chain⟩ (Array.mem_of_getElem? (i := 1) rfl) rfl) (hed ⟨5, Go.Ground.data⟩ (Array.mem_of_getElem? (i := 0) rfl) rfl) "outright.go:29" (fun a' W' h => hK a' W' h)
  · cases ho
    exact wpOp_step (o := { dst := some 118, op := Go.Op.load 36 (Go.Operand.tmp 16), type := 36, pos := "outright.go:29", after := #[{ on := 6, ground := Go.Ground.guard }], guard := some (6, false) }) rfl fun K hK => bk9_7 E hI hf (hed ⟨6, Go.Ground.guard⟩ (Array.mem_of_getElem? (i := 0) rfl) rfl) rfl "outright.go:29" (fun a' W' h => hK a' W' h)
  · cases ho
    exact wpOp_step (o := { dst := some 119, op := Go.Op.call { callee := Go.Callee.value (Go.Operand.func 16), args := #[Go.Operand.tmp 118], argTypes := #[36] }, type := 43, pos := "outright.go:29", after := #[{ on := 7, ground := Go.Ground.data }, { on := 6, ground := Go.Ground.chain }, { on := 6, ground := Go.Ground.guard }], guard := some (6, false) }) rfl fun K hK => bk9_8 E hI hf (hed ⟨6, Go.Ground.chain⟩ (Array.mem_of_getElem? (i := 1) rfl) rfl) (hed ⟨7, Go.Ground.data⟩ (Array.mem_of_getElem? (i := 0) rfl) rfl) rfl "outright.go:29" (fun a' W' h => hK a' W' h)
  · cases ho
    exact wpOp_step (o := { dst := some 120, op := Go.Op.load 36 (Go.Operand.tmp 18), type := 36, pos := "outright.go:29", after := #[{ on := 6, ground := Go.Ground.guard }], guard := some (6, false) }) rfl fun K hK => bk9_9 E hI hf (hed ⟨6, Go.Ground.guard⟩ (Array.mem_of_getElem? (i := 0) rfl) rfl) rfl "outright.go:29" (fun a' W' h => hK a' W' h)
  · cases ho
    exact wpOp_step (o := { dst := some 121, op := Go.Op.call { callee := Go.Callee.value (Go.Operand.func 16), args := #[Go.Operand.tmp 120], argTypes := #[36] }, type := 43, pos := "outright.go:29", after := #[{ on := 9, ground := Go.Ground.data }, { on := 8, ground := Go.Ground.chain }, { on := 6, ground := Go.Ground.guard }], guard := some (6, false) }) rfl fun K hK => bk9_10 E hI hf (hed ⟨6, Go.Ground.guard⟩ (Array.mem_of_getElem? (i := 2) rfl) rfl) (hed ⟨8, Go.Ground.chain⟩ (Array.mem_of_getElem? (i := 1) rfl) rfl) (hed ⟨9, Go.Ground.data⟩ (Array.mem_of_getElem? (i := 0) rfl) rfl) rfl "outright.go:29" (fun a' W' h => hK a' W' h)
  · cases ho
    exact wpOp_step (o := { dst := some 122, op := Go.Op.call { callee := Go.Callee.value (Go.Operand.func 15), args := #[Go.Operand.tmp 119, Go.Operand.tmp 121], argTypes := #[43, 43] }, type := 4, pos := "outright.go:29", after := #[{ on := 8, ground := Go.Ground.data }, { on := 10, ground := Go.Ground.data }, { on := 10, ground := Go.Ground.chain }, { on := 6, ground := Go.Ground.guard }], guard := some (6, false) }) rfl fun K hK => bk9_11 E hI hf (hed ⟨6, Go.Ground.guard⟩ (Array.mem_of_getElem? (i := 3) rfl) rfl) (hed ⟨8, Go.Ground.data⟩ (Array.mem_of_getElem? (i := 0) rfl) rfl) (hed ⟨10, Go.Ground.data⟩ (Array.mem_of_getElem? (i := 1) rfl) rfl) rfl "outright.go:29" (fun a' W' h => hK a' W' h)
  · cases ho
    exact wpOp_step (o := { dst := some 123, op := Go.Op.unOp Go.UnOp.not 4 (Go.Operand.tmp 122), type := 4, pos := "outright.go:29", after := #[{ on := 11, ground := Go.Ground.data }, { on := 6, ground := Go.Ground.guard }], guard := some (6, false) }) rfl fun K hK => bk9_12 E hI hf (hed ⟨6, Go.Ground.guard⟩ (Array.mem_of_getElem? (i := 1) rfl) rfl) (hed ⟨11, Go.Ground.data⟩ (Array.mem_of_getElem? (i := 0) rfl) rfl) rfl "outright.go:29" (fun a' W' h => hK a' W' h)
  · cases ho
    exact wpOp_step (o := { dst := some 124, op := Go.Op.pick (Go.Operand.tmp 117) (Go.Operand.const (Go.Value.bool true)) (Go.Operand.tmp 123), type := 4, pos := "outright.go:29", after := #[{ on := 6, ground := Go.Ground.data }, { on := 12, ground := Go.Ground.data }], guard := none }) rfl fun K hK => bk9_13 E hI hf (hed ⟨6, Go.Ground.data⟩ (Array.mem_of_getElem? (i := 0) rfl) rfl) (hed ⟨12, Go.Ground.data⟩ (Array.mem_of_getElem? (i := 1) rfl) rfl) "outright.go:29" (fun a' W' h => hK a' W' h)
  · cases ho
    exact wpOp_step (o := { dst := some 125, op := Go.Op.move (Go.Operand.tmp 124), type := 4, pos := "outright.go:29", after := #[{ on := 13, ground := Go.Ground.data }, { on := 11, ground := Go.Ground.chain }], guard := none }) rfl fun K hK => bk9_14 E hI hf (hed ⟨11, Go.Ground.chain⟩ (Array.mem_of_getElem? (i := 1) rfl) rfl) (hed ⟨13, Go.Ground.data⟩ (Array.mem_of_getElem? (i := 0) rfl) rfl) "outright.go:29" (fun a' W' h => hK a' W' h)
  · cases ho
    exact wpOp_step (o := { dst := some 126, op := Go.Op.fieldAddr 36 (Go.Operand.tmp 16) 0, type := 0, pos := "outright.go:29", after := #[{ on := 14, ground := Go.Ground.guard }], guard := some (14, false) }) rfl fun K hK => bk9_15 E hI hf (hed ⟨14, Go.Ground.guard⟩ (Array.mem_of_getElem? (i := 0) rfl) rfl) rfl "outright.go:29" (fun a' W' h => hK a' W' h)
  · cases ho
    exact wpOp_step (o := { dst := some 127, op := Go.Op.load 3 (Go.Operand.tmp 126), type := 3, pos := "outright.go:29", after := #[{ on := 15, ground := Go.Ground.data }, { on := 14, ground := Go.Ground.guard }], guard := some (14, false) }) rfl fun K hK => bk9_16 E hI hf (hed ⟨14, Go.Ground.guard⟩ (Array.mem_of_getElem? (i := 1) rfl) rfl) (hed ⟨15, Go.Ground.data⟩ (Array.mem_of_getElem? (i := 0) rfl) rfl) rfl "outright.go:29" (fun a' W' h => hK a' W' h)
  · cases ho
    exact wpOp_step (o := { dst := some 128, op := Go.Op.move (Go.Operand.tmp 0), type := 3, pos := "outright.go:29", after := #[{ on := 14, ground := Go.Ground.guard }], guard := some (14, false) }) rfl fun K hK => bk9_17 E hI hf (hed ⟨14, Go.Ground.guard⟩ (Array.mem_of_getElem? (i := 0) rfl) rfl) rfl "outright.go:29" (fun a' W' h => hK a' W' h)
  · cases ho
    exact wpOp_step (o := { dst := some 129, op := Go.Op.binOp Go.BinOp.neq 3 (Go.Operand.tmp 127) (Go.Operand.tmp 128) 3, type := 4, pos := "outright.go:29", after := #[{ on := 16, ground := Go.Ground.data }, { on := 17, ground := Go.Ground.data }, { on := 14, ground := Go.Ground.guard }], guard := some (14, false) }) rfl fun K hK => bk9_18 E hI hf (hed ⟨14, Go.Ground.guard⟩ (Array.mem_of_getElem? (i := 2) rfl) rfl) (hed ⟨16, Go.Ground.data⟩ (Array.mem_of_getElem? (i := 0) rfl) rfl) (hed ⟨17, Go.Ground.data⟩ (Array.mem_of_getElem? (i := 1) rfl) rfl) rfl "outright.go:29" (fun a' W' h => hK a' W' h)
  · cases ho
    exact wpOp_step (o := { dst := some 130, op := Go.Op.pick (Go.Operand.tmp 125) (Go.Operand.const (Go.Value.bool true)) (Go.Operand.tmp 129), type := 4, pos := "outright.go:29", after := #[{ on := 14, ground := Go.Ground.data }, { on := 18, ground := Go.Ground.data }], guard := none }) rfl fun K hK => bk9_19 E hI hf (hed ⟨14, Go.Ground.data⟩ (Array.mem_of_getElem? (i := 0) rfl) rfl) (hed ⟨18, Go.Ground.data⟩ (Array.mem_of_getElem? (i := 1) rfl) rfl) "outright.go:29" (fun a' W' h => hK a' W' h)
  · cases ho
    exact wpOp_step (o := { dst := some 131, op := Go.Op.move (Go.Operand.tmp 130), type := 4, pos := "outright.go:29", after := #[{ on := 19, ground := Go.Ground.data }, { on := 14, ground := Go.Ground.chain }], guard := none }) rfl fun K hK => bk9_20 E hI hf (hed ⟨14, Go.Ground.chain⟩ (Array.mem_of_getElem? (i := 1) rfl) rfl) (hed ⟨19, Go.Ground.data⟩ (Array.mem_of_getElem? (i := 0) rfl) rfl) "outright.go:29" (fun a' W' h => hK a' W' h)
  · cases ho
    exact wpOp_step (o := { dst := some 132, op := Go.Op.fieldAddr 36 (Go.Operand.tmp 16) 1, type := 0, pos := "outright.go:29", after := #[{ on := 20, ground := Go.Ground.guard }], guard := some (20, false) }) rfl fun K hK => bk9_21 E hI hf (hed ⟨20, Go.Ground.guard⟩ (Array.mem_of_getElem? (i := 0) rfl) rfl) rfl "outright.go:29" (fun a' W' h => hK a' W' h)
  · cases ho
    exact wpOp_step (o := { dst := some 133, op := Go.Op.load 3 (Go.Operand.tmp 132), type := 3, pos := "outright.go:29", after := #[{ on := 21, ground := Go.Ground.data }, { on := 20, ground := Go.Ground.guard }], guard := some (20, false) }) rfl fun K hK => bk9_22 E hI hf (hed ⟨20, Go.Ground.guard⟩ (Array.mem_of_getElem? (i := 1) rfl) rfl) (hed ⟨21, Go.Ground.data⟩ (Array.mem_of_getElem? (i := 0) rfl) rfl) rfl "outright.go:29" (fun a' W' h => hK a' W' h)
  · cases ho
    exact wpOp_step (o := { dst := some 134, op := Go.Op.move (Go.Operand.tmp 1), type := 3, pos := "outright.go:29", after := #[{ on := 20, ground := Go.Ground.guard }], guard := some (20, false) }) rfl fun K hK => bk9_23 E hI hf (hed ⟨20, Go.Ground.guard⟩ (Array.mem_of_getElem? (i := 0) rfl) rfl) rfl "outright.go:29" (fun a' W' h => hK a' W' h)
  · cases ho
    exact wpOp_step (o := { dst := some 135, op := Go.Op.binOp Go.BinOp.neq 3 (Go.Operand.tmp 133) (Go.Operand.tmp 134) 3, type := 4, pos := "outright.go:29", after := #[{ on := 22, ground := Go.Ground.data }, { on := 23, ground := Go.Ground.data }, { on := 20, ground := Go.Ground.guard }], guard := some (20, false) }) rfl fun K hK => bk9_24 E hI hf (hed ⟨20, Go.Ground.guard⟩ (Array.mem_of_getElem? (i := 2) rfl) rfl) (hed ⟨22, Go.Ground.data⟩ (Array.mem_of_getElem? (i := 0) rfl) rfl) (hed ⟨23, Go.Ground.data⟩ (Array.mem_of_getElem? (i := 1) rfl) rfl) rfl "outright.go:29" (fun a' W' h => hK a' W' h)
  · cases ho
    exact wpOp_step (o := { dst := some 136, op := Go.Op.pick (Go.Operand.tmp 131) (Go.Operand.const (Go.Value.bool true)) (Go.Operand.tmp 135), type := 4, pos := "outright.go:29", after := #[{ on := 20, ground := Go.Ground.data }, { on := 24, ground := Go.Ground.data }], guard := none }) rfl fun K hK => bk9_25 E hI hf (hed ⟨20, Go.Ground.data⟩ (Array.mem_of_getElem? (i := 0) rfl) rfl) (hed ⟨24, Go.Ground.data⟩ (Array.mem_of_getElem? (i := 1) rfl) rfl) "outright.go:29" (fun a' W' h => hK a' W' h)
  · cases ho
    exact wpOp_step (o := { dst := some 137, op := Go.Op.move (Go.Operand.tmp 136), type := 4, pos := "outright.go:29", after := #[{ on := 25, ground := Go.Ground.data }, { on := 20, ground := Go.Ground.chain }], guard := none }) rfl fun K hK => bk9_26 E hI hf (hed ⟨20, Go.Ground.chain⟩ (Array.mem_of_getElem? (i := 1) rfl) rfl) (hed ⟨25, Go.Ground.data⟩ (Array.mem_of_getElem? (i := 0) rfl) rfl) "outright.go:29" (fun a' W' h => hK a' W' h)
  · cases ho
    exact wpOp_step (o := { dst := some 138, op := Go.Op.fieldAddr 36 (Go.Operand.tmp 16) 2, type := 0, pos := "outright.go:29", after := #[{ on := 26, ground := Go.Ground.guard }], guard := some (26, false) }) rfl fun K hK => bk9_27 E hI hf (hed ⟨26, Go.Ground.guard⟩ (Array.mem_of_getElem? (i := 0) rfl) rfl) rfl "outright.go:29" (fun a' W' h => hK a' W' h)
  · cases ho
    exact wpOp_step (o := { dst := some 139, op := Go.Op.load 3 (Go.Operand.tmp 138), type := 3, pos := "outright.go:29", after := #[{ on := 27, ground := Go.Ground.data }, { on := 26, ground := Go.Ground.guard }], guard := some (26, false) }) rfl fun K hK => bk9_28 E hI hf (hed ⟨26, Go.Ground.guard⟩ (Array.mem_of_getElem? (i := 1) rfl) rfl) (hed ⟨27, Go.Ground.data⟩ (Array.mem_of_getElem? (i := 0) rfl) rfl) rfl "outright.go:29" (fun a' W' h => hK a' W' h)
  · cases ho
    exact wpOp_step (o := { dst := some 140, op := Go.Op.move (Go.Operand.tmp 4), type := 3, pos := "outright.go:29", after := #[{ on := 26, ground := Go.Ground.guard }], guard := some (26, false) }) rfl fun K hK => bk9_29 E hI hf (hed ⟨26, Go.Ground.guard⟩ (Array.mem_of_getElem? (i := 0) rfl) rfl) rfl "outright.go:29" (fun a' W' h => hK a' W' h)
  · cases ho
    exact wpOp_step (o := { dst := some 141, op := Go.Op.binOp Go.BinOp.neq 3 (Go.Operand.tmp 139) (Go.Operand.tmp 140) 3, type := 4, pos := "outright.go:29", after := #[{ on := 28, ground := Go.Ground.data }, { on := 29, ground := Go.Ground.data }, { on := 26, ground := Go.Ground.guard }], guard := some (26, false) }) rfl fun K hK => bk9_30 E hI hf (hed ⟨26, Go.Ground.guard⟩ (Array.mem_of_getElem? (i := 2) rfl) rfl) (hed ⟨28, Go.Ground.data⟩ (Array.mem_of_getElem? (i := 0) rfl) rfl) (hed ⟨29, Go.Ground.data⟩ (Array.mem_of_getElem? (i := 1) rfl) rfl) rfl "outright.go:29" (fun a' W' h => hK a' W' h)
  · cases ho
    exact wpOp_step (o := { dst := some 142, op := Go.Op.pick (Go.Operand.tmp 137) (Go.Operand.const (Go.Value.bool true)) (Go.Operand.tmp 141), type := 4, pos := "outright.go:29", after := #[{ on := 26, ground := Go.Ground.data }, { on := 30, ground := Go.Ground.data }], guard := none }) rfl fun K hK => bk9_31 E hI hf (hed ⟨26, Go.Ground.data⟩ (Array.mem_of_getElem? (i := 0) rfl) rfl) (hed ⟨30, Go.Ground.data⟩ (Array.mem_of_getElem? (i := 1) rfl) rfl) "outright.go:29" (fun a' W' h => hK a' W' h)
  · cases ho
    exact wpOp_step (o := { dst := some 143, op := Go.Op.move (Go.Operand.tmp 142), type := 4, pos := "outright.go:29", after := #[{ on := 31, ground := Go.Ground.data }, { on := 26, ground := Go.Ground.chain }], guard := none }) rfl fun K hK => bk9_32 E hI hf (hed ⟨26, Go.Ground.chain⟩ (Array.mem_of_getElem? (i := 1) rfl) rfl) (hed ⟨31, Go.Ground.data⟩ (Array.mem_of_getElem? (i := 0) rfl) rfl) "outright.go:29" (fun a' W' h => hK a' W' h)
  · cases ho
    exact wpOp_step (o := { dst := some 144, op := Go.Op.fieldAddr 36 (Go.Operand.tmp 16) 4, type := 0, pos := "outright.go:29", after := #[{ on := 32, ground := Go.Ground.guard }], guard := some (32, false) }) rfl fun K hK => bk9_33 E hI hf (hed ⟨32, Go.Ground.guard⟩ (Array.mem_of_getElem? (i := 0) rfl) rfl) rfl "outright.go:29" (fun a' W' h => hK a' W' h)
  · cases ho
    exact wpOp_step (o := { dst := some 145, op := Go.Op.load 9 (Go.Operand.tmp 144), type := 9, pos := "outright.go:29", after := #[{ on := 33, ground := Go.Ground.data }, { on := 32, ground := Go.Ground.guard }], guard := some (32, false) }) rfl fun K hK => bk9_34 E hI hf (hed ⟨32, Go.Ground.guard⟩ (Array.mem_of_getElem? (i := 1) rfl) rfl) (hed ⟨33, Go.Ground.data⟩ (Array.mem_of_getElem? (i := 0) rfl) rfl) rfl "outright.go:29" (fun a' W' h => hK a' W' h)
  · cases ho
    exact wpOp_step (o := { dst := some 146, op := Go.Op.move (Go.Operand.tmp 2), type := 9, pos := "outright.go:29", after := #[{ on := 32, ground := Go.Ground.guard }], guard := some (32, false) }) rfl fun K hK => bk9_35 E hI hf (hed ⟨32, Go.Ground.guard⟩ (Array.mem_of_getElem? (i := 0) rfl) rfl) rfl "outright.go:29" (fun a' W' h => hK a' W' h)
  · cases ho
    exact wpOp_step (o := { dst := some 147, op := Go.Op.binOp Go.BinOp.neq 9 (Go.Operand.tmp 145) (Go.Operand.tmp 146) 9, type := 4, pos := "outright.go:29", after := #[{ on := 34, ground := Go.Ground.data }, { on := 35, ground := Go.Ground.data }, { on := 32, ground := Go.Ground.guard }], guard := some (32, false) }) rfl fun K hK => bk9_36 E hI hf (hed ⟨32, Go.Ground.guard⟩ (Array.mem_of_getElem? (i := 2) rfl) rfl) (hed ⟨34, Go.Ground.data⟩ (Array.mem_of_getElem? (i := 0) rfl) rfl) (hed ⟨35, Go.Ground.data⟩ (Array.mem_of_getElem? (i := 1) rfl) rfl) rfl "outright.go:29" (fun a' W' h => hK a' W' h)
  · cases ho
    exact wpOp_step (o := { dst := some 148, op := Go.Op.pick (Go.Operand.tmp 143) (Go.Operand.const (Go.Value.bool true)) (Go.Operand.tmp 147), type := 4, pos := "outright.go:29", after := #[{ on := 32, ground := Go.Ground.data }, { on := 36, ground := Go.Ground.data }], guard := none }) rfl fun K hK => bk9_37 E hI hf (hed ⟨32, Go.Ground.data⟩ (Array.mem_of_getElem? (i := 0) rfl) rfl) (hed ⟨36, Go.Ground.data⟩ (Array.mem_of_getElem? (i := 1) rfl) rfl) "outright.go:29" (fun a' W' h => hK a' W' h)
  · cases ho
    exact wpOp_step (o := { dst := some 149, op := Go.Op.move (Go.Operand.tmp 148), type := 4, pos := "outright.go:29", after := #[{ on := 37, ground := Go.Ground.data }, { on := 32, ground := Go.Ground.chain }], guard := none }) rfl fun K hK => bk9_38 E hI hf (hed ⟨32, Go.Ground.chain⟩ (Array.mem_of_getElem? (i := 1) rfl) rfl) (hed ⟨37, Go.Ground.data⟩ (Array.mem_of_getElem? (i := 0) rfl) rfl) "outright.go:29" (fun a' W' h => hK a' W' h)
  · cases ho
    exact wpOp_step (o := { dst := some 150, op := Go.Op.fieldAddr 36 (Go.Operand.tmp 16) 5, type := 0, pos := "outright.go:29", after := #[{ on := 38, ground := Go.Ground.guard }], guard := some (38, false) }) rfl fun K hK => bk9_39 E hI hf (hed ⟨38, Go.Ground.guard⟩ (Array.mem_of_getElem? (i := 0) rfl) rfl) rfl "outright.go:29" (fun a' W' h => hK a' W' h)
  · cases ho
    exact wpOp_step (o := { dst := some 151, op := Go.Op.load 27 (Go.Operand.tmp 150), type := 27, pos := "outright.go:29", after := #[{ on := 39, ground := Go.Ground.data }, { on := 38, ground := Go.Ground.guard }], guard := some (38, false) }) rfl fun K hK => bk9_40 E hI hf (hed ⟨38, Go.Ground.guard⟩ (Array.mem_of_getElem? (i := 1) rfl) rfl) (hed ⟨39, Go.Ground.data⟩ (Array.mem_of_getElem? (i := 0) rfl) rfl) rfl "outright.go:29" (fun a' W' h => hK a' W' h)
  · cases ho
    exact wpOp_step (o := { dst := some 152, op := Go.Op.call { callee := Go.Callee.builtin Go.Builtin.len, args := #[Go.Operand.tmp 151], argTypes := #[27] }, type := 3, pos := "outright.go:29", after := #[{ on := 40, ground := Go.Ground.data }, { on := 38, ground := Go.Ground.guard }], guard := some (38, false) }) rfl fun K hK => bk9_41 E hI hf (hed ⟨38, Go.Ground.guard⟩ (Array.mem_of_getElem? (i := 1) rfl) rfl) (hed ⟨40, Go.Ground.data⟩ (Array.mem_of_getElem? (i := 0) rfl) rfl) rfl "outright.go:29" (fun a' W' h => hK a' W' h)
  · cases ho
    exact wpOp_step (o := { dst := some 153, op := Go.Op.move (Go.Operand.tmp 14), type := 27, pos := "outright.go:29", after := #[{ on := 38, ground := Go.Ground.guard }], guard := some (38, false) }) rfl fun K hK => bk9_42 E hI hf (hed ⟨38, Go.Ground.guard⟩ (Array.mem_of_getElem? (i := 0) rfl) rfl) rfl "outright.go:29" (fun a' W' h => hK a' W' h)
  · cases ho
    exact wpOp_step (o := { dst := some 154, op := Go.Op.call { callee := Go.Callee.builtin Go.Builtin.len, args := #[Go.Operand.tmp 153], argTypes := #[27] }, type := 3, pos := "outright.go:29", after := #[{ on := 42, ground := Go.Ground.data }, { on := 38, ground := Go.Ground.guard }], guard := some (38, false) }) rfl fun K hK => bk9_43 E hI hf (hed ⟨38, Go.Ground.guard⟩ (Array.mem_of_getElem? (i := 1) rfl) rfl) (hed ⟨42, Go.Ground.data⟩ (Array.mem_of_getElem? (i := 0) rfl) rfl) rfl "outright.go:29" (fun a' W' h => hK a' W' h)
  · cases ho
    exact wpOp_step (o := { dst := some 155, op := Go.Op.move (Go.Operand.tmp 4), type := 3, pos := "outright.go:29", after := #[{ on := 38, ground := Go.Ground.guard }], guard := some (38, false) }) rfl fun K hK => bk9_44 E hI hf (hed ⟨38, Go.Ground.guard⟩ (Array.mem_of_getElem? (i := 0) rfl) rfl) rfl "outright.go:29" (fun a' W' h => hK a' W' h)
  · cases ho
    exact wpOp_step (o := { dst := some 156, op := Go.Op.binOp Go.BinOp.sub 3 (Go.Operand.tmp 154) (Go.Operand.tmp 155) 3, type := 3, pos := "outright.go:29", after := #[{ on := 43, ground := Go.Ground.data }, { on := 44, ground := Go.Ground.data }, { on := 38, ground := Go.Ground.guard }], guard := some (38, false) }) rfl fun K hK => bk9_45 E hI hf (hed ⟨38, Go.Ground.guard⟩ (Array.mem_of_getElem? (i := 2) rfl) rfl) (hed ⟨43, Go.Ground.data⟩ (Array.mem_of_getElem? (i := 0) rfl) rfl) (hed ⟨44, Go.Ground.data⟩ (Array.mem_of_getElem? (i := 1) rfl) rfl) rfl "outright.go:29" (fun a' W' h => hK a' W' h)
  · cases ho
    exact wpOp_step (o := { dst := some 157, op := Go.Op.binOp Go.BinOp.neq 3 (Go.Operand.tmp 152) (Go.Operand.tmp 156) 3, type := 4, pos := "outright.go:29", after := #[{ on := 41, ground := Go.Ground.data }, { on := 45, ground := Go.Ground.data }, { on := 38, ground := Go.Ground.guard }], guard := some (38, false) }) rfl fun K hK => bk9_46 E hI hf (hed ⟨38, Go.Ground.guard⟩ (Array.mem_of_getElem? (i := 2) rfl) rfl) (hed ⟨41, Go.Ground.data⟩ (Array.mem_of_getElem? (i := 0) rfl) rfl) (hed ⟨45, Go.Ground.data⟩ (Array.mem_of_getElem? (i := 1) rfl) rfl) rfl "outright.go:29" (fun a' W' h => hK a' W' h)
  · cases ho
    exact wpOp_step (o := { dst := some 158, op := Go.Op.pick (Go.Operand.tmp 149) (Go.Operand.const (Go.Value.bool true)) (Go.Operand.tmp 157), type := 4, pos := "outright.go:29", after := #[{ on := 38, ground := Go.Ground.data }, { on := 46, ground := Go.Ground.data }], guard := none }) rfl fun K hK => bk9_47 E hI hf (hed ⟨38, Go.Ground.data⟩ (Array.mem_of_getElem? (i := 0) rfl) rfl) (hed ⟨46, Go.Ground.data⟩ (Array.mem_of_getElem? (i := 1) rfl) rfl) "outright.go:29" (fun a' W' h => hK a' W' h)

/-- THE REGION -/
theorem bk9_region {B : Nat} {w0 : World} {S1 S2 t v n ln lz : Nat} {sn : ByteArray} {A1 A2 A5 : Option Addr} {c1 c2 c5 : Nat} {l l5 : List En} {tm : Array Value} {Q : Exit → Act → World → Prop} {w : World} (hsz : tm.size = 176) (E : bk9Env B w0 S1 S2 t v n ln lz sn A1 A2 A5 c1 c2 c5 l l5 tm) (hT : BkH B w0 S1 S2 t v n ln sn A1 A2 A5 c1 c2 c5 l l5 w.drew)
    (hend : ∀ (vv : Nat → Value) W, BkH B w0 S1 S2 t v n ln sn A1 A2 A5 c1 c2 c5 l l5 W → Q .normal ⟨((((((((((((((((((((((((((((((((((((((((((((((((tm.setIfInBounds 111 (.int .i64 0)).setIfInBounds 112 (.bool false)).setIfInBounds 113 (.bool false)).setIfInBounds 114 (.int .i64 0)).setIfInBounds 115 (.bool false)).setIfInBounds 116 (.bool false)).setIfInBounds 117 (.bool false)).setIfInBounds 118 (.agg #[.int .i64 (t : Int), .int .i64 (v : Int), .int .i64 (n : Int), .int .i64 (t : Int), .string sn, .slice A1 ln c1])).setIfInBounds 119 (vv 8)).setIfInBounds 120 (.agg #[.int .i64 (t : Int), .int .i64 (v : Int), .int .i64 (n : Int), .int .i64 (t : Int), .string sn, .slice A2 ln c2])).setIfInBounds 121 (vv 10)).setIfInBounds 122 (.bool true)).setIfInBounds 123 (.bool false)).setIfInBounds 124 (.bool false)).setIfInBounds 125 (.bool false)).setIfInBounds 126 (.pointer (some ⟨S1, 0, none⟩))).setIfInBounds 127 (.int .i64 (t : Int))).setIfInBounds 128 (.int .i64 (t : Int))).setIfInBounds 129 (.bool false)).setIfInBounds 130 (.bool false)).setIfInBounds 131 (.bool false)).setIfInBounds 132 (.pointer (some ⟨S1, 1, none⟩))).setIfInBounds 133 (.int .i64 (v : Int))).setIfInBounds 134 (.int .i64 (v : Int))).setIfInBounds 135 (.bool false)).setIfInBounds 136 (.bool false)).setIfInBounds 137 (.bool false)).setIfInBounds 138 (.pointer (some ⟨S1, 2, none⟩))).setIfInBounds 139 (.int .i64 (n : Int))).setIfInBounds 140 (.int .i64 (n : Int))).setIfInBounds 141 (.bool false)).setIfInBounds 142 (.bool false)).setIfInBounds 143 (.bool false)).setIfInBounds 144 (.pointer (some ⟨S1, 4, none⟩))).setIfInBounds 145 (.string sn)).setIfInBounds 146 (.string sn)).setIfInBounds 147 (.bool false)).setIfInBounds 148 (.bool false)).setIfInBounds 149 (.bool false)).setIfInBounds 150 (.pointer (some ⟨S1, 5, none⟩))).setIfInBounds 151 (.slice A1 ln c1)).setIfInBounds 152 (.int .i64 (ln : Int))).setIfInBounds 153 (.slice A5 lz c5)).setIfInBounds 154 (.int .i64 (lz : Int))).setIfInBounds 155 (.int .i64 (n : Int))).setIfInBounds 156 (.int .i64 (ln : Int))).setIfInBounds 157 (.bool false)).setIfInBounds 158 (.bool false)), []⟩ W) : (Code.region 16 bk9Ops true).wp Tryd.prog Q ⟨tm, []⟩ w := by
  refine wp_region_inv (by kernel_rfl) (by kernel_rfl) ((bk9Tb B w0 S1 S2 t v n ln lz sn A1 A2 A5 c1 c2 c5 l l5 tm).Inv (BkH B w0 S1 S2 t v n ln sn A1 A2 A5 c1 c2 c5 l l5)) ⟨hsz, rfl, fun s _ => rfl, fun i d v _ _ hf => (by cases hf), fun b d R c _ _ hf => (by cases hf), hT⟩ (bk9_step E) ?_
  intro f a W hall hI
  obtain ⟨vv, ha⟩ := hI.fin hall hsz bk9_nodup rfl
  rw [ha]
  exact hend vv W (hI.held)
end Go.Proofs.YtplmflagffloeaaDoor
