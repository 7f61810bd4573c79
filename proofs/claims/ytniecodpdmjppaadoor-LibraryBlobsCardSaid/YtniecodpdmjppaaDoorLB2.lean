/- Tx: merged (a claim holds few files). -/
import Derived.Test.YtniecodpdmjppaaDoorLB1
import Derived.Test.YtniecodpdmjppaaDoorRg
/- tapefmt.Read: its tenth region (the comparison of a piece with what is wanted), by one invariant. Written by gen_tx.py. -/
namespace Go.Proofs.YtniecodpdmjppaaDoor
open Go.RowKit
open Sm
set_option linter.unusedVariables false
set_option linter.unusedSimpArgs false

def rgTb (lab pl : ByteArray) (from_ k id n2 pb pi pp pn pz : Nat) (m1 m2 m3 m4 m5 : Bool) (g X : Nat) (base : Array Value) : Tg where
  s0 := 29
  n := 33
  size := 75
  base := base
  val := fun
    | 0 => (.pointer (some ⟨X, 0, none⟩))
    | 1 => (.string pl)
    | 2 => (.pointer (some ⟨g, 0, none⟩))
    | 3 => (.string lab)
    | 4 => (.bool m1)
    | 5 => (.bool m1)
    | 6 => (if m1 = true then undef else .pointer (some ⟨X, 1, none⟩))
    | 7 => (if m1 = true then undef else .int .i64 (pb : Nat))
    | 8 => (if m1 = true then undef else .int .i64 (from_ : Int))
    | 9 => (if m1 = true then undef else .int .i64 (k : Int))
    | 10 => (if m1 = true then undef else .int .i64 ((from_ : Int) + (k : Int)))
    | 11 => (if m1 = true then undef else .bool m2)
    | 12 => (.bool (m1 || m2))
    | 13 => (.bool (m1 || m2))
    | 14 => (if (m1 || m2) = true then undef else .pointer (some ⟨X, 2, none⟩))
    | 15 => (if (m1 || m2) = true then undef else .int .u64 (pi : Nat))
    | 16 => (if (m1 || m2) = true then undef else .int .u64 (id : Int))
    | 17 => (if (m1 || m2) = true then undef else .bool m3)
    | 18 => (.bool (m1 || m2 || m3))
    | 19 => (.bool (m1 || m2 || m3))
    | 20 => (if (m1 || m2 || m3) = true then undef else .pointer (some ⟨X, 3, none⟩))
    | 21 => (if (m1 || m2 || m3) = true then undef else .int .i64 (pp : Nat))
    | 22 => (if (m1 || m2 || m3) = true then undef else .int .i64 (k : Int))
    | 23 => (if (m1 || m2 || m3) = true then undef else .bool m4)
    | 24 => (.bool (m1 || m2 || m3 || m4))
    | 25 => (.bool (m1 || m2 || m3 || m4))
    | 26 => (if (m1 || m2 || m3 || m4) = true then undef else .pointer (some ⟨X, 4, none⟩))
    | 27 => (if (m1 || m2 || m3 || m4) = true then undef else .int .i64 (pn : Nat))
    | 28 => (if (m1 || m2 || m3 || m4) = true then undef else .pointer (some ⟨X, 5, none⟩))
    | 29 => (if (m1 || m2 || m3 || m4) = true then undef else .int .i64 (pz : Nat))
    | 30 => (if (m1 || m2 || m3 || m4) = true then undef else .int .i64 (n2 : Int))
    | 31 => (if (m1 || m2 || m3 || m4) = true then undef else .bool m5)
    | 32 => (.bool (m1 || m2 || m3 || m4 || m5))
    | _ => undef

structure RgEnv (w : World) (B g : Nat) (t : VS) (b : Nat) (acc : List UInt8) (X : Nat) (lab pl pd : ByteArray) (from_ k id n2 pb pi pp pn pz ps : Nat) (m1 m2 m3 m4 m5 : Bool) (base : Array Value) : Prop where
  b0 : base[0]?.getD undef = .pointer (some ⟨g, 0, none⟩)
  b1 : base[1]?.getD undef = .int .i64 (from_ : Int)
  b2 : base[2]?.getD undef = .int .u64 (id : Int)
  b10 : base[10]?.getD undef = .int .i64 (k : Int)
  b11 : base[11]?.getD undef = .pointer (some ⟨X, 0, none⟩)
  q1 : (!pl.toList == lab.toList) = m1
  q2 : ((pb : Int) != (from_ : Int) + (k : Int)) = m2
  q3 : ((pi : Int) != (id : Int)) = m3
  q4 : ((pp : Int) != (k : Int)) = m4
  q5 : ((pn : Int) != (n2 : Int)) = m5
  sum : from_ + k ≤ 1000000
  la : ∀ W, Vol W B g t → Calls Tryd.prog 13 #[.pointer (some ⟨g, 0, none⟩)] W fun e w' => e = .returned (.string lab) ∧ Below W.heap.size W w'
  pt : ∀ W, Calls Tryd.prog 47 #[.int .i64 (pz : Int)] W fun e w' => e = .returned (.int .i64 (n2 : Nat)) ∧ W = w'
theorem nat_bne (a b : Nat) : (a != b) = ((a : Int) != (b : Int)) := by
  by_cases h : a = b
  · subst h; simp
  · have h1 : (a != b) = true := by simpa using h
    have h2 : ((a : Int) != (b : Int)) = true := by rw [bne_iff_ne]; omega
    rw [h1, h2]
set_option maxRecDepth 100000 in
theorem rg_0 {w : World} {B g b X : Nat} {t : VS} {acc : List UInt8} {lab pl pd : ByteArray} {from_ k id n2 pb pi pp pn pz ps : Nat} {m1 m2 m3 m4 m5 : Bool} {base : Array Value} {f : Nat → Bool} {a : Act} {W : World} {K : Act → World → Prop} {Q : Exit → Act → World → Prop} {ops : Array Oper} (E : RgEnv w B g t b acc X lab pl pd from_ k id n2 pb pi pp pn pz ps m1 m2 m3 m4 m5 base) (hI : (rgTb lab pl from_ k id n2 pb pi pp pn pz m1 m2 m3 m4 m5 g X base).Inv (RdT w B g t b acc X #[.string pl, .int .i64 (pb : Nat), .int .u64 (pi : Nat), .int .i64 (pp : Nat), .int .i64 (pn : Nat), .int .i64 (pz : Nat), .int .u32 (ps : Nat), .string pd]) f a W) (pos : String) (hK : ∀ a' W', (rgTb lab pl from_ k id n2 pb pi pp pn pz m1 m2 m3 m4 m5 g X base).Inv (RdT w B g t b acc X #[.string pl, .int .i64 (pb : Nat), .int .u64 (pi : Nat), .int .i64 (pp : Nat), .int .i64 (pn : Nat), .int .i64 (pz : Nat), .int .u32 (ps : Nat), .string pd]) (hit f 0) a' W' → K a' W') : if Region.wanted { dst := some 29, op := Go.Op.fieldAddr 78 (Go.Operand.tmp 11) 0, type := 0, pos := pos, after := #[], guard := none } (yielded ops a.tmps) = true then Oper.wp Tryd.prog { dst := some 29, op := Go.Op.fieldAddr 78 (Go.Operand.tmp 11) 0, type := 0, pos := pos, after := #[], guard := none } a W K Q else K (a.put (some 29) undef) W := by
  have q : a.tmps[11]?.getD undef = .pointer (some ⟨X, 0, none⟩) := (hI.base 11 (.inl (show 11 < 29 by decide))).trans E.b11
  have R := Lib.hid (hI.step (i := 0) (show (_ : Nat) < 33 by decide) (show 29 + 33 ≤ 75 by decide) rfl hI.held)
  clear hI E
  go_simp
  exact hK _ _ R.out

set_option maxRecDepth 100000 in
theorem rg_1 {w : World} {B g b X : Nat} {t : VS} {acc : List UInt8} {lab pl pd : ByteArray} {from_ k id n2 pb pi pp pn pz ps : Nat} {m1 m2 m3 m4 m5 : Bool} {base : Array Value} {f : Nat → Bool} {a : Act} {W : World} {K : Act → World → Prop} {Q : Exit → Act → World → Prop} {ops : Array Oper} (E : RgEnv w B g t b acc X lab pl pd from_ k id n2 pb pi pp pn pz ps m1 m2 m3 m4 m5 base) (hI : (rgTb lab pl from_ k id n2 pb pi pp pn pz m1 m2 m3 m4 m5 g X base).Inv (RdT w B g t b acc X #[.string pl, .int .i64 (pb : Nat), .int .u64 (pi : Nat), .int .i64 (pp : Nat), .int .i64 (pn : Nat), .int .i64 (pz : Nat), .int .u32 (ps : Nat), .string pd]) f a W) (h0 : f 0 = true) (pos : String) (hK : ∀ a' W', (rgTb lab pl from_ k id n2 pb pi pp pn pz m1 m2 m3 m4 m5 g X base).Inv (RdT w B g t b acc X #[.string pl, .int .i64 (pb : Nat), .int .u64 (pi : Nat), .int .i64 (pp : Nat), .int .i64 (pn : Nat), .int .i64 (pz : Nat), .int .u32 (ps : Nat), .string pd]) (hit f 1) a' W' → K a' W') : if Region.wanted { dst := some 30, op := Go.Op.load 9 (Go.Operand.tmp 29), type := 9, pos := pos, after := #[{ on := 0, ground := Go.Ground.data }], guard := none } (yielded ops a.tmps) = true then Oper.wp Tryd.prog { dst := some 30, op := Go.Op.load 9 (Go.Operand.tmp 29), type := 9, pos := pos, after := #[{ on := 0, ground := Go.Ground.data }], guard := none } a W K Q else K (a.put (some 30) undef) W := by
  have q : a.tmps[29]?.getD undef = .pointer (some ⟨X, 0, none⟩) := (hI.val 0 (show (_ : Nat) < 33 by decide) h0)
  have c : W.cell? ⟨X, 0, none⟩ = some (.string pl) := hI.held.at_.cell 0
  have R := Lib.hid (hI.step (i := 1) (show (_ : Nat) < 33 by decide) (show 29 + 33 ≤ 75 by decide) rfl hI.held)
  clear hI E
  go_simp
  exact hK _ _ R.out

set_option maxRecDepth 100000 in
theorem rg_2 {w : World} {B g b X : Nat} {t : VS} {acc : List UInt8} {lab pl pd : ByteArray} {from_ k id n2 pb pi pp pn pz ps : Nat} {m1 m2 m3 m4 m5 : Bool} {base : Array Value} {f : Nat → Bool} {a : Act} {W : World} {K : Act → World → Prop} {Q : Exit → Act → World → Prop} {ops : Array Oper} (E : RgEnv w B g t b acc X lab pl pd from_ k id n2 pb pi pp pn pz ps m1 m2 m3 m4 m5 base) (hI : (rgTb lab pl from_ k id n2 pb pi pp pn pz m1 m2 m3 m4 m5 g X base).Inv (RdT w B g t b acc X #[.string pl, .int .i64 (pb : Nat), .int .u64 (pi : Nat), .int .i64 (pp : Nat), .int .i64 (pn : Nat), .int .i64 (pz : Nat), .int .u32 (ps : Nat), .string pd]) f a W) (pos : String) (hK : ∀ a' W', (rgTb lab pl from_ k id n2 pb pi pp pn pz m1 m2 m3 m4 m5 g X base).Inv (RdT w B g t b acc X #[.string pl, .int .i64 (pb : Nat), .int .u64 (pi : Nat), .int .i64 (pp : Nat), .int .i64 (pn : Nat), .int .i64 (pz : Nat), .int .u32 (ps : Nat), .string pd]) (hit f 2) a' W' → K a' W') : if Region.wanted { dst := some 31, op := Go.Op.move (Go.Operand.tmp 0), type := 40, pos := pos, after := #[], guard := none } (yielded ops a.tmps) = true then Oper.wp Tryd.prog { dst := some 31, op := Go.Op.move (Go.Operand.tmp 0), type := 40, pos := pos, after := #[], guard := none } a W K Q else K (a.put (some 31) undef) W := by
  have q : a.tmps[0]?.getD undef = .pointer (some ⟨g, 0, none⟩) := (hI.base 0 (.inl (show 0 < 29 by decide))).trans E.b0
  have R := Lib.hid (hI.step (i := 2) (show (_ : Nat) < 33 by decide) (show 29 + 33 ≤ 75 by decide) rfl hI.held)
  clear hI E
  go_simp
  exact hK _ _ R.out

set_option maxRecDepth 100000 in
theorem rg_3 {w : World} {B g b X : Nat} {t : VS} {acc : List UInt8} {lab pl pd : ByteArray} {from_ k id n2 pb pi pp pn pz ps : Nat} {m1 m2 m3 m4 m5 : Bool} {base : Array Value} {f : Nat → Bool} {a : Act} {W : World} {K : Act → World → Prop} {Q : Exit → Act → World → Prop} {ops : Array Oper} (E : RgEnv w B g t b acc X lab pl pd from_ k id n2 pb pi pp pn pz ps m1 m2 m3 m4 m5 base) (hI : (rgTb lab pl from_ k id n2 pb pi pp pn pz m1 m2 m3 m4 m5 g X base).Inv (RdT w B g t b acc X #[.string pl, .int .i64 (pb : Nat), .int .u64 (pi : Nat), .int .i64 (pp : Nat), .int .i64 (pn : Nat), .int .i64 (pz : Nat), .int .u32 (ps : Nat), .string pd]) f a W) (h2 : f 2 = true) (pos : String) (hK : ∀ a' W', (rgTb lab pl from_ k id n2 pb pi pp pn pz m1 m2 m3 m4 m5 g X base).Inv (RdT w B g t b acc X #[.string pl, .int .i64 (pb : Nat), .int .u64 (pi : Nat), .int .i64 (pp : Nat), .int .i64 (pn : Nat), .int .i64 (pz : Nat), .int .u32 (ps : Nat), .string pd]) (hit f 3) a' W' → K a' W') : if Region.wanted { dst := some 32, op := Go.Op.call { callee := Go.Callee.value (Go.Operand.func 13), args := #[Go.Operand.tmp 31], argTypes := #[40] }, type := 9, pos := pos, after := #[{ on := 2, ground := Go.Ground.data }], guard := none } (yielded ops a.tmps) = true then Oper.wp Tryd.prog { dst := some 32, op := Go.Op.call { callee := Go.Callee.value (Go.Operand.func 13), args := #[Go.Operand.tmp 31], argTypes := #[40] }, type := 9, pos := pos, after := #[{ on := 2, ground := Go.Ground.data }], guard := none } a W K Q else K (a.put (some 32) undef) W := by
  have y0 : a.tmps[31]?.getD undef = .pointer (some ⟨g, 0, none⟩) := (hI.val 2 (show (_ : Nat) < 33 by decide) h2)
  have hC := E.la W hI.held.vol
  have HR := Lib.hid (fun W1 (hb : Below W.heap.size W W1) => hI.step (i := 3) (show (_ : Nat) < 33 by decide) (show 29 + 33 ≤ 75 by decide) (rfl : _ = Value.string lab) (hI.held.after hb))
  clear hI E
  go_simp
  refine hC.mono ?_
  rintro e W1 ⟨rfl, hb⟩
  exact hK _ _ (HR.out W1 hb)

set_option maxRecDepth 100000 in
theorem rg_4 {w : World} {B g b X : Nat} {t : VS} {acc : List UInt8} {lab pl pd : ByteArray} {from_ k id n2 pb pi pp pn pz ps : Nat} {m1 m2 m3 m4 m5 : Bool} {base : Array Value} {f : Nat → Bool} {a : Act} {W : World} {K : Act → World → Prop} {Q : Exit → Act → World → Prop} {ops : Array Oper} (E : RgEnv w B g t b acc X lab pl pd from_ k id n2 pb pi pp pn pz ps m1 m2 m3 m4 m5 base) (hI : (rgTb lab pl from_ k id n2 pb pi pp pn pz m1 m2 m3 m4 m5 g X base).Inv (RdT w B g t b acc X #[.string pl, .int .i64 (pb : Nat), .int .u64 (pi : Nat), .int .i64 (pp : Nat), .int .i64 (pn : Nat), .int .i64 (pz : Nat), .int .u32 (ps : Nat), .string pd]) f a W) (h1 : f 1 = true) (h3 : f 3 = true) (pos : String) (hK : ∀ a' W', (rgTb lab pl from_ k id n2 pb pi pp pn pz m1 m2 m3 m4 m5 g X base).Inv (RdT w B g t b acc X #[.string pl, .int .i64 (pb : Nat), .int .u64 (pi : Nat), .int .i64 (pp : Nat), .int .i64 (pn : Nat), .int .i64 (pz : Nat), .int .u32 (ps : Nat), .string pd]) (hit f 4) a' W' → K a' W') : if Region.wanted { dst := some 33, op := Go.Op.binOp Go.BinOp.neq 9 (Go.Operand.tmp 30) (Go.Operand.tmp 32) 9, type := 4, pos := pos, after := #[{ on := 1, ground := Go.Ground.data }, { on := 3, ground := Go.Ground.data }], guard := none } (yielded ops a.tmps) = true then Oper.wp Tryd.prog { dst := some 33, op := Go.Op.binOp Go.BinOp.neq 9 (Go.Operand.tmp 30) (Go.Operand.tmp 32) 9, type := 4, pos := pos, after := #[{ on := 1, ground := Go.Ground.data }, { on := 3, ground := Go.Ground.data }], guard := none } a W K Q else K (a.put (some 33) undef) W := by
  have y0 : a.tmps[30]?.getD undef = .string pl := (hI.val 1 (show (_ : Nat) < 33 by decide) h1)
  have y1 : a.tmps[32]?.getD undef = .string lab := (hI.val 3 (show (_ : Nat) < 33 by decide) h3)
  have qq := E.q1
  have R := Lib.hid (hI.step (i := 4) (show (_ : Nat) < 33 by decide) (show 29 + 33 ≤ 75 by decide) rfl hI.held)
  clear hI E
  go_simp
  exact hK _ _ R.out

set_option maxRecDepth 100000 in
theorem rg_5 {w : World} {B g b X : Nat} {t : VS} {acc : List UInt8} {lab pl pd : ByteArray} {from_ k id n2 pb pi pp pn pz ps : Nat} {m1 m2 m3 m4 m5 : Bool} {base : Array Value} {f : Nat → Bool} {a : Act} {W : World} {K : Act → World → Prop} {Q : Exit → Act → World → Prop} {ops : Array Oper} (E : RgEnv w B g t b acc X lab pl pd from_ k id n2 pb pi pp pn pz ps m1 m2 m3 m4 m5 base) (hI : (rgTb lab pl from_ k id n2 pb pi pp pn pz m1 m2 m3 m4 m5 g X base).Inv (RdT w B g t b acc X #[.string pl, .int .i64 (pb : Nat), .int .u64 (pi : Nat), .int .i64 (pp : Nat), .int .i64 (pn : Nat), .int .i64 (pz : Nat), .int .u32 (ps : Nat), .string pd]) f a W) (h3 : f 3 = true) (h4 : f 4 = true) (pos : String) (hK : ∀ a' W', (rgTb lab pl from_ k id n2 pb pi pp pn pz m1 m2 m3 m4 m5 g X base).Inv (RdT w B g t b acc X #[.string pl, .int .i64 (pb : Nat), .int .u64 (pi : Nat), .int .i64 (pp : Nat), .int .i64 (pn : Nat), .int .i64 (pz : Nat), .int .u32 (ps : Nat), .string pd]) (hit f 5) a' W' → K a' W') : if Region.wanted { dst := some 34, op := Go.Op.move (Go.Operand.tmp 33), type := 4, pos := pos, after := #[{ on := 4, ground := Go.Ground.data }, { on := 3, ground := Go.Ground.chain }], guard := none } (yielded ops a.tmps) = true then Oper.wp Tryd.prog { dst := some 34, op := Go.Op.move (Go.Operand.tmp 33), type := 4, pos := pos, after := #[{ on := 4, ground := Go.Ground.data }, { on := 3, ground := Go.Ground.chain }], guard := none } a W K Q else K (a.put (some 34) undef) W := by
  have y0 : a.tmps[33]?.getD undef = .bool m1 := (hI.val 4 (show (_ : Nat) < 33 by decide) h4)
  have R := Lib.hid (hI.step (i := 5) (show (_ : Nat) < 33 by decide) (show 29 + 33 ≤ 75 by decide) rfl hI.held)
  clear hI E
  go_simp
  exact hK _ _ R.out

set_option maxRecDepth 100000 in
theorem rg_6 {w : World} {B g b X : Nat} {t : VS} {acc : List UInt8} {lab pl pd : ByteArray} {from_ k id n2 pb pi pp pn pz ps : Nat} {m1 m2 m3 m4 m5 : Bool} {base : Array Value} {f : Nat → Bool} {a : Act} {W : World} {K : Act → World → Prop} {Q : Exit → Act → World → Prop} {ops : Array Oper} (E : RgEnv w B g t b acc X lab pl pd from_ k id n2 pb pi pp pn pz ps m1 m2 m3 m4 m5 base) (hI : (rgTb lab pl from_ k id n2 pb pi pp pn pz m1 m2 m3 m4 m5 g X base).Inv (RdT w B g t b acc X #[.string pl, .int .i64 (pb : Nat), .int .u64 (pi : Nat), .int .i64 (pp : Nat), .int .i64 (pn : Nat), .int .i64 (pz : Nat), .int .u32 (ps : Nat), .string pd]) f a W) (h5 : f 5 = true) (hgd : (ops[5]?).bind (·.dst) = some 34) (pos : String) (hK : ∀ a' W', (rgTb lab pl from_ k id n2 pb pi pp pn pz m1 m2 m3 m4 m5 g X base).Inv (RdT w B g t b acc X #[.string pl, .int .i64 (pb : Nat), .int .u64 (pi : Nat), .int .i64 (pp : Nat), .int .i64 (pn : Nat), .int .i64 (pz : Nat), .int .u32 (ps : Nat), .string pd]) (hit f 6) a' W' → K a' W') : if Region.wanted { dst := some 35, op := Go.Op.fieldAddr 78 (Go.Operand.tmp 11) 1, type := 0, pos := pos, after := #[{ on := 5, ground := Go.Ground.guard }], guard := some (5, false) } (yielded ops a.tmps) = true then Oper.wp Tryd.prog { dst := some 35, op := Go.Op.fieldAddr 78 (Go.Operand.tmp 11) 1, type := 0, pos := pos, after := #[{ on := 5, ground := Go.Ground.guard }], guard := some (5, false) } a W K Q else K (a.put (some 35) undef) W := by
  have hy : yielded ops a.tmps 5 = some m1 := yielded_of hgd (by rw [hI.size]; show 34 < 75; decide) (hI.val 5 (show (_ : Nat) < 33 by decide) h5)
  have hw : Region.wanted { dst := some 35, op := Go.Op.fieldAddr 78 (Go.Operand.tmp 11) 1, type := 0, pos := pos, after := #[{ on := 5, ground := Go.Ground.guard }], guard := some (5, false) } (yielded ops a.tmps) = !m1 := by
    show (yielded ops a.tmps 5 == some false) = _
    rw [hy]
    cases m1 <;> rfl
  rcases Bool.eq_false_or_eq_true m1 with hM | hM
  · rw [hw, hM, if_neg (by simp)]
    exact hK _ _ (hI.step (i := 6) (show (_ : Nat) < 33 by decide) (show 29 + 33 ≤ 75 by decide) (if_pos hM) hI.held)
  · rw [hw, hM, if_pos (by decide)]
    have q : a.tmps[11]?.getD undef = .pointer (some ⟨X, 0, none⟩) := (hI.base 11 (.inl (show 11 < 29 by decide))).trans E.b11
    have R := Lib.hid (hI.step (i := 6) (show (_ : Nat) < 33 by decide) (show 29 + 33 ≤ 75 by decide) (if_neg (by rw [hM]; decide)) hI.held)
    clear hI E hw hy
    go_simp
    exact hK _ _ R.out

set_option maxRecDepth 100000 in
theorem rg_7 {w : World} {B g b X : Nat} {t : VS} {acc : List UInt8} {lab pl pd : ByteArray} {from_ k id n2 pb pi pp pn pz ps : Nat} {m1 m2 m3 m4 m5 : Bool} {base : Array Value} {f : Nat → Bool} {a : Act} {W : World} {K : Act → World → Prop} {Q : Exit → Act → World → Prop} {ops : Array Oper} (E : RgEnv w B g t b acc X lab pl pd from_ k id n2 pb pi pp pn pz ps m1 m2 m3 m4 m5 base) (hI : (rgTb lab pl from_ k id n2 pb pi pp pn pz m1 m2 m3 m4 m5 g X base).Inv (RdT w B g t b acc X #[.string pl, .int .i64 (pb : Nat), .int .u64 (pi : Nat), .int .i64 (pp : Nat), .int .i64 (pn : Nat), .int .i64 (pz : Nat), .int .u32 (ps : Nat), .string pd]) f a W) (h5 : f 5 = true) (h6 : f 6 = true) (hgd : (ops[5]?).bind (·.dst) = some 34) (pos : String) (hK : ∀ a' W', (rgTb lab pl from_ k id n2 pb pi pp pn pz m1 m2 m3 m4 m5 g X base).Inv (RdT w B g t b acc X #[.string pl, .int .i64 (pb : Nat), .int .u64 (pi : Nat), .int .i64 (pp : Nat), .int .i64 (pn : Nat), .int .i64 (pz : Nat), .int .u32 (ps : Nat), .string pd]) (hit f 7) a' W' → K a' W') : if Region.wanted { dst := some 36, op := Go.Op.load 3 (Go.Operand.tmp 35), type := 3, pos := pos, after := #[{ on := 6, ground := Go.Ground.data }, { on := 5, ground := Go.Ground.guard }], guard := some (5, false) } (yielded ops a.tmps) = true then Oper.wp Tryd.prog { dst := some 36, op := Go.Op.load 3 (Go.Operand.tmp 35), type := 3, pos := pos, after := #[{ on := 6, ground := Go.Ground.data }, { on := 5, ground := Go.Ground.guard }], guard := some (5, false) } a W K Q else K (a.put (some 36) undef) W := by
  have hy : yielded ops a.tmps 5 = some m1 := yielded_of hgd (by rw [hI.size]; show 34 < 75; decide) (hI.val 5 (show (_ : Nat) < 33 by decide) h5)
  have hw : Region.wanted { dst := some 36, op := Go.Op.load 3 (Go.Operand.tmp 35), type := 3, pos := pos, after := #[{ on := 6, ground := Go.Ground.data }, { on := 5, ground := Go.Ground.guard }], guard := some (5, false) } (yielded ops a.tmps) = !m1 := by
    show (yielded ops a.tmps 5 == some false) = _
    rw [hy]
    cases m1 <;> rfl
  rcases Bool.eq_false_or_eq_true m1 with hM | hM
  · rw [hw, hM, if_neg (by simp)]
    exact hK _ _ (hI.step (i := 7) (show (_ : Nat) < 33 by decide) (show 29 + 33 ≤ 75 by decide) (if_pos hM) hI.held)
  · rw [hw, hM, if_pos (by decide)]
    have q : a.tmps[35]?.getD undef = .pointer (some ⟨X, 1, none⟩) := (hI.val 6 (show (_ : Nat) < 33 by decide) h6).trans (if_neg (by rw [hM]; decide))
    have c : W.cell? ⟨X, 1, none⟩ = some (.int .i64 (pb : Nat)) := hI.held.at_.cell 1
    have R := Lib.hid (hI.step (i := 7) (show (_ : Nat) < 33 by decide) (show 29 + 33 ≤ 75 by decide) (if_neg (by rw [hM]; decide)) hI.held)
    clear hI E hw hy
    go_simp
    exact hK _ _ R.out

set_option maxRecDepth 100000 in
theorem rg_8 {w : World} {B g b X : Nat} {t : VS} {acc : List UInt8} {lab pl pd : ByteArray} {from_ k id n2 pb pi pp pn pz ps : Nat} {m1 m2 m3 m4 m5 : Bool} {base : Array Value} {f : Nat → Bool} {a : Act} {W : World} {K : Act → World → Prop} {Q : Exit → Act → World → Prop} {ops : Array Oper} (E : RgEnv w B g t b acc X lab pl pd from_ k id n2 pb pi pp pn pz ps m1 m2 m3 m4 m5 base) (hI : (rgTb lab pl from_ k id n2 pb pi pp pn pz m1 m2 m3 m4 m5 g X base).Inv (RdT w B g t b acc X #[.string pl, .int .i64 (pb : Nat), .int .u64 (pi : Nat), .int .i64 (pp : Nat), .int .i64 (pn : Nat), .int .i64 (pz : Nat), .int .u32 (ps : Nat), .string pd]) f a W) (h5 : f 5 = true) (hgd : (ops[5]?).bind (·.dst) = some 34) (pos : String) (hK : ∀ a' W', (rgTb lab pl from_ k id n2 pb pi pp pn pz m1 m2 m3 m4 m5 g X base).Inv (RdT w B g t b acc X #[.string pl, .int .i64 (pb : Nat), .int .u64 (pi : Nat), .int .i64 (pp : Nat), .int .i64 (pn : Nat), .int .i64 (pz : Nat), .int .u32 (ps : Nat), .string pd]) (hit f 8) a' W' → K a' W') : if Region.wanted { dst := some 37, op := Go.Op.move (Go.Operand.tmp 1), type := 3, pos := pos, after := #[{ on := 5, ground := Go.Ground.guard }], guard := some (5, false) } (yielded ops a.tmps) = true then Oper.wp Tryd.prog { dst := some 37, op := Go.Op.move (Go.Operand.tmp 1), type := 3, pos := pos, after := #[{ on := 5, ground := Go.Ground.guard }], guard := some (5, false) } a W K Q else K (a.put (some 37) undef) W := by
  have hy : yielded ops a.tmps 5 = some m1 := yielded_of hgd (by rw [hI.size]; show 34 < 75; decide) (hI.val 5 (show (_ : Nat) < 33 by decide) h5)
  have hw : Region.wanted { dst := some 37, op := Go.Op.move (Go.Operand.tmp 1), type := 3, pos := pos, after := #[{ on := 5, ground := Go.Ground.guard }], guard := some (5, false) } (yielded ops a.tmps) = !m1 := by
    show (yielded ops a.tmps 5 == some false) = _
    rw [hy]
    cases m1 <;> rfl
  rcases Bool.eq_false_or_eq_true m1 with hM | hM
  · rw [hw, hM, if_neg (by simp)]
    exact hK _ _ (hI.step (i := 8) (show (_ : Nat) < 33 by decide) (show 29 + 33 ≤ 75 by decide) (if_pos hM) hI.held)
  · rw [hw, hM, if_pos (by decide)]
    have q : a.tmps[1]?.getD undef = .int .i64 (from_ : Int) := (hI.base 1 (.inl (show 1 < 29 by decide))).trans E.b1
    have R := Lib.hid (hI.step (i := 8) (show (_ : Nat) < 33 by decide) (show 29 + 33 ≤ 75 by decide) (if_neg (by rw [hM]; decide)) hI.held)
    clear hI E hw hy
    go_simp
    exact hK _ _ R.out

set_option maxRecDepth 100000 in
theorem rg_9 {w : World} {B g b X : Nat} {t : VS} {acc : List UInt8} {lab pl pd : ByteArray} {from_ k id n2 pb pi pp pn pz ps : Nat} {m1 m2 m3 m4 m5 : Bool} {base : Array Value} {f : Nat → Bool} {a : Act} {W : World} {K : Act → World → Prop} {Q : Exit → Act → World → Prop} {ops : Array Oper} (E : RgEnv w B g t b acc X lab pl pd from_ k id n2 pb pi pp pn pz ps m1 m2 m3 m4 m5 base) (hI : (rgTb lab pl from_ k id n2 pb pi pp pn pz m1 m2 m3 m4 m5 g X base).Inv (RdT w B g t b acc X #[.string pl, .int .i64 (pb : Nat), .int .u64 (pi : Nat), .int .i64 (pp : Nat), .int .i64 (pn : Nat), .int .i64 (pz : Nat), .int .u32 (ps : Nat), .string pd]) f a W) (h5 : f 5 = true) (hgd : (ops[5]?).bind (·.dst) = some 34) (pos : String) (hK : ∀ a' W', (rgTb lab pl from_ k id n2 pb pi pp pn pz m1 m2 m3 m4 m5 g X base).Inv (RdT w B g t b acc X #[.string pl, .int .i64 (pb : Nat), .int .u64 (pi : Nat), .int .i64 (pp : Nat), .int .i64 (pn : Nat), .int .i64 (pz : Nat), .int .u32 (ps : Nat), .string pd]) (hit f 9) a' W' → K a' W') : if Region.wanted { dst := some 38, op := Go.Op.move (Go.Operand.tmp 10), type := 3, pos := pos, after := #[{ on := 5, ground := Go.Ground.guard }], guard := some (5, false) } (yielded ops a.tmps) = true then Oper.wp Tryd.prog { dst := some 38, op := Go.Op.move (Go.Operand.tmp 10), type := 3, pos := pos, after := #[{ on := 5, ground := Go.Ground.guard }], guard := some (5, false) } a W K Q else K (a.put (some 38) undef) W := by
  have hy : yielded ops a.tmps 5 = some m1 := yielded_of hgd (by rw [hI.size]; show 34 < 75; decide) (hI.val 5 (show (_ : Nat) < 33 by decide) h5)
  have hw : Region.wanted { dst := some 38, op := Go.Op.move (Go.Operand.tmp 10), type := 3, pos := pos, after := #[{ on := 5, ground := Go.Ground.guard }], guard := some (5, false) } (yielded ops a.tmps) = !m1 := by
    show (yielded ops a.tmps 5 == some false) = _
    rw [hy]
    cases m1 <;> rfl
  rcases Bool.eq_false_or_eq_true m1 with hM | hM
  · rw [hw, hM, if_neg (by simp)]
    exact hK _ _ (hI.step (i := 9) (show (_ : Nat) < 33 by decide) (show 29 + 33 ≤ 75 by decide) (if_pos hM) hI.held)
  · rw [hw, hM, if_pos (by decide)]
    have q : a.tmps[10]?.getD undef = .int .i64 (k : Int) := (hI.base 10 (.inl (show 10 < 29 by decide))).trans E.b10
    have R := Lib.hid (hI.step (i := 9) (show (_ : Nat) < 33 by decide) (show 29 + 33 ≤ 75 by decide) (if_neg (by rw [hM]; decide)) hI.held)
    clear hI E hw hy
    go_simp
    exact hK _ _ R.out

set_option maxRecDepth 100000 in
theorem rg_10 {w : World} {B g b X : Nat} {t : VS} {acc : List UInt8} {lab pl pd : ByteArray} {from_ k id n2 pb pi pp pn pz ps : Nat} {m1 m2 m3 m4 m5 : Bool} {base : Array Value} {f : Nat → Bool} {a : Act} {W : World} {K : Act → World → Prop} {Q : Exit → Act → World → Prop} {ops : Array Oper} (E : RgEnv w B g t b acc X lab pl pd from_ k id n2 pb pi pp pn pz ps m1 m2 m3 m4 m5 base) (hI : (rgTb lab pl from_ k id n2 pb pi pp pn pz m1 m2 m3 m4 m5 g X base).Inv (RdT w B g t b acc X #[.string pl, .int .i64 (pb : Nat), .int .u64 (pi : Nat), .int .i64 (pp : Nat), .int .i64 (pn : Nat), .int .i64 (pz : Nat), .int .u32 (ps : Nat), .string pd]) f a W) (h5 : f 5 = true) (h8 : f 8 = true) (h9 : f 9 = true) (hgd : (ops[5]?).bind (·.dst) = some 34) (pos : String) (hK : ∀ a' W', (rgTb lab pl from_ k id n2 pb pi pp pn pz m1 m2 m3 m4 m5 g X base).Inv (RdT w B g t b acc X #[.string pl, .int .i64 (pb : Nat), .int .u64 (pi : Nat), .int .i64 (pp : Nat), .int .i64 (pn : Nat), .int .i64 (pz : Nat), .int .u32 (ps : Nat), .string pd]) (hit f 10) a' W' → K a' W') : if Region.wanted { dst := some 39, op := Go.Op.binOp Go.BinOp.add 3 (Go.Operand.tmp 37) (Go.Operand.tmp 38) 3, type := 3, pos := pos, after := #[{ on := 8, ground := Go.Ground.data }, { on := 9, ground := Go.Ground.data }, { on := 5, ground := Go.Ground.guard }], guard := some (5, false) } (yielded ops a.tmps) = true then Oper.wp Tryd.prog { dst := some 39, op := Go.Op.binOp Go.BinOp.add 3 (Go.Operand.tmp 37) (Go.Operand.tmp 38) 3, type := 3, pos := pos, after := #[{ on := 8, ground := Go.Ground.data }, { on := 9, ground := Go.Ground.data }, { on := 5, ground := Go.Ground.guard }], guard := some (5, false) } a W K Q else K (a.put (some 39) undef) W := by
  have hy : yielded ops a.tmps 5 = some m1 := yielded_of hgd (by rw [hI.size]; show 34 < 75; decide) (hI.val 5 (show (_ : Nat) < 33 by decide) h5)
  have hw : Region.wanted { dst := some 39, op := Go.Op.binOp Go.BinOp.add 3 (Go.Operand.tmp 37) (Go.Operand.tmp 38) 3, type := 3, pos := pos, after := #[{ on := 8, ground := Go.Ground.data }, { on := 9, ground := Go.Ground.data }, { on := 5, ground := Go.Ground.guard }], guard := some (5, false) } (yielded ops a.tmps) = !m1 := by
    show (yielded ops a.tmps 5 == some false) = _
    rw [hy]
    cases m1 <;> rfl
  rcases Bool.eq_false_or_eq_true m1 with hM | hM
  · rw [hw, hM, if_neg (by simp)]
    exact hK _ _ (hI.step (i := 10) (show (_ : Nat) < 33 by decide) (show 29 + 33 ≤ 75 by decide) (if_pos hM) hI.held)
  · rw [hw, hM, if_pos (by decide)]
    have y0 : a.tmps[37]?.getD undef = .int .i64 (from_ : Int) := (hI.val 8 (show (_ : Nat) < 33 by decide) h8).trans (if_neg (by rw [hM]; decide))
    have y1 : a.tmps[38]?.getD undef = .int .i64 (k : Int) := (hI.val 9 (show (_ : Nat) < 33 by decide) h9).trans (if_neg (by rw [hM]; decide))
    have hs := E.sum
    have hsum : IntKind.i64.wrap ((from_ : Int) + (k : Int)) = (from_ : Int) + (k : Int) := by rw [IntKind.wrap_i64]; omega
    have R := Lib.hid (hI.step (i := 10) (show (_ : Nat) < 33 by decide) (show 29 + 33 ≤ 75 by decide) (if_neg (by rw [hM]; decide)) hI.held)
    clear hI E hw hy
    go_simp
    exact hK _ _ R.out

set_option maxRecDepth 100000 in
theorem rg_11 {w : World} {B g b X : Nat} {t : VS} {acc : List UInt8} {lab pl pd : ByteArray} {from_ k id n2 pb pi pp pn pz ps : Nat} {m1 m2 m3 m4 m5 : Bool} {base : Array Value} {f : Nat → Bool} {a : Act} {W : World} {K : Act → World → Prop} {Q : Exit → Act → World → Prop} {ops : Array Oper} (E : RgEnv w B g t b acc X lab pl pd from_ k id n2 pb pi pp pn pz ps m1 m2 m3 m4 m5 base) (hI : (rgTb lab pl from_ k id n2 pb pi pp pn pz m1 m2 m3 m4 m5 g X base).Inv (RdT w B g t b acc X #[.string pl, .int .i64 (pb : Nat), .int .u64 (pi : Nat), .int .i64 (pp : Nat), .int .i64 (pn : Nat), .int .i64 (pz : Nat), .int .u32 (ps : Nat), .string pd]) f a W) (h5 : f 5 = true) (h7 : f 7 = true) (h10 : f 10 = true) (hgd : (ops[5]?).bind (·.dst) = some 34) (pos : String) (hK : ∀ a' W', (rgTb lab pl from_ k id n2 pb pi pp pn pz m1 m2 m3 m4 m5 g X base).Inv (RdT w B g t b acc X #[.string pl, .int .i64 (pb : Nat), .int .u64 (pi : Nat), .int .i64 (pp : Nat), .int .i64 (pn : Nat), .int .i64 (pz : Nat), .int .u32 (ps : Nat), .string pd]) (hit f 11) a' W' → K a' W') : if Region.wanted { dst := some 40, op := Go.Op.binOp Go.BinOp.neq 3 (Go.Operand.tmp 36) (Go.Operand.tmp 39) 3, type := 4, pos := pos, after := #[{ on := 7, ground := Go.Ground.data }, { on := 10, ground := Go.Ground.data }, { on := 5, ground := Go.Ground.guard }], guard := some (5, false) } (yielded ops a.tmps) = true then Oper.wp Tryd.prog { dst := some 40, op := Go.Op.binOp Go.BinOp.neq 3 (Go.Operand.tmp 36) (Go.Operand.tmp 39) 3, type := 4, pos := pos, after := #[{ on := 7, ground := Go.Ground.data }, { on := 10, ground := Go.Ground.data }, { on := 5, ground := Go.Ground.guard }], guard := some (5, false) } a W K Q else K (a.put (some 40) undef) W := by
  have hy : yielded ops a.tmps 5 = some m1 := yielded_of hgd (by rw [hI.size]; show 34 < 75; decide) (hI.val 5 (show (_ : Nat) < 33 by decide) h5)
  have hw : Region.wanted { dst := some 40, op := Go.Op.binOp Go.BinOp.neq 3 (Go.Operand.tmp 36) (Go.Operand.tmp 39) 3, type := 4, pos := pos, after := #[{ on := 7, ground := Go.Ground.data }, { on := 10, ground := Go.Ground.data }, { on := 5, ground := Go.Ground.guard }], guard := some (5, false) } (yielded ops a.tmps) = !m1 := by
    show (yielded ops a.tmps 5 == some false) = _
    rw [hy]
    cases m1 <;> rfl
  rcases Bool.eq_false_or_eq_true m1 with hM | hM
  · rw [hw, hM, if_neg (by simp)]
    exact hK _ _ (hI.step (i := 11) (show (_ : Nat) < 33 by decide) (show 29 + 33 ≤ 75 by decide) (if_pos hM) hI.held)
  · rw [hw, hM, if_pos (by decide)]
    have y0 : a.tmps[36]?.getD undef = .int .i64 (pb : Nat) := (hI.val 7 (show (_ : Nat) < 33 by decide) h7).trans (if_neg (by rw [hM]; decide))
    have y1 : a.tmps[39]?.getD undef = .int .i64 ((from_ : Int) + (k : Int)) := (hI.val 10 (show (_ : Nat) < 33 by decide) h10).trans (if_neg (by rw [hM]; decide))
    have qq := E.q2
    have R := Lib.hid (hI.step (i := 11) (show (_ : Nat) < 33 by decide) (show 29 + 33 ≤ 75 by decide) (if_neg (by rw [hM]; decide)) hI.held)
    clear hI E hw hy
    go_simp
    exact hK _ _ R.out

set_option maxRecDepth 100000 in
theorem rg_12 {w : World} {B g b X : Nat} {t : VS} {acc : List UInt8} {lab pl pd : ByteArray} {from_ k id n2 pb pi pp pn pz ps : Nat} {m1 m2 m3 m4 m5 : Bool} {base : Array Value} {f : Nat → Bool} {a : Act} {W : World} {K : Act → World → Prop} {Q : Exit → Act → World → Prop} {ops : Array Oper} (E : RgEnv w B g t b acc X lab pl pd from_ k id n2 pb pi pp pn pz ps m1 m2 m3 m4 m5 base) (hI : (rgTb lab pl from_ k id n2 pb pi pp pn pz m1 m2 m3 m4 m5 g X base).Inv (RdT w B g t b acc X #[.string pl, .int .i64 (pb : Nat), .int .u64 (pi : Nat), .int .i64 (pp : Nat), .int .i64 (pn : Nat), .int .i64 (pz : Nat), .int .u32 (ps : Nat), .string pd]) f a W) (h5 : f 5 = true) (h11 : f 11 = true) (pos : String) (hK : ∀ a' W', (rgTb lab pl from_ k id n2 pb pi pp pn pz m1 m2 m3 m4 m5 g X base).Inv (RdT w B g t b acc X #[.string pl, .int .i64 (pb : Nat), .int .u64 (pi : Nat), .int .i64 (pp : Nat), .int .i64 (pn : Nat), .int .i64 (pz : Nat), .int .u32 (ps : Nat), .string pd]) (hit f 12) a' W' → K a' W') : if Region.wanted { dst := some 41, op := Go.Op.pick (Go.Operand.tmp 34) (Go.Operand.const (Go.Value.bool true)) (Go.Operand.tmp 40), type := 4, pos := pos, after := #[{ on := 5, ground := Go.Ground.data }, { on := 11, ground := Go.Ground.data }], guard := none } (yielded ops a.tmps) = true then Oper.wp Tryd.prog { dst := some 41, op := Go.Op.pick (Go.Operand.tmp 34) (Go.Operand.const (Go.Value.bool true)) (Go.Operand.tmp 40), type := 4, pos := pos, after := #[{ on := 5, ground := Go.Ground.data }, { on := 11, ground := Go.Ground.data }], guard := none } a W K Q else K (a.put (some 41) undef) W := by
  have y0 : a.tmps[34]?.getD undef = .bool m1 := hI.val 5 (show (_ : Nat) < 33 by decide) h5
  rcases Bool.eq_false_or_eq_true m1 with hM | hM
  · have R := Lib.hid (hI.step (i := 12) (v := .bool true) (show (_ : Nat) < 33 by decide) (show 29 + 33 ≤ 75 by decide) (show Value.bool (m1 || m2) = .bool true by rw [hM]; rfl) hI.held)
    rw [hM] at y0
    clear hI E
    go_simp
    exact hK _ _ R.out
  · have y1 : a.tmps[40]?.getD undef = .bool m2 := (hI.val 11 (show (_ : Nat) < 33 by decide) h11).trans (if_neg (by rw [hM]; decide))
    have R := Lib.hid (hI.step (i := 12) (v := .bool m2) (show (_ : Nat) < 33 by decide) (show 29 + 33 ≤ 75 by decide) (show Value.bool (m1 || m2) = .bool m2 by rw [hM]; rfl) hI.held)
    rw [hM] at y0
    clear hI E hM
    go_simp
    exact hK _ _ R.out

set_option maxRecDepth 100000 in
theorem rg_13 {w : World} {B g b X : Nat} {t : VS} {acc : List UInt8} {lab pl pd : ByteArray} {from_ k id n2 pb pi pp pn pz ps : Nat} {m1 m2 m3 m4 m5 : Bool} {base : Array Value} {f : Nat → Bool} {a : Act} {W : World} {K : Act → World → Prop} {Q : Exit → Act → World → Prop} {ops : Array Oper} (E : RgEnv w B g t b acc X lab pl pd from_ k id n2 pb pi pp pn pz ps m1 m2 m3 m4 m5 base) (hI : (rgTb lab pl from_ k id n2 pb pi pp pn pz m1 m2 m3 m4 m5 g X base).Inv (RdT w B g t b acc X #[.string pl, .int .i64 (pb : Nat), .int .u64 (pi : Nat), .int .i64 (pp : Nat), .int .i64 (pn : Nat), .int .i64 (pz : Nat), .int .u32 (ps : Nat), .string pd]) f a W) (h5 : f 5 = true) (h12 : f 12 = true) (pos : String) (hK : ∀ a' W', (rgTb lab pl from_ k id n2 pb pi pp pn pz m1 m2 m3 m4 m5 g X base).Inv (RdT w B g t b acc X #[.string pl, .int .i64 (pb : Nat), .int .u64 (pi : Nat), .int .i64 (pp : Nat), .int .i64 (pn : Nat), .int .i64 (pz : Nat), .int .u32 (ps : Nat), .string pd]) (hit f 13) a' W' → K a' W') : if Region.wanted { dst := some 42, op := Go.Op.move (Go.Operand.tmp 41), type := 4, pos := pos, after := #[{ on := 12, ground := Go.Ground.data }, { on := 5, ground := Go.Ground.chain }], guard := none } (yielded ops a.tmps) = true then Oper.wp Tryd.prog { dst := some 42, op := Go.Op.move (Go.Operand.tmp 41), type := 4, pos := pos, after := #[{ on := 12, ground := Go.Ground.data }, { on := 5, ground := Go.Ground.chain }], guard := none } a W K Q else K (a.put (some 42) undef) W := by
  have y0 : a.tmps[41]?.getD undef = .bool (m1 || m2) := (hI.val 12 (show (_ : Nat) < 33 by decide) h12)
  have R := Lib.hid (hI.step (i := 13) (show (_ : Nat) < 33 by decide) (show 29 + 33 ≤ 75 by decide) rfl hI.held)
  clear hI E
  go_simp
  exact hK _ _ R.out

set_option maxRecDepth 100000 in
theorem rg_14 {w : World} {B g b X : Nat} {t : VS} {acc : List UInt8} {lab pl pd : ByteArray} {from_ k id n2 pb pi pp pn pz ps : Nat} {m1 m2 m3 m4 m5 : Bool} {base : Array Value} {f : Nat → Bool} {a : Act} {W : World} {K : Act → World → Prop} {Q : Exit → Act → World → Prop} {ops : Array Oper} (E : RgEnv w B g t b acc X lab pl pd from_ k id n2 pb pi pp pn pz ps m1 m2 m3 m4 m5 base) (hI : (rgTb lab pl from_ k id n2 pb pi pp pn pz m1 m2 m3 m4 m5 g X base).Inv (RdT w B g t b acc X #[.string pl, .int .i64 (pb : Nat), .int .u64 (pi : Nat), .int .i64 (pp : Nat), .int .i64 (pn : Nat), .int .i64 (pz : Nat), .int .u32 (ps : Nat), .string pd]) f a W) (h13 : f 13 = true) (hgd : (ops[13]?).bind (·.dst) = some 42) (pos : String) (hK : ∀ a' W', (rgTb lab pl from_ k id n2 pb pi pp pn pz m1 m2 m3 m4 m5 g X base).Inv (RdT w B g t b acc X #[.string pl, .int .i64 (pb : Nat), .int .u64 (pi : Nat), .int .i64 (pp : Nat), .int .i64 (pn : Nat), .int .i64 (pz : Nat), .int .u32 (ps : Nat), .string pd]) (hit f 14) a' W' → K a' W') : if Region.wanted { dst := some 43, op := Go.Op.fieldAddr 78 (Go.Operand.tmp 11) 2, type := 0, pos := pos, after := #[{ on := 13, ground := Go.Ground.guard }], guard := some (13, false) } (yielded ops a.tmps) = true then Oper.wp Tryd.prog { dst := some 43, op := Go.Op.fieldAddr 78 (Go.Operand.tmp 11) 2, type := 0, pos := pos, after := #[{ on := 13, ground := Go.Ground.guard }], guard := some (13, false) } a W K Q else K (a.put (some 43) undef) W := by
  have hy : yielded ops a.tmps 13 = some (m1 || m2) := yielded_of hgd (by rw [hI.size]; show 42 < 75; decide) (hI.val 13 (show (_ : Nat) < 33 by decide) h13)
  have hw : Region.wanted { dst := some 43, op := Go.Op.fieldAddr 78 (Go.Operand.tmp 11) 2, type := 0, pos := pos, after := #[{ on := 13, ground := Go.Ground.guard }], guard := some (13, false) } (yielded ops a.tmps) = !(m1 || m2) := by
    show (yielded ops a.tmps 13 == some false) = _
    rw [hy]
    cases (m1 || m2) <;> rfl
  rcases Bool.eq_false_or_eq_true (m1 || m2) with hM | hM
  · rw [hw, hM, if_neg (by simp)]
    exact hK _ _ (hI.step (i := 14) (show (_ : Nat) < 33 by decide) (show 29 + 33 ≤ 75 by decide) (if_pos hM) hI.held)
  · rw [hw, hM, if_pos (by decide)]
    have q : a.tmps[11]?.getD undef = .pointer (some ⟨X, 0, none⟩) := (hI.base 11 (.inl (show 11 < 29 by decide))).trans E.b11
    have R := Lib.hid (hI.step (i := 14) (show (_ : Nat) < 33 by decide) (show 29 + 33 ≤ 75 by decide) (if_neg (by rw [hM]; decide)) hI.held)
    clear hI E hw hy
    go_simp
    exact hK _ _ R.out

set_option maxRecDepth 100000 in
theorem rg_15 {w : World} {B g b X : Nat} {t : VS} {acc : List UInt8} {lab pl pd : ByteArray} {from_ k id n2 pb pi pp pn pz ps : Nat} {m1 m2 m3 m4 m5 : Bool} {base : Array Value} {f : Nat → Bool} {a : Act} {W : World} {K : Act → World → Prop} {Q : Exit → Act → World → Prop} {ops : Array Oper} (E : RgEnv w B g t b acc X lab pl pd from_ k id n2 pb pi pp pn pz ps m1 m2 m3 m4 m5 base) (hI : (rgTb lab pl from_ k id n2 pb pi pp pn pz m1 m2 m3 m4 m5 g X base).Inv (RdT w B g t b acc X #[.string pl, .int .i64 (pb : Nat), .int .u64 (pi : Nat), .int .i64 (pp : Nat), .int .i64 (pn : Nat), .int .i64 (pz : Nat), .int .u32 (ps : Nat), .string pd]) f a W) (h13 : f 13 = true) (h14 : f 14 = true) (hgd : (ops[13]?).bind (·.dst) = some 42) (pos : String) (hK : ∀ a' W', (rgTb lab pl from_ k id n2 pb pi pp pn pz m1 m2 m3 m4 m5 g X base).Inv (RdT w B g t b acc X #[.string pl, .int .i64 (pb : Nat), .int .u64 (pi : Nat), .int .i64 (pp : Nat), .int .i64 (pn : Nat), .int .i64 (pz : Nat), .int .u32 (ps : Nat), .string pd]) (hit f 15) a' W' → K a' W') : if Region.wanted { dst := some 44, op := Go.Op.load 30 (Go.Operand.tmp 43), type := 30, pos := pos, after := #[{ on := 14, ground := Go.Ground.data }, { on := 13, ground := Go.Ground.guard }], guard := some (13, false) } (yielded ops a.tmps) = true then Oper.wp Tryd.prog { dst := some 44, op := Go.Op.load 30 (Go.Operand.tmp 43), type := 30, pos := pos, after := #[{ on := 14, ground := Go.Ground.data }, { on := 13, ground := Go.Ground.guard }], guard := some (13, false) } a W K Q else K (a.put (some 44) undef) W := by
  have hy : yielded ops a.tmps 13 = some (m1 || m2) := yielded_of hgd (by rw [hI.size]; show 42 < 75; decide) (hI.val 13 (show (_ : Nat) < 33 by decide) h13)
  have hw : Region.wanted { dst := some 44, op := Go.Op.load 30 (Go.Operand.tmp 43), type := 30, pos := pos, after := #[{ on := 14, ground := Go.Ground.data }, { on := 13, ground := Go.Ground.guard }], guard := some (13, false) } (yielded ops a.tmps) = !(m1 || m2) := by
    show (yielded ops a.tmps 13 == some false) = _
    rw [hy]
    cases (m1 || m2) <;> rfl
  rcases Bool.eq_false_or_eq_true (m1 || m2) with hM | hM
  · rw [hw, hM, if_neg (by simp)]
    exact hK _ _ (hI.step (i := 15) (show (_ : Nat) < 33 by decide) (show 29 + 33 ≤ 75 by decide) (if_pos hM) hI.held)
  · rw [hw, hM, if_pos (by decide)]
    have q : a.tmps[43]?.getD undef = .pointer (some ⟨X, 2, none⟩) := (hI.val 14 (show (_ : Nat) < 33 by decide) h14).trans (if_neg (by rw [hM]; decide))
    have c : W.cell? ⟨X, 2, none⟩ = some (.int .u64 (pi : Nat)) := hI.held.at_.cell 2
    have R := Lib.hid (hI.step (i := 15) (show (_ : Nat) < 33 by decide) (show 29 + 33 ≤ 75 by decide) (if_neg (by rw [hM]; decide)) hI.held)
    clear hI E hw hy
    go_simp
    exact hK _ _ R.out

set_option maxRecDepth 100000 in
theorem rg_16 {w : World} {B g b X : Nat} {t : VS} {acc : List UInt8} {lab pl pd : ByteArray} {from_ k id n2 pb pi pp pn pz ps : Nat} {m1 m2 m3 m4 m5 : Bool} {base : Array Value} {f : Nat → Bool} {a : Act} {W : World} {K : Act → World → Prop} {Q : Exit → Act → World → Prop} {ops : Array Oper} (E : RgEnv w B g t b acc X lab pl pd from_ k id n2 pb pi pp pn pz ps m1 m2 m3 m4 m5 base) (hI : (rgTb lab pl from_ k id n2 pb pi pp pn pz m1 m2 m3 m4 m5 g X base).Inv (RdT w B g t b acc X #[.string pl, .int .i64 (pb : Nat), .int .u64 (pi : Nat), .int .i64 (pp : Nat), .int .i64 (pn : Nat), .int .i64 (pz : Nat), .int .u32 (ps : Nat), .string pd]) f a W) (h13 : f 13 = true) (hgd : (ops[13]?).bind (·.dst) = some 42) (pos : String) (hK : ∀ a' W', (rgTb lab pl from_ k id n2 pb pi pp pn pz m1 m2 m3 m4 m5 g X base).Inv (RdT w B g t b acc X #[.string pl, .int .i64 (pb : Nat), .int .u64 (pi : Nat), .int .i64 (pp : Nat), .int .i64 (pn : Nat), .int .i64 (pz : Nat), .int .u32 (ps : Nat), .string pd]) (hit f 16) a' W' → K a' W') : if Region.wanted { dst := some 45, op := Go.Op.move (Go.Operand.tmp 2), type := 30, pos := pos, after := #[{ on := 13, ground := Go.Ground.guard }], guard := some (13, false) } (yielded ops a.tmps) = true then Oper.wp Tryd.prog { dst := some 45, op := Go.Op.move (Go.Operand.tmp 2), type := 30, pos := pos, after := #[{ on := 13, ground := Go.Ground.guard }], guard := some (13, false) } a W K Q else K (a.put (some 45) undef) W := by
  have hy : yielded ops a.tmps 13 = some (m1 || m2) := yielded_of hgd (by rw [hI.size]; show 42 < 75; decide) (hI.val 13 (show (_ : Nat) < 33 by decide) h13)
  have hw : Region.wanted { dst := some 45, op := Go.Op.move (Go.Operand.tmp 2), type := 30, pos := pos, after := #[{ on := 13, ground := Go.Ground.guard }], guard := some (13, false) } (yielded ops a.tmps) = !(m1 || m2) := by
    show (yielded ops a.tmps 13 == some false) = _
    rw [hy]
    cases (m1 || m2) <;> rfl
  rcases Bool.eq_false_or_eq_true (m1 || m2) with hM | hM
  · rw [hw, hM, if_neg (by simp)]
    exact hK _ _ (hI.step (i := 16) (show (_ : Nat) < 33 by decide) (show 29 + 33 ≤ 75 by decide) (if_pos hM) hI.held)
  · rw [hw, hM, if_pos (by decide)]
    have q : a.tmps[2]?.getD undef = .int .u64 (id : Int) := (hI.base 2 (.inl (show 2 < 29 by decide))).trans E.b2
    have R := Lib.hid (hI.step (i := 16) (show (_ : Nat) < 33 by decide) (show 29 + 33 ≤ 75 by decide) (if_neg (by rw [hM]; decide)) hI.held)
    clear hI E hw hy
    go_simp
    exact hK _ _ R.out

set_option maxRecDepth 100000 in
theorem rg_17 {w : World} {B g b X : Nat} {t : VS} {acc : List UInt8} {lab pl pd : ByteArray} {from_ k id n2 pb pi pp pn pz ps : Nat} {m1 m2 m3 m4 m5 : Bool} {base : Array Value} {f : Nat → Bool} {a : Act} {W : World} {K : Act → World → Prop} {Q : Exit → Act → World → Prop} {ops : Array Oper} (E : RgEnv w B g t b acc X lab pl pd from_ k id n2 pb pi pp pn pz ps m1 m2 m3 m4 m5 base) (hI : (rgTb lab pl from_ k id n2 pb pi pp pn pz m1 m2 m3 m4 m5 g X base).Inv (RdT w B g t b acc X #[.string pl, .int .i64 (pb : Nat), .int .u64 (pi : Nat), .int .i64 (pp : Nat), .int .i64 (pn : Nat), .int .i64 (pz : Nat), .int .u32 (ps : Nat), .string pd]) f a W) (h13 : f 13 = true) (h15 : f 15 = true) (h16 : f 16 = true) (hgd : (ops[13]?).bind (·.dst) = some 42) (pos : String) (hK : ∀ a' W', (rgTb lab pl from_ k id n2 pb pi pp pn pz m1 m2 m3 m4 m5 g X base).Inv (RdT w B g t b acc X #[.string pl, .int .i64 (pb : Nat), .int .u64 (pi : Nat), .int .i64 (pp : Nat), .int .i64 (pn : Nat), .int .i64 (pz : Nat), .int .u32 (ps : Nat), .string pd]) (hit f 17) a' W' → K a' W') : if Region.wanted { dst := some 46, op := Go.Op.binOp Go.BinOp.neq 30 (Go.Operand.tmp 44) (Go.Operand.tmp 45) 30, type := 4, pos := pos, after := #[{ on := 15, ground := Go.Ground.data }, { on := 16, ground := Go.Ground.data }, { on := 13, ground := Go.Ground.guard }], guard := some (13, false) } (yielded ops a.tmps) = true then Oper.wp Tryd.prog { dst := some 46, op := Go.Op.binOp Go.BinOp.neq 30 (Go.Operand.tmp 44) (Go.Operand.tmp 45) 30, type := 4, pos := pos, after := #[{ on := 15, ground := Go.Ground.data }, { on := 16, ground := Go.Ground.data }, { on := 13, ground := Go.Ground.guard }], guard := some (13, false) } a W K Q else K (a.put (some 46) undef) W := by
  have hy : yielded ops a.tmps 13 = some (m1 || m2) := yielded_of hgd (by rw [hI.size]; show 42 < 75; decide) (hI.val 13 (show (_ : Nat) < 33 by decide) h13)
  have hw : Region.wanted { dst := some 46, op := Go.Op.binOp Go.BinOp.neq 30 (Go.Operand.tmp 44) (Go.Operand.tmp 45) 30, type := 4, pos := pos, after := #[{ on := 15, ground := Go.Ground.data }, { on := 16, ground := Go.Ground.data }, { on := 13, ground := Go.Ground.guard }], guard := some (13, false) } (yielded ops a.tmps) = !(m1 || m2) := by
    show (yielded ops a.tmps 13 == some false) = _
    rw [hy]
    cases (m1 || m2) <;> rfl
  rcases Bool.eq_false_or_eq_true (m1 || m2) with hM | hM
  · rw [hw, hM, if_neg (by simp)]
    exact hK _ _ (hI.step (i := 17) (show (_ : Nat) < 33 by decide) (show 29 + 33 ≤ 75 by decide) (if_pos hM) hI.held)
  · rw [hw, hM, if_pos (by decide)]
    have y0 : a.tmps[44]?.getD undef = .int .u64 (pi : Nat) := (hI.val 15 (show (_ : Nat) < 33 by decide) h15).trans (if_neg (by rw [hM]; decide))
    have y1 : a.tmps[45]?.getD undef = .int .u64 (id : Int) := (hI.val 16 (show (_ : Nat) < 33 by decide) h16).trans (if_neg (by rw [hM]; decide))
    have qq := E.q3
    have qn := (nat_bne _ _).trans E.q3
    have R := Lib.hid (hI.step (i := 17) (show (_ : Nat) < 33 by decide) (show 29 + 33 ≤ 75 by decide) (if_neg (by rw [hM]; decide)) hI.held)
    clear hI E hw hy
    go_simp
    exact hK _ _ R.out

set_option maxRecDepth 100000 in
theorem rg_18 {w : World} {B g b X : Nat} {t : VS} {acc : List UInt8} {lab pl pd : ByteArray} {from_ k id n2 pb pi pp pn pz ps : Nat} {m1 m2 m3 m4 m5 : Bool} {base : Array Value} {f : Nat → Bool} {a : Act} {W : World} {K : Act → World → Prop} {Q : Exit → Act → World → Prop} {ops : Array Oper} (E : RgEnv w B g t b acc X lab pl pd from_ k id n2 pb pi pp pn pz ps m1 m2 m3 m4 m5 base) (hI : (rgTb lab pl from_ k id n2 pb pi pp pn pz m1 m2 m3 m4 m5 g X base).Inv (RdT w B g t b acc X #[.string pl, .int .i64 (pb : Nat), .int .u64 (pi : Nat), .int .i64 (pp : Nat), .int .i64 (pn : Nat), .int .i64 (pz : Nat), .int .u32 (ps : Nat), .string pd]) f a W) (h13 : f 13 = true) (h17 : f 17 = true) (pos : String) (hK : ∀ a' W', (rgTb lab pl from_ k id n2 pb pi pp pn pz m1 m2 m3 m4 m5 g X base).Inv (RdT w B g t b acc X #[.string pl, .int .i64 (pb : Nat), .int .u64 (pi : Nat), .int .i64 (pp : Nat), .int .i64 (pn : Nat), .int .i64 (pz : Nat), .int .u32 (ps : Nat), .string pd]) (hit f 18) a' W' → K a' W') : if Region.wanted { dst := some 47, op := Go.Op.pick (Go.Operand.tmp 42) (Go.Operand.const (Go.Value.bool true)) (Go.Operand.tmp 46), type := 4, pos := pos, after := #[{ on := 13, ground := Go.Ground.data }, { on := 17, ground := Go.Ground.data }], guard := none } (yielded ops a.tmps) = true then Oper.wp Tryd.prog { dst := some 47, op := Go.Op.pick (Go.Operand.tmp 42) (Go.Operand.const (Go.Value.bool true)) (Go.Operand.tmp 46), type := 4, pos := pos, after := #[{ on := 13, ground := Go.Ground.data }, { on := 17, ground := Go.Ground.data }], guard := none } a W K Q else K (a.put (some 47) undef) W := by
  have y0 : a.tmps[42]?.getD undef = .bool (m1 || m2) := hI.val 13 (show (_ : Nat) < 33 by decide) h13
  rcases Bool.eq_false_or_eq_true (m1 || m2) with hM | hM
  · have R := Lib.hid (hI.step (i := 18) (v := .bool true) (show (_ : Nat) < 33 by decide) (show 29 + 33 ≤ 75 by decide) (show Value.bool (m1 || m2 || m3) = .bool true by rw [hM]; rfl) hI.held)
    rw [hM] at y0
    clear hI E
    go_simp
    exact hK _ _ R.out
  · have y1 : a.tmps[46]?.getD undef = .bool m3 := (hI.val 17 (show (_ : Nat) < 33 by decide) h17).trans (if_neg (by rw [hM]; decide))
    have R := Lib.hid (hI.step (i := 18) (v := .bool m3) (show (_ : Nat) < 33 by decide) (show 29 + 33 ≤ 75 by decide) (show Value.bool (m1 || m2 || m3) = .bool m3 by rw [hM]; rfl) hI.held)
    rw [hM] at y0
    clear hI E hM
    go_simp
    exact hK _ _ R.out

set_option maxRecDepth 100000 in
theorem rg_19 {w : World} {B g b X : Nat} {t : VS} {acc : List UInt8} {lab pl pd : ByteArray} {from_ k id n2 pb pi pp pn pz ps : Nat} {m1 m2 m3 m4 m5 : Bool} {base : Array Value} {f : Nat → Bool} {a : Act} {W : World} {K : Act → World → Prop} {Q : Exit → Act → World → Prop} {ops : Array Oper} (E : RgEnv w B g t b acc X lab pl pd from_ k id n2 pb pi pp pn pz ps m1 m2 m3 m4 m5 base) (hI : (rgTb lab pl from_ k id n2 pb pi pp pn pz m1 m2 m3 m4 m5 g X base).Inv (RdT w B g t b acc X #[.string pl, .int .i64 (pb : Nat), .int .u64 (pi : Nat), .int .i64 (pp : Nat), .int .i64 (pn : Nat), .int .i64 (pz : Nat), .int .u32 (ps : Nat), .string pd]) f a W) (h13 : f 13 = true) (h18 : f 18 = true) (pos : String) (hK : ∀ a' W', (rgTb lab pl from_ k id n2 pb pi pp pn pz m1 m2 m3 m4 m5 g X base).Inv (RdT w B g t b acc X #[.string pl, .int .i64 (pb : Nat), .int .u64 (pi : Nat), .int .i64 (pp : Nat), .int .i64 (pn : Nat), .int .i64 (pz : Nat), .int .u32 (ps : Nat), .string pd]) (hit f 19) a' W' → K a' W') : if Region.wanted { dst := some 48, op := Go.Op.move (Go.Operand.tmp 47), type := 4, pos := pos, after := #[{ on := 18, ground := Go.Ground.data }, { on := 13, ground := Go.Ground.chain }], guard := none } (yielded ops a.tmps) = true then Oper.wp Tryd.prog { dst := some 48, op := Go.Op.move (Go.Operand.tmp 47), type := 4, pos := pos, after := #[{ on := 18, ground := Go.Ground.data }, { on := 13, ground := Go.Ground.chain }], guard := none } a W K Q else K (a.put (some 48) undef) W := by
  have y0 : a.tmps[47]?.getD undef = .bool (m1 || m2 || m3) := (hI.val 18 (show (_ : Nat) < 33 by decide) h18)
  have R := Lib.hid (hI.step (i := 19) (show (_ : Nat) < 33 by decide) (show 29 + 33 ≤ 75 by decide) rfl hI.held)
  clear hI E
  go_simp
  exact hK _ _ R.out

set_option maxRecDepth 100000 in
theorem rg_20 {w : World} {B g b X : Nat} {t : VS} {acc : List UInt8} {lab pl pd : ByteArray} {from_ k id n2 pb pi pp pn pz ps : Nat} {m1 m2 m3 m4 m5 : Bool} {base : Array Value} {f : Nat → Bool} {a : Act} {W : World} {K : Act → World → Prop} {Q : Exit → Act → World → Prop} {ops : Array Oper} (E : RgEnv w B g t b acc X lab pl pd from_ k id n2 pb pi pp pn pz ps m1 m2 m3 m4 m5 base) (hI : (rgTb lab pl from_ k id n2 pb pi pp pn pz m1 m2 m3 m4 m5 g X base).Inv (RdT w B g t b acc X #[.string pl, .int .i64 (pb : Nat), .int .u64 (pi : Nat), .int .i64 (pp : Nat), .int .i64 (pn : Nat), .int .i64 (pz : Nat), .int .u32 (ps : Nat), .string pd]) f a W) (h19 : f 19 = true) (hgd : (ops[19]?).bind (·.dst) = some 48) (pos : String) (hK : ∀ a' W', (rgTb lab pl from_ k id n2 pb pi pp pn pz m1 m2 m3 m4 m5 g X base).Inv (RdT w B g t b acc X #[.string pl, .int .i64 (pb : Nat), .int .u64 (pi : Nat), .int .i64 (pp : Nat), .int .i64 (pn : Nat), .int .i64 (pz : Nat), .int .u32 (ps : Nat), .string pd]) (hit f 20) a' W' → K a' W') : if Region.wanted { dst := some 49, op := Go.Op.fieldAddr 78 (Go.Operand.tmp 11) 3, type := 0, pos := pos, after := #[{ on := 19, ground := Go.Ground.guard }], guard := some (19, false) } (yielded ops a.tmps) = true then Oper.wp Tryd.prog { dst := some 49, op := Go.Op.fieldAddr 78 (Go.Operand.tmp 11) 3, type := 0, pos := pos, after := #[{ on := 19, ground := Go.Ground.guard }], guard := some (19, false) } a W K Q else K (a.put (some 49) undef) W := by
  have hy : yielded ops a.tmps 19 = some (m1 || m2 || m3) := yielded_of hgd (by rw [hI.size]; show 48 < 75; decide) (hI.val 19 (show (_ : Nat) < 33 by decide) h19)
  have hw : Region.wanted { dst := some 49, op := Go.Op.fieldAddr 78 (Go.Operand.tmp 11) 3, type := 0, pos := pos, after := #[{ on := 19, ground := Go.Ground.guard }], guard := some (19, false) } (yielded ops a.tmps) = !(m1 || m2 || m3) := by
    show (yielded ops a.tmps 19 == some false) = _
    rw [hy]
    cases (m1 || m2 || m3) <;> rfl
  rcases Bool.eq_false_or_eq_true (m1 || m2 || m3) with hM | hM
  · rw [hw, hM, if_neg (by simp)]
    exact hK _ _ (hI.step (i := 20) (show (_ : Nat) < 33 by decide) (show 29 + 33 ≤ 75 by decide) (if_pos hM) hI.held)
  · rw [hw, hM, if_pos (by decide)]
    have q : a.tmps[11]?.getD undef = .pointer (some ⟨X, 0, none⟩) := (hI.base 11 (.inl (show 11 < 29 by decide))).trans E.b11
    have R := Lib.hid (hI.step (i := 20) (show (_ : Nat) < 33 by decide) (show 29 + 33 ≤ 75 by decide) (if_neg (by rw [hM]; decide)) hI.held)
    clear hI E hw hy
    go_simp
    exact hK _ _ R.out

set_option maxRecDepth 100000 in
theorem rg_21 {w : World} {B g b X : Nat} {t : VS} {acc : List UInt8} {lab pl pd : ByteArray} {from_ k id n2 pb pi pp pn pz ps : Nat} {m1 m2 m3 m4 m5 : Bool} {base : Array Value} {f : Nat → Bool} {a : Act} {W : World} {K : Act → World → Prop} {Q : Exit → Act → World → Prop} {ops : Array Oper} (E : RgEnv w B g t b acc X lab pl pd from_ k id n2 pb pi pp pn pz ps m1 m2 m3 m4 m5 base) (hI : (rgTb lab pl from_ k id n2 pb pi pp pn pz m1 m2 m3 m4 m5 g X base).Inv (RdT w B g t b acc X #[.string pl, .int .i64 (pb : Nat), .int .u64 (pi : Nat), .int .i64 (pp : Nat), .int .i64 (pn : Nat), .int .i64 (pz : Nat), .int .u32 (ps : Nat), .string pd]) f a W) (h19 : f 19 = true) (h20 : f 20 = true) (hgd : (ops[19]?).bind (·.dst) = some 48) (pos : String) (hK : ∀ a' W', (rgTb lab pl from_ k id n2 pb pi pp pn pz m1 m2 m3 m4 m5 g X base).Inv (RdT w B g t b acc X #[.string pl, .int .i64 (pb : Nat), .int .u64 (pi : Nat), .int .i64 (pp : Nat), .int .i64 (pn : Nat), .int .i64 (pz : Nat), .int .u32 (ps : Nat), .string pd]) (hit f 21) a' W' → K a' W') : if Region.wanted { dst := some 50, op := Go.Op.load 3 (Go.Operand.tmp 49), type := 3, pos := pos, after := #[{ on := 20, ground := Go.Ground.data }, { on := 19, ground := Go.Ground.guard }], guard := some (19, false) } (yielded ops a.tmps) = true then Oper.wp Tryd.prog { dst := some 50, op := Go.Op.load 3 (Go.Operand.tmp 49), type := 3, pos := pos, after := #[{ on := 20, ground := Go.Ground.data }, { on := 19, ground := Go.Ground.guard }], guard := some (19, false) } a W K Q else K (a.put (some 50) undef) W := by
  have hy : yielded ops a.tmps 19 = some (m1 || m2 || m3) := yielded_of hgd (by rw [hI.size]; show 48 < 75; decide) (hI.val 19 (show (_ : Nat) < 33 by decide) h19)
  have hw : Region.wanted { dst := some 50, op := Go.Op.load 3 (Go.Operand.tmp 49), type := 3, pos := pos, after := #[{ on := 20, ground := Go.Ground.data }, { on := 19, ground := Go.Ground.guard }], guard := some (19, false) } (yielded ops a.tmps) = !(m1 || m2 || m3) := by
    show (yielded ops a.tmps 19 == some false) = _
    rw [hy]
    cases (m1 || m2 || m3) <;> rfl
  rcases Bool.eq_false_or_eq_true (m1 || m2 || m3) with hM | hM
  · rw [hw, hM, if_neg (by simp)]
    exact hK _ _ (hI.step (i := 21) (show (_ : Nat) < 33 by decide) (show 29 + 33 ≤ 75 by decide) (if_pos hM) hI.held)
  · rw [hw, hM, if_pos (by decide)]
    have q : a.tmps[49]?.getD undef = .pointer (some ⟨X, 3, none⟩) := (hI.val 20 (show (_ : Nat) < 33 by decide) h20).trans (if_neg (by rw [hM]; decide))
    have c : W.cell? ⟨X, 3, none⟩ = some (.int .i64 (pp : Nat)) := hI.held.at_.cell 3
    have R := Lib.hid (hI.step (i := 21) (show (_ : Nat) < 33 by decide) (show 29 + 33 ≤ 75 by decide) (if_neg (by rw [hM]; decide)) hI.held)
    clear hI E hw hy
    go_simp
    exact hK _ _ R.out

set_option maxRecDepth 100000 in
theorem rg_22 {w : World} {B g b X : Nat} {t : VS} {acc : List UInt8} {lab pl pd : ByteArray} {from_ k id n2 pb pi pp pn pz ps : Nat} {m1 m2 m3 m4 m5 : Bool} {base : Array Value} {f : Nat → Bool} {a : Act} {W : World} {K : Act → World → Prop} {Q : Exit → Act → World → Prop} {ops : Array Oper} (E : RgEnv w B g t b acc X lab pl pd from_ k id n2 pb pi pp pn pz ps m1 m2 m3 m4 m5 base) (hI : (rgTb lab pl from_ k id n2 pb pi pp pn pz m1 m2 m3 m4 m5 g X base).Inv (RdT w B g t b acc X #[.string pl, .int .i64 (pb : Nat), .int .u64 (pi : Nat), .int .i64 (pp : Nat), .int .i64 (pn : Nat), .int .i64 (pz : Nat), .int .u32 (ps : Nat), .string pd]) f a W) (h19 : f 19 = true) (hgd : (ops[19]?).bind (·.dst) = some 48) (pos : String) (hK : ∀ a' W', (rgTb lab pl from_ k id n2 pb pi pp pn pz m1 m2 m3 m4 m5 g X base).Inv (RdT w B g t b acc X #[.string pl, .int .i64 (pb : Nat), .int .u64 (pi : Nat), .int .i64 (pp : Nat), .int .i64 (pn : Nat), .int .i64 (pz : Nat), .int .u32 (ps : Nat), .string pd]) (hit f 22) a' W' → K a' W') : if Region.wanted { dst := some 51, op := Go.Op.move (Go.Operand.tmp 10), type := 3, pos := pos, after := #[{ on := 19, ground := Go.Ground.guard }], guard := some (19, false) } (yielded ops a.tmps) = true then Oper.wp Tryd.prog { dst := some 51, op := Go.Op.move (Go.Operand.tmp 10), type := 3, pos := pos, after := #[{ on := 19, ground := Go.Ground.guard }], guard := some (19, false) } a W K Q else K (a.put (some 51) undef) W := by
  have hy : yielded ops a.tmps 19 = some (m1 || m2 || m3) := yielded_of hgd (by rw [hI.size]; show 48 < 75; decide) (hI.val 19 (show (_ : Nat) < 33 by decide) h19)
  have hw : Region.wanted { dst := some 51, op := Go.Op.move (Go.Operand.tmp 10), type := 3, pos := pos, after := #[{ on := 19, ground := Go.Ground.guard }], guard := some (19, false) } (yielded ops a.tmps) = !(m1 || m2 || m3) := by
    show (yielded ops a.tmps 19 == some false) = _
    rw [hy]
    cases (m1 || m2 || m3) <;> rfl
  rcases Bool.eq_false_or_eq_true (m1 || m2 || m3) with hM | hM
  · rw [hw, hM, if_neg (by simp)]
    exact hK _ _ (hI.step (i := 22) (show (_ : Nat) < 33 by decide) (show 29 + 33 ≤ 75 by decide) (if_pos hM) hI.held)
  · rw [hw, hM, if_pos (by decide)]
    have q : a.tmps[10]?.getD undef = .int .i64 (k : Int) := (hI.base 10 (.inl (show 10 < 29 by decide))).trans E.b10
    have R := Lib.hid (hI.step (i := 22) (show (_ : Nat) < 33 by decide) (show 29 + 33 ≤ 75 by decide) (if_neg (by rw [hM]; decide)) hI.held)
    clear hI E hw hy
    go_simp
    exact hK _ _ R.out

set_option maxRecDepth 100000 in
theorem rg_23 {w : World} {B g b X : Nat} {t : VS} {acc : List UInt8} {lab pl pd : ByteArray} {from_ k id n2 pb pi pp pn pz ps : Nat} {m1 m2 m3 m4 m5 : Bool} {base : Array Value} {f : Nat → Bool} {a : Act} {W : World} {K : Act → World → Prop} {Q : Exit → Act → World → Prop} {ops : Array Oper} (E : RgEnv w B g t b acc X lab pl pd from_ k id n2 pb pi pp pn pz ps m1 m2 m3 m4 m5 base) (hI : (rgTb lab pl from_ k id n2 pb pi pp pn pz m1 m2 m3 m4 m5 g X base).Inv (RdT w B g t b acc X #[.string pl, .int .i64 (pb : Nat), .int .u64 (pi : Nat), .int .i64 (pp : Nat), .int .i64 (pn : Nat), .int .i64 (pz : Nat), .int .u32 (ps : Nat), .string pd]) f a W) (h19 : f 19 = true) (h21 : f 21 = true) (h22 : f 22 = true) (hgd : (ops[19]?).bind (·.dst) = some 48) (pos : String) (hK : ∀ a' W', (rgTb lab pl from_ k id n2 pb pi pp pn pz m1 m2 m3 m4 m5 g X base).Inv (RdT w B g t b acc X #[.string pl, .int .i64 (pb : Nat), .int .u64 (pi : Nat), .int .i64 (pp : Nat), .int .i64 (pn : Nat), .int .i64 (pz : Nat), .int .u32 (ps : Nat), .string pd]) (hit f 23) a' W' → K a' W') : if Region.wanted { dst := some 52, op := Go.Op.binOp Go.BinOp.neq 3 (Go.Operand.tmp 50) (Go.Operand.tmp 51) 3, type := 4, pos := pos, after := #[{ on := 21, ground := Go.Ground.data }, { on := 22, ground := Go.Ground.data }, { on := 19, ground := Go.Ground.guard }], guard := some (19, false) } (yielded ops a.tmps) = true then Oper.wp Tryd.prog { dst := some 52, op := Go.Op.binOp Go.BinOp.neq 3 (Go.Operand.tmp 50) (Go.Operand.tmp 51) 3, type := 4, pos := pos, after := #[{ on := 21, ground := Go.Ground.data }, { on := 22, ground := Go.Ground.data }, { on := 19, ground := Go.Ground.guard }], guard := some (19, false) } a W K Q else K (a.put (some 52) undef) W := by
  have hy : yielded ops a.tmps 19 = some (m1 || m2 || m3) := yielded_of hgd (by rw [hI.size]; show 48 < 75; decide) (hI.val 19 (show (_ : Nat) < 33 by decide) h19)
  have hw : Region.wanted { dst := some 52, op := Go.Op.binOp Go.BinOp.neq 3 (Go.Operand.tmp 50) (Go.Operand.tmp 51) 3, type := 4, pos := pos, after := #[{ on := 21, ground := Go.Ground.data }, { on := 22, ground := Go.Ground.data }, { on := 19, ground := Go.Ground.guard }], guard := some (19, false) } (yielded ops a.tmps) = !(m1 || m2 || m3) := by
    show (yielded ops a.tmps 19 == some false) = _
    rw [hy]
    cases (m1 || m2 || m3) <;> rfl
  rcases Bool.eq_false_or_eq_true (m1 || m2 || m3) with hM | hM
  · rw [hw, hM, if_neg (by simp)]
    exact hK _ _ (hI.step (i := 23) (show (_ : Nat) < 33 by decide) (show 29 + 33 ≤ 75 by decide) (if_pos hM) hI.held)
  · rw [hw, hM, if_pos (by decide)]
    have y0 : a.tmps[50]?.getD undef = .int .i64 (pp : Nat) := (hI.val 21 (show (_ : Nat) < 33 by decide) h21).trans (if_neg (by rw [hM]; decide))
    have y1 : a.tmps[51]?.getD undef = .int .i64 (k : Int) := (hI.val 22 (show (_ : Nat) < 33 by decide) h22).trans (if_neg (by rw [hM]; decide))
    have qq := E.q4
    have qn := (nat_bne _ _).trans E.q4
    have R := Lib.hid (hI.step (i := 23) (show (_ : Nat) < 33 by decide) (show 29 + 33 ≤ 75 by decide) (if_neg (by rw [hM]; decide)) hI.held)
    clear hI E hw hy
    go_simp
    exact hK _ _ R.out

set_option maxRecDepth 100000 in
theorem rg_24 {w : World} {B g b X : Nat} {t : VS} {acc : List UInt8} {lab pl pd : ByteArray} {from_ k id n2 pb pi pp pn pz ps : Nat} {m1 m2 m3 m4 m5 : Bool} {base : Array Value} {f : Nat → Bool} {a : Act} {W : World} {K : Act → World → Prop} {Q : Exit → Act → World → Prop} {ops : Array Oper} (E : RgEnv w B g t b acc X lab pl pd from_ k id n2 pb pi pp pn pz ps m1 m2 m3 m4 m5 base) (hI : (rgTb lab pl from_ k id n2 pb pi pp pn pz m1 m2 m3 m4 m5 g X base).Inv (RdT w B g t b acc X #[.string pl, .int .i64 (pb : Nat), .int .u64 (pi : Nat), .int .i64 (pp : Nat), .int .i64 (pn : Nat), .int .i64 (pz : Nat), .int .u32 (ps : Nat), .string pd]) f a W) (h19 : f 19 = true) (h23 : f 23 = true) (pos : String) (hK : ∀ a' W', (rgTb lab pl from_ k id n2 pb pi pp pn pz m1 m2 m3 m4 m5 g X base).Inv (RdT w B g t b acc X #[.string pl, .int .i64 (pb : Nat), .int .u64 (pi : Nat), .int .i64 (pp : Nat), .int .i64 (pn : Nat), .int .i64 (pz : Nat), .int .u32 (ps : Nat), .string pd]) (hit f 24) a' W' → K a' W') : if Region.wanted { dst := some 53, op := Go.Op.pick (Go.Operand.tmp 48) (Go.Operand.const (Go.Value.bool true)) (Go.Operand.tmp 52), type := 4, pos := pos, after := #[{ on := 19, ground := Go.Ground.data }, { on := 23, ground := Go.Ground.data }], guard := none } (yielded ops a.tmps) = true then Oper.wp Tryd.prog { dst := some 53, op := Go.Op.pick (Go.Operand.tmp 48) (Go.Operand.const (Go.Value.bool true)) (Go.Operand.tmp 52), type := 4, pos := pos, after := #[{ on := 19, ground := Go.Ground.data }, { on := 23, ground := Go.Ground.data }], guard := none } a W K Q else K (a.put (some 53) undef) W := by
  have y0 : a.tmps[48]?.getD undef = .bool (m1 || m2 || m3) := hI.val 19 (show (_ : Nat) < 33 by decide) h19
  rcases Bool.eq_false_or_eq_true (m1 || m2 || m3) with hM | hM
  · have R := Lib.hid (hI.step (i := 24) (v := .bool true) (show (_ : Nat) < 33 by decide) (show 29 + 33 ≤ 75 by decide) (show Value.bool (m1 || m2 || m3 || m4) = .bool true by rw [hM]; rfl) hI.held)
    rw [hM] at y0
    clear hI E
    go_simp
    exact hK _ _ R.out
  · have y1 : a.tmps[52]?.getD undef = .bool m4 := (hI.val 23 (show (_ : Nat) < 33 by decide) h23).trans (if_neg (by rw [hM]; decide))
    have R := Lib.hid (hI.step (i := 24) (v := .bool m4) (show (_ : Nat) < 33 by decide) (show 29 + 33 ≤ 75 by decide) (show Value.bool (m1 || m2 || m3 || m4) = .bool m4 by rw [hM]; rfl) hI.held)
    rw [hM] at y0
    clear hI E hM
    go_simp
    exact hK _ _ R.out

set_option maxRecDepth 100000 in
theorem rg_25 {w : World} {B g b X : Nat} {t : VS} {acc : List UInt8} {lab pl pd : ByteArray} {from_ k id n2 pb pi pp pn pz ps : Nat} {m1 m2 m3 m4 m5 : Bool} {base : Array Value} {f : Nat → Bool} {a : Act} {W : World} {K : Act → World → Prop} {Q : Exit → Act → World → Prop} {ops : Array Oper} (E : RgEnv w B g t b acc X lab pl pd from_ k id n2 pb pi pp pn pz ps m1 m2 m3 m4 m5 base) (hI : (rgTb lab pl from_ k id n2 pb pi pp pn pz m1 m2 m3 m4 m5 g X base).Inv (RdT w B g t b acc X #[.string pl, .int .i64 (pb : Nat), .int .u64 (pi : Nat), .int .i64 (pp : Nat), .int .i64 (pn : Nat), .int .i64 (pz : Nat), .int .u32 (ps : Nat), .string pd]) f a W) (h19 : f 19 = true) (h24 : f 24 = true) (pos : String) (hK : ∀ a' W', (rgTb lab pl from_ k id n2 pb pi pp pn pz m1 m2 m3 m4 m5 g X base).Inv (RdT w B g t b acc X #[.string pl, .int .i64 (pb : Nat), .int .u64 (pi : Nat), .int .i64 (pp : Nat), .int .i64 (pn : Nat), .int .i64 (pz : Nat), .int .u32 (ps : Nat), .string pd]) (hit f 25) a' W' → K a' W') : if Region.wanted { dst := some 54, op := Go.Op.move (Go.Operand.tmp 53), type := 4, pos := pos, after := #[{ on := 24, ground := Go.Ground.data }, { on := 19, ground := Go.Ground.chain }], guard := none } (yielded ops a.tmps) = true then Oper.wp Tryd.prog { dst := some 54, op := Go.Op.move (Go.Operand.tmp 53), type := 4, pos := pos, after := #[{ on := 24, ground := Go.Ground.data }, { on := 19, ground := Go.Ground.chain }], guard := none } a W K Q else K (a.put (some 54) undef) W := by
  have y0 : a.tmps[53]?.getD undef = .bool (m1 || m2 || m3 || m4) := (hI.val 24 (show (_ : Nat) < 33 by decide) h24)
  have R := Lib.hid (hI.step (i := 25) (show (_ : Nat) < 33 by decide) (show 29 + 33 ≤ 75 by decide) rfl hI.held)
  clear hI E
  go_simp
  exact hK _ _ R.out

set_option maxRecDepth 100000 in
theorem rg_26 {w : World} {B g b X : Nat} {t : VS} {acc : List UInt8} {lab pl pd : ByteArray} {from_ k id n2 pb pi pp pn pz ps : Nat} {m1 m2 m3 m4 m5 : Bool} {base : Array Value} {f : Nat → Bool} {a : Act} {W : World} {K : Act → World → Prop} {Q : Exit → Act → World → Prop} {ops : Array Oper} (E : RgEnv w B g t b acc X lab pl pd from_ k id n2 pb pi pp pn pz ps m1 m2 m3 m4 m5 base) (hI : (rgTb lab pl from_ k id n2 pb pi pp pn pz m1 m2 m3 m4 m5 g X base).Inv (RdT w B g t b acc X #[.string pl, .int .i64 (pb : Nat), .int .u64 (pi : Nat), .int .i64 (pp : Nat), .int .i64 (pn : Nat), .int .i64 (pz : Nat), .int .u32 (ps : Nat), .string pd]) f a W) (h25 : f 25 = true) (hgd : (ops[25]?).bind (·.dst) = some 54) (pos : String) (hK : ∀ a' W', (rgTb lab pl from_ k id n2 pb pi pp pn pz m1 m2 m3 m4 m5 g X base).Inv (RdT w B g t b acc X #[.string pl, .int .i64 (pb : Nat), .int .u64 (pi : Nat), .int .i64 (pp : Nat), .int .i64 (pn : Nat), .int .i64 (pz : Nat), .int .u32 (ps : Nat), .string pd]) (hit f 26) a' W' → K a' W') : if Region.wanted { dst := some 55, op := Go.Op.fieldAddr 78 (Go.Operand.tmp 11) 4, type := 0, pos := pos, after := #[{ on := 25, ground := Go.Ground.guard }], guard := some (25, false) } (yielded ops a.tmps) = true then Oper.wp Tryd.prog { dst := some 55, op := Go.Op.fieldAddr 78 (Go.Operand.tmp 11) 4, type := 0, pos := pos, after := #[{ on := 25, ground := Go.Ground.guard }], guard := some (25, false) } a W K Q else K (a.put (some 55) undef) W := by
  have hy : yielded ops a.tmps 25 = some (m1 || m2 || m3 || m4) := yielded_of hgd (by rw [hI.size]; show 54 < 75; decide) (hI.val 25 (show (_ : Nat) < 33 by decide) h25)
  have hw : Region.wanted { dst := some 55, op := Go.Op.fieldAddr 78 (Go.Operand.tmp 11) 4, type := 0, pos := pos, after := #[{ on := 25, ground := Go.Ground.guard }], guard := some (25, false) } (yielded ops a.tmps) = !(m1 || m2 || m3 || m4) := by
    show (yielded ops a.tmps 25 == some false) = _
    rw [hy]
    cases (m1 || m2 || m3 || m4) <;> rfl
  rcases Bool.eq_false_or_eq_true (m1 || m2 || m3 || m4) with hM | hM
  · rw [hw, hM, if_neg (by simp)]
    exact hK _ _ (hI.step (i := 26) (show (_ : Nat) < 33 by decide) (show 29 + 33 ≤ 75 by decide) (if_pos hM) hI.held)
  · rw [hw, hM, if_pos (by decide)]
    have q : a.tmps[11]?.getD undef = .pointer (some ⟨X, 0, none⟩) := (hI.base 11 (.inl (show 11 < 29 by decide))).trans E.b11
    have R := Lib.hid (hI.step (i := 26) (show (_ : Nat) < 33 by decide) (show 29 + 33 ≤ 75 by decide) (if_neg (by rw [hM]; decide)) hI.held)
    clear hI E hw hy
    go_simp
    exact hK _ _ R.out

set_option maxRecDepth 100000 in
theorem rg_27 {w : World} {B g b X : Nat} {t : VS} {acc : List UInt8} {lab pl pd : ByteArray} {from_ k id n2 pb pi pp pn pz ps : Nat} {m1 m2 m3 m4 m5 : Bool} {base : Array Value} {f : Nat → Bool} {a : Act} {W : World} {K : Act → World → Prop} {Q : Exit → Act → World → Prop} {ops : Array Oper} (E : RgEnv w B g t b acc X lab pl pd from_ k id n2 pb pi pp pn pz ps m1 m2 m3 m4 m5 base) (hI : (rgTb lab pl from_ k id n2 pb pi pp pn pz m1 m2 m3 m4 m5 g X base).Inv (RdT w B g t b acc X #[.string pl, .int .i64 (pb : Nat), .int .u64 (pi : Nat), .int .i64 (pp : Nat), .int .i64 (pn : Nat), .int .i64 (pz : Nat), .int .u32 (ps : Nat), .string pd]) f a W) (h25 : f 25 = true) (h26 : f 26 = true) (hgd : (ops[25]?).bind (·.dst) = some 54) (pos : String) (hK : ∀ a' W', (rgTb lab pl from_ k id n2 pb pi pp pn pz m1 m2 m3 m4 m5 g X base).Inv (RdT w B g t b acc X #[.string pl, .int .i64 (pb : Nat), .int .u64 (pi : Nat), .int .i64 (pp : Nat), .int .i64 (pn : Nat), .int .i64 (pz : Nat), .int .u32 (ps : Nat), .string pd]) (hit f 27) a' W' → K a' W') : if Region.wanted { dst := some 56, op := Go.Op.load 3 (Go.Operand.tmp 55), type := 3, pos := pos, after := #[{ on := 26, ground := Go.Ground.data }, { on := 25, ground := Go.Ground.guard }], guard := some (25, false) } (yielded ops a.tmps) = true then Oper.wp Tryd.prog { dst := some 56, op := Go.Op.load 3 (Go.Operand.tmp 55), type := 3, pos := pos, after := #[{ on := 26, ground := Go.Ground.data }, { on := 25, ground := Go.Ground.guard }], guard := some (25, false) } a W K Q else K (a.put (some 56) undef) W := by
  have hy : yielded ops a.tmps 25 = some (m1 || m2 || m3 || m4) := yielded_of hgd (by rw [hI.size]; show 54 < 75; decide) (hI.val 25 (show (_ : Nat) < 33 by decide) h25)
  have hw : Region.wanted { dst := some 56, op := Go.Op.load 3 (Go.Operand.tmp 55), type := 3, pos := pos, after := #[{ on := 26, ground := Go.Ground.data }, { on := 25, ground := Go.Ground.guard }], guard := some (25, false) } (yielded ops a.tmps) = !(m1 || m2 || m3 || m4) := by
    show (yielded ops a.tmps 25 == some false) = _
    rw [hy]
    cases (m1 || m2 || m3 || m4) <;> rfl
  rcases Bool.eq_false_or_eq_true (m1 || m2 || m3 || m4) with hM | hM
  · rw [hw, hM, if_neg (by simp)]
    exact hK _ _ (hI.step (i := 27) (show (_ : Nat) < 33 by decide) (show 29 + 33 ≤ 75 by decide) (if_pos hM) hI.held)
  · rw [hw, hM, if_pos (by decide)]
    have q : a.tmps[55]?.getD undef = .pointer (some ⟨X, 4, none⟩) := (hI.val 26 (show (_ : Nat) < 33 by decide) h26).trans (if_neg (by rw [hM]; decide))
    have c : W.cell? ⟨X, 4, none⟩ = some (.int .i64 (pn : Nat)) := hI.held.at_.cell 4
    have R := Lib.hid (hI.step (i := 27) (show (_ : Nat) < 33 by decide) (show 29 + 33 ≤ 75 by decide) (if_neg (by rw [hM]; decide)) hI.held)
    clear hI E hw hy
    go_simp
    exact hK _ _ R.out

set_option maxRecDepth 100000 in
theorem rg_28 {w : World} {B g b X : Nat} {t : VS} {acc : List UInt8} {lab pl pd : ByteArray} {from_ k id n2 pb pi pp pn pz ps : Nat} {m1 m2 m3 m4 m5 : Bool} {base : Array Value} {f : Nat → Bool} {a : Act} {W : World} {K : Act → World → Prop} {Q : Exit → Act → World → Prop} {ops : Array Oper} (E : RgEnv w B g t b acc X lab pl pd from_ k id n2 pb pi pp pn pz ps m1 m2 m3 m4 m5 base) (hI : (rgTb lab pl from_ k id n2 pb pi pp pn pz m1 m2 m3 m4 m5 g X base).Inv (RdT w B g t b acc X #[.string pl, .int .i64 (pb : Nat), .int .u64 (pi : Nat), .int .i64 (pp : Nat), .int .i64 (pn : Nat), .int .i64 (pz : Nat), .int .u32 (ps : Nat), .string pd]) f a W) (h25 : f 25 = true) (hgd : (ops[25]?).bind (·.dst) = some 54) (pos : String) (hK : ∀ a' W', (rgTb lab pl from_ k id n2 pb pi pp pn pz m1 m2 m3 m4 m5 g X base).Inv (RdT w B g t b acc X #[.string pl, .int .i64 (pb : Nat), .int .u64 (pi : Nat), .int .i64 (pp : Nat), .int .i64 (pn : Nat), .int .i64 (pz : Nat), .int .u32 (ps : Nat), .string pd]) (hit f 28) a' W' → K a' W') : if Region.wanted { dst := some 57, op := Go.Op.fieldAddr 78 (Go.Operand.tmp 11) 5, type := 0, pos := pos, after := #[{ on := 25, ground := Go.Ground.guard }], guard := some (25, false) } (yielded ops a.tmps) = true then Oper.wp Tryd.prog { dst := some 57, op := Go.Op.fieldAddr 78 (Go.Operand.tmp 11) 5, type := 0, pos := pos, after := #[{ on := 25, ground := Go.Ground.guard }], guard := some (25, false) } a W K Q else K (a.put (some 57) undef) W := by
  have hy : yielded ops a.tmps 25 = some (m1 || m2 || m3 || m4) := yielded_of hgd (by rw [hI.size]; show 54 < 75; decide) (hI.val 25 (show (_ : Nat) < 33 by decide) h25)
  have hw : Region.wanted { dst := some 57, op := Go.Op.fieldAddr 78 (Go.Operand.tmp 11) 5, type := 0, pos := pos, after := #[{ on := 25, ground := Go.Ground.guard }], guard := some (25, false) } (yielded ops a.tmps) = !(m1 || m2 || m3 || m4) := by
    show (yielded ops a.tmps 25 == some false) = _
    rw [hy]
    cases (m1 || m2 || m3 || m4) <;> rfl
  rcases Bool.eq_false_or_eq_true (m1 || m2 || m3 || m4) with hM | hM
  · rw [hw, hM, if_neg (by simp)]
    exact hK _ _ (hI.step (i := 28) (show (_ : Nat) < 33 by decide) (show 29 + 33 ≤ 75 by decide) (if_pos hM) hI.held)
  · rw [hw, hM, if_pos (by decide)]
    have q : a.tmps[11]?.getD undef = .pointer (some ⟨X, 0, none⟩) := (hI.base 11 (.inl (show 11 < 29 by decide))).trans E.b11
    have R := Lib.hid (hI.step (i := 28) (show (_ : Nat) < 33 by decide) (show 29 + 33 ≤ 75 by decide) (if_neg (by rw [hM]; decide)) hI.held)
    clear hI E hw hy
    go_simp
    exact hK _ _ R.out

set_option maxRecDepth 100000 in
theorem rg_29 {w : World} {B g b X : Nat} {t : VS} {acc : List UInt8} {lab pl pd : ByteArray} {from_ k id n2 pb pi pp pn pz ps : Nat} {m1 m2 m3 m4 m5 : Bool} {base : Array Value} {f : Nat → Bool} {a : Act} {W : World} {K : Act → World → Prop} {Q : Exit → Act → World → Prop} {ops : Array Oper} (E : RgEnv w B g t b acc X lab pl pd from_ k id n2 pb pi pp pn pz ps m1 m2 m3 m4 m5 base) (hI : (rgTb lab pl from_ k id n2 pb pi pp pn pz m1 m2 m3 m4 m5 g X base).Inv (RdT w B g t b acc X #[.string pl, .int .i64 (pb : Nat), .int .u64 (pi : Nat), .int .i64 (pp : Nat), .int .i64 (pn : Nat), .int .i64 (pz : Nat), .int .u32 (ps : Nat), .string pd]) f a W) (h25 : f 25 = true) (h28 : f 28 = true) (hgd : (ops[25]?).bind (·.dst) = some 54) (pos : String) (hK : ∀ a' W', (rgTb lab pl from_ k id n2 pb pi pp pn pz m1 m2 m3 m4 m5 g X base).Inv (RdT w B g t b acc X #[.string pl, .int .i64 (pb : Nat), .int .u64 (pi : Nat), .int .i64 (pp : Nat), .int .i64 (pn : Nat), .int .i64 (pz : Nat), .int .u32 (ps : Nat), .string pd]) (hit f 29) a' W' → K a' W') : if Region.wanted { dst := some 58, op := Go.Op.load 3 (Go.Operand.tmp 57), type := 3, pos := pos, after := #[{ on := 28, ground := Go.Ground.data }, { on := 25, ground := Go.Ground.guard }], guard := some (25, false) } (yielded ops a.tmps) = true then Oper.wp Tryd.prog { dst := some 58, op := Go.Op.load 3 (Go.Operand.tmp 57), type := 3, pos := pos, after := #[{ on := 28, ground := Go.Ground.data }, { on := 25, ground := Go.Ground.guard }], guard := some (25, false) } a W K Q else K (a.put (some 58) undef) W := by
  have hy : yielded ops a.tmps 25 = some (m1 || m2 || m3 || m4) := yielded_of hgd (by rw [hI.size]; show 54 < 75; decide) (hI.val 25 (show (_ : Nat) < 33 by decide) h25)
  have hw : Region.wanted { dst := some 58, op := Go.Op.load 3 (Go.Operand.tmp 57), type := 3, pos := pos, after := #[{ on := 28, ground := Go.Ground.data }, { on := 25, ground := Go.Ground.guard }], guard := some (25, false) } (yielded ops a.tmps) = !(m1 || m2 || m3 || m4) := by
    show (yielded ops a.tmps 25 == some false) = _
    rw [hy]
    cases (m1 || m2 || m3 || m4) <;> rfl
  rcases Bool.eq_false_or_eq_true (m1 || m2 || m3 || m4) with hM | hM
  · rw [hw, hM, if_neg (by simp)]
    exact hK _ _ (hI.step (i := 29) (show (_ : Nat) < 33 by decide) (show 29 + 33 ≤ 75 by decide) (if_pos hM) hI.held)
  · rw [hw, hM, if_pos (by decide)]
    have q : a.tmps[57]?.getD undef = .pointer (some ⟨X, 5, none⟩) := (hI.val 28 (show (_ : Nat) < 33 by decide) h28).trans (if_neg (by rw [hM]; decide))
    have c : W.cell? ⟨X, 5, none⟩ = some (.int .i64 (pz : Nat)) := hI.held.at_.cell 5
    have R := Lib.hid (hI.step (i := 29) (show (_ : Nat) < 33 by decide) (show 29 + 33 ≤ 75 by decide) (if_neg (by rw [hM]; decide)) hI.held)
    clear hI E hw hy
    go_simp
    exact hK _ _ R.out

set_option maxRecDepth 100000 in
theorem rg_30 {w : World} {B g b X : Nat} {t : VS} {acc : List UInt8} {lab pl pd : ByteArray} {from_ k id n2 pb pi pp pn pz ps : Nat} {m1 m2 m3 m4 m5 : Bool} {base : Array Value} {f : Nat → Bool} {a : Act} {W : World} {K : Act → World → Prop} {Q : Exit → Act → World → Prop} {ops : Array Oper} (E : RgEnv w B g t b acc X lab pl pd from_ k id n2 pb pi pp pn pz ps m1 m2 m3 m4 m5 base) (hI : (rgTb lab pl from_ k id n2 pb pi pp pn pz m1 m2 m3 m4 m5 g X base).Inv (RdT w B g t b acc X #[.string pl, .int .i64 (pb : Nat), .int .u64 (pi : Nat), .int .i64 (pp : Nat), .int .i64 (pn : Nat), .int .i64 (pz : Nat), .int .u32 (ps : Nat), .string pd]) f a W) (h25 : f 25 = true) (h29 : f 29 = true) (hgd : (ops[25]?).bind (·.dst) = some 54) (pos : String) (hK : ∀ a' W', (rgTb lab pl from_ k id n2 pb pi pp pn pz m1 m2 m3 m4 m5 g X base).Inv (RdT w B g t b acc X #[.string pl, .int .i64 (pb : Nat), .int .u64 (pi : Nat), .int .i64 (pp : Nat), .int .i64 (pn : Nat), .int .i64 (pz : Nat), .int .u32 (ps : Nat), .string pd]) (hit f 30) a' W' → K a' W') : if Region.wanted { dst := some 59, op := Go.Op.call { callee := Go.Callee.value (Go.Operand.func 47), args := #[Go.Operand.tmp 58], argTypes := #[3] }, type := 3, pos := pos, after := #[{ on := 29, ground := Go.Ground.data }, { on := 25, ground := Go.Ground.chain }, { on := 25, ground := Go.Ground.guard }], guard := some (25, false) } (yielded ops a.tmps) = true then Oper.wp Tryd.prog { dst := some 59, op := Go.Op.call { callee := Go.Callee.value (Go.Operand.func 47), args := #[Go.Operand.tmp 58], argTypes := #[3] }, type := 3, pos := pos, after := #[{ on := 29, ground := Go.Ground.data }, { on := 25, ground := Go.Ground.chain }, { on := 25, ground := Go.Ground.guard }], guard := some (25, false) } a W K Q else K (a.put (some 59) undef) W := by
  have hy : yielded ops a.tmps 25 = some (m1 || m2 || m3 || m4) := yielded_of hgd (by rw [hI.size]; show 54 < 75; decide) (hI.val 25 (show (_ : Nat) < 33 by decide) h25)
  have hw : Region.wanted { dst := some 59, op := Go.Op.call { callee := Go.Callee.value (Go.Operand.func 47), args := #[Go.Operand.tmp 58], argTypes := #[3] }, type := 3, pos := pos, after := #[{ on := 29, ground := Go.Ground.data }, { on := 25, ground := Go.Ground.chain }, { on := 25, ground := Go.Ground.guard }], guard := some (25, false) } (yielded ops a.tmps) = !(m1 || m2 || m3 || m4) := by
    show (yielded ops a.tmps 25 == some false) = _
    rw [hy]
    cases (m1 || m2 || m3 || m4) <;> rfl
  rcases Bool.eq_false_or_eq_true (m1 || m2 || m3 || m4) with hM | hM
  · rw [hw, hM, if_neg (by simp)]
    exact hK _ _ (hI.step (i := 30) (show (_ : Nat) < 33 by decide) (show 29 + 33 ≤ 75 by decide) (if_pos hM) hI.held)
  · rw [hw, hM, if_pos (by decide)]
    have y0 : a.tmps[58]?.getD undef = .int .i64 (pz : Nat) := (hI.val 29 (show (_ : Nat) < 33 by decide) h29).trans (if_neg (by rw [hM]; decide))
    have hC := E.pt W
    have HR := Lib.hid (hI.step (i := 30) (show (_ : Nat) < 33 by decide) (show 29 + 33 ≤ 75 by decide) (v := .int .i64 (n2 : Nat)) (if_neg (by rw [hM]; decide)) hI.held)
    clear hI E hw hy
    go_simp
    refine hC.mono ?_
    rintro e W1 ⟨rfl, rfl⟩
    exact hK _ _ HR.out

set_option maxRecDepth 100000 in
theorem rg_31 {w : World} {B g b X : Nat} {t : VS} {acc : List UInt8} {lab pl pd : ByteArray} {from_ k id n2 pb pi pp pn pz ps : Nat} {m1 m2 m3 m4 m5 : Bool} {base : Array Value} {f : Nat → Bool} {a : Act} {W : World} {K : Act → World → Prop} {Q : Exit → Act → World → Prop} {ops : Array Oper} (E : RgEnv w B g t b acc X lab pl pd from_ k id n2 pb pi pp pn pz ps m1 m2 m3 m4 m5 base) (hI : (rgTb lab pl from_ k id n2 pb pi pp pn pz m1 m2 m3 m4 m5 g X base).Inv (RdT w B g t b acc X #[.string pl, .int .i64 (pb : Nat), .int .u64 (pi : Nat), .int .i64 (pp : Nat), .int .i64 (pn : Nat), .int .i64 (pz : Nat), .int .u32 (ps : Nat), .string pd]) f a W) (h25 : f 25 = true) (h27 : f 27 = true) (h30 : f 30 = true) (hgd : (ops[25]?).bind (·.dst) = some 54) (pos : String) (hK : ∀ a' W', (rgTb lab pl from_ k id n2 pb pi pp pn pz m1 m2 m3 m4 m5 g X base).Inv (RdT w B g t b acc X #[.string pl, .int .i64 (pb : Nat), .int .u64 (pi : Nat), .int .i64 (pp : Nat), .int .i64 (pn : Nat), .int .i64 (pz : Nat), .int .u32 (ps : Nat), .string pd]) (hit f 31) a' W' → K a' W') : if Region.wanted { dst := some 60, op := Go.Op.binOp Go.BinOp.neq 3 (Go.Operand.tmp 56) (Go.Operand.tmp 59) 3, type := 4, pos := pos, after := #[{ on := 27, ground := Go.Ground.data }, { on := 30, ground := Go.Ground.data }, { on := 25, ground := Go.Ground.guard }], guard := some (25, false) } (yielded ops a.tmps) = true then Oper.wp Tryd.prog { dst := some 60, op := Go.Op.binOp Go.BinOp.neq 3 (Go.Operand.tmp 56) (Go.Operand.tmp 59) 3, type := 4, pos := pos, after := #[{ on := 27, ground := Go.Ground.data }, { on := 30, ground := Go.Ground.data }, { on := 25, ground := Go.Ground.guard }], guard := some (25, false) } a W K Q else K (a.put (some 60) undef) W := by
  have hy : yielded ops a.tmps 25 = some (m1 || m2 || m3 || m4) := yielded_of hgd (by rw [hI.size]; show 54 < 75; decide) (hI.val 25 (show (_ : Nat) < 33 by decide) h25)
  have hw : Region.wanted { dst := some 60, op := Go.Op.binOp Go.BinOp.neq 3 (Go.Operand.tmp 56) (Go.Operand.tmp 59) 3, type := 4, pos := pos, after := #[{ on := 27, ground := Go.Ground.data }, { on := 30, ground := Go.Ground.data }, { on := 25, ground := Go.Ground.guard }], guard := some (25, false) } (yielded ops a.tmps) = !(m1 || m2 || m3 || m4) := by
    show (yielded ops a.tmps 25 == some false) = _
    rw [hy]
    cases (m1 || m2 || m3 || m4) <;> rfl
  rcases Bool.eq_false_or_eq_true (m1 || m2 || m3 || m4) with hM | hM
  · rw [hw, hM, if_neg (by simp)]
    exact hK _ _ (hI.step (i := 31) (show (_ : Nat) < 33 by decide) (show 29 + 33 ≤ 75 by decide) (if_pos hM) hI.held)
  · rw [hw, hM, if_pos (by decide)]
    have y0 : a.tmps[56]?.getD undef = .int .i64 (pn : Nat) := (hI.val 27 (show (_ : Nat) < 33 by decide) h27).trans (if_neg (by rw [hM]; decide))
    have y1 : a.tmps[59]?.getD undef = .int .i64 (n2 : Int) := (hI.val 30 (show (_ : Nat) < 33 by decide) h30).trans (if_neg (by rw [hM]; decide))
    have qq := E.q5
    have qn := (nat_bne _ _).trans E.q5
    have R := Lib.hid (hI.step (i := 31) (show (_ : Nat) < 33 by decide) (show 29 + 33 ≤ 75 by decide) (if_neg (by rw [hM]; decide)) hI.held)
    clear hI E hw hy
    go_simp
    exact hK _ _ R.out

set_option maxRecDepth 100000 in
theorem rg_32 {w : World} {B g b X : Nat} {t : VS} {acc : List UInt8} {lab pl pd : ByteArray} {from_ k id n2 pb pi pp pn pz ps : Nat} {m1 m2 m3 m4 m5 : Bool} {base : Array Value} {f : Nat → Bool} {a : Act} {W : World} {K : Act → World → Prop} {Q : Exit → Act → World → Prop} {ops : Array Oper} (E : RgEnv w B g t b acc X lab pl pd from_ k id n2 pb pi pp pn pz ps m1 m2 m3 m4 m5 base) (hI : (rgTb lab pl from_ k id n2 pb pi pp pn pz m1 m2 m3 m4 m5 g X base).Inv (RdT w B g t b acc X #[.string pl, .int .i64 (pb : Nat), .int .u64 (pi : Nat), .int .i64 (pp : Nat), .int .i64 (pn : Nat), .int .i64 (pz : Nat), .int .u32 (ps : Nat), .string pd]) f a W) (h25 : f 25 = true) (h31 : f 31 = true) (pos : String) (hK : ∀ a' W', (rgTb lab pl from_ k id n2 pb pi pp pn pz m1 m2 m3 m4 m5 g X base).Inv (RdT w B g t b acc X #[.string pl, .int .i64 (pb : Nat), .int .u64 (pi : Nat), .int .i64 (pp : Nat), .int .i64 (pn : Nat), .int .i64 (pz : Nat), .int .u32 (ps : Nat), .string pd]) (hit f 32) a' W' → K a' W') : if Region.wanted { dst := some 61, op := Go.Op.pick (Go.Operand.tmp 54) (Go.Operand.const (Go.Value.bool true)) (Go.Operand.tmp 60), type := 4, pos := pos, after := #[{ on := 25, ground := Go.Ground.data }, { on := 31, ground := Go.Ground.data }], guard := none } (yielded ops a.tmps) = true then Oper.wp Tryd.prog { dst := some 61, op := Go.Op.pick (Go.Operand.tmp 54) (Go.Operand.const (Go.Value.bool true)) (Go.Operand.tmp 60), type := 4, pos := pos, after := #[{ on := 25, ground := Go.Ground.data }, { on := 31, ground := Go.Ground.data }], guard := none } a W K Q else K (a.put (some 61) undef) W := by
  have y0 : a.tmps[54]?.getD undef = .bool (m1 || m2 || m3 || m4) := hI.val 25 (show (_ : Nat) < 33 by decide) h25
  rcases Bool.eq_false_or_eq_true (m1 || m2 || m3 || m4) with hM | hM
  · have R := Lib.hid (hI.step (i := 32) (v := .bool true) (show (_ : Nat) < 33 by decide) (show 29 + 33 ≤ 75 by decide) (show Value.bool (m1 || m2 || m3 || m4 || m5) = .bool true by rw [hM]; rfl) hI.held)
    rw [hM] at y0
    clear hI E
    go_simp
    exact hK _ _ R.out
  · have y1 : a.tmps[60]?.getD undef = .bool m5 := (hI.val 31 (show (_ : Nat) < 33 by decide) h31).trans (if_neg (by rw [hM]; decide))
    have R := Lib.hid (hI.step (i := 32) (v := .bool m5) (show (_ : Nat) < 33 by decide) (show 29 + 33 ≤ 75 by decide) (show Value.bool (m1 || m2 || m3 || m4 || m5) = .bool m5 by rw [hM]; rfl) hI.held)
    rw [hM] at y0
    clear hI E hM
    go_simp
    exact hK _ _ R.out

abbrev rgOps : Array Oper := #[{ dst := some 29, op := Go.Op.fieldAddr 78 (Go.Operand.tmp 11) 0, type := 0, pos := "tapefmt.go:130", after := #[], guard := none }, { dst := some 30, op := Go.Op.load 9 (Go.Operand.tmp 29), type := 9, pos := "tapefmt.go:130", after := #[{ on := 0, ground := Go.Ground.data }], guard := none }, { dst := some 31, op := Go.Op.move (Go.Operand.tmp 0), type := 40, pos := "tapefmt.go:130", after := #[], guard := none }, { dst := some 32, op := Go.Op.call { callee := Go.Callee.value (Go.Operand.func 13), args := #[Go.Operand.tmp 31], argTypes := #[40] }, type := 9, pos := "tapefmt.go:130", after := #[{ on := 2, ground := Go.Ground.data }], guard := none }, { dst := some 33, op := Go.Op.binOp Go.BinOp.neq 9 (Go.Operand.tmp 30) (Go.Operand.tmp 32) 9, type := 4, pos := "tapefmt.go:130", after := #[{ on := 1, ground := Go.Ground.data }, { on := 3, ground := Go.Ground.data }], guard := none }, { dst := some 34, op := Go.Op.move (Go.Operand.tmp 33), type := 4, pos := "tapefmt.go:130", after := #[{ on := 4, ground := Go.Ground.data }, { on := 3, ground := Go.Ground.chain }], guard := none }, { dst := some 35, op := Go.Op.fieldAddr 78 (Go.Operand.tmp 11) 1, type := 0, pos := "tapefmt.go:130", after := #[{ on := 5, ground := Go.Ground.guard }], guard := some (5, false) }, { dst := some 36, op := Go.Op.load 3 (Go.Operand.tmp 35), type := 3, pos := "tapefmt.go:130", after := #[{ on := 6, ground := Go.Ground.data }, { on := 5, ground := Go.Ground.guard }], guard := some (5, false) }, { dst := some 37, op := Go.Op.move (Go.Operand.tmp 1), type := 3, pos := "tapefmt.go:130", after := #[{ on := 5, ground := Go.Ground.guard }], guard := some (5, false) }, { dst := some 38, op := Go.Op.move (Go.Operand.tmp 10), type := 3, pos := "tapefmt.go:130", after := #[{ on := 5, ground := Go.Ground.guard }], guard := some (5, false) }, { dst := some 39, op := Go.Op.binOp Go.BinOp.add 3 (Go.Operand.tmp 37) (Go.Operand.tmp 38) 3, type := 3, pos := "tapefmt.go:130", after := #[{ on := 8, ground := Go.Ground.data }, { on := 9, ground := Go.Ground.data }, { on := 5, ground := Go.Ground.guard }], guard := some (5, false) }, { dst := some 40, op := Go.Op.binOp Go.BinOp.neq 3 (Go.Operand.tmp 36) (Go.Operand.tmp 39) 3, type := 4, pos := "tapefmt.go:130", after := #[{ on := 7, ground := Go.Ground.data }, { on := 10, ground := Go.Ground.data }, { on := 5, ground := Go.Ground.guard }], guard := some (5, false) }, { dst := some 41, op := Go.Op.pick (Go.Operand.tmp 34) (Go.Operand.const (Go.Value.bool true)) (Go.Operand.tmp 40), type := 4, pos := "tapefmt.go:130", after := #[{ on := 5, ground := Go.Ground.data }, { on := 11, ground := Go.Ground.data }], guard := none }, { dst := some 42, op := Go.Op.move (Go.Operand.tmp 41), type := 4, pos := "tapefmt.go:130", after := #[{ on := 12, ground := Go.Ground.data }, { on := 5, ground := Go.Ground.chain }], guard := none }, { dst := some 43, op := Go.Op.fieldAddr 78 (Go.Operand.tmp 11) 2, type := 0, pos := "tapefmt.go:130", after := #[{ on := 13, ground := Go.Ground.guard }], guard := some (13, false) }, { dst := some 44, op := Go.Op.load 30 (Go.Operand.tmp 43), type := 30, pos := "tapefmt.go:130", after := #[{ on := 14, ground := Go.Ground.data }, { on := 13, ground := Go.Ground.guard }], guard := some (13, false) }, { dst := some 45, op := Go.Op.move (Go.Operand.tmp 2), type := 30, pos := "tapefmt.go:130", after := #[{ on := 13, ground := Go.Ground.guard }], guard := some (13, false) }, { dst := some 46, op := Go.Op.binOp Go.BinOp.neq 30 (Go.Operand.tmp 44) (Go.Operand.tmp 45) 30, type := 4, pos := "tapefmt.go:130", after := #[{ on := 15, ground := Go.Ground.data }, { on := 16, ground := Go.Ground.data }, { on := 13, ground := Go.Ground.guard }], guard := some (13, false) }, { dst := some 47, op := Go.Op.pick (Go.Operand.tmp 42) (Go.Operand.const (Go.Value.bool true)) (Go.Operand.tmp 46), type := 4, pos := "tapefmt.go:130", after := #[{ on := 13, ground := Go.Ground.data }, { on := 17, ground := Go.Ground.data }], guard := none }, { dst := some 48, op := Go.Op.move (Go.Operand.tmp 47), type := 4, pos := "tapefmt.go:130", after := #[{ on := 18, ground := Go.Ground.data }, { on := 13, ground := Go.Ground.chain }], guard := none }, { dst := some 49, op := Go.Op.fieldAddr 78 (Go.Operand.tmp 11) 3, type := 0, pos := "tapefmt.go:130", after := #[{ on := 19, ground := Go.Ground.guard }], guard := some (19, false) }, { dst := some 50, op := Go.Op.load 3 (Go.Operand.tmp 49), type := 3, pos := "tapefmt.go:130", after := #[{ on := 20, ground := Go.Ground.data }, { on := 19, ground := Go.Ground.guard }], guard := some (19, false) }, { dst := some 51, op := Go.Op.move (Go.Operand.tmp 10), type := 3, pos := "tapefmt.go:130", after := #[{ on := 19, ground := Go.Ground.guard }], guard := some (19, false) }, { dst := some 52, op := Go.Op.binOp Go.BinOp.neq 3 (Go.Operand.tmp 50) (Go.Operand.tmp 51) 3, type := 4, pos := "tapefmt.go:130", after := #[{ on := 21, ground := Go.Ground.data }, { on := 22, ground := Go.Ground.data }, { on := 19, ground := Go.Ground.guard }], guard := some (19, false) }, { dst := some 53, op := Go.Op.pick (Go.Operand.tmp 48) (Go.Operand.const (Go.Value.bool true)) (Go.Operand.tmp 52), type := 4, pos := "tapefmt.go:130", after := #[{ on := 19, ground := Go.Ground.data }, { on := 23, ground := Go.Ground.data }], guard := none }, { dst := some 54, op := Go.Op.move (Go.Operand.tmp 53), type := 4, pos := "tapefmt.go:130", after := #[{ on := 24, ground := Go.Ground.data }, { on := 19, ground := Go.Ground.chain }], guard := none }, { dst := some 55, op := Go.Op.fieldAddr 78 (Go.Operand.tmp 11) 4, type := 0, pos := "tapefmt.go:130", after := #[{ on := 25, ground := Go.Ground.guard }], guard := some (25, false) }, { dst := some 56, op := Go.Op.load 3 (Go.Operand.tmp 55), type := 3, pos := "tapefmt.go:130", after := #[{ on := 26, ground := Go.Ground.data }, { on := 25, ground := Go.Ground.guard }], guard := some (25, false) }, { dst := some 57, op := Go.Op.fieldAddr 78 (Go.Operand.tmp 11) 5, type := 0, pos := "tapefmt.go:130", after := #[{ on := 25, ground := Go.Ground.guard }], guard := some (25, false) }, { dst := some 58, op := Go.Op.load 3 (Go.Operand.tmp 57), type := 3, pos := "tapefmt.go:130", after := #[{ on := 28, ground := Go.Ground.data }, { on := 25, ground := Go.Ground.guard }], guard := some (25, false) }, { dst := some 59, op := Go.Op.call { callee := Go.Callee.value (Go.Operand.func 47), args := #[Go.Operand.tmp 58], argTypes := #[3] }, type := 3, pos := "tapefmt.go:130", after := #[{ on := 29, ground := Go.Ground.data }, { on := 25, ground := Go.Ground.chain }, { on := 25, ground := Go.Ground.guard }], guard := some (25, false) }, { dst := some 60, op := Go.Op.binOp Go.BinOp.neq 3 (Go.Operand.tmp 56) (Go.Operand.tmp 59) 3, type := 4, pos := "tapefmt.go:130", after := #[{ on := 27, ground := Go.Ground.data }, { on := 30, ground := Go.Ground.data }, { on := 25, ground := Go.Ground.guard }], guard := some (25, false) }, { dst := some 61, op := Go.Op.pick (Go.Operand.tmp 54) (Go.Operand.const (Go.Value.bool true)) (Go.Operand.tmp 60), type := 4, pos := "tapefmt.go:130", after := #[{ on := 25, ground := Go.Ground.data }, { on := 31, ground := Go.Ground.data }], guard := none }]
set_option maxRecDepth 100000 in
set_option maxHeartbeats 4000000 in
theorem rg_step {w : World} {B g b X : Nat} {t : VS} {acc : List UInt8} {lab pl pd : ByteArray} {from_ k id n2 pb pi pp pn pz ps : Nat} {m1 m2 m3 m4 m5 : Bool} {base : Array Value} {Q : Exit → Act → World → Prop} (E : RgEnv w B g t b acc X lab pl pd from_ k id n2 pb pi pp pn pz ps m1 m2 m3 m4 m5 base) :
    ∀ f a W i o, rgOps[i]? = some o → f i = false → (∀ e ∈ o.after, Region.binds .any e = true → f e.on = true) → (rgTb lab pl from_ k id n2 pb pi pp pn pz m1 m2 m3 m4 m5 g X base).Inv (RdT w B g t b acc X #[.string pl, .int .i64 (pb : Nat), .int .u64 (pi : Nat), .int .i64 (pp : Nat), .int .i64 (pn : Nat), .int .i64 (pz : Nat), .int .u32 (ps : Nat), .string pd]) f a W → wpOp Tryd.prog rgOps Q i (fun a' W' => (rgTb lab pl from_ k id n2 pb pi pp pn pz m1 m2 m3 m4 m5 g X base).Inv (RdT w B g t b acc X #[.string pl, .int .i64 (pb : Nat), .int .u64 (pi : Nat), .int .i64 (pp : Nat), .int .i64 (pn : Nat), .int .i64 (pz : Nat), .int .u32 (ps : Nat), .string pd]) (hit f i) a' W') a W := by
  intro f a W i o ho hf hed hI
  have hi : i < 33 := (Array.getElem?_eq_some_iff.1 ho).1
  have hc : i = 0 ∨ i = 1 ∨ i = 2 ∨ i = 3 ∨ i = 4 ∨ i = 5 ∨ i = 6 ∨ i = 7 ∨ i = 8 ∨ i = 9 ∨ i = 10 ∨ i = 11 ∨ i = 12 ∨ i = 13 ∨ i = 14 ∨ i = 15 ∨ i = 16 ∨ i = 17 ∨ i = 18 ∨ i = 19 ∨ i = 20 ∨ i = 21 ∨ i = 22 ∨ i = 23 ∨ i = 24 ∨ i = 25 ∨ i = 26 ∨ i = 27 ∨ i = 28 ∨ i = 29 ∨ i = 30 ∨ i = 31 ∨ i = 32 := by omega
  rcases hc with rfl | rfl | rfl | rfl | rfl | rfl | rfl | rfl | rfl | rfl | rfl | rfl | rfl | rfl | rfl | rfl | rfl | rfl | rfl | rfl | rfl | rfl | rfl | rfl | rfl | rfl | rfl | rfl | rfl | rfl | rfl | rfl | rfl
  · cases ho
    exact wpOp_step (o := { dst := some 29, op := Go.Op.fieldAddr 78 (Go.Operand.tmp 11) 0, type := 0, pos := "tapefmt.go:130", after := #[], guard := none }) rfl fun K hK => rg_0 E hI "tapefmt.go:130" (fun a' W' h => hK a' W' h)
  · cases ho
    exact wpOp_step (o := { dst := some 30, op := Go.Op.load 9 (Go.Operand.tmp 29), type := 9, pos := "tapefmt.go:130", after := #[{ on := 0, ground := Go.Ground.data }], guard := none }) rfl fun K hK => rg_1 E hI (hed ⟨0, Go.Ground.data⟩ (Array.mem_of_getElem? (i := 0) rfl) rfl) "tapefmt.go:130" (fun a' W' h => hK a' W' h)
  · cases ho
    exact wpOp_step (o := { dst := some 31, op := Go.Op.move (Go.Operand.tmp 0), type := 40, pos := "tapefmt.go:130", after := #[], guard := none }) rfl fun K hK => rg_2 E hI "tapefmt.go:130" (fun a' W' h => hK a' W' h)
  · cases ho
    exact wpOp_step (o := { dst := some 32, op := Go.Op.call { callee := Go.Callee.value (Go.Operand.func 13), args := #[Go.Operand.tmp 31], argTypes := #[40] }, type := 9, pos := "tapefmt.go:130", after := #[{ on := 2, ground := Go.Ground.data }], guard := none }) rfl fun K hK => rg_3 E hI (hed ⟨2, Go.Ground.data⟩ (Array.mem_of_getElem? (i := 0) rfl) rfl) "tapefmt.go:130" (fun a' W' h => hK a' W' h)
  · cases ho
    exact wpOp_step (o := { dst := some 33, op := Go.Op.binOp Go.BinOp.neq 9 (Go.Operand.tmp 30) (Go.Operand.tmp 32) 9, type := 4, pos := "tapefmt.go:130", after := #[{ on := 1, ground := Go.Ground.data }, { on := 3, ground := Go.Ground.data }], guard := none }) rfl fun K hK => rg_4 E hI (hed ⟨1, Go.Ground.data⟩ (Array.mem_of_getElem? (i := 0) rfl) rfl) (hed ⟨3, Go.Ground.data⟩ (Array.mem_of_getElem? (i := 1) rfl) rfl) "tapefmt.go:130" (fun a' W' h => hK a' W' h)
  · cases ho
    exact wpOp_step (o := { dst := some 34, op := Go.Op.move (Go.Operand.tmp 33), type := 4, pos := "tapefmt.go:130", after := #[{ on := 4, ground := Go.Ground.data }, { on := 3, ground := Go.Ground.chain }], guard := none }) rfl fun K hK => rg_5 E hI (hed ⟨3, Go.Ground.chain⟩ (Array.mem_of_getElem? (i := 1) rfl) rfl) (hed ⟨4, Go.Ground.data⟩ (Array.mem_of_getElem? (i := 0) rfl) rfl) "tapefmt.go:130" (fun a' W' h => hK a' W' h)
  · cases ho
    exact wpOp_step (o := { dst := some 35, op := Go.Op.fieldAddr 78 (Go.Operand.tmp 11) 1, type := 0, pos := "tapefmt.go:130", after := #[{ on := 5, ground := Go.Ground.guard }], guard := some (5, false) }) rfl fun K hK => rg_6 E hI (hed ⟨5, Go.Ground.guard⟩ (Array.mem_of_getElem? (i := 0) rfl) rfl) rfl "tapefmt.go:130" (fun a' W' h => hK a' W' h)
  · cases ho
    exact wpOp_step (o := { dst := some 36, op := Go.Op.load 3 (Go.Operand.tmp 35), type := 3, pos := "tapefmt.go:130", after := #[{ on := 6, ground := Go.Ground.data }, { on := 5, ground := Go.Ground.guard }], guard := some (5, false) }) rfl fun K hK => rg_7 E hI (hed ⟨5, Go.Ground.guard⟩ (Array.mem_of_getElem? (i := 1) rfl) rfl) (hed ⟨6, Go.Ground.data⟩ (Array.mem_of_getElem? (i := 0) rfl) rfl) rfl "tapefmt.go:130" (fun a' W' h => hK a' W' h)
  · cases ho
    exact wpOp_step (o := { dst := some 37, op := Go.Op.move (Go.Operand.tmp 1), type := 3, pos := "tapefmt.go:130", after := #[{ on := 5, ground := Go.Ground.guard }], guard := some (5, false) }) rfl fun K hK => rg_8 E hI (hed ⟨5, Go.Ground.guard⟩ (Array.mem_of_getElem? (i := 0) rfl) rfl) rfl "tapefmt.go:130" (fun a' W' h => hK a' W' h)
  · cases ho
    exact wpOp_step (o := { dst := some 38, op := Go.Op.move (Go.Operand.tmp 10), type := 3, pos := "tapefmt.go:130", after := #[{ on := 5, ground := Go.Ground.guard }], guard := some (5, false) }) rfl fun K hK => rg_9 E hI (hed ⟨5, Go.Ground.guard⟩ (Array.mem_of_getElem? (i := 0) rfl) rfl) rfl "tapefmt.go:130" (fun a' W' h => hK a' W' h)
  · cases ho
    exact wpOp_step (o := { dst := some 39, op := Go.Op.binOp Go.BinOp.add 3 (Go.Operand.tmp 37) (Go.Operand.tmp 38) 3, type := 3, pos := "tapefmt.go:130", after := #[{ on := 8, ground := Go.Ground.data }, { on := 9, ground := Go.Ground.data }, { on := 5, ground := Go.Ground.guard }], guard := some (5, false) }) rfl fun K hK => rg_10 E hI (hed ⟨5, Go.Ground.guard⟩ (Array.mem_of_getElem? (i := 2) rfl) rfl) (hed ⟨8, Go.Ground.data⟩ (Array.mem_of_getElem? (i := 0) rfl) rfl) (hed ⟨9, Go.Ground.data⟩ (Array.mem_of_getElem? (i := 1) rfl) rfl) rfl "tapefmt.go:130" (fun a' W' h => hK a' W' h)
  · cases ho
    exact wpOp_step (o := { dst := some 40, op := Go.Op.binOp Go.BinOp.neq 3 (Go.Operand.tmp 36) (Go.Operand.tmp 39) 3, type := 4, pos := "tapefmt.go:130", after := #[{ on := 7, ground := Go.Ground.data }, { on := 10, ground := Go.Ground.data }, { on := 5, ground := Go.Ground.guard }], guard := some (5, false) }) rfl fun K hK => rg_11 E hI (hed ⟨5, Go.Ground.guard⟩ (Array.mem_of_getElem? (i := 2) rfl) rfl) (hed ⟨7, Go.Ground.data⟩ (Array.mem_of_getElem? (i := 0) rfl) rfl) (hed ⟨10, Go.Ground.data⟩ (Array.mem_of_getElem? (i := 1) rfl) rfl) rfl "tapefmt.go:130" (fun a' W' h => hK a' W' h)
  · cases ho
    exact wpOp_step (o := { dst := some 41, op := Go.Op.pick (Go.Operand.tmp 34) (Go.Operand.const (Go.Value.bool true)) (Go.Operand.tmp 40), type := 4, pos := "tapefmt.go:130", after := #[{ on := 5, ground := Go.Ground.data }, { on := 11, ground := Go.Ground.data }], guard := none }) rfl fun K hK => rg_12 E hI (hed ⟨5, Go.Ground.data⟩ (Array.mem_of_getElem? (i := 0) rfl) rfl) (hed ⟨11, Go.Ground.data⟩ (Array.mem_of_getElem? (i := 1) rfl) rfl) "tapefmt.go:130" (fun a' W' h => hK a' W' h)
  · cases ho
    exact wpOp_step (o := { dst := some 42, op := Go.Op.move (Go.Operand.tmp 41), type := 4, pos := "tapefmt.go:130", after := #[{ on := 12, ground := Go.Ground.data }, { on := 5, ground := Go.Ground.chain }], guard := none }) rfl fun K hK => rg_13 E hI (hed ⟨5, Go.Ground.chain⟩ (Array.mem_of_getElem? (i := 1) rfl) rfl) (hed ⟨12, Go.Ground.data⟩ (Array.mem_of_getElem? (i := 0) rfl) rfl) "tapefmt.go:130" (fun a' W' h => hK a' W' h)
  · cases ho
    exact wpOp_step (o := { dst := some 43, op := Go.Op.fieldAddr 78 (Go.Operand.tmp 11) 2, type := 0, pos := "tapefmt.go:130", after := #[{ on := 13, ground := Go.Ground.guard }], guard := some (13, false) }) rfl fun K hK => rg_14 E hI (hed ⟨13, Go.Ground.guard⟩ (Array.mem_of_getElem? (i := 0) rfl) rfl) rfl "tapefmt.go:130" (fun a' W' h => hK a' W' h)
  · cases ho
    exact wpOp_step (o := { dst := some 44, op := Go.Op.load 30 (Go.Operand.tmp 43), type := 30, pos := "tapefmt.go:130", after := #[{ on := 14, ground := Go.Ground.data }, { on := 13, ground := Go.Ground.guard }], guard := some (13, false) }) rfl fun K hK => rg_15 E hI (hed ⟨13, Go.Ground.guard⟩ (Array.mem_of_getElem? (i := 1) rfl) rfl) (hed ⟨14, Go.Ground.data⟩ (Array.mem_of_getElem? (i := 0) rfl) rfl) rfl "tapefmt.go:130" (fun a' W' h => hK a' W' h)
  · cases ho
    exact wpOp_step (o := { dst := some 45, op := Go.Op.move (Go.Operand.tmp 2), type := 30, pos := "tapefmt.go:130", after := #[{ on := 13, ground := Go.Ground.guard }], guard := some (13, false) }) rfl fun K hK => rg_16 E hI (hed ⟨13, Go.Ground.guard⟩ (Array.mem_of_getElem? (i := 0) rfl) rfl) rfl "tapefmt.go:130" (fun a' W' h => hK a' W' h)
  · cases ho
    exact wpOp_step (o := { dst := some 46, op := Go.Op.binOp Go.BinOp.neq 30 (Go.Operand.tmp 44) (Go.Operand.tmp 45) 30, type := 4, pos := "tapefmt.go:130", after := #[{ on := 15, ground := Go.Ground.data }, { on := 16, ground := Go.Ground.data }, { on := 13, ground := Go.Ground.guard }], guard := some (13, false) }) rfl fun K hK => rg_17 E hI (hed ⟨13, Go.Ground.guard⟩ (Array.mem_of_getElem? (i := 2) rfl) rfl) (hed ⟨15, Go.Ground.data⟩ (Array.mem_of_getElem? (i := 0) rfl) rfl) (hed ⟨16, Go.Ground.data⟩ (Array.mem_of_getElem? (i := 1) rfl) rfl) rfl "tapefmt.go:130" (fun a' W' h => hK a' W' h)
  · cases ho
    exact wpOp_step (o := { dst := some 47, op := Go.Op.pick (Go.Operand.tmp 42) (Go.Operand.const (Go.Value.bool true)) (Go.Operand.tmp 46), type := 4, pos := "tapefmt.go:130", after := #[{ on := 13, ground := Go.Ground.data }, { on := 17, ground := Go.Ground.data }], guard := none }) rfl fun K hK => rg_18 E hI (hed ⟨13, Go.Ground.data⟩ (Array.mem_of_getElem? (i := 0) rfl) rfl) (hed ⟨17, Go.Ground.data⟩ (Array.mem_of_getElem? (i := 1) rfl) rfl) "tapefmt.go:130" (fun a' W' h => hK a' W' h)
  · cases ho
    exact wpOp_step (o := { dst := some 48, op := Go.Op.move (Go.Operand.tmp 47), type := 4, pos := "tapefmt.go:130", after := #[{ on := 18, ground := Go.Ground.data }, { on := 13, ground := Go.Ground.chain }], guard := none }) rfl fun K hK => rg_19 E hI (hed ⟨13, Go.Ground.chain⟩ (Array.mem_of_getElem? (i := 1) rfl) rfl) (hed ⟨18, Go.Ground.data⟩ (Array.mem_of_getElem? (i := 0) rfl) rfl) "tapefmt.go:130" (fun a' W' h => hK a' W' h)
  · cases ho
    exact wpOp_step (o := { dst := some 49, op := Go.Op.fieldAddr 78 (Go.Operand.tmp 11) 3, type := 0, pos := "tapefmt.go:130", after := #[{ on := 19, ground := Go.Ground.guard }], guard := some (19, false) }) rfl fun K hK => rg_20 E hI (hed ⟨19, Go.Ground.guard⟩ (Array.mem_of_getElem? (i := 0) rfl) rfl) rfl "tapefmt.go:130" (fun a' W' h => hK a' W' h)
  · cases ho
    exact wpOp_step (o := { dst := some 50, op := Go.Op.load 3 (Go.Operand.tmp 49), type := 3, pos := "tapefmt.go:130", after := #[{ on := 20, ground := Go.Ground.data }, { on := 19, ground := Go.Ground.guard }], guard := some (19, false) }) rfl fun K hK => rg_21 E hI (hed ⟨19, Go.Ground.guard⟩ (Array.mem_of_getElem? (i := 1) rfl) rfl) (hed ⟨20, Go.Ground.data⟩ (Array.mem_of_getElem? (i := 0) rfl) rfl) rfl "tapefmt.go:130" (fun a' W' h => hK a' W' h)
  · cases ho
    exact wpOp_step (o := { dst := some 51, op := Go.Op.move (Go.Operand.tmp 10), type := 3, pos := "tapefmt.go:130", after := #[{ on := 19, ground := Go.Ground.guard }], guard := some (19, false) }) rfl fun K hK => rg_22 E hI (hed ⟨19, Go.Ground.guard⟩ (Array.mem_of_getElem? (i := 0) rfl) rfl) rfl "tapefmt.go:130" (fun a' W' h => hK a' W' h)
  · cases ho
    exact wpOp_step (o := { dst := some 52, op := Go.Op.binOp Go.BinOp.neq 3 (Go.Operand.tmp 50) (Go.Operand.tmp 51) 3, type := 4, pos := "tapefmt.go:130", after := #[{ on := 21, ground := Go.Ground.data }, { on := 22, ground := Go.Ground.data }, { on := 19, ground := Go.Ground.guard }], guard := some (19, false) }) rfl fun K hK => rg_23 E hI (hed ⟨19, Go.Ground.guard⟩ (Array.mem_of_getElem? (i := 2) rfl) rfl) (hed ⟨21, Go.Ground.data⟩ (Array.mem_of_getElem? (i := 0) rfl) rfl) (hed ⟨22, Go.Ground.data⟩ (Array.mem_of_getElem? (i := 1) rfl) rfl) rfl "tapefmt.go:130" (fun a' W' h => hK a' W' h)
  · cases ho
    exact wpOp_step (o := { dst := some 53, op := Go.Op.pick (Go.Operand.tmp 48) (Go.Operand.const (Go.Value.bool true)) (Go.Operand.tmp 52), type := 4, pos := "tapefmt.go:130", after := #[{ on := 19, ground := Go.Ground.data }, { on := 23, ground := Go.Ground.data }], guard := none }) rfl fun K hK => rg_24 E hI (hed ⟨19, Go.Ground.data⟩ (Array.mem_of_getElem? (i := 0) rfl) rfl) (hed ⟨23, Go.Ground.data⟩ (Array.mem_of_getElem? (i := 1) rfl) rfl) "tapefmt.go:130" (fun a' W' h => hK a' W' h)
  · cases ho
    exact wpOp_step (o := { dst := some 54, op := Go.Op.move (Go.Operand.tmp 53), type := 4, pos := "tapefmt.go:130", after := #[{ on := 24, ground := Go.Ground.data }, { on := 19, ground := Go.Ground.chain }], guard := none }) rfl fun K hK => rg_25 E hI (hed ⟨19, Go.Ground.chain⟩ (Array.mem_of_getElem? (i := 1) rfl) rfl) (hed ⟨24, Go.Ground.data⟩ (Array.mem_of_getElem? (i := 0) rfl) rfl) "tapefmt.go:130" (fun a' W' h => hK a' W' h)
  · cases ho
    exact wpOp_step (o := { dst := some 55, op := Go.Op.fieldAddr 78 (Go.Operand.tmp 11) 4, type := 0, pos := "tapefmt.go:130", after := #[{ on := 25, ground := Go.Ground.guard }], guard := some (25, false) }) rfl fun K hK => rg_26 E hI (hed ⟨25, Go.Ground.guard⟩ (Array.mem_of_getElem? (i := 0) rfl) rfl) rfl "tapefmt.go:130" (fun a' W' h => hK a' W' h)
  · cases ho
    exact wpOp_step (o := { dst := some 56, op := Go.Op.load 3 (Go.Operand.tmp 55), type := 3, pos := "tapefmt.go:130", after := #[{ on := 26, ground := Go.Ground.data }, { on := 25, ground := Go.Ground.guard }], guard := some (25, false) }) rfl fun K hK => rg_27 E hI (hed ⟨25, Go.Ground.guard⟩ (Array.mem_of_getElem? (i := 1) rfl) rfl) (hed ⟨26, Go.Ground.data⟩ (Array.mem_of_getElem? (i := 0) rfl) rfl) rfl "tapefmt.go:130" (fun a' W' h => hK a' W' h)
  · cases ho
    exact wpOp_step (o := { dst := some 57, op := Go.Op.fieldAddr 78 (Go.Operand.tmp 11) 5, type := 0, pos := "tapefmt.go:130", after := #[{ on := 25, ground := Go.Ground.guard }], guard := some (25, false) }) rfl fun K hK => rg_28 E hI (hed ⟨25, Go.Ground.guard⟩ (Array.mem_of_getElem? (i := 0) rfl) rfl) rfl "tapefmt.go:130" (fun a' W' h => hK a' W' h)
  · cases ho
    exact wpOp_step (o := { dst := some 58, op := Go.Op.load 3 (Go.Operand.tmp 57), type := 3, pos := "tapefmt.go:130", after := #[{ on := 28, ground := Go.Ground.data }, { on := 25, ground := Go.Ground.guard }], guard := some (25, false) }) rfl fun K hK => rg_29 E hI (hed ⟨25, Go.Ground.guard⟩ (Array.mem_of_getElem? (i := 1) rfl) rfl) (hed ⟨28, Go.Ground.data⟩ (Array.mem_of_getElem? (i := 0) rfl) rfl) rfl "tapefmt.go:130" (fun a' W' h => hK a' W' h)
  · cases ho
    exact wpOp_step (o := { dst := some 59, op := Go.Op.call { callee := Go.Callee.value (Go.Operand.func 47), args := #[Go.Operand.tmp 58], argTypes := #[3] }, type := 3, pos := "tapefmt.go:130", after := #[{ on := 29, ground := Go.Ground.data }, { on := 25, ground := Go.Ground.chain }, { on := 25, ground := Go.Ground.guard }], guard := some (25, false) }) rfl fun K hK => rg_30 E hI (hed ⟨25, Go.Ground.chain⟩ (Array.mem_of_getElem? (i := 1) rfl) rfl) (hed ⟨29, Go.Ground.data⟩ (Array.mem_of_getElem? (i := 0) rfl) rfl) rfl "tapefmt.go:130" (fun a' W' h => hK a' W' h)
  · cases ho
    exact wpOp_step (o := { dst := some 60, op := Go.Op.binOp Go.BinOp.neq 3 (Go.Operand.tmp 56) (Go.Operand.tmp 59) 3, type := 4, pos := "tapefmt.go:130", after := #[{ on := 27, ground := Go.Ground.data }, { on := 30, ground := Go.Ground.data }, { on := 25, ground := Go.Ground.guard }], guard := some (25, false) }) rfl fun K hK => rg_31 E hI (hed ⟨25, Go.Ground.guard⟩ (Array.mem_of_getElem? (i := 2) rfl) rfl) (hed ⟨27, Go.Ground.data⟩ (Array.mem_of_getElem? (i := 0) rfl) rfl) (hed ⟨30, Go.Ground.data⟩ (Array.mem_of_getElem? (i := 1) rfl) rfl) rfl "tapefmt.go:130" (fun a' W' h => hK a' W' h)
  · cases ho
    exact wpOp_step (o := { dst := some 61, op := Go.Op.pick (Go.Operand.tmp 54) (Go.Operand.const (Go.Value.bool true)) (Go.Operand.tmp 60), type := 4, pos := "tapefmt.go:130", after := #[{ on := 25, ground := Go.Ground.data }, { on := 31, ground := Go.Ground.data }], guard := none }) rfl fun K hK => rg_32 E hI (hed ⟨25, Go.Ground.data⟩ (Array.mem_of_getElem? (i := 0) rfl) rfl) (hed ⟨31, Go.Ground.data⟩ (Array.mem_of_getElem? (i := 1) rfl) rfl) "tapefmt.go:130" (fun a' W' h => hK a' W' h)

/-- THE REGION -/
theorem rg_region {w0 : World} {B g b X : Nat} {t : VS} {acc : List UInt8} {lab pl pd : ByteArray} {from_ k id n2 pb pi pp pn pz ps : Nat} {m1 m2 m3 m4 m5 : Bool} {tm : Array Value} {Q : Exit → Act → World → Prop} {w : World} (hsz : tm.size = 75) (E : RgEnv w0 B g t b acc X lab pl pd from_ k id n2 pb pi pp pn pz ps m1 m2 m3 m4 m5 tm) (hT : (RdT w0 B g t b acc X #[.string pl, .int .i64 (pb : Nat), .int .u64 (pi : Nat), .int .i64 (pp : Nat), .int .i64 (pn : Nat), .int .i64 (pz : Nat), .int .u32 (ps : Nat), .string pd]) w)
    (hend : ∀ (xs : List Value) W, xs.length = 32 → (RdT w0 B g t b acc X #[.string pl, .int .i64 (pb : Nat), .int .u64 (pi : Nat), .int .i64 (pp : Nat), .int .i64 (pn : Nat), .int .i64 (pz : Nat), .int .u32 (ps : Nat), .string pd]) W → Q .normal ⟨(tm.toList.take 29 ++ (xs ++ .bool (m1 || m2 || m3 || m4 || m5) :: tm.toList.drop 62)).toArray, []⟩ W) : (Code.region 10 rgOps true).wp Tryd.prog Q ⟨tm, []⟩ w := by
  refine wp_region_inv (by kernel_rfl) (by kernel_rfl) ((rgTb lab pl from_ k id n2 pb pi pp pn pz m1 m2 m3 m4 m5 g X tm).Inv (RdT w0 B g t b acc X #[.string pl, .int .i64 (pb : Nat), .int .u64 (pi : Nat), .int .i64 (pp : Nat), .int .i64 (pn : Nat), .int .i64 (pz : Nat), .int .u32 (ps : Nat), .string pd])) ⟨hsz, rfl, fun s _ => rfl, fun i _ hf => (by cases hf), hT.drew⟩ (rg_step E) ?_
  intro f a W hall hI
  obtain ⟨xs, hx, hl⟩ := hI.list (m := 32) hsz rfl (show 29 + 33 ≤ 75 by decide) (hall 32 (show 32 < 33 by decide))
  have := hend xs W hx hI.held
  have ha : a = ⟨(tm.toList.take 29 ++ (xs ++ .bool (m1 || m2 || m3 || m4 || m5) :: tm.toList.drop 62)).toArray, []⟩ := by
    obtain ⟨tms, df⟩ := a
    have hd : df = [] := hI.defers
    subst hd
    congr 1
    apply Array.toList_inj.1
    rw [List.toList_toArray]
    exact hl
  rw [ha]
  exact this
end Go.Proofs.YtniecodpdmjppaaDoor
