/- Lgx, Lgya, Lgyb, Lgyc: merged (a claim holds few files). -/
import Derived.Test.YtniecodpdmjppaaDoorLB3
import Derived.Test.YtniecodpdmjppaaDoorOb
/- LibraryErased: region 8: a blob is written. Written by gen_rf.py. -/
namespace Go.Proofs.YtniecodpdmjppaaDoor
open Go.RowKit
open Sm
set_option linter.unusedVariables false
set_option linter.unusedSimpArgs false

def lgxTb (g len cap k id v r1 : Nat) (ad : Addr) (s d : ByteArray) (n : Int) (Pre Post : World → Prop) (base : Array Value) : Tf where
  slots := [29, 30, 31, 32, 33, 34, 35, 36, 37, 38, 39, 40, 41, 42, 43, 44, 45, 46, 47, 48, 28, 49, 50, 8, 9]
  size := 120
  base := base
  val := fun
    | 0 => .pointer (some ⟨g, 0, none⟩)
    | 1 => .int .i64 (k : Int)
    | 2 => .int .i64 (v : Int)
    | 3 => .slice (some ad) len cap
    | 4 => .int .i64 (k : Int)
    | 5 => .pointer (some (ad.add (k * 3)))
    | 6 => .pointer (some (ad.add (k * 3)))
    | 7 => .int .u64 (id : Int)
    | 8 => .slice (some ad) len cap
    | 9 => .int .i64 (k : Int)
    | 10 => .pointer (some (ad.add (k * 3)))
    | 11 => .pointer (some ⟨(ad.add (k * 3)).block, (ad.add (k * 3)).off + 1, none⟩)
    | 12 => .string s
    | 13 => .slice (some ad) len cap
    | 14 => .int .i64 (k : Int)
    | 15 => .pointer (some (ad.add (k * 3)))
    | 16 => .pointer (some ⟨(ad.add (k * 3)).block, (ad.add (k * 3)).off + 2, none⟩)
    | 17 => .int .i64 n
    | 18 => .string d
    | 19 => .tuple #[.int .i64 (r1 : Int), .int .i64 0]
    | 20 => .tuple #[.int .i64 (r1 : Int), .int .i64 0]
    | 21 => .int .i64 (r1 : Int)
    | 22 => .int .i64 0
    | 23 => .int .i64 (r1 : Int)
    | 24 => .int .i64 0
    | _ => undef

structure lgxEnv (g len cap k id v r1 : Nat) (ad : Addr) (s d : ByteArray) (n : Int) (Pre Post : World → Prop) (base : Array Value) : Prop where
  b5 : base[5]?.getD undef = .pointer (some ⟨g, 0, none⟩)
  b7 : base[7]?.getD undef = .int .i64 (k : Int)
  b0 : base[0]?.getD undef = .slice (some ad) len cap
  kk : k < len
  md : (k : Int).tmod 2 = (v : Int)
  c : ∀ W, Pre W ∨ Post W → W.cell? (ad.add (k * 3)) = some (.int .u64 (id : Int)) ∧ W.cell? ⟨(ad.add (k * 3)).block, (ad.add (k * 3)).off + 1, none⟩ = some (.string s) ∧ W.cell? ⟨(ad.add (k * 3)).block, (ad.add (k * 3)).off + 2, none⟩ = some (.int .i64 n)
  lo : ∀ W, Calls Tryd.prog 8 #[.string s, .int .i64 n] W fun e w' => e = .returned (.string d) ∧ W = w'
  wr : ∀ W, Pre W → Calls Tryd.prog 7 #[.pointer (some ⟨g, 0, none⟩), .int .i64 (v : Int), .int .u64 (id : Int), .string d] W fun e w' => e = .returned (.tuple #[.int .i64 (r1 : Int), .int .i64 0]) ∧ Post w'

theorem lgx_nodup : [29, 30, 31, 32, 33, 34, 35, 36, 37, 38, 39, 40, 41, 42, 43, 44, 45, 46, 47, 48, 28, 49, 50, 8, 9].Nodup := by decide
set_option maxRecDepth 100000 in
theorem lgx_0 {g len cap k id v r1 : Nat} {ad : Addr} {s d : ByteArray} {n : Int} {Pre Post : World → Prop} {base : Array Value} {f : Nat → Bool} {a : Act} {W : World} {K : Act → World → Prop} {Q : Exit → Act → World → Prop} {ops : Array Oper} (E : lgxEnv g len cap k id v r1 ad s d n Pre Post base) (hI : (lgxTb g len cap k id v r1 ad s d n Pre Post base).Inv (fun f W => if f 19 = true then Post W else Pre W) f a W) (hf : f 0 = false) (pos : String) (hK : ∀ a' W', (lgxTb g len cap k id v r1 ad s d n Pre Post base).Inv (fun f W => if f 19 = true then Post W else Pre W) (hit f 0) a' W' → K a' W') : if Region.wanted { dst := some 29, op := Go.Op.move (Go.Operand.tmp 5), type := 25, pos := pos, after := #[], guard := none } (yielded ops a.tmps) = true then Oper.wp Tryd.prog { dst := some 29, op := Go.Op.move (Go.Operand.tmp 5), type := 25, pos := pos, after := #[], guard := none } a W K Q else K (a.put (some 29) undef) W := by
  have q : a.tmps[5]?.getD undef = .pointer (some ⟨g, 0, none⟩) := (hI.base 5 rfl).trans E.b5
  have R := Lib.hid (hI.step (i := 0) (d := 29) (v := .pointer (some ⟨g, 0, none⟩)) rfl lgx_nodup (show 29 < 120 by decide) rfl (show (if hit f 0 19 = true then Post W else Pre W) by rw [hit_of f 0 19 (by decide)]; exact hI.held))
  clear hI E hf
  go_simp
  exact hK _ _ R.out

set_option maxRecDepth 100000 in
theorem lgx_1 {g len cap k id v r1 : Nat} {ad : Addr} {s d : ByteArray} {n : Int} {Pre Post : World → Prop} {base : Array Value} {f : Nat → Bool} {a : Act} {W : World} {K : Act → World → Prop} {Q : Exit → Act → World → Prop} {ops : Array Oper} (E : lgxEnv g len cap k id v r1 ad s d n Pre Post base) (hI : (lgxTb g len cap k id v r1 ad s d n Pre Post base).Inv (fun f W => if f 19 = true then Post W else Pre W) f a W) (hf : f 1 = false) (pos : String) (hK : ∀ a' W', (lgxTb g len cap k id v r1 ad s d n Pre Post base).Inv (fun f W => if f 19 = true then Post W else Pre W) (hit f 1) a' W' → K a' W') : if Region.wanted { dst := some 30, op := Go.Op.move (Go.Operand.tmp 7), type := 3, pos := pos, after := #[], guard := none } (yielded ops a.tmps) = true then Oper.wp Tryd.prog { dst := some 30, op := Go.Op.move (Go.Operand.tmp 7), type := 3, pos := pos, after := #[], guard := none } a W K Q else K (a.put (some 30) undef) W := by
  have q : a.tmps[7]?.getD undef = .int .i64 (k : Int) := (hI.base 7 rfl).trans E.b7
  have R := Lib.hid (hI.step (i := 1) (d := 30) (v := .int .i64 (k : Int)) rfl lgx_nodup (show 30 < 120 by decide) rfl (show (if hit f 1 19 = true then Post W else Pre W) by rw [hit_of f 1 19 (by decide)]; exact hI.held))
  clear hI E hf
  go_simp
  exact hK _ _ R.out

set_option maxRecDepth 100000 in
theorem lgx_2 {g len cap k id v r1 : Nat} {ad : Addr} {s d : ByteArray} {n : Int} {Pre Post : World → Prop} {base : Array Value} {f : Nat → Bool} {a : Act} {W : World} {K : Act → World → Prop} {Q : Exit → Act → World → Prop} {ops : Array Oper} (E : lgxEnv g len cap k id v r1 ad s d n Pre Post base) (hI : (lgxTb g len cap k id v r1 ad s d n Pre Post base).Inv (fun f W => if f 19 = true then Post W else Pre W) f a W) (hf : f 2 = false) (h1 : f 1 = true) (pos : String) (hK : ∀ a' W', (lgxTb g len cap k id v r1 ad s d n Pre Post base).Inv (fun f W => if f 19 = true then Post W else Pre W) (hit f 2) a' W' → K a' W') : if Region.wanted { dst := some 31, op := Go.Op.binOp Go.BinOp.rem 3 (Go.Operand.tmp 30) (Go.Operand.const (Go.Value.int Go.IntKind.i64 2)) 3, type := 3, pos := pos, after := #[{ on := 1, ground := Go.Ground.data }], guard := none } (yielded ops a.tmps) = true then Oper.wp Tryd.prog { dst := some 31, op := Go.Op.binOp Go.BinOp.rem 3 (Go.Operand.tmp 30) (Go.Operand.const (Go.Value.int Go.IntKind.i64 2)) 3, type := 3, pos := pos, after := #[{ on := 1, ground := Go.Ground.data }], guard := none } a W K Q else K (a.put (some 31) undef) W := by
  have y0 : a.tmps[30]?.getD undef = .int .i64 (k : Int) := hI.val 1 30 rfl h1
  have hx := E.md
  have R := Lib.hid (hI.step (i := 2) (d := 31) (v := .int .i64 (v : Int)) rfl lgx_nodup (show 31 < 120 by decide) rfl (show (if hit f 2 19 = true then Post W else Pre W) by rw [hit_of f 2 19 (by decide)]; exact hI.held))
  clear hI E hf
  go_simp
  exact hK _ _ R.out

set_option maxRecDepth 100000 in
theorem lgx_3 {g len cap k id v r1 : Nat} {ad : Addr} {s d : ByteArray} {n : Int} {Pre Post : World → Prop} {base : Array Value} {f : Nat → Bool} {a : Act} {W : World} {K : Act → World → Prop} {Q : Exit → Act → World → Prop} {ops : Array Oper} (E : lgxEnv g len cap k id v r1 ad s d n Pre Post base) (hI : (lgxTb g len cap k id v r1 ad s d n Pre Post base).Inv (fun f W => if f 19 = true then Post W else Pre W) f a W) (hf : f 3 = false) (pos : String) (hK : ∀ a' W', (lgxTb g len cap k id v r1 ad s d n Pre Post base).Inv (fun f W => if f 19 = true then Post W else Pre W) (hit f 3) a' W' → K a' W') : if Region.wanted { dst := some 32, op := Go.Op.move (Go.Operand.tmp 0), type := 22, pos := pos, after := #[], guard := none } (yielded ops a.tmps) = true then Oper.wp Tryd.prog { dst := some 32, op := Go.Op.move (Go.Operand.tmp 0), type := 22, pos := pos, after := #[], guard := none } a W K Q else K (a.put (some 32) undef) W := by
  have q : a.tmps[0]?.getD undef = .slice (some ad) len cap := (hI.base 0 rfl).trans E.b0
  have R := Lib.hid (hI.step (i := 3) (d := 32) (v := .slice (some ad) len cap) rfl lgx_nodup (show 32 < 120 by decide) rfl (show (if hit f 3 19 = true then Post W else Pre W) by rw [hit_of f 3 19 (by decide)]; exact hI.held))
  clear hI E hf
  go_simp
  exact hK _ _ R.out

set_option maxRecDepth 100000 in
theorem lgx_4 {g len cap k id v r1 : Nat} {ad : Addr} {s d : ByteArray} {n : Int} {Pre Post : World → Prop} {base : Array Value} {f : Nat → Bool} {a : Act} {W : World} {K : Act → World → Prop} {Q : Exit → Act → World → Prop} {ops : Array Oper} (E : lgxEnv g len cap k id v r1 ad s d n Pre Post base) (hI : (lgxTb g len cap k id v r1 ad s d n Pre Post base).Inv (fun f W => if f 19 = true then Post W else Pre W) f a W) (hf : f 4 = false) (pos : String) (hK : ∀ a' W', (lgxTb g len cap k id v r1 ad s d n Pre Post base).Inv (fun f W => if f 19 = true then Post W else Pre W) (hit f 4) a' W' → K a' W') : if Region.wanted { dst := some 33, op := Go.Op.move (Go.Operand.tmp 7), type := 3, pos := pos, after := #[], guard := none } (yielded ops a.tmps) = true then Oper.wp Tryd.prog { dst := some 33, op := Go.Op.move (Go.Operand.tmp 7), type := 3, pos := pos, after := #[], guard := none } a W K Q else K (a.put (some 33) undef) W := by
  have q : a.tmps[7]?.getD undef = .int .i64 (k : Int) := (hI.base 7 rfl).trans E.b7
  have R := Lib.hid (hI.step (i := 4) (d := 33) (v := .int .i64 (k : Int)) rfl lgx_nodup (show 33 < 120 by decide) rfl (show (if hit f 4 19 = true then Post W else Pre W) by rw [hit_of f 4 19 (by decide)]; exact hI.held))
  clear hI E hf
  go_simp
  exact hK _ _ R.out

set_option maxRecDepth 100000 in
theorem lgx_5 {g len cap k id v r1 : Nat} {ad : Addr} {s d : ByteArray} {n : Int} {Pre Post : World → Prop} {base : Array Value} {f : Nat → Bool} {a : Act} {W : World} {K : Act → World → Prop} {Q : Exit → Act → World → Prop} {ops : Array Oper} (E : lgxEnv g len cap k id v r1 ad s d n Pre Post base) (hI : (lgxTb g len cap k id v r1 ad s d n Pre Post base).Inv (fun f W => if f 19 = true then Post W else Pre W) f a W) (hf : f 5 = false) (h3 : f 3 = true) (h4 : f 4 = true) (pos : String) (hK : ∀ a' W', (lgxTb g len cap k id v r1 ad s d n Pre Post base).Inv (fun f W => if f 19 = true then Post W else Pre W) (hit f 5) a' W' → K a' W') : if Region.wanted { dst := some 34, op := Go.Op.indexAddr 22 (Go.Operand.tmp 32) (Go.Operand.tmp 33), type := 0, pos := pos, after := #[{ on := 3, ground := Go.Ground.data }, { on := 4, ground := Go.Ground.data }], guard := none } (yielded ops a.tmps) = true then Oper.wp Tryd.prog { dst := some 34, op := Go.Op.indexAddr 22 (Go.Operand.tmp 32) (Go.Operand.tmp 33), type := 0, pos := pos, after := #[{ on := 3, ground := Go.Ground.data }, { on := 4, ground := Go.Ground.data }], guard := none } a W K Q else K (a.put (some 34) undef) W := by
  have y0 : a.tmps[32]?.getD undef = .slice (some ad) len cap := hI.val 3 32 rfl h3
  have y1 : a.tmps[33]?.getD undef = .int .i64 (k : Int) := hI.val 4 33 rfl h4
  have hk := E.kk
  have i0 : (0 : Int) ≤ (k : Int) := by omega
  have i1 : (k : Int) < (len : Int) := by omega
  have R := Lib.hid (hI.step (i := 5) (d := 34) (v := .pointer (some (ad.add (k * 3)))) rfl lgx_nodup (show 34 < 120 by decide) rfl (show (if hit f 5 19 = true then Post W else Pre W) by rw [hit_of f 5 19 (by decide)]; exact hI.held))
  clear hI E hf
  go_simp
  exact hK _ _ R.out

set_option maxRecDepth 100000 in
theorem lgx_6 {g len cap k id v r1 : Nat} {ad : Addr} {s d : ByteArray} {n : Int} {Pre Post : World → Prop} {base : Array Value} {f : Nat → Bool} {a : Act} {W : World} {K : Act → World → Prop} {Q : Exit → Act → World → Prop} {ops : Array Oper} (E : lgxEnv g len cap k id v r1 ad s d n Pre Post base) (hI : (lgxTb g len cap k id v r1 ad s d n Pre Post base).Inv (fun f W => if f 19 = true then Post W else Pre W) f a W) (hf : f 6 = false) (h5 : f 5 = true) (pos : String) (hK : ∀ a' W', (lgxTb g len cap k id v r1 ad s d n Pre Post base).Inv (fun f W => if f 19 = true then Post W else Pre W) (hit f 6) a' W' → K a' W') : if Region.wanted { dst := some 35, op := Go.Op.fieldAddr 32 (Go.Operand.tmp 34) 0, type := 0, pos := pos, after := #[{ on := 5, ground := Go.Ground.data }], guard := none } (yielded ops a.tmps) = true then Oper.wp Tryd.prog { dst := some 35, op := Go.Op.fieldAddr 32 (Go.Operand.tmp 34) 0, type := 0, pos := pos, after := #[{ on := 5, ground := Go.Ground.data }], guard := none } a W K Q else K (a.put (some 35) undef) W := by
  have q : a.tmps[34]?.getD undef = .pointer (some (ad.add (k * 3))) := hI.val 5 34 rfl h5
  have R := Lib.hid (hI.step (i := 6) (d := 35) (v := .pointer (some (ad.add (k * 3)))) rfl lgx_nodup (show 35 < 120 by decide) rfl (show (if hit f 6 19 = true then Post W else Pre W) by rw [hit_of f 6 19 (by decide)]; exact hI.held))
  clear hI E hf
  go_simp
  exact hK _ _ R.out

set_option maxRecDepth 100000 in
theorem lgx_7 {g len cap k id v r1 : Nat} {ad : Addr} {s d : ByteArray} {n : Int} {Pre Post : World → Prop} {base : Array Value} {f : Nat → Bool} {a : Act} {W : World} {K : Act → World → Prop} {Q : Exit → Act → World → Prop} {ops : Array Oper} (E : lgxEnv g len cap k id v r1 ad s d n Pre Post base) (hI : (lgxTb g len cap k id v r1 ad s d n Pre Post base).Inv (fun f W => if f 19 = true then Post W else Pre W) f a W) (hf : f 7 = false) (h6 : f 6 = true) (pos : String) (hK : ∀ a' W', (lgxTb g len cap k id v r1 ad s d n Pre Post base).Inv (fun f W => if f 19 = true then Post W else Pre W) (hit f 7) a' W' → K a' W') : if Region.wanted { dst := some 36, op := Go.Op.load 30 (Go.Operand.tmp 35), type := 30, pos := pos, after := #[{ on := 6, ground := Go.Ground.data }], guard := none } (yielded ops a.tmps) = true then Oper.wp Tryd.prog { dst := some 36, op := Go.Op.load 30 (Go.Operand.tmp 35), type := 30, pos := pos, after := #[{ on := 6, ground := Go.Ground.data }], guard := none } a W K Q else K (a.put (some 36) undef) W := by
  have q : a.tmps[35]?.getD undef = .pointer (some (ad.add (k * 3))) := hI.val 6 35 rfl h6
  have c : W.cell? (ad.add (k * 3)) = some (.int .u64 (id : Int)) := (E.c W (by have h : (if f 19 = true then Post W else Pre W) := hI.held; by_cases h8 : f 19 = true; (rw [if_pos h8] at h; exact .inr h); (rw [if_neg h8] at h; exact .inl h))).1
  have R := Lib.hid (hI.step (i := 7) (d := 36) (v := .int .u64 (id : Int)) rfl lgx_nodup (show 36 < 120 by decide) rfl (show (if hit f 7 19 = true then Post W else Pre W) by rw [hit_of f 7 19 (by decide)]; exact hI.held))
  clear hI E hf
  go_simp
  exact hK _ _ R.out

set_option maxRecDepth 100000 in
theorem lgx_8 {g len cap k id v r1 : Nat} {ad : Addr} {s d : ByteArray} {n : Int} {Pre Post : World → Prop} {base : Array Value} {f : Nat → Bool} {a : Act} {W : World} {K : Act → World → Prop} {Q : Exit → Act → World → Prop} {ops : Array Oper} (E : lgxEnv g len cap k id v r1 ad s d n Pre Post base) (hI : (lgxTb g len cap k id v r1 ad s d n Pre Post base).Inv (fun f W => if f 19 = true then Post W else Pre W) f a W) (hf : f 8 = false) (pos : String) (hK : ∀ a' W', (lgxTb g len cap k id v r1 ad s d n Pre Post base).Inv (fun f W => if f 19 = true then Post W else Pre W) (hit f 8) a' W' → K a' W') : if Region.wanted { dst := some 37, op := Go.Op.move (Go.Operand.tmp 0), type := 22, pos := pos, after := #[], guard := none } (yielded ops a.tmps) = true then Oper.wp Tryd.prog { dst := some 37, op := Go.Op.move (Go.Operand.tmp 0), type := 22, pos := pos, after := #[], guard := none } a W K Q else K (a.put (some 37) undef) W := by
  have q : a.tmps[0]?.getD undef = .slice (some ad) len cap := (hI.base 0 rfl).trans E.b0
  have R := Lib.hid (hI.step (i := 8) (d := 37) (v := .slice (some ad) len cap) rfl lgx_nodup (show 37 < 120 by decide) rfl (show (if hit f 8 19 = true then Post W else Pre W) by rw [hit_of f 8 19 (by decide)]; exact hI.held))
  clear hI E hf
  go_simp
  exact hK _ _ R.out

set_option maxRecDepth 100000 in
theorem lgx_9 {g len cap k id v r1 : Nat} {ad : Addr} {s d : ByteArray} {n : Int} {Pre Post : World → Prop} {base : Array Value} {f : Nat → Bool} {a : Act} {W : World} {K : Act → World → Prop} {Q : Exit → Act → World → Prop} {ops : Array Oper} (E : lgxEnv g len cap k id v r1 ad s d n Pre Post base) (hI : (lgxTb g len cap k id v r1 ad s d n Pre Post base).Inv (fun f W => if f 19 = true then Post W else Pre W) f a W) (hf : f 9 = false) (pos : String) (hK : ∀ a' W', (lgxTb g len cap k id v r1 ad s d n Pre Post base).Inv (fun f W => if f 19 = true then Post W else Pre W) (hit f 9) a' W' → K a' W') : if Region.wanted { dst := some 38, op := Go.Op.move (Go.Operand.tmp 7), type := 3, pos := pos, after := #[], guard := none } (yielded ops a.tmps) = true then Oper.wp Tryd.prog { dst := some 38, op := Go.Op.move (Go.Operand.tmp 7), type := 3, pos := pos, after := #[], guard := none } a W K Q else K (a.put (some 38) undef) W := by
  have q : a.tmps[7]?.getD undef = .int .i64 (k : Int) := (hI.base 7 rfl).trans E.b7
  have R := Lib.hid (hI.step (i := 9) (d := 38) (v := .int .i64 (k : Int)) rfl lgx_nodup (show 38 < 120 by decide) rfl (show (if hit f 9 19 = true then Post W else Pre W) by rw [hit_of f 9 19 (by decide)]; exact hI.held))
  clear hI E hf
  go_simp
  exact hK _ _ R.out

set_option maxRecDepth 100000 in
theorem lgx_10 {g len cap k id v r1 : Nat} {ad : Addr} {s d : ByteArray} {n : Int} {Pre Post : World → Prop} {base : Array Value} {f : Nat → Bool} {a : Act} {W : World} {K : Act → World → Prop} {Q : Exit → Act → World → Prop} {ops : Array Oper} (E : lgxEnv g len cap k id v r1 ad s d n Pre Post base) (hI : (lgxTb g len cap k id v r1 ad s d n Pre Post base).Inv (fun f W => if f 19 = true then Post W else Pre W) f a W) (hf : f 10 = false) (h8 : f 8 = true) (h9 : f 9 = true) (pos : String) (hK : ∀ a' W', (lgxTb g len cap k id v r1 ad s d n Pre Post base).Inv (fun f W => if f 19 = true then Post W else Pre W) (hit f 10) a' W' → K a' W') : if Region.wanted { dst := some 39, op := Go.Op.indexAddr 22 (Go.Operand.tmp 37) (Go.Operand.tmp 38), type := 0, pos := pos, after := #[{ on := 8, ground := Go.Ground.data }, { on := 9, ground := Go.Ground.data }], guard := none } (yielded ops a.tmps) = true then Oper.wp Tryd.prog { dst := some 39, op := Go.Op.indexAddr 22 (Go.Operand.tmp 37) (Go.Operand.tmp 38), type := 0, pos := pos, after := #[{ on := 8, ground := Go.Ground.data }, { on := 9, ground := Go.Ground.data }], guard := none } a W K Q else K (a.put (some 39) undef) W := by
  have y0 : a.tmps[37]?.getD undef = .slice (some ad) len cap := hI.val 8 37 rfl h8
  have y1 : a.tmps[38]?.getD undef = .int .i64 (k : Int) := hI.val 9 38 rfl h9
  have hk := E.kk
  have i0 : (0 : Int) ≤ (k : Int) := by omega
  have i1 : (k : Int) < (len : Int) := by omega
  have R := Lib.hid (hI.step (i := 10) (d := 39) (v := .pointer (some (ad.add (k * 3)))) rfl lgx_nodup (show 39 < 120 by decide) rfl (show (if hit f 10 19 = true then Post W else Pre W) by rw [hit_of f 10 19 (by decide)]; exact hI.held))
  clear hI E hf
  go_simp
  exact hK _ _ R.out

set_option maxRecDepth 100000 in
theorem lgx_11 {g len cap k id v r1 : Nat} {ad : Addr} {s d : ByteArray} {n : Int} {Pre Post : World → Prop} {base : Array Value} {f : Nat → Bool} {a : Act} {W : World} {K : Act → World → Prop} {Q : Exit → Act → World → Prop} {ops : Array Oper} (E : lgxEnv g len cap k id v r1 ad s d n Pre Post base) (hI : (lgxTb g len cap k id v r1 ad s d n Pre Post base).Inv (fun f W => if f 19 = true then Post W else Pre W) f a W) (hf : f 11 = false) (h10 : f 10 = true) (pos : String) (hK : ∀ a' W', (lgxTb g len cap k id v r1 ad s d n Pre Post base).Inv (fun f W => if f 19 = true then Post W else Pre W) (hit f 11) a' W' → K a' W') : if Region.wanted { dst := some 40, op := Go.Op.fieldAddr 32 (Go.Operand.tmp 39) 1, type := 0, pos := pos, after := #[{ on := 10, ground := Go.Ground.data }], guard := none } (yielded ops a.tmps) = true then Oper.wp Tryd.prog { dst := some 40, op := Go.Op.fieldAddr 32 (Go.Operand.tmp 39) 1, type := 0, pos := pos, after := #[{ on := 10, ground := Go.Ground.data }], guard := none } a W K Q else K (a.put (some 40) undef) W := by
  have q : a.tmps[39]?.getD undef = .pointer (some (ad.add (k * 3))) := hI.val 10 39 rfl h10
  have R := Lib.hid (hI.step (i := 11) (d := 40) (v := .pointer (some ⟨(ad.add (k * 3)).block, (ad.add (k * 3)).off + 1, none⟩)) rfl lgx_nodup (show 40 < 120 by decide) rfl (show (if hit f 11 19 = true then Post W else Pre W) by rw [hit_of f 11 19 (by decide)]; exact hI.held))
  clear hI E hf
  go_simp
  exact hK _ _ R.out

set_option maxRecDepth 100000 in
theorem lgx_12 {g len cap k id v r1 : Nat} {ad : Addr} {s d : ByteArray} {n : Int} {Pre Post : World → Prop} {base : Array Value} {f : Nat → Bool} {a : Act} {W : World} {K : Act → World → Prop} {Q : Exit → Act → World → Prop} {ops : Array Oper} (E : lgxEnv g len cap k id v r1 ad s d n Pre Post base) (hI : (lgxTb g len cap k id v r1 ad s d n Pre Post base).Inv (fun f W => if f 19 = true then Post W else Pre W) f a W) (hf : f 12 = false) (h11 : f 11 = true) (pos : String) (hK : ∀ a' W', (lgxTb g len cap k id v r1 ad s d n Pre Post base).Inv (fun f W => if f 19 = true then Post W else Pre W) (hit f 12) a' W' → K a' W') : if Region.wanted { dst := some 41, op := Go.Op.load 9 (Go.Operand.tmp 40), type := 9, pos := pos, after := #[{ on := 11, ground := Go.Ground.data }], guard := none } (yielded ops a.tmps) = true then Oper.wp Tryd.prog { dst := some 41, op := Go.Op.load 9 (Go.Operand.tmp 40), type := 9, pos := pos, after := #[{ on := 11, ground := Go.Ground.data }], guard := none } a W K Q else K (a.put (some 41) undef) W := by
  have q : a.tmps[40]?.getD undef = .pointer (some ⟨(ad.add (k * 3)).block, (ad.add (k * 3)).off + 1, none⟩) := hI.val 11 40 rfl h11
  have c : W.cell? ⟨(ad.add (k * 3)).block, (ad.add (k * 3)).off + 1, none⟩ = some (.string s) := (E.c W (by have h : (if f 19 = true then Post W else Pre W) := hI.held; by_cases h8 : f 19 = true; (rw [if_pos h8] at h; exact .inr h); (rw [if_neg h8] at h; exact .inl h))).2.1
  have R := Lib.hid (hI.step (i := 12) (d := 41) (v := .string s) rfl lgx_nodup (show 41 < 120 by decide) rfl (show (if hit f 12 19 = true then Post W else Pre W) by rw [hit_of f 12 19 (by decide)]; exact hI.held))
  clear hI E hf
  go_simp
  exact hK _ _ R.out

set_option maxRecDepth 100000 in
theorem lgx_13 {g len cap k id v r1 : Nat} {ad : Addr} {s d : ByteArray} {n : Int} {Pre Post : World → Prop} {base : Array Value} {f : Nat → Bool} {a : Act} {W : World} {K : Act → World → Prop} {Q : Exit → Act → World → Prop} {ops : Array Oper} (E : lgxEnv g len cap k id v r1 ad s d n Pre Post base) (hI : (lgxTb g len cap k id v r1 ad s d n Pre Post base).Inv (fun f W => if f 19 = true then Post W else Pre W) f a W) (hf : f 13 = false) (pos : String) (hK : ∀ a' W', (lgxTb g len cap k id v r1 ad s d n Pre Post base).Inv (fun f W => if f 19 = true then Post W else Pre W) (hit f 13) a' W' → K a' W') : if Region.wanted { dst := some 42, op := Go.Op.move (Go.Operand.tmp 0), type := 22, pos := pos, after := #[], guard := none } (yielded ops a.tmps) = true then Oper.wp Tryd.prog { dst := some 42, op := Go.Op.move (Go.Operand.tmp 0), type := 22, pos := pos, after := #[], guard := none } a W K Q else K (a.put (some 42) undef) W := by
  have q : a.tmps[0]?.getD undef = .slice (some ad) len cap := (hI.base 0 rfl).trans E.b0
  have R := Lib.hid (hI.step (i := 13) (d := 42) (v := .slice (some ad) len cap) rfl lgx_nodup (show 42 < 120 by decide) rfl (show (if hit f 13 19 = true then Post W else Pre W) by rw [hit_of f 13 19 (by decide)]; exact hI.held))
  clear hI E hf
  go_simp
  exact hK _ _ R.out

set_option maxRecDepth 100000 in
theorem lgx_14 {g len cap k id v r1 : Nat} {ad : Addr} {s d : ByteArray} {n : Int} {Pre Post : World → Prop} {base : Array Value} {f : Nat → Bool} {a : Act} {W : World} {K : Act → World → Prop} {Q : Exit → Act → World → Prop} {ops : Array Oper} (E : lgxEnv g len cap k id v r1 ad s d n Pre Post base) (hI : (lgxTb g len cap k id v r1 ad s d n Pre Post base).Inv (fun f W => if f 19 = true then Post W else Pre W) f a W) (hf : f 14 = false) (pos : String) (hK : ∀ a' W', (lgxTb g len cap k id v r1 ad s d n Pre Post base).Inv (fun f W => if f 19 = true then Post W else Pre W) (hit f 14) a' W' → K a' W') : if Region.wanted { dst := some 43, op := Go.Op.move (Go.Operand.tmp 7), type := 3, pos := pos, after := #[], guard := none } (yielded ops a.tmps) = true then Oper.wp Tryd.prog { dst := some 43, op := Go.Op.move (Go.Operand.tmp 7), type := 3, pos := pos, after := #[], guard := none } a W K Q else K (a.put (some 43) undef) W := by
  have q : a.tmps[7]?.getD undef = .int .i64 (k : Int) := (hI.base 7 rfl).trans E.b7
  have R := Lib.hid (hI.step (i := 14) (d := 43) (v := .int .i64 (k : Int)) rfl lgx_nodup (show 43 < 120 by decide) rfl (show (if hit f 14 19 = true then Post W else Pre W) by rw [hit_of f 14 19 (by decide)]; exact hI.held))
  clear hI E hf
  go_simp
  exact hK _ _ R.out

set_option maxRecDepth 100000 in
theorem lgx_15 {g len cap k id v r1 : Nat} {ad : Addr} {s d : ByteArray} {n : Int} {Pre Post : World → Prop} {base : Array Value} {f : Nat → Bool} {a : Act} {W : World} {K : Act → World → Prop} {Q : Exit → Act → World → Prop} {ops : Array Oper} (E : lgxEnv g len cap k id v r1 ad s d n Pre Post base) (hI : (lgxTb g len cap k id v r1 ad s d n Pre Post base).Inv (fun f W => if f 19 = true then Post W else Pre W) f a W) (hf : f 15 = false) (h13 : f 13 = true) (h14 : f 14 = true) (pos : String) (hK : ∀ a' W', (lgxTb g len cap k id v r1 ad s d n Pre Post base).Inv (fun f W => if f 19 = true then Post W else Pre W) (hit f 15) a' W' → K a' W') : if Region.wanted { dst := some 44, op := Go.Op.indexAddr 22 (Go.Operand.tmp 42) (Go.Operand.tmp 43), type := 0, pos := pos, after := #[{ on := 13, ground := Go.Ground.data }, { on := 14, ground := Go.Ground.data }], guard := none } (yielded ops a.tmps) = true then Oper.wp Tryd.prog { dst := some 44, op := Go.Op.indexAddr 22 (Go.Operand.tmp 42) (Go.Operand.tmp 43), type := 0, pos := pos, after := #[{ on := 13, ground := Go.Ground.data }, { on := 14, ground := Go.Ground.data }], guard := none } a W K Q else K (a.put (some 44) undef) W := by
  have y0 : a.tmps[42]?.getD undef = .slice (some ad) len cap := hI.val 13 42 rfl h13
  have y1 : a.tmps[43]?.getD undef = .int .i64 (k : Int) := hI.val 14 43 rfl h14
  have hk := E.kk
  have i0 : (0 : Int) ≤ (k : Int) := by omega
  have i1 : (k : Int) < (len : Int) := by omega
  have R := Lib.hid (hI.step (i := 15) (d := 44) (v := .pointer (some (ad.add (k * 3)))) rfl lgx_nodup (show 44 < 120 by decide) rfl (show (if hit f 15 19 = true then Post W else Pre W) by rw [hit_of f 15 19 (by decide)]; exact hI.held))
  clear hI E hf
  go_simp
  exact hK _ _ R.out

set_option maxRecDepth 100000 in
theorem lgx_16 {g len cap k id v r1 : Nat} {ad : Addr} {s d : ByteArray} {n : Int} {Pre Post : World → Prop} {base : Array Value} {f : Nat → Bool} {a : Act} {W : World} {K : Act → World → Prop} {Q : Exit → Act → World → Prop} {ops : Array Oper} (E : lgxEnv g len cap k id v r1 ad s d n Pre Post base) (hI : (lgxTb g len cap k id v r1 ad s d n Pre Post base).Inv (fun f W => if f 19 = true then Post W else Pre W) f a W) (hf : f 16 = false) (h15 : f 15 = true) (pos : String) (hK : ∀ a' W', (lgxTb g len cap k id v r1 ad s d n Pre Post base).Inv (fun f W => if f 19 = true then Post W else Pre W) (hit f 16) a' W' → K a' W') : if Region.wanted { dst := some 45, op := Go.Op.fieldAddr 32 (Go.Operand.tmp 44) 2, type := 0, pos := pos, after := #[{ on := 15, ground := Go.Ground.data }], guard := none } (yielded ops a.tmps) = true then Oper.wp Tryd.prog { dst := some 45, op := Go.Op.fieldAddr 32 (Go.Operand.tmp 44) 2, type := 0, pos := pos, after := #[{ on := 15, ground := Go.Ground.data }], guard := none } a W K Q else K (a.put (some 45) undef) W := by
  have q : a.tmps[44]?.getD undef = .pointer (some (ad.add (k * 3))) := hI.val 15 44 rfl h15
  have R := Lib.hid (hI.step (i := 16) (d := 45) (v := .pointer (some ⟨(ad.add (k * 3)).block, (ad.add (k * 3)).off + 2, none⟩)) rfl lgx_nodup (show 45 < 120 by decide) rfl (show (if hit f 16 19 = true then Post W else Pre W) by rw [hit_of f 16 19 (by decide)]; exact hI.held))
  clear hI E hf
  go_simp
  exact hK _ _ R.out

set_option maxRecDepth 100000 in
theorem lgx_17 {g len cap k id v r1 : Nat} {ad : Addr} {s d : ByteArray} {n : Int} {Pre Post : World → Prop} {base : Array Value} {f : Nat → Bool} {a : Act} {W : World} {K : Act → World → Prop} {Q : Exit → Act → World → Prop} {ops : Array Oper} (E : lgxEnv g len cap k id v r1 ad s d n Pre Post base) (hI : (lgxTb g len cap k id v r1 ad s d n Pre Post base).Inv (fun f W => if f 19 = true then Post W else Pre W) f a W) (hf : f 17 = false) (h16 : f 16 = true) (pos : String) (hK : ∀ a' W', (lgxTb g len cap k id v r1 ad s d n Pre Post base).Inv (fun f W => if f 19 = true then Post W else Pre W) (hit f 17) a' W' → K a' W') : if Region.wanted { dst := some 46, op := Go.Op.load 3 (Go.Operand.tmp 45), type := 3, pos := pos, after := #[{ on := 16, ground := Go.Ground.data }], guard := none } (yielded ops a.tmps) = true then Oper.wp Tryd.prog { dst := some 46, op := Go.Op.load 3 (Go.Operand.tmp 45), type := 3, pos := pos, after := #[{ on := 16, ground := Go.Ground.data }], guard := none } a W K Q else K (a.put (some 46) undef) W := by
  have q : a.tmps[45]?.getD undef = .pointer (some ⟨(ad.add (k * 3)).block, (ad.add (k * 3)).off + 2, none⟩) := hI.val 16 45 rfl h16
  have c : W.cell? ⟨(ad.add (k * 3)).block, (ad.add (k * 3)).off + 2, none⟩ = some (.int .i64 n) := (E.c W (by have h : (if f 19 = true then Post W else Pre W) := hI.held; by_cases h8 : f 19 = true; (rw [if_pos h8] at h; exact .inr h); (rw [if_neg h8] at h; exact .inl h))).2.2
  have R := Lib.hid (hI.step (i := 17) (d := 46) (v := .int .i64 n) rfl lgx_nodup (show 46 < 120 by decide) rfl (show (if hit f 17 19 = true then Post W else Pre W) by rw [hit_of f 17 19 (by decide)]; exact hI.held))
  clear hI E hf
  go_simp
  exact hK _ _ R.out

set_option maxRecDepth 100000 in
theorem lgx_18 {g len cap k id v r1 : Nat} {ad : Addr} {s d : ByteArray} {n : Int} {Pre Post : World → Prop} {base : Array Value} {f : Nat → Bool} {a : Act} {W : World} {K : Act → World → Prop} {Q : Exit → Act → World → Prop} {ops : Array Oper} (E : lgxEnv g len cap k id v r1 ad s d n Pre Post base) (hI : (lgxTb g len cap k id v r1 ad s d n Pre Post base).Inv (fun f W => if f 19 = true then Post W else Pre W) f a W) (hf : f 18 = false) (h12 : f 12 = true) (h17 : f 17 = true) (pos : String) (hK : ∀ a' W', (lgxTb g len cap k id v r1 ad s d n Pre Post base).Inv (fun f W => if f 19 = true then Post W else Pre W) (hit f 18) a' W' → K a' W') : if Region.wanted { dst := some 47, op := Go.Op.call { callee := Go.Callee.value (Go.Operand.func 8), args := #[Go.Operand.tmp 41, Go.Operand.tmp 46], argTypes := #[9, 3] }, type := 9, pos := pos, after := #[{ on := 12, ground := Go.Ground.data }, { on := 17, ground := Go.Ground.data }], guard := none } (yielded ops a.tmps) = true then Oper.wp Tryd.prog { dst := some 47, op := Go.Op.call { callee := Go.Callee.value (Go.Operand.func 8), args := #[Go.Operand.tmp 41, Go.Operand.tmp 46], argTypes := #[9, 3] }, type := 9, pos := pos, after := #[{ on := 12, ground := Go.Ground.data }, { on := 17, ground := Go.Ground.data }], guard := none } a W K Q else K (a.put (some 47) undef) W := by
  have y0 : a.tmps[41]?.getD undef = .string s := hI.val 12 41 rfl h12
  have y1 : a.tmps[46]?.getD undef = .int .i64 n := hI.val 17 46 rfl h17
  have hC := E.lo W
  have HR := Lib.hid (hI.step (i := 18) (d := 47) (v := .string d) rfl lgx_nodup (show 47 < 120 by decide) rfl (show (if hit f 18 19 = true then Post W else Pre W) by rw [hit_of f 18 19 (by decide)]; exact hI.held))
  clear hI E hf
  go_simp
  refine hC.mono ?_
  rintro e W1 ⟨rfl, rfl⟩
  exact hK _ _ HR.out

set_option maxRecDepth 100000 in
theorem lgx_19 {g len cap k id v r1 : Nat} {ad : Addr} {s d : ByteArray} {n : Int} {Pre Post : World → Prop} {base : Array Value} {f : Nat → Bool} {a : Act} {W : World} {K : Act → World → Prop} {Q : Exit → Act → World → Prop} {ops : Array Oper} (E : lgxEnv g len cap k id v r1 ad s d n Pre Post base) (hI : (lgxTb g len cap k id v r1 ad s d n Pre Post base).Inv (fun f W => if f 19 = true then Post W else Pre W) f a W) (hf : f 19 = false) (h0 : f 0 = true) (h2 : f 2 = true) (h7 : f 7 = true) (h18 : f 18 = true) (pos : String) (hK : ∀ a' W', (lgxTb g len cap k id v r1 ad s d n Pre Post base).Inv (fun f W => if f 19 = true then Post W else Pre W) (hit f 19) a' W' → K a' W') : if Region.wanted { dst := some 48, op := Go.Op.call { callee := Go.Callee.value (Go.Operand.func 7), args := #[Go.Operand.tmp 29, Go.Operand.tmp 31, Go.Operand.tmp 36, Go.Operand.tmp 47], argTypes := #[25, 3, 30, 9] }, type := 28, pos := pos, after := #[{ on := 0, ground := Go.Ground.data }, { on := 2, ground := Go.Ground.data }, { on := 7, ground := Go.Ground.data }, { on := 18, ground := Go.Ground.data }, { on := 18, ground := Go.Ground.chain }], guard := none } (yielded ops a.tmps) = true then Oper.wp Tryd.prog { dst := some 48, op := Go.Op.call { callee := Go.Callee.value (Go.Operand.func 7), args := #[Go.Operand.tmp 29, Go.Operand.tmp 31, Go.Operand.tmp 36, Go.Operand.tmp 47], argTypes := #[25, 3, 30, 9] }, type := 28, pos := pos, after := #[{ on := 0, ground := Go.Ground.data }, { on := 2, ground := Go.Ground.data }, { on := 7, ground := Go.Ground.data }, { on := 18, ground := Go.Ground.data }, { on := 18, ground := Go.Ground.chain }], guard := none } a W K Q else K (a.put (some 48) undef) W := by
  have y0 : a.tmps[29]?.getD undef = .pointer (some ⟨g, 0, none⟩) := hI.val 0 29 rfl h0
  have y1 : a.tmps[31]?.getD undef = .int .i64 (v : Int) := hI.val 2 31 rfl h2
  have y2 : a.tmps[36]?.getD undef = .int .u64 (id : Int) := hI.val 7 36 rfl h7
  have y3 : a.tmps[47]?.getD undef = .string d := hI.val 18 47 rfl h18
  have hp : Pre W := by have := hI.held; simp only [hf] at this; simpa using this
  have hC := E.wr W hp
  have HR := Lib.hid (fun W1 (hb : Post W1) => hI.step (i := 19) (d := 48) (v := .tuple #[.int .i64 (r1 : Int), .int .i64 0]) rfl lgx_nodup (show 48 < 120 by decide) rfl (show (if hit f 19 19 = true then Post W1 else Pre W1) by rw [hit_at, if_pos rfl]; exact hb))
  clear hI E hf hp
  go_simp
  refine hC.mono ?_
  rintro e W1 ⟨rfl, hb⟩
  exact hK _ _ (HR.out W1 hb)

set_option maxRecDepth 100000 in
theorem lgx_20 {g len cap k id v r1 : Nat} {ad : Addr} {s d : ByteArray} {n : Int} {Pre Post : World → Prop} {base : Array Value} {f : Nat → Bool} {a : Act} {W : World} {K : Act → World → Prop} {Q : Exit → Act → World → Prop} {ops : Array Oper} (E : lgxEnv g len cap k id v r1 ad s d n Pre Post base) (hI : (lgxTb g len cap k id v r1 ad s d n Pre Post base).Inv (fun f W => if f 19 = true then Post W else Pre W) f a W) (hf : f 20 = false) (h19 : f 19 = true) (pos : String) (hK : ∀ a' W', (lgxTb g len cap k id v r1 ad s d n Pre Post base).Inv (fun f W => if f 19 = true then Post W else Pre W) (hit f 20) a' W' → K a' W') : if Region.wanted { dst := some 28, op := Go.Op.move (Go.Operand.tmp 48), type := 28, pos := pos, after := #[{ on := 19, ground := Go.Ground.data }], guard := none } (yielded ops a.tmps) = true then Oper.wp Tryd.prog { dst := some 28, op := Go.Op.move (Go.Operand.tmp 48), type := 28, pos := pos, after := #[{ on := 19, ground := Go.Ground.data }], guard := none } a W K Q else K (a.put (some 28) undef) W := by
  have q : a.tmps[48]?.getD undef = .tuple #[.int .i64 (r1 : Int), .int .i64 0] := hI.val 19 48 rfl h19
  have R := Lib.hid (hI.step (i := 20) (d := 28) (v := .tuple #[.int .i64 (r1 : Int), .int .i64 0]) rfl lgx_nodup (show 28 < 120 by decide) rfl (show (if hit f 20 19 = true then Post W else Pre W) by rw [hit_of f 20 19 (by decide)]; exact hI.held))
  clear hI E hf
  go_simp
  exact hK _ _ R.out

set_option maxRecDepth 100000 in
theorem lgx_21 {g len cap k id v r1 : Nat} {ad : Addr} {s d : ByteArray} {n : Int} {Pre Post : World → Prop} {base : Array Value} {f : Nat → Bool} {a : Act} {W : World} {K : Act → World → Prop} {Q : Exit → Act → World → Prop} {ops : Array Oper} (E : lgxEnv g len cap k id v r1 ad s d n Pre Post base) (hI : (lgxTb g len cap k id v r1 ad s d n Pre Post base).Inv (fun f W => if f 19 = true then Post W else Pre W) f a W) (hf : f 21 = false) (h20 : f 20 = true) (pos : String) (hK : ∀ a' W', (lgxTb g len cap k id v r1 ad s d n Pre Post base).Inv (fun f W => if f 19 = true then Post W else Pre W) (hit f 21) a' W' → K a' W') : if Region.wanted { dst := some 49, op := Go.Op.extract (Go.Operand.tmp 28) 0, type := 3, pos := pos, after := #[{ on := 20, ground := Go.Ground.data }], guard := none } (yielded ops a.tmps) = true then Oper.wp Tryd.prog { dst := some 49, op := Go.Op.extract (Go.Operand.tmp 28) 0, type := 3, pos := pos, after := #[{ on := 20, ground := Go.Ground.data }], guard := none } a W K Q else K (a.put (some 49) undef) W := by
  have q : a.tmps[28]?.getD undef = .tuple #[.int .i64 (r1 : Int), .int .i64 0] := hI.val 20 28 rfl h20
  have R := Lib.hid (hI.step (i := 21) (d := 49) (v := .int .i64 (r1 : Int)) rfl lgx_nodup (show 49 < 120 by decide) rfl (show (if hit f 21 19 = true then Post W else Pre W) by rw [hit_of f 21 19 (by decide)]; exact hI.held))
  clear hI E hf
  go_simp
  exact hK _ _ R.out

set_option maxRecDepth 100000 in
theorem lgx_22 {g len cap k id v r1 : Nat} {ad : Addr} {s d : ByteArray} {n : Int} {Pre Post : World → Prop} {base : Array Value} {f : Nat → Bool} {a : Act} {W : World} {K : Act → World → Prop} {Q : Exit → Act → World → Prop} {ops : Array Oper} (E : lgxEnv g len cap k id v r1 ad s d n Pre Post base) (hI : (lgxTb g len cap k id v r1 ad s d n Pre Post base).Inv (fun f W => if f 19 = true then Post W else Pre W) f a W) (hf : f 22 = false) (h20 : f 20 = true) (pos : String) (hK : ∀ a' W', (lgxTb g len cap k id v r1 ad s d n Pre Post base).Inv (fun f W => if f 19 = true then Post W else Pre W) (hit f 22) a' W' → K a' W') : if Region.wanted { dst := some 50, op := Go.Op.extract (Go.Operand.tmp 28) 1, type := 27, pos := pos, after := #[{ on := 20, ground := Go.Ground.data }, { on := 23, ground := Go.Ground.gcOnly Go.Departure.lateStores }], guard := none } (yielded ops a.tmps) = true then Oper.wp Tryd.prog { dst := some 50, op := Go.Op.extract (Go.Operand.tmp 28) 1, type := 27, pos := pos, after := #[{ on := 20, ground := Go.Ground.data }, { on := 23, ground := Go.Ground.gcOnly Go.Departure.lateStores }], guard := none } a W K Q else K (a.put (some 50) undef) W := by
  have q : a.tmps[28]?.getD undef = .tuple #[.int .i64 (r1 : Int), .int .i64 0] := hI.val 20 28 rfl h20
  have R := Lib.hid (hI.step (i := 22) (d := 50) (v := .int .i64 0) rfl lgx_nodup (show 50 < 120 by decide) rfl (show (if hit f 22 19 = true then Post W else Pre W) by rw [hit_of f 22 19 (by decide)]; exact hI.held))
  clear hI E hf
  go_simp
  exact hK _ _ R.out

set_option maxRecDepth 100000 in
theorem lgx_23 {g len cap k id v r1 : Nat} {ad : Addr} {s d : ByteArray} {n : Int} {Pre Post : World → Prop} {base : Array Value} {f : Nat → Bool} {a : Act} {W : World} {K : Act → World → Prop} {Q : Exit → Act → World → Prop} {ops : Array Oper} (E : lgxEnv g len cap k id v r1 ad s d n Pre Post base) (hI : (lgxTb g len cap k id v r1 ad s d n Pre Post base).Inv (fun f W => if f 19 = true then Post W else Pre W) f a W) (hf : f 23 = false) (h0 : f 0 = true) (h1 : f 1 = true) (h2 : f 2 = true) (h3 : f 3 = true) (h4 : f 4 = true) (h5 : f 5 = true) (h6 : f 6 = true) (h7 : f 7 = true) (h8 : f 8 = true) (h9 : f 9 = true) (h10 : f 10 = true) (h11 : f 11 = true) (h12 : f 12 = true) (h13 : f 13 = true) (h14 : f 14 = true) (h15 : f 15 = true) (h16 : f 16 = true) (h17 : f 17 = true) (h18 : f 18 = true) (h19 : f 19 = true) (h20 : f 20 = true) (h21 : f 21 = true) (pos : String) (hK : ∀ a' W', (lgxTb g len cap k id v r1 ad s d n Pre Post base).Inv (fun f W => if f 19 = true then Post W else Pre W) (hit f 23) a' W' → K a' W') : if Region.wanted { dst := some 8, op := Go.Op.assign (Go.Operand.tmp 49), type := 3, pos := pos, after := #[{ on := 21, ground := Go.Ground.data }, { on := 19, ground := Go.Ground.chain }, { on := 0, ground := Go.Ground.phase }, { on := 1, ground := Go.Ground.phase }, { on := 2, ground := Go.Ground.phase }, { on := 3, ground := Go.Ground.phase }, { on := 4, ground := Go.Ground.phase }, { on := 5, ground := Go.Ground.phase }, { on := 6, ground := Go.Ground.phase }, { on := 7, ground := Go.Ground.phase }, { on := 8, ground := Go.Ground.phase }, { on := 9, ground := Go.Ground.phase }, { on := 10, ground := Go.Ground.phase }, { on := 11, ground := Go.Ground.phase }, { on := 12, ground := Go.Ground.phase }, { on := 13, ground := Go.Ground.phase }, { on := 14, ground := Go.Ground.phase }, { on := 15, ground := Go.Ground.phase }, { on := 16, ground := Go.Ground.phase }, { on := 17, ground := Go.Ground.phase }, { on := 18, ground := Go.Ground.phase }, { on := 19, ground := Go.Ground.phase }, { on := 20, ground := Go.Ground.phase }, { on := 21, ground := Go.Ground.phase }, { on := 22, ground := Go.Ground.textOnly Go.Departure.lateStores }], guard := none } (yielded ops a.tmps) = true then Oper.wp Tryd.prog { dst := some 8, op := Go.Op.assign (Go.Operand.tmp 49), type := 3, pos := pos, after := #[{ on := 21, ground := Go.Ground.data }, { on := 19, ground := Go.Ground.chain }, { on := 0, ground := Go.Ground.phase }, { on := 1, ground := Go.Ground.phase }, { on := 2, ground := Go.Ground.phase }, { on := 3, ground := Go.Ground.phase }, { on := 4, ground := Go.Ground.phase }, { on := 5, ground := Go.Ground.phase }, { on := 6, ground := Go.Ground.phase }, { on := 7, ground := Go.Ground.phase }, { on := 8, ground := Go.Ground.phase }, { on := 9, ground := Go.Ground.phase }, { on := 10, ground := Go.Ground.phase }, { on := 11, ground := Go.Ground.phase }, { on := 12, ground := Go.Ground.phase }, { on := 13, ground := Go.Ground.phase }, { on := 14, ground := Go.Ground.phase }, { on := 15, ground := Go.Ground.phase }, { on := 16, ground := Go.Ground.phase }, { on := 17, ground := Go.Ground.phase }, { on := 18, ground := Go.Ground.phase }, { on := 19, ground := Go.Ground.phase }, { on := 20, ground := Go.Ground.phase }, { on := 21, ground := Go.Ground.phase }, { on := 22, ground := Go.Ground.textOnly Go.Departure.lateStores }], guard := none } a W K Q else K (a.put (some 8) undef) W := by
  have q : a.tmps[49]?.getD undef = .int .i64 (r1 : Int) := hI.val 21 49 rfl h21
  have R := Lib.hid (hI.step (i := 23) (d := 8) (v := .int .i64 (r1 : Int)) rfl lgx_nodup (show 8 < 120 by decide) rfl (show (if hit f 23 19 = true then Post W else Pre W) by rw [hit_of f 23 19 (by decide)]; exact hI.held))
  clear hI E hf
  go_simp
  exact hK _ _ R.out

set_option maxRecDepth 100000 in
theorem lgx_24 {g len cap k id v r1 : Nat} {ad : Addr} {s d : ByteArray} {n : Int} {Pre Post : World → Prop} {base : Array Value} {f : Nat → Bool} {a : Act} {W : World} {K : Act → World → Prop} {Q : Exit → Act → World → Prop} {ops : Array Oper} (E : lgxEnv g len cap k id v r1 ad s d n Pre Post base) (hI : (lgxTb g len cap k id v r1 ad s d n Pre Post base).Inv (fun f W => if f 19 = true then Post W else Pre W) f a W) (hf : f 24 = false) (h0 : f 0 = true) (h1 : f 1 = true) (h2 : f 2 = true) (h3 : f 3 = true) (h4 : f 4 = true) (h5 : f 5 = true) (h6 : f 6 = true) (h7 : f 7 = true) (h8 : f 8 = true) (h9 : f 9 = true) (h10 : f 10 = true) (h11 : f 11 = true) (h12 : f 12 = true) (h13 : f 13 = true) (h14 : f 14 = true) (h15 : f 15 = true) (h16 : f 16 = true) (h17 : f 17 = true) (h18 : f 18 = true) (h19 : f 19 = true) (h20 : f 20 = true) (h21 : f 21 = true) (h22 : f 22 = true) (h23 : f 23 = true) (pos : String) (hK : ∀ a' W', (lgxTb g len cap k id v r1 ad s d n Pre Post base).Inv (fun f W => if f 19 = true then Post W else Pre W) (hit f 24) a' W' → K a' W') : if Region.wanted { dst := some 9, op := Go.Op.assign (Go.Operand.tmp 50), type := 27, pos := pos, after := #[{ on := 22, ground := Go.Ground.data }, { on := 23, ground := Go.Ground.chain }, { on := 0, ground := Go.Ground.phase }, { on := 1, ground := Go.Ground.phase }, { on := 2, ground := Go.Ground.phase }, { on := 3, ground := Go.Ground.phase }, { on := 4, ground := Go.Ground.phase }, { on := 5, ground := Go.Ground.phase }, { on := 6, ground := Go.Ground.phase }, { on := 7, ground := Go.Ground.phase }, { on := 8, ground := Go.Ground.phase }, { on := 9, ground := Go.Ground.phase }, { on := 10, ground := Go.Ground.phase }, { on := 11, ground := Go.Ground.phase }, { on := 12, ground := Go.Ground.phase }, { on := 13, ground := Go.Ground.phase }, { on := 14, ground := Go.Ground.phase }, { on := 15, ground := Go.Ground.phase }, { on := 16, ground := Go.Ground.phase }, { on := 17, ground := Go.Ground.phase }, { on := 18, ground := Go.Ground.phase }, { on := 19, ground := Go.Ground.phase }, { on := 20, ground := Go.Ground.phase }, { on := 21, ground := Go.Ground.phase }, { on := 22, ground := Go.Ground.phase }, { on := 23, ground := Go.Ground.phase }], guard := none } (yielded ops a.tmps) = true then Oper.wp Tryd.prog { dst := some 9, op := Go.Op.assign (Go.Operand.tmp 50), type := 27, pos := pos, after := #[{ on := 22, ground := Go.Ground.data }, { on := 23, ground := Go.Ground.chain }, { on := 0, ground := Go.Ground.phase }, { on := 1, ground := Go.Ground.phase }, { on := 2, ground := Go.Ground.phase }, { on := 3, ground := Go.Ground.phase }, { on := 4, ground := Go.Ground.phase }, { on := 5, ground := Go.Ground.phase }, { on := 6, ground := Go.Ground.phase }, { on := 7, ground := Go.Ground.phase }, { on := 8, ground := Go.Ground.phase }, { on := 9, ground := Go.Ground.phase }, { on := 10, ground := Go.Ground.phase }, { on := 11, ground := Go.Ground.phase }, { on := 12, ground := Go.Ground.phase }, { on := 13, ground := Go.Ground.phase }, { on := 14, ground := Go.Ground.phase }, { on := 15, ground := Go.Ground.phase }, { on := 16, ground := Go.Ground.phase }, { on := 17, ground := Go.Ground.phase }, { on := 18, ground := Go.Ground.phase }, { on := 19, ground := Go.Ground.phase }, { on := 20, ground := Go.Ground.phase }, { on := 21, ground := Go.Ground.phase }, { on := 22, ground := Go.Ground.phase }, { on := 23, ground := Go.Ground.phase }], guard := none } a W K Q else K (a.put (some 9) undef) W := by
  have q : a.tmps[50]?.getD undef = .int .i64 0 := hI.val 22 50 rfl h22
  have R := Lib.hid (hI.step (i := 24) (d := 9) (v := .int .i64 0) rfl lgx_nodup (show 9 < 120 by decide) rfl (show (if hit f 24 19 = true then Post W else Pre W) by rw [hit_of f 24 19 (by decide)]; exact hI.held))
  clear hI E hf
  go_simp
  exact hK _ _ R.out

abbrev lgxOps : Array Oper := #[{ dst := some 29, op := Go.Op.move (Go.Operand.tmp 5), type := 25, pos := "outright.go:132", after := #[], guard := none }, { dst := some 30, op := Go.Op.move (Go.Operand.tmp 7), type := 3, pos := "outright.go:132", after := #[], guard := none }, { dst := some 31, op := Go.Op.binOp Go.BinOp.rem 3 (Go.Operand.tmp 30) (Go.Operand.const (Go.Value.int Go.IntKind.i64 2)) 3, type := 3, pos := "outright.go:132", after := #[{ on := 1, ground := Go.Ground.data }], guard := none }, { dst := some 32, op := Go.Op.move (Go.Operand.tmp 0), type := 22, pos := "outright.go:132", after := #[], guard := none }, { dst := some 33, op := Go.Op.move (Go.Operand.tmp 7), type := 3, pos := "outright.go:132", after := #[], guard := none }, { dst := some 34, op := Go.Op.indexAddr 22 (Go.Operand.tmp 32) (Go.Operand.tmp 33), type := 0, pos := "outright.go:132", after := #[{ on := 3, ground := Go.Ground.data }, { on := 4, ground := Go.Ground.data }], guard := none }, { dst := some 35, op := Go.Op.fieldAddr 32 (Go.Operand.tmp 34) 0, type := 0, pos := "outright.go:132", after := #[{ on := 5, ground := Go.Ground.data }], guard := none }, { dst := some 36, op := Go.Op.load 30 (Go.Operand.tmp 35), type := 30, pos := "outright.go:132", after := #[{ on := 6, ground := Go.Ground.data }], guard := none }, { dst := some 37, op := Go.Op.move (Go.Operand.tmp 0), type := 22, pos := "outright.go:132", after := #[], guard := none }, { dst := some 38, op := Go.Op.move (Go.Operand.tmp 7), type := 3, pos := "outright.go:132", after := #[], guard := none }, { dst := some 39, op := Go.Op.indexAddr 22 (Go.Operand.tmp 37) (Go.Operand.tmp 38), type := 0, pos := "outright.go:132", after := #[{ on := 8, ground := Go.Ground.data }, { on := 9, ground := Go.Ground.data }], guard := none }, { dst := some 40, op := Go.Op.fieldAddr 32 (Go.Operand.tmp 39) 1, type := 0, pos := "outright.go:132", after := #[{ on := 10, ground := Go.Ground.data }], guard := none }, { dst := some 41, op := Go.Op.load 9 (Go.Operand.tmp 40), type := 9, pos := "outright.go:132", after := #[{ on := 11, ground := Go.Ground.data }], guard := none }, { dst := some 42, op := Go.Op.move (Go.Operand.tmp 0), type := 22, pos := "outright.go:132", after := #[], guard := none }, { dst := some 43, op := Go.Op.move (Go.Operand.tmp 7), type := 3, pos := "outright.go:132", after := #[], guard := none }, { dst := some 44, op := Go.Op.indexAddr 22 (Go.Operand.tmp 42) (Go.Operand.tmp 43), type := 0, pos := "outright.go:132", after := #[{ on := 13, ground := Go.Ground.data }, { on := 14, ground := Go.Ground.data }], guard := none }, { dst := some 45, op := Go.Op.fieldAddr 32 (Go.Operand.tmp 44) 2, type := 0, pos := "outright.go:132", after := #[{ on := 15, ground := Go.Ground.data }], guard := none }, { dst := some 46, op := Go.Op.load 3 (Go.Operand.tmp 45), type := 3, pos := "outright.go:132", after := #[{ on := 16, ground := Go.Ground.data }], guard := none }, { dst := some 47, op := Go.Op.call { callee := Go.Callee.value (Go.Operand.func 8), args := #[Go.Operand.tmp 41, Go.Operand.tmp 46], argTypes := #[9, 3] }, type := 9, pos := "outright.go:132", after := #[{ on := 12, ground := Go.Ground.data }, { on := 17, ground := Go.Ground.data }], guard := none }, { dst := some 48, op := Go.Op.call { callee := Go.Callee.value (Go.Operand.func 7), args := #[Go.Operand.tmp 29, Go.Operand.tmp 31, Go.Operand.tmp 36, Go.Operand.tmp 47], argTypes := #[25, 3, 30, 9] }, type := 28, pos := "outright.go:132", after := #[{ on := 0, ground := Go.Ground.data }, { on := 2, ground := Go.Ground.data }, { on := 7, ground := Go.Ground.data }, { on := 18, ground := Go.Ground.data }, { on := 18, ground := Go.Ground.chain }], guard := none }, { dst := some 28, op := Go.Op.move (Go.Operand.tmp 48), type := 28, pos := "outright.go:132", after := #[{ on := 19, ground := Go.Ground.data }], guard := none }, { dst := some 49, op := Go.Op.extract (Go.Operand.tmp 28) 0, type := 3, pos := "outright.go:132", after := #[{ on := 20, ground := Go.Ground.data }], guard := none }, { dst := some 50, op := Go.Op.extract (Go.Operand.tmp 28) 1, type := 27, pos := "outright.go:132", after := #[{ on := 20, ground := Go.Ground.data }, { on := 23, ground := Go.Ground.gcOnly Go.Departure.lateStores }], guard := none }, { dst := some 8, op := Go.Op.assign (Go.Operand.tmp 49), type := 3, pos := "outright.go:132", after := #[{ on := 21, ground := Go.Ground.data }, { on := 19, ground := Go.Ground.chain }, { on := 0, ground := Go.Ground.phase }, { on := 1, ground := Go.Ground.phase }, { on := 2, ground := Go.Ground.phase }, { on := 3, ground := Go.Ground.phase }, { on := 4, ground := Go.Ground.phase }, { on := 5, ground := Go.Ground.phase }, { on := 6, ground := Go.Ground.phase }, { on := 7, ground := Go.Ground.phase }, { on := 8, ground := Go.Ground.phase }, { on := 9, ground := Go.Ground.phase }, { on := 10, ground := Go.Ground.phase }, { on := 11, ground := Go.Ground.phase }, { on := 12, ground := Go.Ground.phase }, { on := 13, ground := Go.Ground.phase }, { on := 14, ground := Go.Ground.phase }, { on := 15, ground := Go.Ground.phase }, { on := 16, ground := Go.Ground.phase }, { on := 17, ground := Go.Ground.phase }, { on := 18, ground := Go.Ground.phase }, { on := 19, ground := Go.Ground.phase }, { on := 20, ground := Go.Ground.phase }, { on := 21, ground := Go.Ground.phase }, { on := 22, ground := Go.Ground.textOnly Go.Departure.lateStores }], guard := none }, { dst := some 9, op := Go.Op.assign (Go.Operand.tmp 50), type := 27, pos := "outright.go:132", after := #[{ on := 22, ground := Go.Ground.data }, { on := 23, ground := Go.Ground.chain }, { on := 0, ground := Go.Ground.phase }, { on := 1, ground := Go.Ground.phase }, { on := 2, ground := Go.Ground.phase }, { on := 3, ground := Go.Ground.phase }, { on := 4, ground := Go.Ground.phase }, { on := 5, ground := Go.Ground.phase }, { on := 6, ground := Go.Ground.phase }, { on := 7, ground := Go.Ground.phase }, { on := 8, ground := Go.Ground.phase }, { on := 9, ground := Go.Ground.phase }, { on := 10, ground := Go.Ground.phase }, { on := 11, ground := Go.Ground.phase }, { on := 12, ground := Go.Ground.phase }, { on := 13, ground := Go.Ground.phase }, { on := 14, ground := Go.Ground.phase }, { on := 15, ground := Go.Ground.phase }, { on := 16, ground := Go.Ground.phase }, { on := 17, ground := Go.Ground.phase }, { on := 18, ground := Go.Ground.phase }, { on := 19, ground := Go.Ground.phase }, { on := 20, ground := Go.Ground.phase }, { on := 21, ground := Go.Ground.phase }, { on := 22, ground := Go.Ground.phase }, { on := 23, ground := Go.Ground.phase }], guard := none }]
set_option maxRecDepth 100000 in
set_option maxHeartbeats 4000000 in
theorem lgx_step {g len cap k id v r1 : Nat} {ad : Addr} {s d : ByteArray} {n : Int} {Pre Post : World → Prop} {base : Array Value} {Q : Exit → Act → World → Prop} (E : lgxEnv g len cap k id v r1 ad s d n Pre Post base) :
    ∀ f a W i o, lgxOps[i]? = some o → f i = false → (∀ e ∈ o.after, Region.binds .any e = true → f e.on = true) → (lgxTb g len cap k id v r1 ad s d n Pre Post base).Inv (fun f W => if f 19 = true then Post W else Pre W) f a W → wpOp Tryd.prog lgxOps Q i (fun a' W' => (lgxTb g len cap k id v r1 ad s d n Pre Post base).Inv (fun f W => if f 19 = true then Post W else Pre W) (hit f i) a' W') a W := by
  intro f a W i o ho hf hed hI
  have hi : i < 25 := (Array.getElem?_eq_some_iff.1 ho).1
  have hc : i = 0 ∨ i = 1 ∨ i = 2 ∨ i = 3 ∨ i = 4 ∨ i = 5 ∨ i = 6 ∨ i = 7 ∨ i = 8 ∨ i = 9 ∨ i = 10 ∨ i = 11 ∨ i = 12 ∨ i = 13 ∨ i = 14 ∨ i = 15 ∨ i = 16 ∨ i = 17 ∨ i = 18 ∨ i = 19 ∨ i = 20 ∨ i = 21 ∨ i = 22 ∨ i = 23 ∨ i = 24 := by omega
  rcases hc with rfl | rfl | rfl | rfl | rfl | rfl | rfl | rfl | rfl | rfl | rfl | rfl | rfl | rfl | rfl | rfl | rfl | rfl | rfl | rfl | rfl | rfl | rfl | rfl | rfl
  · cases ho
    exact wpOp_step (o := { dst := some 29, op := Go.Op.move (Go.Operand.tmp 5), type := 25, pos := "outright.go:132", after := #[], guard := none }) rfl fun K hK => lgx_0 E hI hf "outright.go:132" (fun a' W' h => hK a' W' h)
  · cases ho
    exact wpOp_step (o := { dst := some 30, op := Go.Op.move (Go.Operand.tmp 7), type := 3, pos := "outright.go:132", after := #[], guard := none }) rfl fun K hK => lgx_1 E hI hf "outright.go:132" (fun a' W' h => hK a' W' h)
  · cases ho
    exact wpOp_step (o := { dst := some 31, op := Go.Op.binOp Go.BinOp.rem 3 (Go.Operand.tmp 30) (Go.Operand.const (Go.Value.int Go.IntKind.i64 2)) 3, type := 3, pos := "outright.go:132", after := #[{ on := 1, ground := Go.Ground.data }], guard := none }) rfl fun K hK => lgx_2 E hI hf (hed ⟨1, Go.Ground.data⟩ (Array.mem_of_getElem? (i := 0) rfl) rfl) "outright.go:132" (fun a' W' h => hK a' W' h)
  · cases ho
    exact wpOp_step (o := { dst := some 32, op := Go.Op.move (Go.Operand.tmp 0), type := 22, pos := "outright.go:132", after := #[], guard := none }) rfl fun K hK => lgx_3 E hI hf "outright.go:132" (fun a' W' h => hK a' W' h)
  · cases ho
    exact wpOp_step (o := { dst := some 33, op := Go.Op.move (Go.Operand.tmp 7), type := 3, pos := "outright.go:132", after := #[], guard := none }) rfl fun K hK => lgx_4 E hI hf "outright.go:132" (fun a' W' h => hK a' W' h)
  · cases ho
    exact wpOp_step (o := { dst := some 34, op := Go.Op.indexAddr 22 (Go.Operand.tmp 32) (Go.Operand.tmp 33), type := 0, pos := "outright.go:132", after := #[{ on := 3, ground := Go.Ground.data }, { on := 4, ground := Go.Ground.data }], guard := none }) rfl fun K hK => lgx_5 E hI hf (hed ⟨3, Go.Ground.data⟩ (Array.mem_of_getElem? (i := 0) rfl) rfl) (hed ⟨4, Go.Ground.data⟩ (Array.mem_of_getElem? (i := 1) rfl) rfl) "outright.go:132" (fun a' W' h => hK a' W' h)
  · cases ho
    exact wpOp_step (o := { dst := some 35, op := Go.Op.fieldAddr 32 (Go.Operand.tmp 34) 0, type := 0, pos := "outright.go:132", after := #[{ on := 5, ground := Go.Ground.data }], guard := none }) rfl fun K hK => lgx_6 E hI hf (hed ⟨5, Go.Ground.data⟩ (Array.mem_of_getElem? (i := 0) rfl) rfl) "outright.go:132" (fun a' W' h => hK a' W' h)
  · cases ho
    exact wpOp_step (o := { dst := some 36, op := Go.Op.load 30 (Go.Operand.tmp 35), type := 30, pos := "outright.go:132", after := #[{ on := 6, ground := Go.Ground.data }], guard := none }) rfl fun K hK => lgx_7 E hI hf (hed ⟨6, Go.Ground.data⟩ (Array.mem_of_getElem? (i := 0) rfl) rfl) "outright.go:132" (fun a' W' h => hK a' W' h)
  · cases ho
    exact wpOp_step (o := { dst := some 37, op := Go.Op.move (Go.Operand.tmp 0), type := 22, pos := "outright.go:132", after := #[], guard := none }) rfl fun K hK => lgx_8 E hI hf "outright.go:132" (fun a' W' h => hK a' W' h)
  · cases ho
    exact wpOp_step (o := { dst := some 38, op := Go.Op.move (Go.Operand.tmp 7), type := 3, pos := "outright.go:132", after := #[], guard := none }) rfl fun K hK => lgx_9 E hI hf "outright.go:132" (fun a' W' h => hK a' W' h)
  · cases ho
    exact wpOp_step (o := { dst := some 39, op := Go.Op.indexAddr 22 (Go.Operand.tmp 37) (Go.Operand.tmp 38), type := 0, pos := "outright.go:132", after := #[{ on := 8, ground := Go.Ground.data }, { on := 9, ground := Go.Ground.data }], guard := none }) rfl fun K hK => lgx_10 E hI hf (hed ⟨8, Go.Ground.data⟩ (Array.mem_of_getElem? (i := 0) rfl) rfl) (hed ⟨9, Go.Ground.data⟩ (Array.mem_of_getElem? (i := 1) rfl) rfl) "outright.go:132" (fun a' W' h => hK a' W' h)
  · cases ho
    exact wpOp_step (o := { dst := some 40, op := Go.Op.fieldAddr 32 (Go.Operand.tmp 39) 1, type := 0, pos := "outright.go:132", after := #[{ on := 10, ground := Go.Ground.data }], guard := none }) rfl fun K hK => lgx_11 E hI hf (hed ⟨10, Go.Ground.data⟩ (Array.mem_of_getElem? (i := 0) rfl) rfl) "outright.go:132" (fun a' W' h => hK a' W' h)
  · cases ho
    exact wpOp_step (o := { dst := some 41, op := Go.Op.load 9 (Go.Operand.tmp 40), type := 9, pos := "outright.go:132", after := #[{ on := 11, ground := Go.Ground.data }], guard := none }) rfl fun K hK => lgx_12 E hI hf (hed ⟨11, Go.Ground.data⟩ (Array.mem_of_getElem? (i := 0) rfl) rfl) "outright.go:132" (fun a' W' h => hK a' W' h)
  · cases ho
    exact wpOp_step (o := { dst := some 42, op := Go.Op.move (Go.Operand.tmp 0), type := 22, pos := "outright.go:132", after := #[], guard := none }) rfl fun K hK => lgx_13 E hI hf "outright.go:132" (fun a' W' h => hK a' W' h)
  · cases ho
    exact wpOp_step (o := { dst := some 43, op := Go.Op.move (Go.Operand.tmp 7), type := 3, pos := "outright.go:132", after := #[], guard := none }) rfl fun K hK => lgx_14 E hI hf "outright.go:132" (fun a' W' h => hK a' W' h)
  · cases ho
    exact wpOp_step (o := { dst := some 44, op := Go.Op.indexAddr 22 (Go.Operand.tmp 42) (Go.Operand.tmp 43), type := 0, pos := "outright.go:132", after := #[{ on := 13, ground := Go.Ground.data }, { on := 14, ground := Go.Ground.data }], guard := none }) rfl fun K hK => lgx_15 E hI hf (hed ⟨13, Go.Ground.data⟩ (Array.mem_of_getElem? (i := 0) rfl) rfl) (hed ⟨14, Go.Ground.data⟩ (Array.mem_of_getElem? (i := 1) rfl) rfl) "outright.go:132" (fun a' W' h => hK a' W' h)
  · cases ho
    exact wpOp_step (o := { dst := some 45, op := Go.Op.fieldAddr 32 (Go.Operand.tmp 44) 2, type := 0, pos := "outright.go:132", after := #[{ on := 15, ground := Go.Ground.data }], guard := none }) rfl fun K hK => lgx_16 E hI hf (hed ⟨15, Go.Ground.data⟩ (Array.mem_of_getElem? (i := 0) rfl) rfl) "outright.go:132" (fun a' W' h => hK a' W' h)
  · cases ho
    exact wpOp_step (o := { dst := some 46, op := Go.Op.load 3 (Go.Operand.tmp 45), type := 3, pos := "outright.go:132", after := #[{ on := 16, ground := Go.Ground.data }], guard := none }) rfl fun K hK => lgx_17 E hI hf (hed ⟨16, Go.Ground.data⟩ (Array.mem_of_getElem? (i := 0) rfl) rfl) "outright.go:132" (fun a' W' h => hK a' W' h)
  · cases ho
    exact wpOp_step (o := { dst := some 47, op := Go.Op.call { callee := Go.Callee.value (Go.Operand.func 8), args := #[Go.Operand.tmp 41, Go.Operand.tmp 46], argTypes := #[9, 3] }, type := 9, pos := "outright.go:132", after := #[{ on := 12, ground := Go.Ground.data }, { on := 17, ground := Go.Ground.data }], guard := none }) rfl fun K hK => lgx_18 E hI hf (hed ⟨12, Go.Ground.data⟩ (Array.mem_of_getElem? (i := 0) rfl) rfl) (hed ⟨17, Go.Ground.data⟩ (Array.mem_of_getElem? (i := 1) rfl) rfl) "outright.go:132" (fun a' W' h => hK a' W' h)
  · cases ho
    exact wpOp_step (o := { dst := some 48, op := Go.Op.call { callee := Go.Callee.value (Go.Operand.func 7), args := #[Go.Operand.tmp 29, Go.Operand.tmp 31, Go.Operand.tmp 36, Go.Operand.tmp 47], argTypes := #[25, 3, 30, 9] }, type := 28, pos := "outright.go:132", after := #[{ on := 0, ground := Go.Ground.data }, { on := 2, ground := Go.Ground.data }, { on := 7, ground := Go.Ground.data }, { on := 18, ground := Go.Ground.data }, { on := 18, ground := Go.Ground.chain }], guard := none }) rfl fun K hK => lgx_19 E hI hf (hed ⟨0, Go.Ground.data⟩ (Array.mem_of_getElem? (i := 0) rfl) rfl) (hed ⟨2, Go.Ground.data⟩ (Array.mem_of_getElem? (i := 1) rfl) rfl) (hed ⟨7, Go.Ground.data⟩ (Array.mem_of_getElem? (i := 2) rfl) rfl) (hed ⟨18, Go.Ground.data⟩ (Array.mem_of_getElem? (i := 3) rfl) rfl) "outright.go:132" (fun a' W' h => hK a' W' h)
  · cases ho
    exact wpOp_step (o := { dst := some 28, op := Go.Op.move (Go.Operand.tmp 48), type := 28, pos := "outright.go:132", after := #[{ on := 19, ground := Go.Ground.data }], guard := none }) rfl fun K hK => lgx_20 E hI hf (hed ⟨19, Go.Ground.data⟩ (Array.mem_of_getElem? (i := 0) rfl) rfl) "outright.go:132" (fun a' W' h => hK a' W' h)
  · cases ho
    exact wpOp_step (o := { dst := some 49, op := Go.Op.extract (Go.Operand.tmp 28) 0, type := 3, pos := "outright.go:132", after := #[{ on := 20, ground := Go.Ground.data }], guard := none }) rfl fun K hK => lgx_21 E hI hf (hed ⟨20, Go.Ground.data⟩ (Array.mem_of_getElem? (i := 0) rfl) rfl) "outright.go:132" (fun a' W' h => hK a' W' h)
  · cases ho
    exact wpOp_step (o := { dst := some 50, op := Go.Op.extract (Go.Operand.tmp 28) 1, type := 27, pos := "outright.go:132", after := #[{ on := 20, ground := Go.Ground.data }, { on := 23, ground := Go.Ground.gcOnly Go.Departure.lateStores }], guard := none }) rfl fun K hK => lgx_22 E hI hf (hed ⟨20, Go.Ground.data⟩ (Array.mem_of_getElem? (i := 0) rfl) rfl) "outright.go:132" (fun a' W' h => hK a' W' h)
  · cases ho
    exact wpOp_step (o := { dst := some 8, op := Go.Op.assign (Go.Operand.tmp 49), type := 3, pos := "outright.go:132", after := #[{ on := 21, ground := Go.Ground.data }, { on := 19, ground := Go.Ground.chain }, { on := 0, ground := Go.Ground.phase }, { on := 1, ground := Go.Ground.phase }, { on := 2, ground := Go.Ground.phase }, { on := 3, ground := Go.Ground.phase }, { on := 4, ground := Go.Ground.phase }, { on := 5, ground := Go.Ground.phase }, { on := 6, ground := Go.Ground.phase }, { on := 7, ground := Go.Ground.phase }, { on := 8, ground := Go.Ground.phase }, { on := 9, ground := Go.Ground.phase }, { on := 10, ground := Go.Ground.phase }, { on := 11, ground := Go.Ground.phase }, { on := 12, ground := Go.Ground.phase }, { on := 13, ground := Go.Ground.phase }, { on := 14, ground := Go.Ground.phase }, { on := 15, ground := Go.Ground.phase }, { on := 16, ground := Go.Ground.phase }, { on := 17, ground := Go.Ground.phase }, { on := 18, ground := Go.Ground.phase }, { on := 19, ground := Go.Ground.phase }, { on := 20, ground := Go.Ground.phase }, { on := 21, ground := Go.Ground.phase }, { on := 22, ground := Go.Ground.textOnly Go.Departure.lateStores }], guard := none }) rfl fun K hK => lgx_23 E hI hf (hed ⟨0, Go.Ground.phase⟩ (Array.mem_of_getElem? (i := 2) rfl) rfl) (hed ⟨1, Go.Ground.phase⟩ (Array.mem_of_getElem? (i := 3) rfl) rfl) (hed ⟨2, Go.Ground.phase⟩ (Array.mem_of_getElem? (i := 4) rfl) rfl) (hed ⟨3, Go.Ground.phase⟩ (Array.mem_of_getElem? (i := 5) rfl) rfl) (hed ⟨4, Go.Ground.phase⟩ (Array.mem_of_getElem? (i := 6) rfl) rfl) (hed ⟨5, Go.Ground.phase⟩ (Array.mem_of_getElem? (i := 7) rfl) rfl) (hed ⟨6, Go.Ground.phase⟩ (Array.mem_of_getElem? (i := 8) rfl) rfl) (hed ⟨7, Go.Ground.phase⟩ (Array.mem_of_getElem? (i := 9) rfl) rfl) (hed ⟨8, Go.Ground.phase⟩ (Array.mem_of_getElem? (i := 10) rfl) rfl) (hed ⟨9, Go.Ground.phase⟩ (Array.mem_of_getElem? (i := 11) rfl) rfl) (hed ⟨10, Go.Ground.phase⟩ (Array.mem_of_getElem? (i := 12) rfl) rfl) (hed ⟨11, Go.Ground.phase⟩ (Array.mem_of_getElem? (i := 13) rfl) rfl) (hed ⟨12, Go.Ground.phase⟩ (Array.mem_of_getElem? (i := 14) rfl) rfl) (hed ⟨13, Go.Ground.phase⟩ (Array.mem_of_getElem? (i := 15) rfl) rfl) (hed ⟨14, Go.Ground.phase⟩ (Array.mem_of_getElem? (i := 16) rfl) rfl) (hed ⟨15, Go.Ground.phase⟩ (Array.mem_of_getElem? (i := 17) rfl) rfl) (hed ⟨16, Go.Ground.phase⟩ (Array.mem_of_getElem? (i := 18) rfl) rfl) (hed ⟨17, Go.Ground.phase⟩ (Array.mem_of_getElem? (i := 19) rfl) rfl) (hed ⟨18, Go.Ground.phase⟩ (Array.mem_of_getElem? (i := 20) rfl) rfl) (hed ⟨19, Go.Ground.chain⟩ (Array.mem_of_getElem? (i := 1) rfl) rfl) (hed ⟨20, Go.Ground.phase⟩ (Array.mem_of_getElem? (i := 22) rfl) rfl) (hed ⟨21, Go.Ground.data⟩ (Array.mem_of_getElem? (i := 0) rfl) rfl) "outright.go:132" (fun a' W' h => hK a' W' h)
  · cases ho
    exact wpOp_step (o := { dst := some 9, op := Go.Op.assign (Go.Operand.tmp 50), type := 27, pos := "outright.go:132", after := #[{ on := 22, ground := Go.Ground.data }, { on := 23, ground := Go.Ground.chain }, { on := 0, ground := Go.Ground.phase }, { on := 1, ground := Go.Ground.phase }, { on := 2, ground := Go.Ground.phase }, { on := 3, ground := Go.Ground.phase }, { on := 4, ground := Go.Ground.phase }, { on := 5, ground := Go.Ground.phase }, { on := 6, ground := Go.Ground.phase }, { on := 7, ground := Go.Ground.phase }, { on := 8, ground := Go.Ground.phase }, { on := 9, ground := Go.Ground.phase }, { on := 10, ground := Go.Ground.phase }, { on := 11, ground := Go.Ground.phase }, { on := 12, ground := Go.Ground.phase }, { on := 13, ground := Go.Ground.phase }, { on := 14, ground := Go.Ground.phase }, { on := 15, ground := Go.Ground.phase }, { on := 16, ground := Go.Ground.phase }, { on := 17, ground := Go.Ground.phase }, { on := 18, ground := Go.Ground.phase }, { on := 19, ground := Go.Ground.phase }, { on := 20, ground := Go.Ground.phase }, { on := 21, ground := Go.Ground.phase }, { on := 22, ground := Go.Ground.phase }, { on := 23, ground := Go.Ground.phase }], guard := none }) rfl fun K hK => lgx_24 E hI hf (hed ⟨0, Go.Ground.phase⟩ (Array.mem_of_getElem? (i := 2) rfl) rfl) (hed ⟨1, Go.Ground.phase⟩ (Array.mem_of_getElem? (i := 3) rfl) rfl) (hed ⟨2, Go.Ground.phase⟩ (Array.mem_of_getElem? (i := 4) rfl) rfl) (hed ⟨3, Go.Ground.phase⟩ (Array.mem_of_getElem? (i := 5) rfl) rfl) (hed ⟨4, Go.Ground.phase⟩ (Array.mem_of_getElem? (i := 6) rfl) rfl) (hed ⟨5, Go.Ground.phase⟩ (Array.mem_of_getElem? (i := 7) rfl) rfl) (hed ⟨6, Go.Ground.phase⟩ (Array.mem_of_getElem? (i := 8) rfl) rfl) (hed ⟨7, Go.Ground.phase⟩ (Array.mem_of_getElem? (i := 9) rfl) rfl) (hed ⟨8, Go.Ground.phase⟩ (Array.mem_of_getElem? (i := 10) rfl) rfl) (hed ⟨9, Go.Ground.phase⟩ (Array.mem_of_getElem? (i := 11) rfl) rfl) (hed ⟨10, Go.Ground.phase⟩ (Array.mem_of_getElem? (i := 12) rfl) rfl) (hed ⟨11, Go.Ground.phase⟩ (Array.mem_of_getElem? (i := 13) rfl) rfl) (hed ⟨12, Go.Ground.phase⟩ (Array.mem_of_getElem? (i := 14) rfl) rfl) (hed ⟨13, Go.Ground.phase⟩ (Array.mem_of_getElem? (i := 15) rfl) rfl) (hed ⟨14, Go.Ground.phase⟩ (Array.mem_of_getElem? (i := 16) rfl) rfl) (hed ⟨15, Go.Ground.phase⟩ (Array.mem_of_getElem? (i := 17) rfl) rfl) (hed ⟨16, Go.Ground.phase⟩ (Array.mem_of_getElem? (i := 18) rfl) rfl) (hed ⟨17, Go.Ground.phase⟩ (Array.mem_of_getElem? (i := 19) rfl) rfl) (hed ⟨18, Go.Ground.phase⟩ (Array.mem_of_getElem? (i := 20) rfl) rfl) (hed ⟨19, Go.Ground.phase⟩ (Array.mem_of_getElem? (i := 21) rfl) rfl) (hed ⟨20, Go.Ground.phase⟩ (Array.mem_of_getElem? (i := 22) rfl) rfl) (hed ⟨21, Go.Ground.phase⟩ (Array.mem_of_getElem? (i := 23) rfl) rfl) (hed ⟨22, Go.Ground.data⟩ (Array.mem_of_getElem? (i := 0) rfl) rfl) (hed ⟨23, Go.Ground.chain⟩ (Array.mem_of_getElem? (i := 1) rfl) rfl) "outright.go:132" (fun a' W' h => hK a' W' h)

/-- THE REGION -/
theorem lgx_region {g len cap k id v r1 : Nat} {ad : Addr} {s d : ByteArray} {n : Int} {Pre Post : World → Prop} {tm : Array Value} {Q : Exit → Act → World → Prop} {w : World} (hsz : tm.size = 120) (E : lgxEnv g len cap k id v r1 ad s d n Pre Post tm) (hT : Pre w.drew)
    (hend : ∀ W, Post W → Q .normal ⟨(((((((((((((((((((((((((tm.setIfInBounds 29 (.pointer (some ⟨g, 0, none⟩))).setIfInBounds 30 (.int .i64 (k : Int))).setIfInBounds 31 (.int .i64 (v : Int))).setIfInBounds 32 (.slice (some ad) len cap)).setIfInBounds 33 (.int .i64 (k : Int))).setIfInBounds 34 (.pointer (some (ad.add (k * 3))))).setIfInBounds 35 (.pointer (some (ad.add (k * 3))))).setIfInBounds 36 (.int .u64 (id : Int))).setIfInBounds 37 (.slice (some ad) len cap)).setIfInBounds 38 (.int .i64 (k : Int))).setIfInBounds 39 (.pointer (some (ad.add (k * 3))))).setIfInBounds 40 (.pointer (some ⟨(ad.add (k * 3)).block, (ad.add (k * 3)).off + 1, none⟩))).setIfInBounds 41 (.string s)).setIfInBounds 42 (.slice (some ad) len cap)).setIfInBounds 43 (.int .i64 (k : Int))).setIfInBounds 44 (.pointer (some (ad.add (k * 3))))).setIfInBounds 45 (.pointer (some ⟨(ad.add (k * 3)).block, (ad.add (k * 3)).off + 2, none⟩))).setIfInBounds 46 (.int .i64 n)).setIfInBounds 47 (.string d)).setIfInBounds 48 (.tuple #[.int .i64 (r1 : Int), .int .i64 0])).setIfInBounds 28 (.tuple #[.int .i64 (r1 : Int), .int .i64 0])).setIfInBounds 49 (.int .i64 (r1 : Int))).setIfInBounds 50 (.int .i64 0)).setIfInBounds 8 (.int .i64 (r1 : Int))).setIfInBounds 9 (.int .i64 0)), []⟩ W) : (Code.region 8 lgxOps true).wp Tryd.prog Q ⟨tm, []⟩ w := by
  refine wp_region_inv (by kernel_rfl) (by kernel_rfl) ((lgxTb g len cap k id v r1 ad s d n Pre Post tm).Inv (fun f W => if f 19 = true then Post W else Pre W)) ⟨hsz, rfl, fun s _ => rfl, fun i d _ hf => (by cases hf), hT⟩ (lgx_step E) ?_
  intro f a W hall hI
  have ha := hI.fin hall hsz lgx_nodup rfl
  rw [ha]
  exact hend W (by have := hI.held; rwa [if_pos (hall 19 (by decide))] at this)
end Go.Proofs.YtniecodpdmjppaaDoor

/- LibraryBlobs: region 11: a blob is written. Written by gen_rf.py. -/
namespace Go.Proofs.YtniecodpdmjppaaDoor
open Go.RowKit
open Sm
set_option linter.unusedVariables false
set_option linter.unusedSimpArgs false

def lgyaTb (g len cap k id v r1 : Nat) (ad : Addr) (s d : ByteArray) (n : Int) (Pre Post : World → Prop) (base : Array Value) : Tf where
  slots := [57, 58, 59, 60, 61, 62, 63, 64, 65, 66, 67, 68, 69, 70, 71, 72, 73, 74, 75, 56, 76, 77, 13, 14]
  size := 177
  base := base
  val := fun
    | 0 => .pointer (some ⟨g, 0, none⟩)
    | 1 => .int .i64 (v : Int)
    | 2 => .slice (some ad) len cap
    | 3 => .int .i64 (k : Int)
    | 4 => .pointer (some (ad.add (k * 3)))
    | 5 => .pointer (some (ad.add (k * 3)))
    | 6 => .int .u64 (id : Int)
    | 7 => .slice (some ad) len cap
    | 8 => .int .i64 (k : Int)
    | 9 => .pointer (some (ad.add (k * 3)))
    | 10 => .pointer (some ⟨(ad.add (k * 3)).block, (ad.add (k * 3)).off + 1, none⟩)
    | 11 => .string s
    | 12 => .slice (some ad) len cap
    | 13 => .int .i64 (k : Int)
    | 14 => .pointer (some (ad.add (k * 3)))
    | 15 => .pointer (some ⟨(ad.add (k * 3)).block, (ad.add (k * 3)).off + 2, none⟩)
    | 16 => .int .i64 n
    | 17 => .string d
    | 18 => .tuple #[.int .i64 (r1 : Int), .int .i64 0]
    | 19 => .tuple #[.int .i64 (r1 : Int), .int .i64 0]
    | 20 => .int .i64 (r1 : Int)
    | 21 => .int .i64 0
    | 22 => .int .i64 (r1 : Int)
    | 23 => .int .i64 0
    | _ => undef

structure lgyaEnv (g len cap k id v r1 : Nat) (ad : Addr) (s d : ByteArray) (n : Int) (Pre Post : World → Prop) (base : Array Value) : Prop where
  b7 : base[7]?.getD undef = .pointer (some ⟨g, 0, none⟩)
  b11 : base[11]?.getD undef = .int .i64 (k : Int)
  b1 : base[1]?.getD undef = .slice (some ad) len cap
  b12 : base[12]?.getD undef = .int .i64 (v : Int)
  kk : k < len
  c : ∀ W, Pre W ∨ Post W → W.cell? (ad.add (k * 3)) = some (.int .u64 (id : Int)) ∧ W.cell? ⟨(ad.add (k * 3)).block, (ad.add (k * 3)).off + 1, none⟩ = some (.string s) ∧ W.cell? ⟨(ad.add (k * 3)).block, (ad.add (k * 3)).off + 2, none⟩ = some (.int .i64 n)
  lo : ∀ W, Calls Tryd.prog 8 #[.string s, .int .i64 n] W fun e w' => e = .returned (.string d) ∧ W = w'
  wr : ∀ W, Pre W → Calls Tryd.prog 7 #[.pointer (some ⟨g, 0, none⟩), .int .i64 (v : Int), .int .u64 (id : Int), .string d] W fun e w' => e = .returned (.tuple #[.int .i64 (r1 : Int), .int .i64 0]) ∧ Post w'

theorem lgya_nodup : [57, 58, 59, 60, 61, 62, 63, 64, 65, 66, 67, 68, 69, 70, 71, 72, 73, 74, 75, 56, 76, 77, 13, 14].Nodup := by decide
set_option maxRecDepth 100000 in
theorem lgya_0 {g len cap k id v r1 : Nat} {ad : Addr} {s d : ByteArray} {n : Int} {Pre Post : World → Prop} {base : Array Value} {f : Nat → Bool} {a : Act} {W : World} {K : Act → World → Prop} {Q : Exit → Act → World → Prop} {ops : Array Oper} (E : lgyaEnv g len cap k id v r1 ad s d n Pre Post base) (hI : (lgyaTb g len cap k id v r1 ad s d n Pre Post base).Inv (fun f W => if f 18 = true then Post W else Pre W) f a W) (hf : f 0 = false) (pos : String) (hK : ∀ a' W', (lgyaTb g len cap k id v r1 ad s d n Pre Post base).Inv (fun f W => if f 18 = true then Post W else Pre W) (hit f 0) a' W' → K a' W') : if Region.wanted { dst := some 57, op := Go.Op.move (Go.Operand.tmp 7), type := 25, pos := pos, after := #[], guard := none } (yielded ops a.tmps) = true then Oper.wp Tryd.prog { dst := some 57, op := Go.Op.move (Go.Operand.tmp 7), type := 25, pos := pos, after := #[], guard := none } a W K Q else K (a.put (some 57) undef) W := by
  have q : a.tmps[7]?.getD undef = .pointer (some ⟨g, 0, none⟩) := (hI.base 7 rfl).trans E.b7
  have R := Lib.hid (hI.step (i := 0) (d := 57) (v := .pointer (some ⟨g, 0, none⟩)) rfl lgya_nodup (show 57 < 177 by decide) rfl (show (if hit f 0 18 = true then Post W else Pre W) by rw [hit_of f 0 18 (by decide)]; exact hI.held))
  clear hI E hf
  go_simp
  exact hK _ _ R.out

set_option maxRecDepth 100000 in
theorem lgya_1 {g len cap k id v r1 : Nat} {ad : Addr} {s d : ByteArray} {n : Int} {Pre Post : World → Prop} {base : Array Value} {f : Nat → Bool} {a : Act} {W : World} {K : Act → World → Prop} {Q : Exit → Act → World → Prop} {ops : Array Oper} (E : lgyaEnv g len cap k id v r1 ad s d n Pre Post base) (hI : (lgyaTb g len cap k id v r1 ad s d n Pre Post base).Inv (fun f W => if f 18 = true then Post W else Pre W) f a W) (hf : f 1 = false) (pos : String) (hK : ∀ a' W', (lgyaTb g len cap k id v r1 ad s d n Pre Post base).Inv (fun f W => if f 18 = true then Post W else Pre W) (hit f 1) a' W' → K a' W') : if Region.wanted { dst := some 58, op := Go.Op.move (Go.Operand.tmp 12), type := 3, pos := pos, after := #[], guard := none } (yielded ops a.tmps) = true then Oper.wp Tryd.prog { dst := some 58, op := Go.Op.move (Go.Operand.tmp 12), type := 3, pos := pos, after := #[], guard := none } a W K Q else K (a.put (some 58) undef) W := by
  have q : a.tmps[12]?.getD undef = .int .i64 (v : Int) := (hI.base 12 rfl).trans E.b12
  have R := Lib.hid (hI.step (i := 1) (d := 58) (v := .int .i64 (v : Int)) rfl lgya_nodup (show 58 < 177 by decide) rfl (show (if hit f 1 18 = true then Post W else Pre W) by rw [hit_of f 1 18 (by decide)]; exact hI.held))
  clear hI E hf
  go_simp
  exact hK _ _ R.out

set_option maxRecDepth 100000 in
theorem lgya_2 {g len cap k id v r1 : Nat} {ad : Addr} {s d : ByteArray} {n : Int} {Pre Post : World → Prop} {base : Array Value} {f : Nat → Bool} {a : Act} {W : World} {K : Act → World → Prop} {Q : Exit → Act → World → Prop} {ops : Array Oper} (E : lgyaEnv g len cap k id v r1 ad s d n Pre Post base) (hI : (lgyaTb g len cap k id v r1 ad s d n Pre Post base).Inv (fun f W => if f 18 = true then Post W else Pre W) f a W) (hf : f 2 = false) (pos : String) (hK : ∀ a' W', (lgyaTb g len cap k id v r1 ad s d n Pre Post base).Inv (fun f W => if f 18 = true then Post W else Pre W) (hit f 2) a' W' → K a' W') : if Region.wanted { dst := some 59, op := Go.Op.move (Go.Operand.tmp 1), type := 22, pos := pos, after := #[], guard := none } (yielded ops a.tmps) = true then Oper.wp Tryd.prog { dst := some 59, op := Go.Op.move (Go.Operand.tmp 1), type := 22, pos := pos, after := #[], guard := none } a W K Q else K (a.put (some 59) undef) W := by
  have q : a.tmps[1]?.getD undef = .slice (some ad) len cap := (hI.base 1 rfl).trans E.b1
  have R := Lib.hid (hI.step (i := 2) (d := 59) (v := .slice (some ad) len cap) rfl lgya_nodup (show 59 < 177 by decide) rfl (show (if hit f 2 18 = true then Post W else Pre W) by rw [hit_of f 2 18 (by decide)]; exact hI.held))
  clear hI E hf
  go_simp
  exact hK _ _ R.out

set_option maxRecDepth 100000 in
theorem lgya_3 {g len cap k id v r1 : Nat} {ad : Addr} {s d : ByteArray} {n : Int} {Pre Post : World → Prop} {base : Array Value} {f : Nat → Bool} {a : Act} {W : World} {K : Act → World → Prop} {Q : Exit → Act → World → Prop} {ops : Array Oper} (E : lgyaEnv g len cap k id v r1 ad s d n Pre Post base) (hI : (lgyaTb g len cap k id v r1 ad s d n Pre Post base).Inv (fun f W => if f 18 = true then Post W else Pre W) f a W) (hf : f 3 = false) (pos : String) (hK : ∀ a' W', (lgyaTb g len cap k id v r1 ad s d n Pre Post base).Inv (fun f W => if f 18 = true then Post W else Pre W) (hit f 3) a' W' → K a' W') : if Region.wanted { dst := some 60, op := Go.Op.move (Go.Operand.tmp 11), type := 3, pos := pos, after := #[], guard := none } (yielded ops a.tmps) = true then Oper.wp Tryd.prog { dst := some 60, op := Go.Op.move (Go.Operand.tmp 11), type := 3, pos := pos, after := #[], guard := none } a W K Q else K (a.put (some 60) undef) W := by
  have q : a.tmps[11]?.getD undef = .int .i64 (k : Int) := (hI.base 11 rfl).trans E.b11
  have R := Lib.hid (hI.step (i := 3) (d := 60) (v := .int .i64 (k : Int)) rfl lgya_nodup (show 60 < 177 by decide) rfl (show (if hit f 3 18 = true then Post W else Pre W) by rw [hit_of f 3 18 (by decide)]; exact hI.held))
  clear hI E hf
  go_simp
  exact hK _ _ R.out

set_option maxRecDepth 100000 in
theorem lgya_4 {g len cap k id v r1 : Nat} {ad : Addr} {s d : ByteArray} {n : Int} {Pre Post : World → Prop} {base : Array Value} {f : Nat → Bool} {a : Act} {W : World} {K : Act → World → Prop} {Q : Exit → Act → World → Prop} {ops : Array Oper} (E : lgyaEnv g len cap k id v r1 ad s d n Pre Post base) (hI : (lgyaTb g len cap k id v r1 ad s d n Pre Post base).Inv (fun f W => if f 18 = true then Post W else Pre W) f a W) (hf : f 4 = false) (h2 : f 2 = true) (h3 : f 3 = true) (pos : String) (hK : ∀ a' W', (lgyaTb g len cap k id v r1 ad s d n Pre Post base).Inv (fun f W => if f 18 = true then Post W else Pre W) (hit f 4) a' W' → K a' W') : if Region.wanted { dst := some 61, op := Go.Op.indexAddr 22 (Go.Operand.tmp 59) (Go.Operand.tmp 60), type := 0, pos := pos, after := #[{ on := 2, ground := Go.Ground.data }, { on := 3, ground := Go.Ground.data }], guard := none } (yielded ops a.tmps) = true then Oper.wp Tryd.prog { dst := some 61, op := Go.Op.indexAddr 22 (Go.Operand.tmp 59) (Go.Operand.tmp 60), type := 0, pos := pos, after := #[{ on := 2, ground := Go.Ground.data }, { on := 3, ground := Go.Ground.data }], guard := none } a W K Q else K (a.put (some 61) undef) W := by
  have y0 : a.tmps[59]?.getD undef = .slice (some ad) len cap := hI.val 2 59 rfl h2
  have y1 : a.tmps[60]?.getD undef = .int .i64 (k : Int) := hI.val 3 60 rfl h3
  have hk := E.kk
  have i0 : (0 : Int) ≤ (k : Int) := by omega
  have i1 : (k : Int) < (len : Int) := by omega
  have R := Lib.hid (hI.step (i := 4) (d := 61) (v := .pointer (some (ad.add (k * 3)))) rfl lgya_nodup (show 61 < 177 by decide) rfl (show (if hit f 4 18 = true then Post W else Pre W) by rw [hit_of f 4 18 (by decide)]; exact hI.held))
  clear hI E hf
  go_simp
  exact hK _ _ R.out

set_option maxRecDepth 100000 in
theorem lgya_5 {g len cap k id v r1 : Nat} {ad : Addr} {s d : ByteArray} {n : Int} {Pre Post : World → Prop} {base : Array Value} {f : Nat → Bool} {a : Act} {W : World} {K : Act → World → Prop} {Q : Exit → Act → World → Prop} {ops : Array Oper} (E : lgyaEnv g len cap k id v r1 ad s d n Pre Post base) (hI : (lgyaTb g len cap k id v r1 ad s d n Pre Post base).Inv (fun f W => if f 18 = true then Post W else Pre W) f a W) (hf : f 5 = false) (h4 : f 4 = true) (pos : String) (hK : ∀ a' W', (lgyaTb g len cap k id v r1 ad s d n Pre Post base).Inv (fun f W => if f 18 = true then Post W else Pre W) (hit f 5) a' W' → K a' W') : if Region.wanted { dst := some 62, op := Go.Op.fieldAddr 32 (Go.Operand.tmp 61) 0, type := 0, pos := pos, after := #[{ on := 4, ground := Go.Ground.data }], guard := none } (yielded ops a.tmps) = true then Oper.wp Tryd.prog { dst := some 62, op := Go.Op.fieldAddr 32 (Go.Operand.tmp 61) 0, type := 0, pos := pos, after := #[{ on := 4, ground := Go.Ground.data }], guard := none } a W K Q else K (a.put (some 62) undef) W := by
  have q : a.tmps[61]?.getD undef = .pointer (some (ad.add (k * 3))) := hI.val 4 61 rfl h4
  have R := Lib.hid (hI.step (i := 5) (d := 62) (v := .pointer (some (ad.add (k * 3)))) rfl lgya_nodup (show 62 < 177 by decide) rfl (show (if hit f 5 18 = true then Post W else Pre W) by rw [hit_of f 5 18 (by decide)]; exact hI.held))
  clear hI E hf
  go_simp
  exact hK _ _ R.out

set_option maxRecDepth 100000 in
theorem lgya_6 {g len cap k id v r1 : Nat} {ad : Addr} {s d : ByteArray} {n : Int} {Pre Post : World → Prop} {base : Array Value} {f : Nat → Bool} {a : Act} {W : World} {K : Act → World → Prop} {Q : Exit → Act → World → Prop} {ops : Array Oper} (E : lgyaEnv g len cap k id v r1 ad s d n Pre Post base) (hI : (lgyaTb g len cap k id v r1 ad s d n Pre Post base).Inv (fun f W => if f 18 = true then Post W else Pre W) f a W) (hf : f 6 = false) (h5 : f 5 = true) (pos : String) (hK : ∀ a' W', (lgyaTb g len cap k id v r1 ad s d n Pre Post base).Inv (fun f W => if f 18 = true then Post W else Pre W) (hit f 6) a' W' → K a' W') : if Region.wanted { dst := some 63, op := Go.Op.load 30 (Go.Operand.tmp 62), type := 30, pos := pos, after := #[{ on := 5, ground := Go.Ground.data }], guard := none } (yielded ops a.tmps) = true then Oper.wp Tryd.prog { dst := some 63, op := Go.Op.load 30 (Go.Operand.tmp 62), type := 30, pos := pos, after := #[{ on := 5, ground := Go.Ground.data }], guard := none } a W K Q else K (a.put (some 63) undef) W := by
  have q : a.tmps[62]?.getD undef = .pointer (some (ad.add (k * 3))) := hI.val 5 62 rfl h5
  have c : W.cell? (ad.add (k * 3)) = some (.int .u64 (id : Int)) := (E.c W (by have h : (if f 18 = true then Post W else Pre W) := hI.held; by_cases h8 : f 18 = true; (rw [if_pos h8] at h; exact .inr h); (rw [if_neg h8] at h; exact .inl h))).1
  have R := Lib.hid (hI.step (i := 6) (d := 63) (v := .int .u64 (id : Int)) rfl lgya_nodup (show 63 < 177 by decide) rfl (show (if hit f 6 18 = true then Post W else Pre W) by rw [hit_of f 6 18 (by decide)]; exact hI.held))
  clear hI E hf
  go_simp
  exact hK _ _ R.out

set_option maxRecDepth 100000 in
theorem lgya_7 {g len cap k id v r1 : Nat} {ad : Addr} {s d : ByteArray} {n : Int} {Pre Post : World → Prop} {base : Array Value} {f : Nat → Bool} {a : Act} {W : World} {K : Act → World → Prop} {Q : Exit → Act → World → Prop} {ops : Array Oper} (E : lgyaEnv g len cap k id v r1 ad s d n Pre Post base) (hI : (lgyaTb g len cap k id v r1 ad s d n Pre Post base).Inv (fun f W => if f 18 = true then Post W else Pre W) f a W) (hf : f 7 = false) (pos : String) (hK : ∀ a' W', (lgyaTb g len cap k id v r1 ad s d n Pre Post base).Inv (fun f W => if f 18 = true then Post W else Pre W) (hit f 7) a' W' → K a' W') : if Region.wanted { dst := some 64, op := Go.Op.move (Go.Operand.tmp 1), type := 22, pos := pos, after := #[], guard := none } (yielded ops a.tmps) = true then Oper.wp Tryd.prog { dst := some 64, op := Go.Op.move (Go.Operand.tmp 1), type := 22, pos := pos, after := #[], guard := none } a W K Q else K (a.put (some 64) undef) W := by
  have q : a.tmps[1]?.getD undef = .slice (some ad) len cap := (hI.base 1 rfl).trans E.b1
  have R := Lib.hid (hI.step (i := 7) (d := 64) (v := .slice (some ad) len cap) rfl lgya_nodup (show 64 < 177 by decide) rfl (show (if hit f 7 18 = true then Post W else Pre W) by rw [hit_of f 7 18 (by decide)]; exact hI.held))
  clear hI E hf
  go_simp
  exact hK _ _ R.out

set_option maxRecDepth 100000 in
theorem lgya_8 {g len cap k id v r1 : Nat} {ad : Addr} {s d : ByteArray} {n : Int} {Pre Post : World → Prop} {base : Array Value} {f : Nat → Bool} {a : Act} {W : World} {K : Act → World → Prop} {Q : Exit → Act → World → Prop} {ops : Array Oper} (E : lgyaEnv g len cap k id v r1 ad s d n Pre Post base) (hI : (lgyaTb g len cap k id v r1 ad s d n Pre Post base).Inv (fun f W => if f 18 = true then Post W else Pre W) f a W) (hf : f 8 = false) (pos : String) (hK : ∀ a' W', (lgyaTb g len cap k id v r1 ad s d n Pre Post base).Inv (fun f W => if f 18 = true then Post W else Pre W) (hit f 8) a' W' → K a' W') : if Region.wanted { dst := some 65, op := Go.Op.move (Go.Operand.tmp 11), type := 3, pos := pos, after := #[], guard := none } (yielded ops a.tmps) = true then Oper.wp Tryd.prog { dst := some 65, op := Go.Op.move (Go.Operand.tmp 11), type := 3, pos := pos, after := #[], guard := none } a W K Q else K (a.put (some 65) undef) W := by
  have q : a.tmps[11]?.getD undef = .int .i64 (k : Int) := (hI.base 11 rfl).trans E.b11
  have R := Lib.hid (hI.step (i := 8) (d := 65) (v := .int .i64 (k : Int)) rfl lgya_nodup (show 65 < 177 by decide) rfl (show (if hit f 8 18 = true then Post W else Pre W) by rw [hit_of f 8 18 (by decide)]; exact hI.held))
  clear hI E hf
  go_simp
  exact hK _ _ R.out

set_option maxRecDepth 100000 in
theorem lgya_9 {g len cap k id v r1 : Nat} {ad : Addr} {s d : ByteArray} {n : Int} {Pre Post : World → Prop} {base : Array Value} {f : Nat → Bool} {a : Act} {W : World} {K : Act → World → Prop} {Q : Exit → Act → World → Prop} {ops : Array Oper} (E : lgyaEnv g len cap k id v r1 ad s d n Pre Post base) (hI : (lgyaTb g len cap k id v r1 ad s d n Pre Post base).Inv (fun f W => if f 18 = true then Post W else Pre W) f a W) (hf : f 9 = false) (h7 : f 7 = true) (h8 : f 8 = true) (pos : String) (hK : ∀ a' W', (lgyaTb g len cap k id v r1 ad s d n Pre Post base).Inv (fun f W => if f 18 = true then Post W else Pre W) (hit f 9) a' W' → K a' W') : if Region.wanted { dst := some 66, op := Go.Op.indexAddr 22 (Go.Operand.tmp 64) (Go.Operand.tmp 65), type := 0, pos := pos, after := #[{ on := 7, ground := Go.Ground.data }, { on := 8, ground := Go.Ground.data }], guard := none } (yielded ops a.tmps) = true then Oper.wp Tryd.prog { dst := some 66, op := Go.Op.indexAddr 22 (Go.Operand.tmp 64) (Go.Operand.tmp 65), type := 0, pos := pos, after := #[{ on := 7, ground := Go.Ground.data }, { on := 8, ground := Go.Ground.data }], guard := none } a W K Q else K (a.put (some 66) undef) W := by
  have y0 : a.tmps[64]?.getD undef = .slice (some ad) len cap := hI.val 7 64 rfl h7
  have y1 : a.tmps[65]?.getD undef = .int .i64 (k : Int) := hI.val 8 65 rfl h8
  have hk := E.kk
  have i0 : (0 : Int) ≤ (k : Int) := by omega
  have i1 : (k : Int) < (len : Int) := by omega
  have R := Lib.hid (hI.step (i := 9) (d := 66) (v := .pointer (some (ad.add (k * 3)))) rfl lgya_nodup (show 66 < 177 by decide) rfl (show (if hit f 9 18 = true then Post W else Pre W) by rw [hit_of f 9 18 (by decide)]; exact hI.held))
  clear hI E hf
  go_simp
  exact hK _ _ R.out

set_option maxRecDepth 100000 in
theorem lgya_10 {g len cap k id v r1 : Nat} {ad : Addr} {s d : ByteArray} {n : Int} {Pre Post : World → Prop} {base : Array Value} {f : Nat → Bool} {a : Act} {W : World} {K : Act → World → Prop} {Q : Exit → Act → World → Prop} {ops : Array Oper} (E : lgyaEnv g len cap k id v r1 ad s d n Pre Post base) (hI : (lgyaTb g len cap k id v r1 ad s d n Pre Post base).Inv (fun f W => if f 18 = true then Post W else Pre W) f a W) (hf : f 10 = false) (h9 : f 9 = true) (pos : String) (hK : ∀ a' W', (lgyaTb g len cap k id v r1 ad s d n Pre Post base).Inv (fun f W => if f 18 = true then Post W else Pre W) (hit f 10) a' W' → K a' W') : if Region.wanted { dst := some 67, op := Go.Op.fieldAddr 32 (Go.Operand.tmp 66) 1, type := 0, pos := pos, after := #[{ on := 9, ground := Go.Ground.data }], guard := none } (yielded ops a.tmps) = true then Oper.wp Tryd.prog { dst := some 67, op := Go.Op.fieldAddr 32 (Go.Operand.tmp 66) 1, type := 0, pos := pos, after := #[{ on := 9, ground := Go.Ground.data }], guard := none } a W K Q else K (a.put (some 67) undef) W := by
  have q : a.tmps[66]?.getD undef = .pointer (some (ad.add (k * 3))) := hI.val 9 66 rfl h9
  have R := Lib.hid (hI.step (i := 10) (d := 67) (v := .pointer (some ⟨(ad.add (k * 3)).block, (ad.add (k * 3)).off + 1, none⟩)) rfl lgya_nodup (show 67 < 177 by decide) rfl (show (if hit f 10 18 = true then Post W else Pre W) by rw [hit_of f 10 18 (by decide)]; exact hI.held))
  clear hI E hf
  go_simp
  exact hK _ _ R.out

set_option maxRecDepth 100000 in
theorem lgya_11 {g len cap k id v r1 : Nat} {ad : Addr} {s d : ByteArray} {n : Int} {Pre Post : World → Prop} {base : Array Value} {f : Nat → Bool} {a : Act} {W : World} {K : Act → World → Prop} {Q : Exit → Act → World → Prop} {ops : Array Oper} (E : lgyaEnv g len cap k id v r1 ad s d n Pre Post base) (hI : (lgyaTb g len cap k id v r1 ad s d n Pre Post base).Inv (fun f W => if f 18 = true then Post W else Pre W) f a W) (hf : f 11 = false) (h10 : f 10 = true) (pos : String) (hK : ∀ a' W', (lgyaTb g len cap k id v r1 ad s d n Pre Post base).Inv (fun f W => if f 18 = true then Post W else Pre W) (hit f 11) a' W' → K a' W') : if Region.wanted { dst := some 68, op := Go.Op.load 9 (Go.Operand.tmp 67), type := 9, pos := pos, after := #[{ on := 10, ground := Go.Ground.data }], guard := none } (yielded ops a.tmps) = true then Oper.wp Tryd.prog { dst := some 68, op := Go.Op.load 9 (Go.Operand.tmp 67), type := 9, pos := pos, after := #[{ on := 10, ground := Go.Ground.data }], guard := none } a W K Q else K (a.put (some 68) undef) W := by
  have q : a.tmps[67]?.getD undef = .pointer (some ⟨(ad.add (k * 3)).block, (ad.add (k * 3)).off + 1, none⟩) := hI.val 10 67 rfl h10
  have c : W.cell? ⟨(ad.add (k * 3)).block, (ad.add (k * 3)).off + 1, none⟩ = some (.string s) := (E.c W (by have h : (if f 18 = true then Post W else Pre W) := hI.held; by_cases h8 : f 18 = true; (rw [if_pos h8] at h; exact .inr h); (rw [if_neg h8] at h; exact .inl h))).2.1
  have R := Lib.hid (hI.step (i := 11) (d := 68) (v := .string s) rfl lgya_nodup (show 68 < 177 by decide) rfl (show (if hit f 11 18 = true then Post W else Pre W) by rw [hit_of f 11 18 (by decide)]; exact hI.held))
  clear hI E hf
  go_simp
  exact hK _ _ R.out

set_option maxRecDepth 100000 in
theorem lgya_12 {g len cap k id v r1 : Nat} {ad : Addr} {s d : ByteArray} {n : Int} {Pre Post : World → Prop} {base : Array Value} {f : Nat → Bool} {a : Act} {W : World} {K : Act → World → Prop} {Q : Exit → Act → World → Prop} {ops : Array Oper} (E : lgyaEnv g len cap k id v r1 ad s d n Pre Post base) (hI : (lgyaTb g len cap k id v r1 ad s d n Pre Post base).Inv (fun f W => if f 18 = true then Post W else Pre W) f a W) (hf : f 12 = false) (pos : String) (hK : ∀ a' W', (lgyaTb g len cap k id v r1 ad s d n Pre Post base).Inv (fun f W => if f 18 = true then Post W else Pre W) (hit f 12) a' W' → K a' W') : if Region.wanted { dst := some 69, op := Go.Op.move (Go.Operand.tmp 1), type := 22, pos := pos, after := #[], guard := none } (yielded ops a.tmps) = true then Oper.wp Tryd.prog { dst := some 69, op := Go.Op.move (Go.Operand.tmp 1), type := 22, pos := pos, after := #[], guard := none } a W K Q else K (a.put (some 69) undef) W := by
  have q : a.tmps[1]?.getD undef = .slice (some ad) len cap := (hI.base 1 rfl).trans E.b1
  have R := Lib.hid (hI.step (i := 12) (d := 69) (v := .slice (some ad) len cap) rfl lgya_nodup (show 69 < 177 by decide) rfl (show (if hit f 12 18 = true then Post W else Pre W) by rw [hit_of f 12 18 (by decide)]; exact hI.held))
  clear hI E hf
  go_simp
  exact hK _ _ R.out

set_option maxRecDepth 100000 in
theorem lgya_13 {g len cap k id v r1 : Nat} {ad : Addr} {s d : ByteArray} {n : Int} {Pre Post : World → Prop} {base : Array Value} {f : Nat → Bool} {a : Act} {W : World} {K : Act → World → Prop} {Q : Exit → Act → World → Prop} {ops : Array Oper} (E : lgyaEnv g len cap k id v r1 ad s d n Pre Post base) (hI : (lgyaTb g len cap k id v r1 ad s d n Pre Post base).Inv (fun f W => if f 18 = true then Post W else Pre W) f a W) (hf : f 13 = false) (pos : String) (hK : ∀ a' W', (lgyaTb g len cap k id v r1 ad s d n Pre Post base).Inv (fun f W => if f 18 = true then Post W else Pre W) (hit f 13) a' W' → K a' W') : if Region.wanted { dst := some 70, op := Go.Op.move (Go.Operand.tmp 11), type := 3, pos := pos, after := #[], guard := none } (yielded ops a.tmps) = true then Oper.wp Tryd.prog { dst := some 70, op := Go.Op.move (Go.Operand.tmp 11), type := 3, pos := pos, after := #[], guard := none } a W K Q else K (a.put (some 70) undef) W := by
  have q : a.tmps[11]?.getD undef = .int .i64 (k : Int) := (hI.base 11 rfl).trans E.b11
  have R := Lib.hid (hI.step (i := 13) (d := 70) (v := .int .i64 (k : Int)) rfl lgya_nodup (show 70 < 177 by decide) rfl (show (if hit f 13 18 = true then Post W else Pre W) by rw [hit_of f 13 18 (by decide)]; exact hI.held))
  clear hI E hf
  go_simp
  exact hK _ _ R.out

set_option maxRecDepth 100000 in
theorem lgya_14 {g len cap k id v r1 : Nat} {ad : Addr} {s d : ByteArray} {n : Int} {Pre Post : World → Prop} {base : Array Value} {f : Nat → Bool} {a : Act} {W : World} {K : Act → World → Prop} {Q : Exit → Act → World → Prop} {ops : Array Oper} (E : lgyaEnv g len cap k id v r1 ad s d n Pre Post base) (hI : (lgyaTb g len cap k id v r1 ad s d n Pre Post base).Inv (fun f W => if f 18 = true then Post W else Pre W) f a W) (hf : f 14 = false) (h12 : f 12 = true) (h13 : f 13 = true) (pos : String) (hK : ∀ a' W', (lgyaTb g len cap k id v r1 ad s d n Pre Post base).Inv (fun f W => if f 18 = true then Post W else Pre W) (hit f 14) a' W' → K a' W') : if Region.wanted { dst := some 71, op := Go.Op.indexAddr 22 (Go.Operand.tmp 69) (Go.Operand.tmp 70), type := 0, pos := pos, after := #[{ on := 12, ground := Go.Ground.data }, { on := 13, ground := Go.Ground.data }], guard := none } (yielded ops a.tmps) = true then Oper.wp Tryd.prog { dst := some 71, op := Go.Op.indexAddr 22 (Go.Operand.tmp 69) (Go.Operand.tmp 70), type := 0, pos := pos, after := #[{ on := 12, ground := Go.Ground.data }, { on := 13, ground := Go.Ground.data }], guard := none } a W K Q else K (a.put (some 71) undef) W := by
  have y0 : a.tmps[69]?.getD undef = .slice (some ad) len cap := hI.val 12 69 rfl h12
  have y1 : a.tmps[70]?.getD undef = .int .i64 (k : Int) := hI.val 13 70 rfl h13
  have hk := E.kk
  have i0 : (0 : Int) ≤ (k : Int) := by omega
  have i1 : (k : Int) < (len : Int) := by omega
  have R := Lib.hid (hI.step (i := 14) (d := 71) (v := .pointer (some (ad.add (k * 3)))) rfl lgya_nodup (show 71 < 177 by decide) rfl (show (if hit f 14 18 = true then Post W else Pre W) by rw [hit_of f 14 18 (by decide)]; exact hI.held))
  clear hI E hf
  go_simp
  exact hK _ _ R.out

set_option maxRecDepth 100000 in
theorem lgya_15 {g len cap k id v r1 : Nat} {ad : Addr} {s d : ByteArray} {n : Int} {Pre Post : World → Prop} {base : Array Value} {f : Nat → Bool} {a : Act} {W : World} {K : Act → World → Prop} {Q : Exit → Act → World → Prop} {ops : Array Oper} (E : lgyaEnv g len cap k id v r1 ad s d n Pre Post base) (hI : (lgyaTb g len cap k id v r1 ad s d n Pre Post base).Inv (fun f W => if f 18 = true then Post W else Pre W) f a W) (hf : f 15 = false) (h14 : f 14 = true) (pos : String) (hK : ∀ a' W', (lgyaTb g len cap k id v r1 ad s d n Pre Post base).Inv (fun f W => if f 18 = true then Post W else Pre W) (hit f 15) a' W' → K a' W') : if Region.wanted { dst := some 72, op := Go.Op.fieldAddr 32 (Go.Operand.tmp 71) 2, type := 0, pos := pos, after := #[{ on := 14, ground := Go.Ground.data }], guard := none } (yielded ops a.tmps) = true then Oper.wp Tryd.prog { dst := some 72, op := Go.Op.fieldAddr 32 (Go.Operand.tmp 71) 2, type := 0, pos := pos, after := #[{ on := 14, ground := Go.Ground.data }], guard := none } a W K Q else K (a.put (some 72) undef) W := by
  have q : a.tmps[71]?.getD undef = .pointer (some (ad.add (k * 3))) := hI.val 14 71 rfl h14
  have R := Lib.hid (hI.step (i := 15) (d := 72) (v := .pointer (some ⟨(ad.add (k * 3)).block, (ad.add (k * 3)).off + 2, none⟩)) rfl lgya_nodup (show 72 < 177 by decide) rfl (show (if hit f 15 18 = true then Post W else Pre W) by rw [hit_of f 15 18 (by decide)]; exact hI.held))
  clear hI E hf
  go_simp
  exact hK _ _ R.out

set_option maxRecDepth 100000 in
theorem lgya_16 {g len cap k id v r1 : Nat} {ad : Addr} {s d : ByteArray} {n : Int} {Pre Post : World → Prop} {base : Array Value} {f : Nat → Bool} {a : Act} {W : World} {K : Act → World → Prop} {Q : Exit → Act → World → Prop} {ops : Array Oper} (E : lgyaEnv g len cap k id v r1 ad s d n Pre Post base) (hI : (lgyaTb g len cap k id v r1 ad s d n Pre Post base).Inv (fun f W => if f 18 = true then Post W else Pre W) f a W) (hf : f 16 = false) (h15 : f 15 = true) (pos : String) (hK : ∀ a' W', (lgyaTb g len cap k id v r1 ad s d n Pre Post base).Inv (fun f W => if f 18 = true then Post W else Pre W) (hit f 16) a' W' → K a' W') : if Region.wanted { dst := some 73, op := Go.Op.load 3 (Go.Operand.tmp 72), type := 3, pos := pos, after := #[{ on := 15, ground := Go.Ground.data }], guard := none } (yielded ops a.tmps) = true then Oper.wp Tryd.prog { dst := some 73, op := Go.Op.load 3 (Go.Operand.tmp 72), type := 3, pos := pos, after := #[{ on := 15, ground := Go.Ground.data }], guard := none } a W K Q else K (a.put (some 73) undef) W := by
  have q : a.tmps[72]?.getD undef = .pointer (some ⟨(ad.add (k * 3)).block, (ad.add (k * 3)).off + 2, none⟩) := hI.val 15 72 rfl h15
  have c : W.cell? ⟨(ad.add (k * 3)).block, (ad.add (k * 3)).off + 2, none⟩ = some (.int .i64 n) := (E.c W (by have h : (if f 18 = true then Post W else Pre W) := hI.held; by_cases h8 : f 18 = true; (rw [if_pos h8] at h; exact .inr h); (rw [if_neg h8] at h; exact .inl h))).2.2
  have R := Lib.hid (hI.step (i := 16) (d := 73) (v := .int .i64 n) rfl lgya_nodup (show 73 < 177 by decide) rfl (show (if hit f 16 18 = true then Post W else Pre W) by rw [hit_of f 16 18 (by decide)]; exact hI.held))
  clear hI E hf
  go_simp
  exact hK _ _ R.out

set_option maxRecDepth 100000 in
theorem lgya_17 {g len cap k id v r1 : Nat} {ad : Addr} {s d : ByteArray} {n : Int} {Pre Post : World → Prop} {base : Array Value} {f : Nat → Bool} {a : Act} {W : World} {K : Act → World → Prop} {Q : Exit → Act → World → Prop} {ops : Array Oper} (E : lgyaEnv g len cap k id v r1 ad s d n Pre Post base) (hI : (lgyaTb g len cap k id v r1 ad s d n Pre Post base).Inv (fun f W => if f 18 = true then Post W else Pre W) f a W) (hf : f 17 = false) (h11 : f 11 = true) (h16 : f 16 = true) (pos : String) (hK : ∀ a' W', (lgyaTb g len cap k id v r1 ad s d n Pre Post base).Inv (fun f W => if f 18 = true then Post W else Pre W) (hit f 17) a' W' → K a' W') : if Region.wanted { dst := some 74, op := Go.Op.call { callee := Go.Callee.value (Go.Operand.func 8), args := #[Go.Operand.tmp 68, Go.Operand.tmp 73], argTypes := #[9, 3] }, type := 9, pos := pos, after := #[{ on := 11, ground := Go.Ground.data }, { on := 16, ground := Go.Ground.data }], guard := none } (yielded ops a.tmps) = true then Oper.wp Tryd.prog { dst := some 74, op := Go.Op.call { callee := Go.Callee.value (Go.Operand.func 8), args := #[Go.Operand.tmp 68, Go.Operand.tmp 73], argTypes := #[9, 3] }, type := 9, pos := pos, after := #[{ on := 11, ground := Go.Ground.data }, { on := 16, ground := Go.Ground.data }], guard := none } a W K Q else K (a.put (some 74) undef) W := by
  have y0 : a.tmps[68]?.getD undef = .string s := hI.val 11 68 rfl h11
  have y1 : a.tmps[73]?.getD undef = .int .i64 n := hI.val 16 73 rfl h16
  have hC := E.lo W
  have HR := Lib.hid (hI.step (i := 17) (d := 74) (v := .string d) rfl lgya_nodup (show 74 < 177 by decide) rfl (show (if hit f 17 18 = true then Post W else Pre W) by rw [hit_of f 17 18 (by decide)]; exact hI.held))
  clear hI E hf
  go_simp
  refine hC.mono ?_
  rintro e W1 ⟨rfl, rfl⟩
  exact hK _ _ HR.out

set_option maxRecDepth 100000 in
theorem lgya_18 {g len cap k id v r1 : Nat} {ad : Addr} {s d : ByteArray} {n : Int} {Pre Post : World → Prop} {base : Array Value} {f : Nat → Bool} {a : Act} {W : World} {K : Act → World → Prop} {Q : Exit → Act → World → Prop} {ops : Array Oper} (E : lgyaEnv g len cap k id v r1 ad s d n Pre Post base) (hI : (lgyaTb g len cap k id v r1 ad s d n Pre Post base).Inv (fun f W => if f 18 = true then Post W else Pre W) f a W) (hf : f 18 = false) (h0 : f 0 = true) (h1 : f 1 = true) (h6 : f 6 = true) (h17 : f 17 = true) (pos : String) (hK : ∀ a' W', (lgyaTb g len cap k id v r1 ad s d n Pre Post base).Inv (fun f W => if f 18 = true then Post W else Pre W) (hit f 18) a' W' → K a' W') : if Region.wanted { dst := some 75, op := Go.Op.call { callee := Go.Callee.value (Go.Operand.func 7), args := #[Go.Operand.tmp 57, Go.Operand.tmp 58, Go.Operand.tmp 63, Go.Operand.tmp 74], argTypes := #[25, 3, 30, 9] }, type := 28, pos := pos, after := #[{ on := 0, ground := Go.Ground.data }, { on := 1, ground := Go.Ground.data }, { on := 6, ground := Go.Ground.data }, { on := 17, ground := Go.Ground.data }, { on := 17, ground := Go.Ground.chain }], guard := none } (yielded ops a.tmps) = true then Oper.wp Tryd.prog { dst := some 75, op := Go.Op.call { callee := Go.Callee.value (Go.Operand.func 7), args := #[Go.Operand.tmp 57, Go.Operand.tmp 58, Go.Operand.tmp 63, Go.Operand.tmp 74], argTypes := #[25, 3, 30, 9] }, type := 28, pos := pos, after := #[{ on := 0, ground := Go.Ground.data }, { on := 1, ground := Go.Ground.data }, { on := 6, ground := Go.Ground.data }, { on := 17, ground := Go.Ground.data }, { on := 17, ground := Go.Ground.chain }], guard := none } a W K Q else K (a.put (some 75) undef) W := by
  have y0 : a.tmps[57]?.getD undef = .pointer (some ⟨g, 0, none⟩) := hI.val 0 57 rfl h0
  have y1 : a.tmps[58]?.getD undef = .int .i64 (v : Int) := hI.val 1 58 rfl h1
  have y2 : a.tmps[63]?.getD undef = .int .u64 (id : Int) := hI.val 6 63 rfl h6
  have y3 : a.tmps[74]?.getD undef = .string d := hI.val 17 74 rfl h17
  have hp : Pre W := by have := hI.held; simp only [hf] at this; simpa using this
  have hC := E.wr W hp
  have HR := Lib.hid (fun W1 (hb : Post W1) => hI.step (i := 18) (d := 75) (v := .tuple #[.int .i64 (r1 : Int), .int .i64 0]) rfl lgya_nodup (show 75 < 177 by decide) rfl (show (if hit f 18 18 = true then Post W1 else Pre W1) by rw [hit_at, if_pos rfl]; exact hb))
  clear hI E hf hp
  go_simp
  refine hC.mono ?_
  rintro e W1 ⟨rfl, hb⟩
  exact hK _ _ (HR.out W1 hb)

set_option maxRecDepth 100000 in
theorem lgya_19 {g len cap k id v r1 : Nat} {ad : Addr} {s d : ByteArray} {n : Int} {Pre Post : World → Prop} {base : Array Value} {f : Nat → Bool} {a : Act} {W : World} {K : Act → World → Prop} {Q : Exit → Act → World → Prop} {ops : Array Oper} (E : lgyaEnv g len cap k id v r1 ad s d n Pre Post base) (hI : (lgyaTb g len cap k id v r1 ad s d n Pre Post base).Inv (fun f W => if f 18 = true then Post W else Pre W) f a W) (hf : f 19 = false) (h18 : f 18 = true) (pos : String) (hK : ∀ a' W', (lgyaTb g len cap k id v r1 ad s d n Pre Post base).Inv (fun f W => if f 18 = true then Post W else Pre W) (hit f 19) a' W' → K a' W') : if Region.wanted { dst := some 56, op := Go.Op.move (Go.Operand.tmp 75), type := 28, pos := pos, after := #[{ on := 18, ground := Go.Ground.data }], guard := none } (yielded ops a.tmps) = true then Oper.wp Tryd.prog { dst := some 56, op := Go.Op.move (Go.Operand.tmp 75), type := 28, pos := pos, after := #[{ on := 18, ground := Go.Ground.data }], guard := none } a W K Q else K (a.put (some 56) undef) W := by
  have q : a.tmps[75]?.getD undef = .tuple #[.int .i64 (r1 : Int), .int .i64 0] := hI.val 18 75 rfl h18
  have R := Lib.hid (hI.step (i := 19) (d := 56) (v := .tuple #[.int .i64 (r1 : Int), .int .i64 0]) rfl lgya_nodup (show 56 < 177 by decide) rfl (show (if hit f 19 18 = true then Post W else Pre W) by rw [hit_of f 19 18 (by decide)]; exact hI.held))
  clear hI E hf
  go_simp
  exact hK _ _ R.out

set_option maxRecDepth 100000 in
theorem lgya_20 {g len cap k id v r1 : Nat} {ad : Addr} {s d : ByteArray} {n : Int} {Pre Post : World → Prop} {base : Array Value} {f : Nat → Bool} {a : Act} {W : World} {K : Act → World → Prop} {Q : Exit → Act → World → Prop} {ops : Array Oper} (E : lgyaEnv g len cap k id v r1 ad s d n Pre Post base) (hI : (lgyaTb g len cap k id v r1 ad s d n Pre Post base).Inv (fun f W => if f 18 = true then Post W else Pre W) f a W) (hf : f 20 = false) (h19 : f 19 = true) (pos : String) (hK : ∀ a' W', (lgyaTb g len cap k id v r1 ad s d n Pre Post base).Inv (fun f W => if f 18 = true then Post W else Pre W) (hit f 20) a' W' → K a' W') : if Region.wanted { dst := some 76, op := Go.Op.extract (Go.Operand.tmp 56) 0, type := 3, pos := pos, after := #[{ on := 19, ground := Go.Ground.data }], guard := none } (yielded ops a.tmps) = true then Oper.wp Tryd.prog { dst := some 76, op := Go.Op.extract (Go.Operand.tmp 56) 0, type := 3, pos := pos, after := #[{ on := 19, ground := Go.Ground.data }], guard := none } a W K Q else K (a.put (some 76) undef) W := by
  have q : a.tmps[56]?.getD undef = .tuple #[.int .i64 (r1 : Int), .int .i64 0] := hI.val 19 56 rfl h19
  have R := Lib.hid (hI.step (i := 20) (d := 76) (v := .int .i64 (r1 : Int)) rfl lgya_nodup (show 76 < 177 by decide) rfl (show (if hit f 20 18 = true then Post W else Pre W) by rw [hit_of f 20 18 (by decide)]; exact hI.held))
  clear hI E hf
  go_simp
  exact hK _ _ R.out

set_option maxRecDepth 100000 in
theorem lgya_21 {g len cap k id v r1 : Nat} {ad : Addr} {s d : ByteArray} {n : Int} {Pre Post : World → Prop} {base : Array Value} {f : Nat → Bool} {a : Act} {W : World} {K : Act → World → Prop} {Q : Exit → Act → World → Prop} {ops : Array Oper} (E : lgyaEnv g len cap k id v r1 ad s d n Pre Post base) (hI : (lgyaTb g len cap k id v r1 ad s d n Pre Post base).Inv (fun f W => if f 18 = true then Post W else Pre W) f a W) (hf : f 21 = false) (h19 : f 19 = true) (pos : String) (hK : ∀ a' W', (lgyaTb g len cap k id v r1 ad s d n Pre Post base).Inv (fun f W => if f 18 = true then Post W else Pre W) (hit f 21) a' W' → K a' W') : if Region.wanted { dst := some 77, op := Go.Op.extract (Go.Operand.tmp 56) 1, type := 27, pos := pos, after := #[{ on := 19, ground := Go.Ground.data }, { on := 22, ground := Go.Ground.gcOnly Go.Departure.lateStores }], guard := none } (yielded ops a.tmps) = true then Oper.wp Tryd.prog { dst := some 77, op := Go.Op.extract (Go.Operand.tmp 56) 1, type := 27, pos := pos, after := #[{ on := 19, ground := Go.Ground.data }, { on := 22, ground := Go.Ground.gcOnly Go.Departure.lateStores }], guard := none } a W K Q else K (a.put (some 77) undef) W := by
  have q : a.tmps[56]?.getD undef = .tuple #[.int .i64 (r1 : Int), .int .i64 0] := hI.val 19 56 rfl h19
  have R := Lib.hid (hI.step (i := 21) (d := 77) (v := .int .i64 0) rfl lgya_nodup (show 77 < 177 by decide) rfl (show (if hit f 21 18 = true then Post W else Pre W) by rw [hit_of f 21 18 (by decide)]; exact hI.held))
  clear hI E hf
  go_simp
  exact hK _ _ R.out

set_option maxRecDepth 100000 in
theorem lgya_22 {g len cap k id v r1 : Nat} {ad : Addr} {s d : ByteArray} {n : Int} {Pre Post : World → Prop} {base : Array Value} {f : Nat → Bool} {a : Act} {W : World} {K : Act → World → Prop} {Q : Exit → Act → World → Prop} {ops : Array Oper} (E : lgyaEnv g len cap k id v r1 ad s d n Pre Post base) (hI : (lgyaTb g len cap k id v r1 ad s d n Pre Post base).Inv (fun f W => if f 18 = true then Post W else Pre W) f a W) (hf : f 22 = false) (h0 : f 0 = true) (h1 : f 1 = true) (h2 : f 2 = true) (h3 : f 3 = true) (h4 : f 4 = true) (h5 : f 5 = true) (h6 : f 6 = true) (h7 : f 7 = true) (h8 : f 8 = true) (h9 : f 9 = true) (h10 : f 10 = true) (h11 : f 11 = true) (h12 : f 12 = true) (h13 : f 13 = true) (h14 : f 14 = true) (h15 : f 15 = true) (h16 : f 16 = true) (h17 : f 17 = true) (h18 : f 18 = true) (h19 : f 19 = true) (h20 : f 20 = true) (pos : String) (hK : ∀ a' W', (lgyaTb g len cap k id v r1 ad s d n Pre Post base).Inv (fun f W => if f 18 = true then Post W else Pre W) (hit f 22) a' W' → K a' W') : if Region.wanted { dst := some 13, op := Go.Op.assign (Go.Operand.tmp 76), type := 3, pos := pos, after := #[{ on := 20, ground := Go.Ground.data }, { on := 18, ground := Go.Ground.chain }, { on := 0, ground := Go.Ground.phase }, { on := 1, ground := Go.Ground.phase }, { on := 2, ground := Go.Ground.phase }, { on := 3, ground := Go.Ground.phase }, { on := 4, ground := Go.Ground.phase }, { on := 5, ground := Go.Ground.phase }, { on := 6, ground := Go.Ground.phase }, { on := 7, ground := Go.Ground.phase }, { on := 8, ground := Go.Ground.phase }, { on := 9, ground := Go.Ground.phase }, { on := 10, ground := Go.Ground.phase }, { on := 11, ground := Go.Ground.phase }, { on := 12, ground := Go.Ground.phase }, { on := 13, ground := Go.Ground.phase }, { on := 14, ground := Go.Ground.phase }, { on := 15, ground := Go.Ground.phase }, { on := 16, ground := Go.Ground.phase }, { on := 17, ground := Go.Ground.phase }, { on := 18, ground := Go.Ground.phase }, { on := 19, ground := Go.Ground.phase }, { on := 20, ground := Go.Ground.phase }, { on := 21, ground := Go.Ground.textOnly Go.Departure.lateStores }], guard := none } (yielded ops a.tmps) = true then Oper.wp Tryd.prog { dst := some 13, op := Go.Op.assign (Go.Operand.tmp 76), type := 3, pos := pos, after := #[{ on := 20, ground := Go.Ground.data }, { on := 18, ground := Go.Ground.chain }, { on := 0, ground := Go.Ground.phase }, { on := 1, ground := Go.Ground.phase }, { on := 2, ground := Go.Ground.phase }, { on := 3, ground := Go.Ground.phase }, { on := 4, ground := Go.Ground.phase }, { on := 5, ground := Go.Ground.phase }, { on := 6, ground := Go.Ground.phase }, { on := 7, ground := Go.Ground.phase }, { on := 8, ground := Go.Ground.phase }, { on := 9, ground := Go.Ground.phase }, { on := 10, ground := Go.Ground.phase }, { on := 11, ground := Go.Ground.phase }, { on := 12, ground := Go.Ground.phase }, { on := 13, ground := Go.Ground.phase }, { on := 14, ground := Go.Ground.phase }, { on := 15, ground := Go.Ground.phase }, { on := 16, ground := Go.Ground.phase }, { on := 17, ground := Go.Ground.phase }, { on := 18, ground := Go.Ground.phase }, { on := 19, ground := Go.Ground.phase }, { on := 20, ground := Go.Ground.phase }, { on := 21, ground := Go.Ground.textOnly Go.Departure.lateStores }], guard := none } a W K Q else K (a.put (some 13) undef) W := by
  have q : a.tmps[76]?.getD undef = .int .i64 (r1 : Int) := hI.val 20 76 rfl h20
  have R := Lib.hid (hI.step (i := 22) (d := 13) (v := .int .i64 (r1 : Int)) rfl lgya_nodup (show 13 < 177 by decide) rfl (show (if hit f 22 18 = true then Post W else Pre W) by rw [hit_of f 22 18 (by decide)]; exact hI.held))
  clear hI E hf
  go_simp
  exact hK _ _ R.out

set_option maxRecDepth 100000 in
theorem lgya_23 {g len cap k id v r1 : Nat} {ad : Addr} {s d : ByteArray} {n : Int} {Pre Post : World → Prop} {base : Array Value} {f : Nat → Bool} {a : Act} {W : World} {K : Act → World → Prop} {Q : Exit → Act → World → Prop} {ops : Array Oper} (E : lgyaEnv g len cap k id v r1 ad s d n Pre Post base) (hI : (lgyaTb g len cap k id v r1 ad s d n Pre Post base).Inv (fun f W => if f 18 = true then Post W else Pre W) f a W) (hf : f 23 = false) (h0 : f 0 = true) (h1 : f 1 = true) (h2 : f 2 = true) (h3 : f 3 = true) (h4 : f 4 = true) (h5 : f 5 = true) (h6 : f 6 = true) (h7 : f 7 = true) (h8 : f 8 = true) (h9 : f 9 = true) (h10 : f 10 = true) (h11 : f 11 = true) (h12 : f 12 = true) (h13 : f 13 = true) (h14 : f 14 = true) (h15 : f 15 = true) (h16 : f 16 = true) (h17 : f 17 = true) (h18 : f 18 = true) (h19 : f 19 = true) (h20 : f 20 = true) (h21 : f 21 = true) (h22 : f 22 = true) (pos : String) (hK : ∀ a' W', (lgyaTb g len cap k id v r1 ad s d n Pre Post base).Inv (fun f W => if f 18 = true then Post W else Pre W) (hit f 23) a' W' → K a' W') : if Region.wanted { dst := some 14, op := Go.Op.assign (Go.Operand.tmp 77), type := 27, pos := pos, after := #[{ on := 21, ground := Go.Ground.data }, { on := 22, ground := Go.Ground.chain }, { on := 0, ground := Go.Ground.phase }, { on := 1, ground := Go.Ground.phase }, { on := 2, ground := Go.Ground.phase }, { on := 3, ground := Go.Ground.phase }, { on := 4, ground := Go.Ground.phase }, { on := 5, ground := Go.Ground.phase }, { on := 6, ground := Go.Ground.phase }, { on := 7, ground := Go.Ground.phase }, { on := 8, ground := Go.Ground.phase }, { on := 9, ground := Go.Ground.phase }, { on := 10, ground := Go.Ground.phase }, { on := 11, ground := Go.Ground.phase }, { on := 12, ground := Go.Ground.phase }, { on := 13, ground := Go.Ground.phase }, { on := 14, ground := Go.Ground.phase }, { on := 15, ground := Go.Ground.phase }, { on := 16, ground := Go.Ground.phase }, { on := 17, ground := Go.Ground.phase }, { on := 18, ground := Go.Ground.phase }, { on := 19, ground := Go.Ground.phase }, { on := 20, ground := Go.Ground.phase }, { on := 21, ground := Go.Ground.phase }, { on := 22, ground := Go.Ground.phase }], guard := none } (yielded ops a.tmps) = true then Oper.wp Tryd.prog { dst := some 14, op := Go.Op.assign (Go.Operand.tmp 77), type := 27, pos := pos, after := #[{ on := 21, ground := Go.Ground.data }, { on := 22, ground := Go.Ground.chain }, { on := 0, ground := Go.Ground.phase }, { on := 1, ground := Go.Ground.phase }, { on := 2, ground := Go.Ground.phase }, { on := 3, ground := Go.Ground.phase }, { on := 4, ground := Go.Ground.phase }, { on := 5, ground := Go.Ground.phase }, { on := 6, ground := Go.Ground.phase }, { on := 7, ground := Go.Ground.phase }, { on := 8, ground := Go.Ground.phase }, { on := 9, ground := Go.Ground.phase }, { on := 10, ground := Go.Ground.phase }, { on := 11, ground := Go.Ground.phase }, { on := 12, ground := Go.Ground.phase }, { on := 13, ground := Go.Ground.phase }, { on := 14, ground := Go.Ground.phase }, { on := 15, ground := Go.Ground.phase }, { on := 16, ground := Go.Ground.phase }, { on := 17, ground := Go.Ground.phase }, { on := 18, ground := Go.Ground.phase }, { on := 19, ground := Go.Ground.phase }, { on := 20, ground := Go.Ground.phase }, { on := 21, ground := Go.Ground.phase }, { on := 22, ground := Go.Ground.phase }], guard := none } a W K Q else K (a.put (some 14) undef) W := by
  have q : a.tmps[77]?.getD undef = .int .i64 0 := hI.val 21 77 rfl h21
  have R := Lib.hid (hI.step (i := 23) (d := 14) (v := .int .i64 0) rfl lgya_nodup (show 14 < 177 by decide) rfl (show (if hit f 23 18 = true then Post W else Pre W) by rw [hit_of f 23 18 (by decide)]; exact hI.held))
  clear hI E hf
  go_simp
  exact hK _ _ R.out

abbrev lgyaOps : Array Oper := #[{ dst := some 57, op := Go.Op.move (Go.Operand.tmp 7), type := 25, pos := "outright.go:73", after := #[], guard := none }, { dst := some 58, op := Go.Op.move (Go.Operand.tmp 12), type := 3, pos := "outright.go:73", after := #[], guard := none }, { dst := some 59, op := Go.Op.move (Go.Operand.tmp 1), type := 22, pos := "outright.go:73", after := #[], guard := none }, { dst := some 60, op := Go.Op.move (Go.Operand.tmp 11), type := 3, pos := "outright.go:73", after := #[], guard := none }, { dst := some 61, op := Go.Op.indexAddr 22 (Go.Operand.tmp 59) (Go.Operand.tmp 60), type := 0, pos := "outright.go:73", after := #[{ on := 2, ground := Go.Ground.data }, { on := 3, ground := Go.Ground.data }], guard := none }, { dst := some 62, op := Go.Op.fieldAddr 32 (Go.Operand.tmp 61) 0, type := 0, pos := "outright.go:73", after := #[{ on := 4, ground := Go.Ground.data }], guard := none }, { dst := some 63, op := Go.Op.load 30 (Go.Operand.tmp 62), type := 30, pos := "outright.go:73", after := #[{ on := 5, ground := Go.Ground.data }], guard := none }, { dst := some 64, op := Go.Op.move (Go.Operand.tmp 1), type := 22, pos := "outright.go:73", after := #[], guard := none }, { dst := some 65, op := Go.Op.move (Go.Operand.tmp 11), type := 3, pos := "outright.go:73", after := #[], guard := none }, { dst := some 66, op := Go.Op.indexAddr 22 (Go.Operand.tmp 64) (Go.Operand.tmp 65), type := 0, pos := "outright.go:73", after := #[{ on := 7, ground := Go.Ground.data }, { on := 8, ground := Go.Ground.data }], guard := none }, { dst := some 67, op := Go.Op.fieldAddr 32 (Go.Operand.tmp 66) 1, type := 0, pos := "outright.go:73", after := #[{ on := 9, ground := Go.Ground.data }], guard := none }, { dst := some 68, op := Go.Op.load 9 (Go.Operand.tmp 67), type := 9, pos := "outright.go:73", after := #[{ on := 10, ground := Go.Ground.data }], guard := none }, { dst := some 69, op := Go.Op.move (Go.Operand.tmp 1), type := 22, pos := "outright.go:73", after := #[], guard := none }, { dst := some 70, op := Go.Op.move (Go.Operand.tmp 11), type := 3, pos := "outright.go:73", after := #[], guard := none }, { dst := some 71, op := Go.Op.indexAddr 22 (Go.Operand.tmp 69) (Go.Operand.tmp 70), type := 0, pos := "outright.go:73", after := #[{ on := 12, ground := Go.Ground.data }, { on := 13, ground := Go.Ground.data }], guard := none }, { dst := some 72, op := Go.Op.fieldAddr 32 (Go.Operand.tmp 71) 2, type := 0, pos := "outright.go:73", after := #[{ on := 14, ground := Go.Ground.data }], guard := none }, { dst := some 73, op := Go.Op.load 3 (Go.Operand.tmp 72), type := 3, pos := "outright.go:73", after := #[{ on := 15, ground := Go.Ground.data }], guard := none }, { dst := some 74, op := Go.Op.call { callee := Go.Callee.value (Go.Operand.func 8), args := #[Go.Operand.tmp 68, Go.Operand.tmp 73], argTypes := #[9, 3] }, type := 9, pos := "outright.go:73", after := #[{ on := 11, ground := Go.Ground.data }, { on := 16, ground := Go.Ground.data }], guard := none }, { dst := some 75, op := Go.Op.call { callee := Go.Callee.value (Go.Operand.func 7), args := #[Go.Operand.tmp 57, Go.Operand.tmp 58, Go.Operand.tmp 63, Go.Operand.tmp 74], argTypes := #[25, 3, 30, 9] }, type := 28, pos := "outright.go:73", after := #[{ on := 0, ground := Go.Ground.data }, { on := 1, ground := Go.Ground.data }, { on := 6, ground := Go.Ground.data }, { on := 17, ground := Go.Ground.data }, { on := 17, ground := Go.Ground.chain }], guard := none }, { dst := some 56, op := Go.Op.move (Go.Operand.tmp 75), type := 28, pos := "outright.go:73", after := #[{ on := 18, ground := Go.Ground.data }], guard := none }, { dst := some 76, op := Go.Op.extract (Go.Operand.tmp 56) 0, type := 3, pos := "outright.go:73", after := #[{ on := 19, ground := Go.Ground.data }], guard := none }, { dst := some 77, op := Go.Op.extract (Go.Operand.tmp 56) 1, type := 27, pos := "outright.go:73", after := #[{ on := 19, ground := Go.Ground.data }, { on := 22, ground := Go.Ground.gcOnly Go.Departure.lateStores }], guard := none }, { dst := some 13, op := Go.Op.assign (Go.Operand.tmp 76), type := 3, pos := "outright.go:73", after := #[{ on := 20, ground := Go.Ground.data }, { on := 18, ground := Go.Ground.chain }, { on := 0, ground := Go.Ground.phase }, { on := 1, ground := Go.Ground.phase }, { on := 2, ground := Go.Ground.phase }, { on := 3, ground := Go.Ground.phase }, { on := 4, ground := Go.Ground.phase }, { on := 5, ground := Go.Ground.phase }, { on := 6, ground := Go.Ground.phase }, { on := 7, ground := Go.Ground.phase }, { on := 8, ground := Go.Ground.phase }, { on := 9, ground := Go.Ground.phase }, { on := 10, ground := Go.Ground.phase }, { on := 11, ground := Go.Ground.phase }, { on := 12, ground := Go.Ground.phase }, { on := 13, ground := Go.Ground.phase }, { on := 14, ground := Go.Ground.phase }, { on := 15, ground := Go.Ground.phase }, { on := 16, ground := Go.Ground.phase }, { on := 17, ground := Go.Ground.phase }, { on := 18, ground := Go.Ground.phase }, { on := 19, ground := Go.Ground.phase }, { on := 20, ground := Go.Ground.phase }, { on := 21, ground := Go.Ground.textOnly Go.Departure.lateStores }], guard := none }, { dst := some 14, op := Go.Op.assign (Go.Operand.tmp 77), type := 27, pos := "outright.go:73", after := #[{ on := 21, ground := Go.Ground.data }, { on := 22, ground := Go.Ground.chain }, { on := 0, ground := Go.Ground.phase }, { on := 1, ground := Go.Ground.phase }, { on := 2, ground := Go.Ground.phase }, { on := 3, ground := Go.Ground.phase }, { on := 4, ground := Go.Ground.phase }, { on := 5, ground := Go.Ground.phase }, { on := 6, ground := Go.Ground.phase }, { on := 7, ground := Go.Ground.phase }, { on := 8, ground := Go.Ground.phase }, { on := 9, ground := Go.Ground.phase }, { on := 10, ground := Go.Ground.phase }, { on := 11, ground := Go.Ground.phase }, { on := 12, ground := Go.Ground.phase }, { on := 13, ground := Go.Ground.phase }, { on := 14, ground := Go.Ground.phase }, { on := 15, ground := Go.Ground.phase }, { on := 16, ground := Go.Ground.phase }, { on := 17, ground := Go.Ground.phase }, { on := 18, ground := Go.Ground.phase }, { on := 19, ground := Go.Ground.phase }, { on := 20, ground := Go.Ground.phase }, { on := 21, ground := Go.Ground.phase }, { on := 22, ground := Go.Ground.phase }], guard := none }]
set_option maxRecDepth 100000 in
set_option maxHeartbeats 4000000 in
theorem lgya_step {g len cap k id v r1 : Nat} {ad : Addr} {s d : ByteArray} {n : Int} {Pre Post : World → Prop} {base : Array Value} {Q : Exit → Act → World → Prop} (E : lgyaEnv g len cap k id v r1 ad s d n Pre Post base) :
    ∀ f a W i o, lgyaOps[i]? = some o → f i = false → (∀ e ∈ o.after, Region.binds .any e = true → f e.on = true) → (lgyaTb g len cap k id v r1 ad s d n Pre Post base).Inv (fun f W => if f 18 = true then Post W else Pre W) f a W → wpOp Tryd.prog lgyaOps Q i (fun a' W' => (lgyaTb g len cap k id v r1 ad s d n Pre Post base).Inv (fun f W => if f 18 = true then Post W else Pre W) (hit f i) a' W') a W := by
  intro f a W i o ho hf hed hI
  have hi : i < 24 := (Array.getElem?_eq_some_iff.1 ho).1
  have hc : i = 0 ∨ i = 1 ∨ i = 2 ∨ i = 3 ∨ i = 4 ∨ i = 5 ∨ i = 6 ∨ i = 7 ∨ i = 8 ∨ i = 9 ∨ i = 10 ∨ i = 11 ∨ i = 12 ∨ i = 13 ∨ i = 14 ∨ i = 15 ∨ i = 16 ∨ i = 17 ∨ i = 18 ∨ i = 19 ∨ i = 20 ∨ i = 21 ∨ i = 22 ∨ i = 23 := by omega
  rcases hc with rfl | rfl | rfl | rfl | rfl | rfl | rfl | rfl | rfl | rfl | rfl | rfl | rfl | rfl | rfl | rfl | rfl | rfl | rfl | rfl | rfl | rfl | rfl | rfl
  · cases ho
    exact wpOp_step (o := { dst := some 57, op := Go.Op.move (Go.Operand.tmp 7), type := 25, pos := "outright.go:73", after := #[], guard := none }) rfl fun K hK => lgya_0 E hI hf "outright.go:73" (fun a' W' h => hK a' W' h)
  · cases ho
    exact wpOp_step (o := { dst := some 58, op := Go.Op.move (Go.Operand.tmp 12), type := 3, pos := "outright.go:73", after := #[], guard := none }) rfl fun K hK => lgya_1 E hI hf "outright.go:73" (fun a' W' h => hK a' W' h)
  · cases ho
    exact wpOp_step (o := { dst := some 59, op := Go.Op.move (Go.Operand.tmp 1), type := 22, pos := "outright.go:73", after := #[], guard := none }) rfl fun K hK => lgya_2 E hI hf "outright.go:73" (fun a' W' h => hK a' W' h)
  · cases ho
    exact wpOp_step (o := { dst := some 60, op := Go.Op.move (Go.Operand.tmp 11), type := 3, pos := "outright.go:73", after := #[], guard := none }) rfl fun K hK => lgya_3 E hI hf "outright.go:73" (fun a' W' h => hK a' W' h)
  · cases ho
    exact wpOp_step (o := { dst := some 61, op := Go.Op.indexAddr 22 (Go.Operand.tmp 59) (Go.Operand.tmp 60), type := 0, pos := "outright.go:73", after := #[{ on := 2, ground := Go.Ground.data }, { on := 3, ground := Go.Ground.data }], guard := none }) rfl fun K hK => lgya_4 E hI hf (hed ⟨2, Go.Ground.data⟩ (Array.mem_of_getElem? (i := 0) rfl) rfl) (hed ⟨3, Go.Ground.data⟩ (Array.mem_of_getElem? (i := 1) rfl) rfl) "outright.go:73" (fun a' W' h => hK a' W' h)
  · cases ho
    exact wpOp_step (o := { dst := some 62, op := Go.Op.fieldAddr 32 (Go.Operand.tmp 61) 0, type := 0, pos := "outright.go:73", after := #[{ on := 4, ground := Go.Ground.data }], guard := none }) rfl fun K hK => lgya_5 E hI hf (hed ⟨4, Go.Ground.data⟩ (Array.mem_of_getElem? (i := 0) rfl) rfl) "outright.go:73" (fun a' W' h => hK a' W' h)
  · cases ho
    exact wpOp_step (o := { dst := some 63, op := Go.Op.load 30 (Go.Operand.tmp 62), type := 30, pos := "outright.go:73", after := #[{ on := 5, ground := Go.Ground.data }], guard := none }) rfl fun K hK => lgya_6 E hI hf (hed ⟨5, Go.Ground.data⟩ (Array.mem_of_getElem? (i := 0) rfl) rfl) "outright.go:73" (fun a' W' h => hK a' W' h)
  · cases ho
    exact wpOp_step (o := { dst := some 64, op := Go.Op.move (Go.Operand.tmp 1), type := 22, pos := "outright.go:73", after := #[], guard := none }) rfl fun K hK => lgya_7 E hI hf "outright.go:73" (fun a' W' h => hK a' W' h)
  · cases ho
    exact wpOp_step (o := { dst := some 65, op := Go.Op.move (Go.Operand.tmp 11), type := 3, pos := "outright.go:73", after := #[], guard := none }) rfl fun K hK => lgya_8 E hI hf "outright.go:73" (fun a' W' h => hK a' W' h)
  · cases ho
    exact wpOp_step (o := { dst := some 66, op := Go.Op.indexAddr 22 (Go.Operand.tmp 64) (Go.Operand.tmp 65), type := 0, pos := "outright.go:73", after := #[{ on := 7, ground := Go.Ground.data }, { on := 8, ground := Go.Ground.data }], guard := none }) rfl fun K hK => lgya_9 E hI hf (hed ⟨7, Go.Ground.data⟩ (Array.mem_of_getElem? (i := 0) rfl) rfl) (hed ⟨8, Go.Ground.data⟩ (Array.mem_of_getElem? (i := 1) rfl) rfl) "outright.go:73" (fun a' W' h => hK a' W' h)
  · cases ho
    exact wpOp_step (o := { dst := some 67, op := Go.Op.fieldAddr 32 (Go.Operand.tmp 66) 1, type := 0, pos := "outright.go:73", after := #[{ on := 9, ground := Go.Ground.data }], guard := none }) rfl fun K hK => lgya_10 E hI hf (hed ⟨9, Go.Ground.data⟩ (Array.mem_of_getElem? (i := 0) rfl) rfl) "outright.go:73" (fun a' W' h => hK a' W' h)
  · cases ho
    exact wpOp_step (o := { dst := some 68, op := Go.Op.load 9 (Go.Operand.tmp 67), type := 9, pos := "outright.go:73", after := #[{ on := 10, ground := Go.Ground.data }], guard := none }) rfl fun K hK => lgya_11 E hI hf (hed ⟨10, Go.Ground.data⟩ (Array.mem_of_getElem? (i := 0) rfl) rfl) "outright.go:73" (fun a' W' h => hK a' W' h)
  · cases ho
    exact wpOp_step (o := { dst := some 69, op := Go.Op.move (Go.Operand.tmp 1), type := 22, pos := "outright.go:73", after := #[], guard := none }) rfl fun K hK => lgya_12 E hI hf "outright.go:73" (fun a' W' h => hK a' W' h)
  · cases ho
    exact wpOp_step (o := { dst := some 70, op := Go.Op.move (Go.Operand.tmp 11), type := 3, pos := "outright.go:73", after := #[], guard := none }) rfl fun K hK => lgya_13 E hI hf "outright.go:73" (fun a' W' h => hK a' W' h)
  · cases ho
    exact wpOp_step (o := { dst := some 71, op := Go.Op.indexAddr 22 (Go.Operand.tmp 69) (Go.Operand.tmp 70), type := 0, pos := "outright.go:73", after := #[{ on := 12, ground := Go.Ground.data }, { on := 13, ground := Go.Ground.data }], guard := none }) rfl fun K hK => lgya_14 E hI hf (hed ⟨12, Go.Ground.data⟩ (Array.mem_of_getElem? (i := 0) rfl) rfl) (hed ⟨13, Go.Ground.data⟩ (Array.mem_of_getElem? (i := 1) rfl) rfl) "outright.go:73" (fun a' W' h => hK a' W' h)
  · cases ho
    exact wpOp_step (o := { dst := some 72, op := Go.Op.fieldAddr 32 (Go.Operand.tmp 71) 2, type := 0, pos := "outright.go:73", after := #[{ on := 14, ground := Go.Ground.data }], guard := none }) rfl fun K hK => lgya_15 E hI hf (hed ⟨14, Go.Ground.data⟩ (Array.mem_of_getElem? (i := 0) rfl) rfl) "outright.go:73" (fun a' W' h => hK a' W' h)
  · cases ho
    exact wpOp_step (o := { dst := some 73, op := Go.Op.load 3 (Go.Operand.tmp 72), type := 3, pos := "outright.go:73", after := #[{ on := 15, ground := Go.Ground.data }], guard := none }) rfl fun K hK => lgya_16 E hI hf (hed ⟨15, Go.Ground.data⟩ (Array.mem_of_getElem? (i := 0) rfl) rfl) "outright.go:73" (fun a' W' h => hK a' W' h)
  · cases ho
    exact wpOp_step (o := { dst := some 74, op := Go.Op.call { callee := Go.Callee.value (Go.Operand.func 8), args := #[Go.Operand.tmp 68, Go.Operand.tmp 73], argTypes := #[9, 3] }, type := 9, pos := "outright.go:73", after := #[{ on := 11, ground := Go.Ground.data }, { on := 16, ground := Go.Ground.data }], guard := none }) rfl fun K hK => lgya_17 E hI hf (hed ⟨11, Go.Ground.data⟩ (Array.mem_of_getElem? (i := 0) rfl) rfl) (hed ⟨16, Go.Ground.data⟩ (Array.mem_of_getElem? (i := 1) rfl) rfl) "outright.go:73" (fun a' W' h => hK a' W' h)
  · cases ho
    exact wpOp_step (o := { dst := some 75, op := Go.Op.call { callee := Go.Callee.value (Go.Operand.func 7), args := #[Go.Operand.tmp 57, Go.Operand.tmp 58, Go.Operand.tmp 63, Go.Operand.tmp 74], argTypes := #[25, 3, 30, 9] }, type := 28, pos := "outright.go:73", after := #[{ on := 0, ground := Go.Ground.data }, { on := 1, ground := Go.Ground.data }, { on := 6, ground := Go.Ground.data }, { on := 17, ground := Go.Ground.data }, { on := 17, ground := Go.Ground.chain }], guard := none }) rfl fun K hK => lgya_18 E hI hf (hed ⟨0, Go.Ground.data⟩ (Array.mem_of_getElem? (i := 0) rfl) rfl) (hed ⟨1, Go.Ground.data⟩ (Array.mem_of_getElem? (i := 1) rfl) rfl) (hed ⟨6, Go.Ground.data⟩ (Array.mem_of_getElem? (i := 2) rfl) rfl) (hed ⟨17, Go.Ground.data⟩ (Array.mem_of_getElem? (i := 3) rfl) rfl) "outright.go:73" (fun a' W' h => hK a' W' h)
  · cases ho
    exact wpOp_step (o := { dst := some 56, op := Go.Op.move (Go.Operand.tmp 75), type := 28, pos := "outright.go:73", after := #[{ on := 18, ground := Go.Ground.data }], guard := none }) rfl fun K hK => lgya_19 E hI hf (hed ⟨18, Go.Ground.data⟩ (Array.mem_of_getElem? (i := 0) rfl) rfl) "outright.go:73" (fun a' W' h => hK a' W' h)
  · cases ho
    exact wpOp_step (o := { dst := some 76, op := Go.Op.extract (Go.Operand.tmp 56) 0, type := 3, pos := "outright.go:73", after := #[{ on := 19, ground := Go.Ground.data }], guard := none }) rfl fun K hK => lgya_20 E hI hf (hed ⟨19, Go.Ground.data⟩ (Array.mem_of_getElem? (i := 0) rfl) rfl) "outright.go:73" (fun a' W' h => hK a' W' h)
  · cases ho
    exact wpOp_step (o := { dst := some 77, op := Go.Op.extract (Go.Operand.tmp 56) 1, type := 27, pos := "outright.go:73", after := #[{ on := 19, ground := Go.Ground.data }, { on := 22, ground := Go.Ground.gcOnly Go.Departure.lateStores }], guard := none }) rfl fun K hK => lgya_21 E hI hf (hed ⟨19, Go.Ground.data⟩ (Array.mem_of_getElem? (i := 0) rfl) rfl) "outright.go:73" (fun a' W' h => hK a' W' h)
  · cases ho
    exact wpOp_step (o := { dst := some 13, op := Go.Op.assign (Go.Operand.tmp 76), type := 3, pos := "outright.go:73", after := #[{ on := 20, ground := Go.Ground.data }, { on := 18, ground := Go.Ground.chain }, { on := 0, ground := Go.Ground.phase }, { on := 1, ground := Go.Ground.phase }, { on := 2, ground := Go.Ground.phase }, { on := 3, ground := Go.Ground.phase }, { on := 4, ground := Go.Ground.phase }, { on := 5, ground := Go.Ground.phase }, { on := 6, ground := Go.Ground.phase }, { on := 7, ground := Go.Ground.phase }, { on := 8, ground := Go.Ground.phase }, { on := 9, ground := Go.Ground.phase }, { on := 10, ground := Go.Ground.phase }, { on := 11, ground := Go.Ground.phase }, { on := 12, ground := Go.Ground.phase }, { on := 13, ground := Go.Ground.phase }, { on := 14, ground := Go.Ground.phase }, { on := 15, ground := Go.Ground.phase }, { on := 16, ground := Go.Ground.phase }, { on := 17, ground := Go.Ground.phase }, { on := 18, ground := Go.Ground.phase }, { on := 19, ground := Go.Ground.phase }, { on := 20, ground := Go.Ground.phase }, { on := 21, ground := Go.Ground.textOnly Go.Departure.lateStores }], guard := none }) rfl fun K hK => lgya_22 E hI hf (hed ⟨0, Go.Ground.phase⟩ (Array.mem_of_getElem? (i := 2) rfl) rfl) (hed ⟨1, Go.Ground.phase⟩ (Array.mem_of_getElem? (i := 3) rfl) rfl) (hed ⟨2, Go.Ground.phase⟩ (Array.mem_of_getElem? (i := 4) rfl) rfl) (hed ⟨3, Go.Ground.phase⟩ (Array.mem_of_getElem? (i := 5) rfl) rfl) (hed ⟨4, Go.Ground.phase⟩ (Array.mem_of_getElem? (i := 6) rfl) rfl) (hed ⟨5, Go.Ground.phase⟩ (Array.mem_of_getElem? (i := 7) rfl) rfl) (hed ⟨6, Go.Ground.phase⟩ (Array.mem_of_getElem? (i := 8) rfl) rfl) (hed ⟨7, Go.Ground.phase⟩ (Array.mem_of_getElem? (i := 9) rfl) rfl) (hed ⟨8, Go.Ground.phase⟩ (Array.mem_of_getElem? (i := 10) rfl) rfl) (hed ⟨9, Go.Ground.phase⟩ (Array.mem_of_getElem? (i := 11) rfl) rfl) (hed ⟨10, Go.Ground.phase⟩ (Array.mem_of_getElem? (i := 12) rfl) rfl) (hed ⟨11, Go.Ground.phase⟩ (Array.mem_of_getElem? (i := 13) rfl) rfl) (hed ⟨12, Go.Ground.phase⟩ (Array.mem_of_getElem? (i := 14) rfl) rfl) (hed ⟨13, Go.Ground.phase⟩ (Array.mem_of_getElem? (i := 15) rfl) rfl) (hed ⟨14, Go.Ground.phase⟩ (Array.mem_of_getElem? (i := 16) rfl) rfl) (hed ⟨15, Go.Ground.phase⟩ (Array.mem_of_getElem? (i := 17) rfl) rfl) (hed ⟨16, Go.Ground.phase⟩ (Array.mem_of_getElem? (i := 18) rfl) rfl) (hed ⟨17, Go.Ground.phase⟩ (Array.mem_of_getElem? (i := 19) rfl) rfl) (hed ⟨18, Go.Ground.chain⟩ (Array.mem_of_getElem? (i := 1) rfl) rfl) (hed ⟨19, Go.Ground.phase⟩ (Array.mem_of_getElem? (i := 21) rfl) rfl) (hed ⟨20, Go.Ground.data⟩ (Array.mem_of_getElem? (i := 0) rfl) rfl) "outright.go:73" (fun a' W' h => hK a' W' h)
  · cases ho
    exact wpOp_step (o := { dst := some 14, op := Go.Op.assign (Go.Operand.tmp 77), type := 27, pos := "outright.go:73", after := #[{ on := 21, ground := Go.Ground.data }, { on := 22, ground := Go.Ground.chain }, { on := 0, ground := Go.Ground.phase }, { on := 1, ground := Go.Ground.phase }, { on := 2, ground := Go.Ground.phase }, { on := 3, ground := Go.Ground.phase }, { on := 4, ground := Go.Ground.phase }, { on := 5, ground := Go.Ground.phase }, { on := 6, ground := Go.Ground.phase }, { on := 7, ground := Go.Ground.phase }, { on := 8, ground := Go.Ground.phase }, { on := 9, ground := Go.Ground.phase }, { on := 10, ground := Go.Ground.phase }, { on := 11, ground := Go.Ground.phase }, { on := 12, ground := Go.Ground.phase }, { on := 13, ground := Go.Ground.phase }, { on := 14, ground := Go.Ground.phase }, { on := 15, ground := Go.Ground.phase }, { on := 16, ground := Go.Ground.phase }, { on := 17, ground := Go.Ground.phase }, { on := 18, ground := Go.Ground.phase }, { on := 19, ground := Go.Ground.phase }, { on := 20, ground := Go.Ground.phase }, { on := 21, ground := Go.Ground.phase }, { on := 22, ground := Go.Ground.phase }], guard := none }) rfl fun K hK => lgya_23 E hI hf (hed ⟨0, Go.Ground.phase⟩ (Array.mem_of_getElem? (i := 2) rfl) rfl) (hed ⟨1, Go.Ground.phase⟩ (Array.mem_of_getElem? (i := 3) rfl) rfl) (hed ⟨2, Go.Ground.phase⟩ (Array.mem_of_getElem? (i := 4) rfl) rfl) (hed ⟨3, Go.Ground.phase⟩ (Array.mem_of_getElem? (i := 5) rfl) rfl) (hed ⟨4, Go.Ground.phase⟩ (Array.mem_of_getElem? (i := 6) rfl) rfl) (hed ⟨5, Go.Ground.phase⟩ (Array.mem_of_getElem? (i := 7) rfl) rfl) (hed ⟨6, Go.Ground.phase⟩ (Array.mem_of_getElem? (i := 8) rfl) rfl) (hed ⟨7, Go.Ground.phase⟩ (Array.mem_of_getElem? (i := 9) rfl) rfl) (hed ⟨8, Go.Ground.phase⟩ (Array.mem_of_getElem? (i := 10) rfl) rfl) (hed ⟨9, Go.Ground.phase⟩ (Array.mem_of_getElem? (i := 11) rfl) rfl) (hed ⟨10, Go.Ground.phase⟩ (Array.mem_of_getElem? (i := 12) rfl) rfl) (hed ⟨11, Go.Ground.phase⟩ (Array.mem_of_getElem? (i := 13) rfl) rfl) (hed ⟨12, Go.Ground.phase⟩ (Array.mem_of_getElem? (i := 14) rfl) rfl) (hed ⟨13, Go.Ground.phase⟩ (Array.mem_of_getElem? (i := 15) rfl) rfl) (hed ⟨14, Go.Ground.phase⟩ (Array.mem_of_getElem? (i := 16) rfl) rfl) (hed ⟨15, Go.Ground.phase⟩ (Array.mem_of_getElem? (i := 17) rfl) rfl) (hed ⟨16, Go.Ground.phase⟩ (Array.mem_of_getElem? (i := 18) rfl) rfl) (hed ⟨17, Go.Ground.phase⟩ (Array.mem_of_getElem? (i := 19) rfl) rfl) (hed ⟨18, Go.Ground.phase⟩ (Array.mem_of_getElem? (i := 20) rfl) rfl) (hed ⟨19, Go.Ground.phase⟩ (Array.mem_of_getElem? (i := 21) rfl) rfl) (hed ⟨20, Go.Ground.phase⟩ (Array.mem_of_getElem? (i := 22) rfl) rfl) (hed ⟨21, Go.Ground.data⟩ (Array.mem_of_getElem? (i := 0) rfl) rfl) (hed ⟨22, Go.Ground.chain⟩ (Array.mem_of_getElem? (i := 1) rfl) rfl) "outright.go:73" (fun a' W' h => hK a' W' h)

/-- THE REGION -/
theorem lgya_region {g len cap k id v r1 : Nat} {ad : Addr} {s d : ByteArray} {n : Int} {Pre Post : World → Prop} {tm : Array Value} {Q : Exit → Act → World → Prop} {w : World} (hsz : tm.size = 177) (E : lgyaEnv g len cap k id v r1 ad s d n Pre Post tm) (hT : Pre w.drew)
    (hend : ∀ W, Post W → Q .normal ⟨((((((((((((((((((((((((tm.setIfInBounds 57 (.pointer (some ⟨g, 0, none⟩))).setIfInBounds 58 (.int .i64 (v : Int))).setIfInBounds 59 (.slice (some ad) len cap)).setIfInBounds 60 (.int .i64 (k : Int))).setIfInBounds 61 (.pointer (some (ad.add (k * 3))))).setIfInBounds 62 (.pointer (some (ad.add (k * 3))))).setIfInBounds 63 (.int .u64 (id : Int))).setIfInBounds 64 (.slice (some ad) len cap)).setIfInBounds 65 (.int .i64 (k : Int))).setIfInBounds 66 (.pointer (some (ad.add (k * 3))))).setIfInBounds 67 (.pointer (some ⟨(ad.add (k * 3)).block, (ad.add (k * 3)).off + 1, none⟩))).setIfInBounds 68 (.string s)).setIfInBounds 69 (.slice (some ad) len cap)).setIfInBounds 70 (.int .i64 (k : Int))).setIfInBounds 71 (.pointer (some (ad.add (k * 3))))).setIfInBounds 72 (.pointer (some ⟨(ad.add (k * 3)).block, (ad.add (k * 3)).off + 2, none⟩))).setIfInBounds 73 (.int .i64 n)).setIfInBounds 74 (.string d)).setIfInBounds 75 (.tuple #[.int .i64 (r1 : Int), .int .i64 0])).setIfInBounds 56 (.tuple #[.int .i64 (r1 : Int), .int .i64 0])).setIfInBounds 76 (.int .i64 (r1 : Int))).setIfInBounds 77 (.int .i64 0)).setIfInBounds 13 (.int .i64 (r1 : Int))).setIfInBounds 14 (.int .i64 0)), []⟩ W) : (Code.region 11 lgyaOps true).wp Tryd.prog Q ⟨tm, []⟩ w := by
  refine wp_region_inv (by kernel_rfl) (by kernel_rfl) ((lgyaTb g len cap k id v r1 ad s d n Pre Post tm).Inv (fun f W => if f 18 = true then Post W else Pre W)) ⟨hsz, rfl, fun s _ => rfl, fun i d _ hf => (by cases hf), hT⟩ (lgya_step E) ?_
  intro f a W hall hI
  have ha := hI.fin hall hsz lgya_nodup rfl
  rw [ha]
  exact hend W (by have := hI.held; rwa [if_pos (hall 18 (by decide))] at this)
end Go.Proofs.YtniecodpdmjppaaDoor

/- LibraryBlobs: region 19: a blob is read. Written by gen_rf.py. -/
namespace Go.Proofs.YtniecodpdmjppaaDoor
open Go.RowKit
open Sm
set_option linter.unusedVariables false
set_option linter.unusedSimpArgs false

def lgybTb (g len cap len2 cap2 len3 cap3 k id v p : Nat) (ad ad2 ad3 : Addr) (d : ByteArray) (x r : Int) (Pre Post : World → Prop) (base : Array Value) : Tf where
  slots := [96, 97, 98, 99, 100, 101, 102, 103, 104, 105, 106, 107, 108, 109, 110, 111, 112, 113, 95, 114, 115, 16, 17]
  size := 177
  base := base
  val := fun
    | 0 => .pointer (some ⟨g, 0, none⟩)
    | 1 => .slice (some ad2) len2 cap2
    | 2 => .int .i64 (k : Int)
    | 3 => .pointer (some (ad2.add k))
    | 4 => .int .i64 x
    | 5 => .int .i64 r
    | 6 => .int .i64 (r + 3)
    | 7 => .int .i64 (v : Int)
    | 8 => .slice (some ad3) len3 cap3
    | 9 => .int .i64 (k : Int)
    | 10 => .pointer (some (ad3.add k))
    | 11 => .int .i64 (p : Int)
    | 12 => .slice (some ad) len cap
    | 13 => .int .i64 (k : Int)
    | 14 => .pointer (some (ad.add (k * 3)))
    | 15 => .pointer (some (ad.add (k * 3)))
    | 16 => .int .u64 (id : Int)
    | 17 => .tuple #[.string d, .int .i64 0]
    | 18 => .tuple #[.string d, .int .i64 0]
    | 19 => .string d
    | 20 => .int .i64 0
    | 21 => .string d
    | 22 => .int .i64 0
    | _ => undef

structure lgybEnv (g len cap len2 cap2 len3 cap3 k id v p : Nat) (ad ad2 ad3 : Addr) (d : ByteArray) (x r : Int) (Pre Post : World → Prop) (base : Array Value) : Prop where
  b7 : base[7]?.getD undef = .pointer (some ⟨g, 0, none⟩)
  b2 : base[2]?.getD undef = .slice (some ad2) len2 cap2
  b15 : base[15]?.getD undef = .int .i64 (k : Int)
  b9 : base[9]?.getD undef = .slice (some ad3) len3 cap3
  b1 : base[1]?.getD undef = .slice (some ad) len cap
  kk : k < len
  kk2 : k < len2
  kk3 : k < len3
  mr : x.tmod 3 = r
  w1 : IntKind.i64.wrap r = r
  w2 : IntKind.i64.wrap (r + 3) = r + 3
  mv : (r + 3).tmod 3 = (v : Int)
  w3 : IntKind.i64.wrap (v : Int) = (v : Int)
  c : ∀ W, Pre W ∨ Post W → W.cell? (ad.add (k * 3)) = some (.int .u64 (id : Int)) ∧ W.cell? (ad2.add k) = some (.int .i64 x) ∧ W.cell? (ad3.add k) = some (.int .i64 (p : Int))
  rd : ∀ W, Pre W → Calls Tryd.prog 9 #[.pointer (some ⟨g, 0, none⟩), .int .i64 (v : Int), .int .i64 (p : Int), .int .u64 (id : Int)] W fun e w' => e = .returned (.tuple #[.string d, .int .i64 0]) ∧ Post w'

theorem lgyb_nodup : [96, 97, 98, 99, 100, 101, 102, 103, 104, 105, 106, 107, 108, 109, 110, 111, 112, 113, 95, 114, 115, 16, 17].Nodup := by decide
set_option maxRecDepth 100000 in
theorem lgyb_0 {g len cap len2 cap2 len3 cap3 k id v p : Nat} {ad ad2 ad3 : Addr} {d : ByteArray} {x r : Int} {Pre Post : World → Prop} {base : Array Value} {f : Nat → Bool} {a : Act} {W : World} {K : Act → World → Prop} {Q : Exit → Act → World → Prop} {ops : Array Oper} (E : lgybEnv g len cap len2 cap2 len3 cap3 k id v p ad ad2 ad3 d x r Pre Post base) (hI : (lgybTb g len cap len2 cap2 len3 cap3 k id v p ad ad2 ad3 d x r Pre Post base).Inv (fun f W => if f 17 = true then Post W else Pre W) f a W) (hf : f 0 = false) (pos : String) (hK : ∀ a' W', (lgybTb g len cap len2 cap2 len3 cap3 k id v p ad ad2 ad3 d x r Pre Post base).Inv (fun f W => if f 17 = true then Post W else Pre W) (hit f 0) a' W' → K a' W') : if Region.wanted { dst := some 96, op := Go.Op.move (Go.Operand.tmp 7), type := 25, pos := pos, after := #[], guard := none } (yielded ops a.tmps) = true then Oper.wp Tryd.prog { dst := some 96, op := Go.Op.move (Go.Operand.tmp 7), type := 25, pos := pos, after := #[], guard := none } a W K Q else K (a.put (some 96) undef) W := by
  have q : a.tmps[7]?.getD undef = .pointer (some ⟨g, 0, none⟩) := (hI.base 7 rfl).trans E.b7
  have R := Lib.hid (hI.step (i := 0) (d := 96) (v := .pointer (some ⟨g, 0, none⟩)) rfl lgyb_nodup (show 96 < 177 by decide) rfl (show (if hit f 0 17 = true then Post W else Pre W) by rw [hit_of f 0 17 (by decide)]; exact hI.held))
  clear hI E hf
  go_simp
  exact hK _ _ R.out

set_option maxRecDepth 100000 in
theorem lgyb_1 {g len cap len2 cap2 len3 cap3 k id v p : Nat} {ad ad2 ad3 : Addr} {d : ByteArray} {x r : Int} {Pre Post : World → Prop} {base : Array Value} {f : Nat → Bool} {a : Act} {W : World} {K : Act → World → Prop} {Q : Exit → Act → World → Prop} {ops : Array Oper} (E : lgybEnv g len cap len2 cap2 len3 cap3 k id v p ad ad2 ad3 d x r Pre Post base) (hI : (lgybTb g len cap len2 cap2 len3 cap3 k id v p ad ad2 ad3 d x r Pre Post base).Inv (fun f W => if f 17 = true then Post W else Pre W) f a W) (hf : f 1 = false) (pos : String) (hK : ∀ a' W', (lgybTb g len cap len2 cap2 len3 cap3 k id v p ad ad2 ad3 d x r Pre Post base).Inv (fun f W => if f 17 = true then Post W else Pre W) (hit f 1) a' W' → K a' W') : if Region.wanted { dst := some 97, op := Go.Op.move (Go.Operand.tmp 2), type := 23, pos := pos, after := #[], guard := none } (yielded ops a.tmps) = true then Oper.wp Tryd.prog { dst := some 97, op := Go.Op.move (Go.Operand.tmp 2), type := 23, pos := pos, after := #[], guard := none } a W K Q else K (a.put (some 97) undef) W := by
  have q : a.tmps[2]?.getD undef = .slice (some ad2) len2 cap2 := (hI.base 2 rfl).trans E.b2
  have R := Lib.hid (hI.step (i := 1) (d := 97) (v := .slice (some ad2) len2 cap2) rfl lgyb_nodup (show 97 < 177 by decide) rfl (show (if hit f 1 17 = true then Post W else Pre W) by rw [hit_of f 1 17 (by decide)]; exact hI.held))
  clear hI E hf
  go_simp
  exact hK _ _ R.out

set_option maxRecDepth 100000 in
theorem lgyb_2 {g len cap len2 cap2 len3 cap3 k id v p : Nat} {ad ad2 ad3 : Addr} {d : ByteArray} {x r : Int} {Pre Post : World → Prop} {base : Array Value} {f : Nat → Bool} {a : Act} {W : World} {K : Act → World → Prop} {Q : Exit → Act → World → Prop} {ops : Array Oper} (E : lgybEnv g len cap len2 cap2 len3 cap3 k id v p ad ad2 ad3 d x r Pre Post base) (hI : (lgybTb g len cap len2 cap2 len3 cap3 k id v p ad ad2 ad3 d x r Pre Post base).Inv (fun f W => if f 17 = true then Post W else Pre W) f a W) (hf : f 2 = false) (pos : String) (hK : ∀ a' W', (lgybTb g len cap len2 cap2 len3 cap3 k id v p ad ad2 ad3 d x r Pre Post base).Inv (fun f W => if f 17 = true then Post W else Pre W) (hit f 2) a' W' → K a' W') : if Region.wanted { dst := some 98, op := Go.Op.move (Go.Operand.tmp 15), type := 3, pos := pos, after := #[], guard := none } (yielded ops a.tmps) = true then Oper.wp Tryd.prog { dst := some 98, op := Go.Op.move (Go.Operand.tmp 15), type := 3, pos := pos, after := #[], guard := none } a W K Q else K (a.put (some 98) undef) W := by
  have q : a.tmps[15]?.getD undef = .int .i64 (k : Int) := (hI.base 15 rfl).trans E.b15
  have R := Lib.hid (hI.step (i := 2) (d := 98) (v := .int .i64 (k : Int)) rfl lgyb_nodup (show 98 < 177 by decide) rfl (show (if hit f 2 17 = true then Post W else Pre W) by rw [hit_of f 2 17 (by decide)]; exact hI.held))
  clear hI E hf
  go_simp
  exact hK _ _ R.out

set_option maxRecDepth 100000 in
theorem lgyb_3 {g len cap len2 cap2 len3 cap3 k id v p : Nat} {ad ad2 ad3 : Addr} {d : ByteArray} {x r : Int} {Pre Post : World → Prop} {base : Array Value} {f : Nat → Bool} {a : Act} {W : World} {K : Act → World → Prop} {Q : Exit → Act → World → Prop} {ops : Array Oper} (E : lgybEnv g len cap len2 cap2 len3 cap3 k id v p ad ad2 ad3 d x r Pre Post base) (hI : (lgybTb g len cap len2 cap2 len3 cap3 k id v p ad ad2 ad3 d x r Pre Post base).Inv (fun f W => if f 17 = true then Post W else Pre W) f a W) (hf : f 3 = false) (h1 : f 1 = true) (h2 : f 2 = true) (pos : String) (hK : ∀ a' W', (lgybTb g len cap len2 cap2 len3 cap3 k id v p ad ad2 ad3 d x r Pre Post base).Inv (fun f W => if f 17 = true then Post W else Pre W) (hit f 3) a' W' → K a' W') : if Region.wanted { dst := some 99, op := Go.Op.indexAddr 23 (Go.Operand.tmp 97) (Go.Operand.tmp 98), type := 0, pos := pos, after := #[{ on := 1, ground := Go.Ground.data }, { on := 2, ground := Go.Ground.data }], guard := none } (yielded ops a.tmps) = true then Oper.wp Tryd.prog { dst := some 99, op := Go.Op.indexAddr 23 (Go.Operand.tmp 97) (Go.Operand.tmp 98), type := 0, pos := pos, after := #[{ on := 1, ground := Go.Ground.data }, { on := 2, ground := Go.Ground.data }], guard := none } a W K Q else K (a.put (some 99) undef) W := by
  have y0 : a.tmps[97]?.getD undef = .slice (some ad2) len2 cap2 := hI.val 1 97 rfl h1
  have y1 : a.tmps[98]?.getD undef = .int .i64 (k : Int) := hI.val 2 98 rfl h2
  have hk := E.kk2
  have i0 : (0 : Int) ≤ (k : Int) := by omega
  have i1 : (k : Int) < (len2 : Int) := by omega
  have R := Lib.hid (hI.step (i := 3) (d := 99) (v := .pointer (some (ad2.add k))) rfl lgyb_nodup (show 99 < 177 by decide) rfl (show (if hit f 3 17 = true then Post W else Pre W) by rw [hit_of f 3 17 (by decide)]; exact hI.held))
  clear hI E hf
  go_simp
  exact hK _ _ R.out

set_option maxRecDepth 100000 in
theorem lgyb_4 {g len cap len2 cap2 len3 cap3 k id v p : Nat} {ad ad2 ad3 : Addr} {d : ByteArray} {x r : Int} {Pre Post : World → Prop} {base : Array Value} {f : Nat → Bool} {a : Act} {W : World} {K : Act → World → Prop} {Q : Exit → Act → World → Prop} {ops : Array Oper} (E : lgybEnv g len cap len2 cap2 len3 cap3 k id v p ad ad2 ad3 d x r Pre Post base) (hI : (lgybTb g len cap len2 cap2 len3 cap3 k id v p ad ad2 ad3 d x r Pre Post base).Inv (fun f W => if f 17 = true then Post W else Pre W) f a W) (hf : f 4 = false) (h3 : f 3 = true) (pos : String) (hK : ∀ a' W', (lgybTb g len cap len2 cap2 len3 cap3 k id v p ad ad2 ad3 d x r Pre Post base).Inv (fun f W => if f 17 = true then Post W else Pre W) (hit f 4) a' W' → K a' W') : if Region.wanted { dst := some 100, op := Go.Op.load 3 (Go.Operand.tmp 99), type := 3, pos := pos, after := #[{ on := 3, ground := Go.Ground.data }], guard := none } (yielded ops a.tmps) = true then Oper.wp Tryd.prog { dst := some 100, op := Go.Op.load 3 (Go.Operand.tmp 99), type := 3, pos := pos, after := #[{ on := 3, ground := Go.Ground.data }], guard := none } a W K Q else K (a.put (some 100) undef) W := by
  have q : a.tmps[99]?.getD undef = .pointer (some (ad2.add k)) := hI.val 3 99 rfl h3
  have c : W.cell? (ad2.add k) = some (.int .i64 x) := (E.c W (by have h : (if f 17 = true then Post W else Pre W) := hI.held; by_cases h8 : f 17 = true; (rw [if_pos h8] at h; exact .inr h); (rw [if_neg h8] at h; exact .inl h))).2.1
  have R := Lib.hid (hI.step (i := 4) (d := 100) (v := .int .i64 x) rfl lgyb_nodup (show 100 < 177 by decide) rfl (show (if hit f 4 17 = true then Post W else Pre W) by rw [hit_of f 4 17 (by decide)]; exact hI.held))
  clear hI E hf
  go_simp
  exact hK _ _ R.out

set_option maxRecDepth 100000 in
theorem lgyb_5 {g len cap len2 cap2 len3 cap3 k id v p : Nat} {ad ad2 ad3 : Addr} {d : ByteArray} {x r : Int} {Pre Post : World → Prop} {base : Array Value} {f : Nat → Bool} {a : Act} {W : World} {K : Act → World → Prop} {Q : Exit → Act → World → Prop} {ops : Array Oper} (E : lgybEnv g len cap len2 cap2 len3 cap3 k id v p ad ad2 ad3 d x r Pre Post base) (hI : (lgybTb g len cap len2 cap2 len3 cap3 k id v p ad ad2 ad3 d x r Pre Post base).Inv (fun f W => if f 17 = true then Post W else Pre W) f a W) (hf : f 5 = false) (h4 : f 4 = true) (pos : String) (hK : ∀ a' W', (lgybTb g len cap len2 cap2 len3 cap3 k id v p ad ad2 ad3 d x r Pre Post base).Inv (fun f W => if f 17 = true then Post W else Pre W) (hit f 5) a' W' → K a' W') : if Region.wanted { dst := some 101, op := Go.Op.binOp Go.BinOp.rem 3 (Go.Operand.tmp 100) (Go.Operand.const (Go.Value.int Go.IntKind.i64 3)) 3, type := 3, pos := pos, after := #[{ on := 4, ground := Go.Ground.data }], guard := none } (yielded ops a.tmps) = true then Oper.wp Tryd.prog { dst := some 101, op := Go.Op.binOp Go.BinOp.rem 3 (Go.Operand.tmp 100) (Go.Operand.const (Go.Value.int Go.IntKind.i64 3)) 3, type := 3, pos := pos, after := #[{ on := 4, ground := Go.Ground.data }], guard := none } a W K Q else K (a.put (some 101) undef) W := by
  have y0 : a.tmps[100]?.getD undef = .int .i64 x := hI.val 4 100 rfl h4
  have m1 := E.mr
  have m2 := E.w1
  have R := Lib.hid (hI.step (i := 5) (d := 101) (v := .int .i64 r) rfl lgyb_nodup (show 101 < 177 by decide) rfl (show (if hit f 5 17 = true then Post W else Pre W) by rw [hit_of f 5 17 (by decide)]; exact hI.held))
  clear hI E hf
  go_simp
  exact hK _ _ R.out

set_option maxRecDepth 100000 in
theorem lgyb_6 {g len cap len2 cap2 len3 cap3 k id v p : Nat} {ad ad2 ad3 : Addr} {d : ByteArray} {x r : Int} {Pre Post : World → Prop} {base : Array Value} {f : Nat → Bool} {a : Act} {W : World} {K : Act → World → Prop} {Q : Exit → Act → World → Prop} {ops : Array Oper} (E : lgybEnv g len cap len2 cap2 len3 cap3 k id v p ad ad2 ad3 d x r Pre Post base) (hI : (lgybTb g len cap len2 cap2 len3 cap3 k id v p ad ad2 ad3 d x r Pre Post base).Inv (fun f W => if f 17 = true then Post W else Pre W) f a W) (hf : f 6 = false) (h5 : f 5 = true) (pos : String) (hK : ∀ a' W', (lgybTb g len cap len2 cap2 len3 cap3 k id v p ad ad2 ad3 d x r Pre Post base).Inv (fun f W => if f 17 = true then Post W else Pre W) (hit f 6) a' W' → K a' W') : if Region.wanted { dst := some 102, op := Go.Op.binOp Go.BinOp.add 3 (Go.Operand.tmp 101) (Go.Operand.const (Go.Value.int Go.IntKind.i64 3)) 3, type := 3, pos := pos, after := #[{ on := 5, ground := Go.Ground.data }], guard := none } (yielded ops a.tmps) = true then Oper.wp Tryd.prog { dst := some 102, op := Go.Op.binOp Go.BinOp.add 3 (Go.Operand.tmp 101) (Go.Operand.const (Go.Value.int Go.IntKind.i64 3)) 3, type := 3, pos := pos, after := #[{ on := 5, ground := Go.Ground.data }], guard := none } a W K Q else K (a.put (some 102) undef) W := by
  have y0 : a.tmps[101]?.getD undef = .int .i64 r := hI.val 5 101 rfl h5
  have m2 := E.w2
  have R := Lib.hid (hI.step (i := 6) (d := 102) (v := .int .i64 (r + 3)) rfl lgyb_nodup (show 102 < 177 by decide) rfl (show (if hit f 6 17 = true then Post W else Pre W) by rw [hit_of f 6 17 (by decide)]; exact hI.held))
  clear hI E hf
  go_simp
  exact hK _ _ R.out

set_option maxRecDepth 100000 in
theorem lgyb_7 {g len cap len2 cap2 len3 cap3 k id v p : Nat} {ad ad2 ad3 : Addr} {d : ByteArray} {x r : Int} {Pre Post : World → Prop} {base : Array Value} {f : Nat → Bool} {a : Act} {W : World} {K : Act → World → Prop} {Q : Exit → Act → World → Prop} {ops : Array Oper} (E : lgybEnv g len cap len2 cap2 len3 cap3 k id v p ad ad2 ad3 d x r Pre Post base) (hI : (lgybTb g len cap len2 cap2 len3 cap3 k id v p ad ad2 ad3 d x r Pre Post base).Inv (fun f W => if f 17 = true then Post W else Pre W) f a W) (hf : f 7 = false) (h6 : f 6 = true) (pos : String) (hK : ∀ a' W', (lgybTb g len cap len2 cap2 len3 cap3 k id v p ad ad2 ad3 d x r Pre Post base).Inv (fun f W => if f 17 = true then Post W else Pre W) (hit f 7) a' W' → K a' W') : if Region.wanted { dst := some 103, op := Go.Op.binOp Go.BinOp.rem 3 (Go.Operand.tmp 102) (Go.Operand.const (Go.Value.int Go.IntKind.i64 3)) 3, type := 3, pos := pos, after := #[{ on := 6, ground := Go.Ground.data }], guard := none } (yielded ops a.tmps) = true then Oper.wp Tryd.prog { dst := some 103, op := Go.Op.binOp Go.BinOp.rem 3 (Go.Operand.tmp 102) (Go.Operand.const (Go.Value.int Go.IntKind.i64 3)) 3, type := 3, pos := pos, after := #[{ on := 6, ground := Go.Ground.data }], guard := none } a W K Q else K (a.put (some 103) undef) W := by
  have y0 : a.tmps[102]?.getD undef = .int .i64 (r + 3) := hI.val 6 102 rfl h6
  have m1 := E.mv
  have m2 := E.w3
  have R := Lib.hid (hI.step (i := 7) (d := 103) (v := .int .i64 (v : Int)) rfl lgyb_nodup (show 103 < 177 by decide) rfl (show (if hit f 7 17 = true then Post W else Pre W) by rw [hit_of f 7 17 (by decide)]; exact hI.held))
  clear hI E hf
  go_simp
  exact hK _ _ R.out

set_option maxRecDepth 100000 in
theorem lgyb_8 {g len cap len2 cap2 len3 cap3 k id v p : Nat} {ad ad2 ad3 : Addr} {d : ByteArray} {x r : Int} {Pre Post : World → Prop} {base : Array Value} {f : Nat → Bool} {a : Act} {W : World} {K : Act → World → Prop} {Q : Exit → Act → World → Prop} {ops : Array Oper} (E : lgybEnv g len cap len2 cap2 len3 cap3 k id v p ad ad2 ad3 d x r Pre Post base) (hI : (lgybTb g len cap len2 cap2 len3 cap3 k id v p ad ad2 ad3 d x r Pre Post base).Inv (fun f W => if f 17 = true then Post W else Pre W) f a W) (hf : f 8 = false) (pos : String) (hK : ∀ a' W', (lgybTb g len cap len2 cap2 len3 cap3 k id v p ad ad2 ad3 d x r Pre Post base).Inv (fun f W => if f 17 = true then Post W else Pre W) (hit f 8) a' W' → K a' W') : if Region.wanted { dst := some 104, op := Go.Op.move (Go.Operand.tmp 9), type := 23, pos := pos, after := #[], guard := none } (yielded ops a.tmps) = true then Oper.wp Tryd.prog { dst := some 104, op := Go.Op.move (Go.Operand.tmp 9), type := 23, pos := pos, after := #[], guard := none } a W K Q else K (a.put (some 104) undef) W := by
  have q : a.tmps[9]?.getD undef = .slice (some ad3) len3 cap3 := (hI.base 9 rfl).trans E.b9
  have R := Lib.hid (hI.step (i := 8) (d := 104) (v := .slice (some ad3) len3 cap3) rfl lgyb_nodup (show 104 < 177 by decide) rfl (show (if hit f 8 17 = true then Post W else Pre W) by rw [hit_of f 8 17 (by decide)]; exact hI.held))
  clear hI E hf
  go_simp
  exact hK _ _ R.out

set_option maxRecDepth 100000 in
theorem lgyb_9 {g len cap len2 cap2 len3 cap3 k id v p : Nat} {ad ad2 ad3 : Addr} {d : ByteArray} {x r : Int} {Pre Post : World → Prop} {base : Array Value} {f : Nat → Bool} {a : Act} {W : World} {K : Act → World → Prop} {Q : Exit → Act → World → Prop} {ops : Array Oper} (E : lgybEnv g len cap len2 cap2 len3 cap3 k id v p ad ad2 ad3 d x r Pre Post base) (hI : (lgybTb g len cap len2 cap2 len3 cap3 k id v p ad ad2 ad3 d x r Pre Post base).Inv (fun f W => if f 17 = true then Post W else Pre W) f a W) (hf : f 9 = false) (pos : String) (hK : ∀ a' W', (lgybTb g len cap len2 cap2 len3 cap3 k id v p ad ad2 ad3 d x r Pre Post base).Inv (fun f W => if f 17 = true then Post W else Pre W) (hit f 9) a' W' → K a' W') : if Region.wanted { dst := some 105, op := Go.Op.move (Go.Operand.tmp 15), type := 3, pos := pos, after := #[], guard := none } (yielded ops a.tmps) = true then Oper.wp Tryd.prog { dst := some 105, op := Go.Op.move (Go.Operand.tmp 15), type := 3, pos := pos, after := #[], guard := none } a W K Q else K (a.put (some 105) undef) W := by
  have q : a.tmps[15]?.getD undef = .int .i64 (k : Int) := (hI.base 15 rfl).trans E.b15
  have R := Lib.hid (hI.step (i := 9) (d := 105) (v := .int .i64 (k : Int)) rfl lgyb_nodup (show 105 < 177 by decide) rfl (show (if hit f 9 17 = true then Post W else Pre W) by rw [hit_of f 9 17 (by decide)]; exact hI.held))
  clear hI E hf
  go_simp
  exact hK _ _ R.out

set_option maxRecDepth 100000 in
theorem lgyb_10 {g len cap len2 cap2 len3 cap3 k id v p : Nat} {ad ad2 ad3 : Addr} {d : ByteArray} {x r : Int} {Pre Post : World → Prop} {base : Array Value} {f : Nat → Bool} {a : Act} {W : World} {K : Act → World → Prop} {Q : Exit → Act → World → Prop} {ops : Array Oper} (E : lgybEnv g len cap len2 cap2 len3 cap3 k id v p ad ad2 ad3 d x r Pre Post base) (hI : (lgybTb g len cap len2 cap2 len3 cap3 k id v p ad ad2 ad3 d x r Pre Post base).Inv (fun f W => if f 17 = true then Post W else Pre W) f a W) (hf : f 10 = false) (h8 : f 8 = true) (h9 : f 9 = true) (pos : String) (hK : ∀ a' W', (lgybTb g len cap len2 cap2 len3 cap3 k id v p ad ad2 ad3 d x r Pre Post base).Inv (fun f W => if f 17 = true then Post W else Pre W) (hit f 10) a' W' → K a' W') : if Region.wanted { dst := some 106, op := Go.Op.indexAddr 23 (Go.Operand.tmp 104) (Go.Operand.tmp 105), type := 0, pos := pos, after := #[{ on := 8, ground := Go.Ground.data }, { on := 9, ground := Go.Ground.data }], guard := none } (yielded ops a.tmps) = true then Oper.wp Tryd.prog { dst := some 106, op := Go.Op.indexAddr 23 (Go.Operand.tmp 104) (Go.Operand.tmp 105), type := 0, pos := pos, after := #[{ on := 8, ground := Go.Ground.data }, { on := 9, ground := Go.Ground.data }], guard := none } a W K Q else K (a.put (some 106) undef) W := by
  have y0 : a.tmps[104]?.getD undef = .slice (some ad3) len3 cap3 := hI.val 8 104 rfl h8
  have y1 : a.tmps[105]?.getD undef = .int .i64 (k : Int) := hI.val 9 105 rfl h9
  have hk := E.kk3
  have i0 : (0 : Int) ≤ (k : Int) := by omega
  have i1 : (k : Int) < (len3 : Int) := by omega
  have R := Lib.hid (hI.step (i := 10) (d := 106) (v := .pointer (some (ad3.add k))) rfl lgyb_nodup (show 106 < 177 by decide) rfl (show (if hit f 10 17 = true then Post W else Pre W) by rw [hit_of f 10 17 (by decide)]; exact hI.held))
  clear hI E hf
  go_simp
  exact hK _ _ R.out

set_option maxRecDepth 100000 in
theorem lgyb_11 {g len cap len2 cap2 len3 cap3 k id v p : Nat} {ad ad2 ad3 : Addr} {d : ByteArray} {x r : Int} {Pre Post : World → Prop} {base : Array Value} {f : Nat → Bool} {a : Act} {W : World} {K : Act → World → Prop} {Q : Exit → Act → World → Prop} {ops : Array Oper} (E : lgybEnv g len cap len2 cap2 len3 cap3 k id v p ad ad2 ad3 d x r Pre Post base) (hI : (lgybTb g len cap len2 cap2 len3 cap3 k id v p ad ad2 ad3 d x r Pre Post base).Inv (fun f W => if f 17 = true then Post W else Pre W) f a W) (hf : f 11 = false) (h10 : f 10 = true) (pos : String) (hK : ∀ a' W', (lgybTb g len cap len2 cap2 len3 cap3 k id v p ad ad2 ad3 d x r Pre Post base).Inv (fun f W => if f 17 = true then Post W else Pre W) (hit f 11) a' W' → K a' W') : if Region.wanted { dst := some 107, op := Go.Op.load 3 (Go.Operand.tmp 106), type := 3, pos := pos, after := #[{ on := 10, ground := Go.Ground.data }], guard := none } (yielded ops a.tmps) = true then Oper.wp Tryd.prog { dst := some 107, op := Go.Op.load 3 (Go.Operand.tmp 106), type := 3, pos := pos, after := #[{ on := 10, ground := Go.Ground.data }], guard := none } a W K Q else K (a.put (some 107) undef) W := by
  have q : a.tmps[106]?.getD undef = .pointer (some (ad3.add k)) := hI.val 10 106 rfl h10
  have c : W.cell? (ad3.add k) = some (.int .i64 (p : Int)) := (E.c W (by have h : (if f 17 = true then Post W else Pre W) := hI.held; by_cases h8 : f 17 = true; (rw [if_pos h8] at h; exact .inr h); (rw [if_neg h8] at h; exact .inl h))).2.2
  have R := Lib.hid (hI.step (i := 11) (d := 107) (v := .int .i64 (p : Int)) rfl lgyb_nodup (show 107 < 177 by decide) rfl (show (if hit f 11 17 = true then Post W else Pre W) by rw [hit_of f 11 17 (by decide)]; exact hI.held))
  clear hI E hf
  go_simp
  exact hK _ _ R.out

set_option maxRecDepth 100000 in
theorem lgyb_12 {g len cap len2 cap2 len3 cap3 k id v p : Nat} {ad ad2 ad3 : Addr} {d : ByteArray} {x r : Int} {Pre Post : World → Prop} {base : Array Value} {f : Nat → Bool} {a : Act} {W : World} {K : Act → World → Prop} {Q : Exit → Act → World → Prop} {ops : Array Oper} (E : lgybEnv g len cap len2 cap2 len3 cap3 k id v p ad ad2 ad3 d x r Pre Post base) (hI : (lgybTb g len cap len2 cap2 len3 cap3 k id v p ad ad2 ad3 d x r Pre Post base).Inv (fun f W => if f 17 = true then Post W else Pre W) f a W) (hf : f 12 = false) (pos : String) (hK : ∀ a' W', (lgybTb g len cap len2 cap2 len3 cap3 k id v p ad ad2 ad3 d x r Pre Post base).Inv (fun f W => if f 17 = true then Post W else Pre W) (hit f 12) a' W' → K a' W') : if Region.wanted { dst := some 108, op := Go.Op.move (Go.Operand.tmp 1), type := 22, pos := pos, after := #[], guard := none } (yielded ops a.tmps) = true then Oper.wp Tryd.prog { dst := some 108, op := Go.Op.move (Go.Operand.tmp 1), type := 22, pos := pos, after := #[], guard := none } a W K Q else K (a.put (some 108) undef) W := by
  have q : a.tmps[1]?.getD undef = .slice (some ad) len cap := (hI.base 1 rfl).trans E.b1
  have R := Lib.hid (hI.step (i := 12) (d := 108) (v := .slice (some ad) len cap) rfl lgyb_nodup (show 108 < 177 by decide) rfl (show (if hit f 12 17 = true then Post W else Pre W) by rw [hit_of f 12 17 (by decide)]; exact hI.held))
  clear hI E hf
  go_simp
  exact hK _ _ R.out

set_option maxRecDepth 100000 in
theorem lgyb_13 {g len cap len2 cap2 len3 cap3 k id v p : Nat} {ad ad2 ad3 : Addr} {d : ByteArray} {x r : Int} {Pre Post : World → Prop} {base : Array Value} {f : Nat → Bool} {a : Act} {W : World} {K : Act → World → Prop} {Q : Exit → Act → World → Prop} {ops : Array Oper} (E : lgybEnv g len cap len2 cap2 len3 cap3 k id v p ad ad2 ad3 d x r Pre Post base) (hI : (lgybTb g len cap len2 cap2 len3 cap3 k id v p ad ad2 ad3 d x r Pre Post base).Inv (fun f W => if f 17 = true then Post W else Pre W) f a W) (hf : f 13 = false) (pos : String) (hK : ∀ a' W', (lgybTb g len cap len2 cap2 len3 cap3 k id v p ad ad2 ad3 d x r Pre Post base).Inv (fun f W => if f 17 = true then Post W else Pre W) (hit f 13) a' W' → K a' W') : if Region.wanted { dst := some 109, op := Go.Op.move (Go.Operand.tmp 15), type := 3, pos := pos, after := #[], guard := none } (yielded ops a.tmps) = true then Oper.wp Tryd.prog { dst := some 109, op := Go.Op.move (Go.Operand.tmp 15), type := 3, pos := pos, after := #[], guard := none } a W K Q else K (a.put (some 109) undef) W := by
  have q : a.tmps[15]?.getD undef = .int .i64 (k : Int) := (hI.base 15 rfl).trans E.b15
  have R := Lib.hid (hI.step (i := 13) (d := 109) (v := .int .i64 (k : Int)) rfl lgyb_nodup (show 109 < 177 by decide) rfl (show (if hit f 13 17 = true then Post W else Pre W) by rw [hit_of f 13 17 (by decide)]; exact hI.held))
  clear hI E hf
  go_simp
  exact hK _ _ R.out

set_option maxRecDepth 100000 in
theorem lgyb_14 {g len cap len2 cap2 len3 cap3 k id v p : Nat} {ad ad2 ad3 : Addr} {d : ByteArray} {x r : Int} {Pre Post : World → Prop} {base : Array Value} {f : Nat → Bool} {a : Act} {W : World} {K : Act → World → Prop} {Q : Exit → Act → World → Prop} {ops : Array Oper} (E : lgybEnv g len cap len2 cap2 len3 cap3 k id v p ad ad2 ad3 d x r Pre Post base) (hI : (lgybTb g len cap len2 cap2 len3 cap3 k id v p ad ad2 ad3 d x r Pre Post base).Inv (fun f W => if f 17 = true then Post W else Pre W) f a W) (hf : f 14 = false) (h12 : f 12 = true) (h13 : f 13 = true) (pos : String) (hK : ∀ a' W', (lgybTb g len cap len2 cap2 len3 cap3 k id v p ad ad2 ad3 d x r Pre Post base).Inv (fun f W => if f 17 = true then Post W else Pre W) (hit f 14) a' W' → K a' W') : if Region.wanted { dst := some 110, op := Go.Op.indexAddr 22 (Go.Operand.tmp 108) (Go.Operand.tmp 109), type := 0, pos := pos, after := #[{ on := 12, ground := Go.Ground.data }, { on := 13, ground := Go.Ground.data }], guard := none } (yielded ops a.tmps) = true then Oper.wp Tryd.prog { dst := some 110, op := Go.Op.indexAddr 22 (Go.Operand.tmp 108) (Go.Operand.tmp 109), type := 0, pos := pos, after := #[{ on := 12, ground := Go.Ground.data }, { on := 13, ground := Go.Ground.data }], guard := none } a W K Q else K (a.put (some 110) undef) W := by
  have y0 : a.tmps[108]?.getD undef = .slice (some ad) len cap := hI.val 12 108 rfl h12
  have y1 : a.tmps[109]?.getD undef = .int .i64 (k : Int) := hI.val 13 109 rfl h13
  have hk := E.kk
  have i0 : (0 : Int) ≤ (k : Int) := by omega
  have i1 : (k : Int) < (len : Int) := by omega
  have R := Lib.hid (hI.step (i := 14) (d := 110) (v := .pointer (some (ad.add (k * 3)))) rfl lgyb_nodup (show 110 < 177 by decide) rfl (show (if hit f 14 17 = true then Post W else Pre W) by rw [hit_of f 14 17 (by decide)]; exact hI.held))
  clear hI E hf
  go_simp
  exact hK _ _ R.out

set_option maxRecDepth 100000 in
theorem lgyb_15 {g len cap len2 cap2 len3 cap3 k id v p : Nat} {ad ad2 ad3 : Addr} {d : ByteArray} {x r : Int} {Pre Post : World → Prop} {base : Array Value} {f : Nat → Bool} {a : Act} {W : World} {K : Act → World → Prop} {Q : Exit → Act → World → Prop} {ops : Array Oper} (E : lgybEnv g len cap len2 cap2 len3 cap3 k id v p ad ad2 ad3 d x r Pre Post base) (hI : (lgybTb g len cap len2 cap2 len3 cap3 k id v p ad ad2 ad3 d x r Pre Post base).Inv (fun f W => if f 17 = true then Post W else Pre W) f a W) (hf : f 15 = false) (h14 : f 14 = true) (pos : String) (hK : ∀ a' W', (lgybTb g len cap len2 cap2 len3 cap3 k id v p ad ad2 ad3 d x r Pre Post base).Inv (fun f W => if f 17 = true then Post W else Pre W) (hit f 15) a' W' → K a' W') : if Region.wanted { dst := some 111, op := Go.Op.fieldAddr 32 (Go.Operand.tmp 110) 0, type := 0, pos := pos, after := #[{ on := 14, ground := Go.Ground.data }], guard := none } (yielded ops a.tmps) = true then Oper.wp Tryd.prog { dst := some 111, op := Go.Op.fieldAddr 32 (Go.Operand.tmp 110) 0, type := 0, pos := pos, after := #[{ on := 14, ground := Go.Ground.data }], guard := none } a W K Q else K (a.put (some 111) undef) W := by
  have q : a.tmps[110]?.getD undef = .pointer (some (ad.add (k * 3))) := hI.val 14 110 rfl h14
  have R := Lib.hid (hI.step (i := 15) (d := 111) (v := .pointer (some (ad.add (k * 3)))) rfl lgyb_nodup (show 111 < 177 by decide) rfl (show (if hit f 15 17 = true then Post W else Pre W) by rw [hit_of f 15 17 (by decide)]; exact hI.held))
  clear hI E hf
  go_simp
  exact hK _ _ R.out

set_option maxRecDepth 100000 in
theorem lgyb_16 {g len cap len2 cap2 len3 cap3 k id v p : Nat} {ad ad2 ad3 : Addr} {d : ByteArray} {x r : Int} {Pre Post : World → Prop} {base : Array Value} {f : Nat → Bool} {a : Act} {W : World} {K : Act → World → Prop} {Q : Exit → Act → World → Prop} {ops : Array Oper} (E : lgybEnv g len cap len2 cap2 len3 cap3 k id v p ad ad2 ad3 d x r Pre Post base) (hI : (lgybTb g len cap len2 cap2 len3 cap3 k id v p ad ad2 ad3 d x r Pre Post base).Inv (fun f W => if f 17 = true then Post W else Pre W) f a W) (hf : f 16 = false) (h15 : f 15 = true) (pos : String) (hK : ∀ a' W', (lgybTb g len cap len2 cap2 len3 cap3 k id v p ad ad2 ad3 d x r Pre Post base).Inv (fun f W => if f 17 = true then Post W else Pre W) (hit f 16) a' W' → K a' W') : if Region.wanted { dst := some 112, op := Go.Op.load 30 (Go.Operand.tmp 111), type := 30, pos := pos, after := #[{ on := 15, ground := Go.Ground.data }], guard := none } (yielded ops a.tmps) = true then Oper.wp Tryd.prog { dst := some 112, op := Go.Op.load 30 (Go.Operand.tmp 111), type := 30, pos := pos, after := #[{ on := 15, ground := Go.Ground.data }], guard := none } a W K Q else K (a.put (some 112) undef) W := by
  have q : a.tmps[111]?.getD undef = .pointer (some (ad.add (k * 3))) := hI.val 15 111 rfl h15
  have c : W.cell? (ad.add (k * 3)) = some (.int .u64 (id : Int)) := (E.c W (by have h : (if f 17 = true then Post W else Pre W) := hI.held; by_cases h8 : f 17 = true; (rw [if_pos h8] at h; exact .inr h); (rw [if_neg h8] at h; exact .inl h))).1
  have R := Lib.hid (hI.step (i := 16) (d := 112) (v := .int .u64 (id : Int)) rfl lgyb_nodup (show 112 < 177 by decide) rfl (show (if hit f 16 17 = true then Post W else Pre W) by rw [hit_of f 16 17 (by decide)]; exact hI.held))
  clear hI E hf
  go_simp
  exact hK _ _ R.out

set_option maxRecDepth 100000 in
theorem lgyb_17 {g len cap len2 cap2 len3 cap3 k id v p : Nat} {ad ad2 ad3 : Addr} {d : ByteArray} {x r : Int} {Pre Post : World → Prop} {base : Array Value} {f : Nat → Bool} {a : Act} {W : World} {K : Act → World → Prop} {Q : Exit → Act → World → Prop} {ops : Array Oper} (E : lgybEnv g len cap len2 cap2 len3 cap3 k id v p ad ad2 ad3 d x r Pre Post base) (hI : (lgybTb g len cap len2 cap2 len3 cap3 k id v p ad ad2 ad3 d x r Pre Post base).Inv (fun f W => if f 17 = true then Post W else Pre W) f a W) (hf : f 17 = false) (h0 : f 0 = true) (h7 : f 7 = true) (h11 : f 11 = true) (h16 : f 16 = true) (pos : String) (hK : ∀ a' W', (lgybTb g len cap len2 cap2 len3 cap3 k id v p ad ad2 ad3 d x r Pre Post base).Inv (fun f W => if f 17 = true then Post W else Pre W) (hit f 17) a' W' → K a' W') : if Region.wanted { dst := some 113, op := Go.Op.call { callee := Go.Callee.value (Go.Operand.func 9), args := #[Go.Operand.tmp 96, Go.Operand.tmp 103, Go.Operand.tmp 107, Go.Operand.tmp 112], argTypes := #[25, 3, 3, 30] }, type := 34, pos := pos, after := #[{ on := 0, ground := Go.Ground.data }, { on := 7, ground := Go.Ground.data }, { on := 11, ground := Go.Ground.data }, { on := 16, ground := Go.Ground.data }], guard := none } (yielded ops a.tmps) = true then Oper.wp Tryd.prog { dst := some 113, op := Go.Op.call { callee := Go.Callee.value (Go.Operand.func 9), args := #[Go.Operand.tmp 96, Go.Operand.tmp 103, Go.Operand.tmp 107, Go.Operand.tmp 112], argTypes := #[25, 3, 3, 30] }, type := 34, pos := pos, after := #[{ on := 0, ground := Go.Ground.data }, { on := 7, ground := Go.Ground.data }, { on := 11, ground := Go.Ground.data }, { on := 16, ground := Go.Ground.data }], guard := none } a W K Q else K (a.put (some 113) undef) W := by
  have y0 : a.tmps[96]?.getD undef = .pointer (some ⟨g, 0, none⟩) := hI.val 0 96 rfl h0
  have y1 : a.tmps[103]?.getD undef = .int .i64 (v : Int) := hI.val 7 103 rfl h7
  have y2 : a.tmps[107]?.getD undef = .int .i64 (p : Int) := hI.val 11 107 rfl h11
  have y3 : a.tmps[112]?.getD undef = .int .u64 (id : Int) := hI.val 16 112 rfl h16
  have hp : Pre W := by have := hI.held; simp only [hf] at this; simpa using this
  have hC := E.rd W hp
  have HR := Lib.hid (fun W1 (hb : Post W1) => hI.step (i := 17) (d := 113) (v := .tuple #[.string d, .int .i64 0]) rfl lgyb_nodup (show 113 < 177 by decide) rfl (show (if hit f 17 17 = true then Post W1 else Pre W1) by rw [hit_at, if_pos rfl]; exact hb))
  clear hI E hf hp
  go_simp
  refine hC.mono ?_
  rintro e W1 ⟨rfl, hb⟩
  exact hK _ _ (HR.out W1 hb)

set_option maxRecDepth 100000 in
theorem lgyb_18 {g len cap len2 cap2 len3 cap3 k id v p : Nat} {ad ad2 ad3 : Addr} {d : ByteArray} {x r : Int} {Pre Post : World → Prop} {base : Array Value} {f : Nat → Bool} {a : Act} {W : World} {K : Act → World → Prop} {Q : Exit → Act → World → Prop} {ops : Array Oper} (E : lgybEnv g len cap len2 cap2 len3 cap3 k id v p ad ad2 ad3 d x r Pre Post base) (hI : (lgybTb g len cap len2 cap2 len3 cap3 k id v p ad ad2 ad3 d x r Pre Post base).Inv (fun f W => if f 17 = true then Post W else Pre W) f a W) (hf : f 18 = false) (h17 : f 17 = true) (pos : String) (hK : ∀ a' W', (lgybTb g len cap len2 cap2 len3 cap3 k id v p ad ad2 ad3 d x r Pre Post base).Inv (fun f W => if f 17 = true then Post W else Pre W) (hit f 18) a' W' → K a' W') : if Region.wanted { dst := some 95, op := Go.Op.move (Go.Operand.tmp 113), type := 34, pos := pos, after := #[{ on := 17, ground := Go.Ground.data }], guard := none } (yielded ops a.tmps) = true then Oper.wp Tryd.prog { dst := some 95, op := Go.Op.move (Go.Operand.tmp 113), type := 34, pos := pos, after := #[{ on := 17, ground := Go.Ground.data }], guard := none } a W K Q else K (a.put (some 95) undef) W := by
  have q : a.tmps[113]?.getD undef = .tuple #[.string d, .int .i64 0] := hI.val 17 113 rfl h17
  have R := Lib.hid (hI.step (i := 18) (d := 95) (v := .tuple #[.string d, .int .i64 0]) rfl lgyb_nodup (show 95 < 177 by decide) rfl (show (if hit f 18 17 = true then Post W else Pre W) by rw [hit_of f 18 17 (by decide)]; exact hI.held))
  clear hI E hf
  go_simp
  exact hK _ _ R.out

set_option maxRecDepth 100000 in
theorem lgyb_19 {g len cap len2 cap2 len3 cap3 k id v p : Nat} {ad ad2 ad3 : Addr} {d : ByteArray} {x r : Int} {Pre Post : World → Prop} {base : Array Value} {f : Nat → Bool} {a : Act} {W : World} {K : Act → World → Prop} {Q : Exit → Act → World → Prop} {ops : Array Oper} (E : lgybEnv g len cap len2 cap2 len3 cap3 k id v p ad ad2 ad3 d x r Pre Post base) (hI : (lgybTb g len cap len2 cap2 len3 cap3 k id v p ad ad2 ad3 d x r Pre Post base).Inv (fun f W => if f 17 = true then Post W else Pre W) f a W) (hf : f 19 = false) (h18 : f 18 = true) (pos : String) (hK : ∀ a' W', (lgybTb g len cap len2 cap2 len3 cap3 k id v p ad ad2 ad3 d x r Pre Post base).Inv (fun f W => if f 17 = true then Post W else Pre W) (hit f 19) a' W' → K a' W') : if Region.wanted { dst := some 114, op := Go.Op.extract (Go.Operand.tmp 95) 0, type := 9, pos := pos, after := #[{ on := 18, ground := Go.Ground.data }], guard := none } (yielded ops a.tmps) = true then Oper.wp Tryd.prog { dst := some 114, op := Go.Op.extract (Go.Operand.tmp 95) 0, type := 9, pos := pos, after := #[{ on := 18, ground := Go.Ground.data }], guard := none } a W K Q else K (a.put (some 114) undef) W := by
  have q : a.tmps[95]?.getD undef = .tuple #[.string d, .int .i64 0] := hI.val 18 95 rfl h18
  have R := Lib.hid (hI.step (i := 19) (d := 114) (v := .string d) rfl lgyb_nodup (show 114 < 177 by decide) rfl (show (if hit f 19 17 = true then Post W else Pre W) by rw [hit_of f 19 17 (by decide)]; exact hI.held))
  clear hI E hf
  go_simp
  exact hK _ _ R.out

set_option maxRecDepth 100000 in
theorem lgyb_20 {g len cap len2 cap2 len3 cap3 k id v p : Nat} {ad ad2 ad3 : Addr} {d : ByteArray} {x r : Int} {Pre Post : World → Prop} {base : Array Value} {f : Nat → Bool} {a : Act} {W : World} {K : Act → World → Prop} {Q : Exit → Act → World → Prop} {ops : Array Oper} (E : lgybEnv g len cap len2 cap2 len3 cap3 k id v p ad ad2 ad3 d x r Pre Post base) (hI : (lgybTb g len cap len2 cap2 len3 cap3 k id v p ad ad2 ad3 d x r Pre Post base).Inv (fun f W => if f 17 = true then Post W else Pre W) f a W) (hf : f 20 = false) (h18 : f 18 = true) (pos : String) (hK : ∀ a' W', (lgybTb g len cap len2 cap2 len3 cap3 k id v p ad ad2 ad3 d x r Pre Post base).Inv (fun f W => if f 17 = true then Post W else Pre W) (hit f 20) a' W' → K a' W') : if Region.wanted { dst := some 115, op := Go.Op.extract (Go.Operand.tmp 95) 1, type := 27, pos := pos, after := #[{ on := 18, ground := Go.Ground.data }, { on := 21, ground := Go.Ground.gcOnly Go.Departure.lateStores }], guard := none } (yielded ops a.tmps) = true then Oper.wp Tryd.prog { dst := some 115, op := Go.Op.extract (Go.Operand.tmp 95) 1, type := 27, pos := pos, after := #[{ on := 18, ground := Go.Ground.data }, { on := 21, ground := Go.Ground.gcOnly Go.Departure.lateStores }], guard := none } a W K Q else K (a.put (some 115) undef) W := by
  have q : a.tmps[95]?.getD undef = .tuple #[.string d, .int .i64 0] := hI.val 18 95 rfl h18
  have R := Lib.hid (hI.step (i := 20) (d := 115) (v := .int .i64 0) rfl lgyb_nodup (show 115 < 177 by decide) rfl (show (if hit f 20 17 = true then Post W else Pre W) by rw [hit_of f 20 17 (by decide)]; exact hI.held))
  clear hI E hf
  go_simp
  exact hK _ _ R.out

set_option maxRecDepth 100000 in
theorem lgyb_21 {g len cap len2 cap2 len3 cap3 k id v p : Nat} {ad ad2 ad3 : Addr} {d : ByteArray} {x r : Int} {Pre Post : World → Prop} {base : Array Value} {f : Nat → Bool} {a : Act} {W : World} {K : Act → World → Prop} {Q : Exit → Act → World → Prop} {ops : Array Oper} (E : lgybEnv g len cap len2 cap2 len3 cap3 k id v p ad ad2 ad3 d x r Pre Post base) (hI : (lgybTb g len cap len2 cap2 len3 cap3 k id v p ad ad2 ad3 d x r Pre Post base).Inv (fun f W => if f 17 = true then Post W else Pre W) f a W) (hf : f 21 = false) (h0 : f 0 = true) (h1 : f 1 = true) (h2 : f 2 = true) (h3 : f 3 = true) (h4 : f 4 = true) (h5 : f 5 = true) (h6 : f 6 = true) (h7 : f 7 = true) (h8 : f 8 = true) (h9 : f 9 = true) (h10 : f 10 = true) (h11 : f 11 = true) (h12 : f 12 = true) (h13 : f 13 = true) (h14 : f 14 = true) (h15 : f 15 = true) (h16 : f 16 = true) (h17 : f 17 = true) (h18 : f 18 = true) (h19 : f 19 = true) (pos : String) (hK : ∀ a' W', (lgybTb g len cap len2 cap2 len3 cap3 k id v p ad ad2 ad3 d x r Pre Post base).Inv (fun f W => if f 17 = true then Post W else Pre W) (hit f 21) a' W' → K a' W') : if Region.wanted { dst := some 16, op := Go.Op.assign (Go.Operand.tmp 114), type := 9, pos := pos, after := #[{ on := 19, ground := Go.Ground.data }, { on := 17, ground := Go.Ground.chain }, { on := 0, ground := Go.Ground.phase }, { on := 1, ground := Go.Ground.phase }, { on := 2, ground := Go.Ground.phase }, { on := 3, ground := Go.Ground.phase }, { on := 4, ground := Go.Ground.phase }, { on := 5, ground := Go.Ground.phase }, { on := 6, ground := Go.Ground.phase }, { on := 7, ground := Go.Ground.phase }, { on := 8, ground := Go.Ground.phase }, { on := 9, ground := Go.Ground.phase }, { on := 10, ground := Go.Ground.phase }, { on := 11, ground := Go.Ground.phase }, { on := 12, ground := Go.Ground.phase }, { on := 13, ground := Go.Ground.phase }, { on := 14, ground := Go.Ground.phase }, { on := 15, ground := Go.Ground.phase }, { on := 16, ground := Go.Ground.phase }, { on := 17, ground := Go.Ground.phase }, { on := 18, ground := Go.Ground.phase }, { on := 19, ground := Go.Ground.phase }, { on := 20, ground := Go.Ground.textOnly Go.Departure.lateStores }], guard := none } (yielded ops a.tmps) = true then Oper.wp Tryd.prog { dst := some 16, op := Go.Op.assign (Go.Operand.tmp 114), type := 9, pos := pos, after := #[{ on := 19, ground := Go.Ground.data }, { on := 17, ground := Go.Ground.chain }, { on := 0, ground := Go.Ground.phase }, { on := 1, ground := Go.Ground.phase }, { on := 2, ground := Go.Ground.phase }, { on := 3, ground := Go.Ground.phase }, { on := 4, ground := Go.Ground.phase }, { on := 5, ground := Go.Ground.phase }, { on := 6, ground := Go.Ground.phase }, { on := 7, ground := Go.Ground.phase }, { on := 8, ground := Go.Ground.phase }, { on := 9, ground := Go.Ground.phase }, { on := 10, ground := Go.Ground.phase }, { on := 11, ground := Go.Ground.phase }, { on := 12, ground := Go.Ground.phase }, { on := 13, ground := Go.Ground.phase }, { on := 14, ground := Go.Ground.phase }, { on := 15, ground := Go.Ground.phase }, { on := 16, ground := Go.Ground.phase }, { on := 17, ground := Go.Ground.phase }, { on := 18, ground := Go.Ground.phase }, { on := 19, ground := Go.Ground.phase }, { on := 20, ground := Go.Ground.textOnly Go.Departure.lateStores }], guard := none } a W K Q else K (a.put (some 16) undef) W := by
  have q : a.tmps[114]?.getD undef = .string d := hI.val 19 114 rfl h19
  have R := Lib.hid (hI.step (i := 21) (d := 16) (v := .string d) rfl lgyb_nodup (show 16 < 177 by decide) rfl (show (if hit f 21 17 = true then Post W else Pre W) by rw [hit_of f 21 17 (by decide)]; exact hI.held))
  clear hI E hf
  go_simp
  exact hK _ _ R.out

set_option maxRecDepth 100000 in
theorem lgyb_22 {g len cap len2 cap2 len3 cap3 k id v p : Nat} {ad ad2 ad3 : Addr} {d : ByteArray} {x r : Int} {Pre Post : World → Prop} {base : Array Value} {f : Nat → Bool} {a : Act} {W : World} {K : Act → World → Prop} {Q : Exit → Act → World → Prop} {ops : Array Oper} (E : lgybEnv g len cap len2 cap2 len3 cap3 k id v p ad ad2 ad3 d x r Pre Post base) (hI : (lgybTb g len cap len2 cap2 len3 cap3 k id v p ad ad2 ad3 d x r Pre Post base).Inv (fun f W => if f 17 = true then Post W else Pre W) f a W) (hf : f 22 = false) (h0 : f 0 = true) (h1 : f 1 = true) (h2 : f 2 = true) (h3 : f 3 = true) (h4 : f 4 = true) (h5 : f 5 = true) (h6 : f 6 = true) (h7 : f 7 = true) (h8 : f 8 = true) (h9 : f 9 = true) (h10 : f 10 = true) (h11 : f 11 = true) (h12 : f 12 = true) (h13 : f 13 = true) (h14 : f 14 = true) (h15 : f 15 = true) (h16 : f 16 = true) (h17 : f 17 = true) (h18 : f 18 = true) (h19 : f 19 = true) (h20 : f 20 = true) (h21 : f 21 = true) (pos : String) (hK : ∀ a' W', (lgybTb g len cap len2 cap2 len3 cap3 k id v p ad ad2 ad3 d x r Pre Post base).Inv (fun f W => if f 17 = true then Post W else Pre W) (hit f 22) a' W' → K a' W') : if Region.wanted { dst := some 17, op := Go.Op.assign (Go.Operand.tmp 115), type := 27, pos := pos, after := #[{ on := 20, ground := Go.Ground.data }, { on := 21, ground := Go.Ground.chain }, { on := 0, ground := Go.Ground.phase }, { on := 1, ground := Go.Ground.phase }, { on := 2, ground := Go.Ground.phase }, { on := 3, ground := Go.Ground.phase }, { on := 4, ground := Go.Ground.phase }, { on := 5, ground := Go.Ground.phase }, { on := 6, ground := Go.Ground.phase }, { on := 7, ground := Go.Ground.phase }, { on := 8, ground := Go.Ground.phase }, { on := 9, ground := Go.Ground.phase }, { on := 10, ground := Go.Ground.phase }, { on := 11, ground := Go.Ground.phase }, { on := 12, ground := Go.Ground.phase }, { on := 13, ground := Go.Ground.phase }, { on := 14, ground := Go.Ground.phase }, { on := 15, ground := Go.Ground.phase }, { on := 16, ground := Go.Ground.phase }, { on := 17, ground := Go.Ground.phase }, { on := 18, ground := Go.Ground.phase }, { on := 19, ground := Go.Ground.phase }, { on := 20, ground := Go.Ground.phase }, { on := 21, ground := Go.Ground.phase }], guard := none } (yielded ops a.tmps) = true then Oper.wp Tryd.prog { dst := some 17, op := Go.Op.assign (Go.Operand.tmp 115), type := 27, pos := pos, after := #[{ on := 20, ground := Go.Ground.data }, { on := 21, ground := Go.Ground.chain }, { on := 0, ground := Go.Ground.phase }, { on := 1, ground := Go.Ground.phase }, { on := 2, ground := Go.Ground.phase }, { on := 3, ground := Go.Ground.phase }, { on := 4, ground := Go.Ground.phase }, { on := 5, ground := Go.Ground.phase }, { on := 6, ground := Go.Ground.phase }, { on := 7, ground := Go.Ground.phase }, { on := 8, ground := Go.Ground.phase }, { on := 9, ground := Go.Ground.phase }, { on := 10, ground := Go.Ground.phase }, { on := 11, ground := Go.Ground.phase }, { on := 12, ground := Go.Ground.phase }, { on := 13, ground := Go.Ground.phase }, { on := 14, ground := Go.Ground.phase }, { on := 15, ground := Go.Ground.phase }, { on := 16, ground := Go.Ground.phase }, { on := 17, ground := Go.Ground.phase }, { on := 18, ground := Go.Ground.phase }, { on := 19, ground := Go.Ground.phase }, { on := 20, ground := Go.Ground.phase }, { on := 21, ground := Go.Ground.phase }], guard := none } a W K Q else K (a.put (some 17) undef) W := by
  have q : a.tmps[115]?.getD undef = .int .i64 0 := hI.val 20 115 rfl h20
  have R := Lib.hid (hI.step (i := 22) (d := 17) (v := .int .i64 0) rfl lgyb_nodup (show 17 < 177 by decide) rfl (show (if hit f 22 17 = true then Post W else Pre W) by rw [hit_of f 22 17 (by decide)]; exact hI.held))
  clear hI E hf
  go_simp
  exact hK _ _ R.out

abbrev lgybOps : Array Oper := #[{ dst := some 96, op := Go.Op.move (Go.Operand.tmp 7), type := 25, pos := "outright.go:81", after := #[], guard := none }, { dst := some 97, op := Go.Op.move (Go.Operand.tmp 2), type := 23, pos := "outright.go:81", after := #[], guard := none }, { dst := some 98, op := Go.Op.move (Go.Operand.tmp 15), type := 3, pos := "outright.go:81", after := #[], guard := none }, { dst := some 99, op := Go.Op.indexAddr 23 (Go.Operand.tmp 97) (Go.Operand.tmp 98), type := 0, pos := "outright.go:81", after := #[{ on := 1, ground := Go.Ground.data }, { on := 2, ground := Go.Ground.data }], guard := none }, { dst := some 100, op := Go.Op.load 3 (Go.Operand.tmp 99), type := 3, pos := "outright.go:81", after := #[{ on := 3, ground := Go.Ground.data }], guard := none }, { dst := some 101, op := Go.Op.binOp Go.BinOp.rem 3 (Go.Operand.tmp 100) (Go.Operand.const (Go.Value.int Go.IntKind.i64 3)) 3, type := 3, pos := "outright.go:81", after := #[{ on := 4, ground := Go.Ground.data }], guard := none }, { dst := some 102, op := Go.Op.binOp Go.BinOp.add 3 (Go.Operand.tmp 101) (Go.Operand.const (Go.Value.int Go.IntKind.i64 3)) 3, type := 3, pos := "outright.go:81", after := #[{ on := 5, ground := Go.Ground.data }], guard := none }, { dst := some 103, op := Go.Op.binOp Go.BinOp.rem 3 (Go.Operand.tmp 102) (Go.Operand.const (Go.Value.int Go.IntKind.i64 3)) 3, type := 3, pos := "outright.go:81", after := #[{ on := 6, ground := Go.Ground.data }], guard := none }, { dst := some 104, op := Go.Op.move (Go.Operand.tmp 9), type := 23, pos := "outright.go:81", after := #[], guard := none }, { dst := some 105, op := Go.Op.move (Go.Operand.tmp 15), type := 3, pos := "outright.go:81", after := #[], guard := none }, { dst := some 106, op := Go.Op.indexAddr 23 (Go.Operand.tmp 104) (Go.Operand.tmp 105), type := 0, pos := "outright.go:81", after := #[{ on := 8, ground := Go.Ground.data }, { on := 9, ground := Go.Ground.data }], guard := none }, { dst := some 107, op := Go.Op.load 3 (Go.Operand.tmp 106), type := 3, pos := "outright.go:81", after := #[{ on := 10, ground := Go.Ground.data }], guard := none }, { dst := some 108, op := Go.Op.move (Go.Operand.tmp 1), type := 22, pos := "outright.go:81", after := #[], guard := none }, { dst := some 109, op := Go.Op.move (Go.Operand.tmp 15), type := 3, pos := "outright.go:81", after := #[], guard := none }, { dst := some 110, op := Go.Op.indexAddr 22 (Go.Operand.tmp 108) (Go.Operand.tmp 109), type := 0, pos := "outright.go:81", after := #[{ on := 12, ground := Go.Ground.data }, { on := 13, ground := Go.Ground.data }], guard := none }, { dst := some 111, op := Go.Op.fieldAddr 32 (Go.Operand.tmp 110) 0, type := 0, pos := "outright.go:81", after := #[{ on := 14, ground := Go.Ground.data }], guard := none }, { dst := some 112, op := Go.Op.load 30 (Go.Operand.tmp 111), type := 30, pos := "outright.go:81", after := #[{ on := 15, ground := Go.Ground.data }], guard := none }, { dst := some 113, op := Go.Op.call { callee := Go.Callee.value (Go.Operand.func 9), args := #[Go.Operand.tmp 96, Go.Operand.tmp 103, Go.Operand.tmp 107, Go.Operand.tmp 112], argTypes := #[25, 3, 3, 30] }, type := 34, pos := "outright.go:81", after := #[{ on := 0, ground := Go.Ground.data }, { on := 7, ground := Go.Ground.data }, { on := 11, ground := Go.Ground.data }, { on := 16, ground := Go.Ground.data }], guard := none }, { dst := some 95, op := Go.Op.move (Go.Operand.tmp 113), type := 34, pos := "outright.go:81", after := #[{ on := 17, ground := Go.Ground.data }], guard := none }, { dst := some 114, op := Go.Op.extract (Go.Operand.tmp 95) 0, type := 9, pos := "outright.go:81", after := #[{ on := 18, ground := Go.Ground.data }], guard := none }, { dst := some 115, op := Go.Op.extract (Go.Operand.tmp 95) 1, type := 27, pos := "outright.go:81", after := #[{ on := 18, ground := Go.Ground.data }, { on := 21, ground := Go.Ground.gcOnly Go.Departure.lateStores }], guard := none }, { dst := some 16, op := Go.Op.assign (Go.Operand.tmp 114), type := 9, pos := "outright.go:81", after := #[{ on := 19, ground := Go.Ground.data }, { on := 17, ground := Go.Ground.chain }, { on := 0, ground := Go.Ground.phase }, { on := 1, ground := Go.Ground.phase }, { on := 2, ground := Go.Ground.phase }, { on := 3, ground := Go.Ground.phase }, { on := 4, ground := Go.Ground.phase }, { on := 5, ground := Go.Ground.phase }, { on := 6, ground := Go.Ground.phase }, { on := 7, ground := Go.Ground.phase }, { on := 8, ground := Go.Ground.phase }, { on := 9, ground := Go.Ground.phase }, { on := 10, ground := Go.Ground.phase }, { on := 11, ground := Go.Ground.phase }, { on := 12, ground := Go.Ground.phase }, { on := 13, ground := Go.Ground.phase }, { on := 14, ground := Go.Ground.phase }, { on := 15, ground := Go.Ground.phase }, { on := 16, ground := Go.Ground.phase }, { on := 17, ground := Go.Ground.phase }, { on := 18, ground := Go.Ground.phase }, { on := 19, ground := Go.Ground.phase }, { on := 20, ground := Go.Ground.textOnly Go.Departure.lateStores }], guard := none }, { dst := some 17, op := Go.Op.assign (Go.Operand.tmp 115), type := 27, pos := "outright.go:81", after := #[{ on := 20, ground := Go.Ground.data }, { on := 21, ground := Go.Ground.chain }, { on := 0, ground := Go.Ground.phase }, { on := 1, ground := Go.Ground.phase }, { on := 2, ground := Go.Ground.phase }, { on := 3, ground := Go.Ground.phase }, { on := 4, ground := Go.Ground.phase }, { on := 5, ground := Go.Ground.phase }, { on := 6, ground := Go.Ground.phase }, { on := 7, ground := Go.Ground.phase }, { on := 8, ground := Go.Ground.phase }, { on := 9, ground := Go.Ground.phase }, { on := 10, ground := Go.Ground.phase }, { on := 11, ground := Go.Ground.phase }, { on := 12, ground := Go.Ground.phase }, { on := 13, ground := Go.Ground.phase }, { on := 14, ground := Go.Ground.phase }, { on := 15, ground := Go.Ground.phase }, { on := 16, ground := Go.Ground.phase }, { on := 17, ground := Go.Ground.phase }, { on := 18, ground := Go.Ground.phase }, { on := 19, ground := Go.Ground.phase }, { on := 20, ground := Go.Ground.phase }, { on := 21, ground := Go.Ground.phase }], guard := none }]
set_option maxRecDepth 100000 in
set_option maxHeartbeats 4000000 in
theorem lgyb_step {g len cap len2 cap2 len3 cap3 k id v p : Nat} {ad ad2 ad3 : Addr} {d : ByteArray} {x r : Int} {Pre Post : World → Prop} {base : Array Value} {Q : Exit → Act → World → Prop} (E : lgybEnv g len cap len2 cap2 len3 cap3 k id v p ad ad2 ad3 d x r Pre Post base) :
    ∀ f a W i o, lgybOps[i]? = some o → f i = false → (∀ e ∈ o.after, Region.binds .any e = true → f e.on = true) → (lgybTb g len cap len2 cap2 len3 cap3 k id v p ad ad2 ad3 d x r Pre Post base).Inv (fun f W => if f 17 = true then Post W else Pre W) f a W → wpOp Tryd.prog lgybOps Q i (fun a' W' => (lgybTb g len cap len2 cap2 len3 cap3 k id v p ad ad2 ad3 d x r Pre Post base).Inv (fun f W => if f 17 = true then Post W else Pre W) (hit f i) a' W') a W := by
  intro f a W i o ho hf hed hI
  have hi : i < 23 := (Array.getElem?_eq_some_iff.1 ho).1
  have hc : i = 0 ∨ i = 1 ∨ i = 2 ∨ i = 3 ∨ i = 4 ∨ i = 5 ∨ i = 6 ∨ i = 7 ∨ i = 8 ∨ i = 9 ∨ i = 10 ∨ i = 11 ∨ i = 12 ∨ i = 13 ∨ i = 14 ∨ i = 15 ∨ i = 16 ∨ i = 17 ∨ i = 18 ∨ i = 19 ∨ i = 20 ∨ i = 21 ∨ i = 22 := by omega
  rcases hc with rfl | rfl | rfl | rfl | rfl | rfl | rfl | rfl | rfl | rfl | rfl | rfl | rfl | rfl | rfl | rfl | rfl | rfl | rfl | rfl | rfl | rfl | rfl
  · cases ho
    exact wpOp_step (o := { dst := some 96, op := Go.Op.move (Go.Operand.tmp 7), type := 25, pos := "outright.go:81", after := #[], guard := none }) rfl fun K hK => lgyb_0 E hI hf "outright.go:81" (fun a' W' h => hK a' W' h)
  · cases ho
    exact wpOp_step (o := { dst := some 97, op := Go.Op.move (Go.Operand.tmp 2), type := 23, pos := "outright.go:81", after := #[], guard := none }) rfl fun K hK => lgyb_1 E hI hf "outright.go:81" (fun a' W' h => hK a' W' h)
  · cases ho
    exact wpOp_step (o := { dst := some 98, op := Go.Op.move (Go.Operand.tmp 15), type := 3, pos := "outright.go:81", after := #[], guard := none }) rfl fun K hK => lgyb_2 E hI hf "outright.go:81" (fun a' W' h => hK a' W' h)
  · cases ho
    exact wpOp_step (o := { dst := some 99, op := Go.Op.indexAddr 23 (Go.Operand.tmp 97) (Go.Operand.tmp 98), type := 0, pos := "outright.go:81", after := #[{ on := 1, ground := Go.Ground.data }, { on := 2, ground := Go.Ground.data }], guard := none }) rfl fun K hK => lgyb_3 E hI hf (hed ⟨1, Go.Ground.data⟩ (Array.mem_of_getElem? (i := 0) rfl) rfl) (hed ⟨2, Go.Ground.data⟩ (Array.mem_of_getElem? (i := 1) rfl) rfl) "outright.go:81" (fun a' W' h => hK a' W' h)
  · cases ho
    exact wpOp_step (o := { dst := some 100, op := Go.Op.load 3 (Go.Operand.tmp 99), type := 3, pos := "outright.go:81", after := #[{ on := 3, ground := Go.Ground.data }], guard := none }) rfl fun K hK => lgyb_4 E hI hf (hed ⟨3, Go.Ground.data⟩ (Array.mem_of_getElem? (i := 0) rfl) rfl) "outright.go:81" (fun a' W' h => hK a' W' h)
  · cases ho
    exact wpOp_step (o := { dst := some 101, op := Go.Op.binOp Go.BinOp.rem 3 (Go.Operand.tmp 100) (Go.Operand.const (Go.Value.int Go.IntKind.i64 3)) 3, type := 3, pos := "outright.go:81", after := #[{ on := 4, ground := Go.Ground.data }], guard := none }) rfl fun K hK => lgyb_5 E hI hf (hed ⟨4, Go.Ground.data⟩ (Array.mem_of_getElem? (i := 0) rfl) rfl) "outright.go:81" (fun a' W' h => hK a' W' h)
  · cases ho
    exact wpOp_step (o := { dst := some 102, op := Go.Op.binOp Go.BinOp.add 3 (Go.Operand.tmp 101) (Go.Operand.const (Go.Value.int Go.IntKind.i64 3)) 3, type := 3, pos := "outright.go:81", after := #[{ on := 5, ground := Go.Ground.data }], guard := none }) rfl fun K hK => lgyb_6 E hI hf (hed ⟨5, Go.Ground.data⟩ (Array.mem_of_getElem? (i := 0) rfl) rfl) "outright.go:81" (fun a' W' h => hK a' W' h)
  · cases ho
    exact wpOp_step (o := { dst := some 103, op := Go.Op.binOp Go.BinOp.rem 3 (Go.Operand.tmp 102) (Go.Operand.const (Go.Value.int Go.IntKind.i64 3)) 3, type := 3, pos := "outright.go:81", after := #[{ on := 6, ground := Go.Ground.data }], guard := none }) rfl fun K hK => lgyb_7 E hI hf (hed ⟨6, Go.Ground.data⟩ (Array.mem_of_getElem? (i := 0) rfl) rfl) "outright.go:81" (fun a' W' h => hK a' W' h)
  · cases ho
    exact wpOp_step (o := { dst := some 104, op := Go.Op.move (Go.Operand.tmp 9), type := 23, pos := "outright.go:81", after := #[], guard := none }) rfl fun K hK => lgyb_8 E hI hf "outright.go:81" (fun a' W' h => hK a' W' h)
  · cases ho
    exact wpOp_step (o := { dst := some 105, op := Go.Op.move (Go.Operand.tmp 15), type := 3, pos := "outright.go:81", after := #[], guard := none }) rfl fun K hK => lgyb_9 E hI hf "outright.go:81" (fun a' W' h => hK a' W' h)
  · cases ho
    exact wpOp_step (o := { dst := some 106, op := Go.Op.indexAddr 23 (Go.Operand.tmp 104) (Go.Operand.tmp 105), type := 0, pos := "outright.go:81", after := #[{ on := 8, ground := Go.Ground.data }, { on := 9, ground := Go.Ground.data }], guard := none }) rfl fun K hK => lgyb_10 E hI hf (hed ⟨8, Go.Ground.data⟩ (Array.mem_of_getElem? (i := 0) rfl) rfl) (hed ⟨9, Go.Ground.data⟩ (Array.mem_of_getElem? (i := 1) rfl) rfl) "outright.go:81" (fun a' W' h => hK a' W' h)
  · cases ho
    exact wpOp_step (o := { dst := some 107, op := Go.Op.load 3 (Go.Operand.tmp 106), type := 3, pos := "outright.go:81", after := #[{ on := 10, ground := Go.Ground.data }], guard := none }) rfl fun K hK => lgyb_11 E hI hf (hed ⟨10, Go.Ground.data⟩ (Array.mem_of_getElem? (i := 0) rfl) rfl) "outright.go:81" (fun a' W' h => hK a' W' h)
  · cases ho
    exact wpOp_step (o := { dst := some 108, op := Go.Op.move (Go.Operand.tmp 1), type := 22, pos := "outright.go:81", after := #[], guard := none }) rfl fun K hK => lgyb_12 E hI hf "outright.go:81" (fun a' W' h => hK a' W' h)
  · cases ho
    exact wpOp_step (o := { dst := some 109, op := Go.Op.move (Go.Operand.tmp 15), type := 3, pos := "outright.go:81", after := #[], guard := none }) rfl fun K hK => lgyb_13 E hI hf "outright.go:81" (fun a' W' h => hK a' W' h)
  · cases ho
    exact wpOp_step (o := { dst := some 110, op := Go.Op.indexAddr 22 (Go.Operand.tmp 108) (Go.Operand.tmp 109), type := 0, pos := "outright.go:81", after := #[{ on := 12, ground := Go.Ground.data }, { on := 13, ground := Go.Ground.data }], guard := none }) rfl fun K hK => lgyb_14 E hI hf (hed ⟨12, Go.Ground.data⟩ (Array.mem_of_getElem? (i := 0) rfl) rfl) (hed ⟨13, Go.Ground.data⟩ (Array.mem_of_getElem? (i := 1) rfl) rfl) "outright.go:81" (fun a' W' h => hK a' W' h)
  · cases ho
    exact wpOp_step (o := { dst := some 111, op := Go.Op.fieldAddr 32 (Go.Operand.tmp 110) 0, type := 0, pos := "outright.go:81", after := #[{ on := 14, ground := Go.Ground.data }], guard := none }) rfl fun K hK => lgyb_15 E hI hf (hed ⟨14, Go.Ground.data⟩ (Array.mem_of_getElem? (i := 0) rfl) rfl) "outright.go:81" (fun a' W' h => hK a' W' h)
  · cases ho
    exact wpOp_step (o := { dst := some 112, op := Go.Op.load 30 (Go.Operand.tmp 111), type := 30, pos := "outright.go:81", after := #[{ on := 15, ground := Go.Ground.data }], guard := none }) rfl fun K hK => lgyb_16 E hI hf (hed ⟨15, Go.Ground.data⟩ (Array.mem_of_getElem? (i := 0) rfl) rfl) "outright.go:81" (fun a' W' h => hK a' W' h)
  · cases ho
    exact wpOp_step (o := { dst := some 113, op := Go.Op.call { callee := Go.Callee.value (Go.Operand.func 9), args := #[Go.Operand.tmp 96, Go.Operand.tmp 103, Go.Operand.tmp 107, Go.Operand.tmp 112], argTypes := #[25, 3, 3, 30] }, type := 34, pos := "outright.go:81", after := #[{ on := 0, ground := Go.Ground.data }, { on := 7, ground := Go.Ground.data }, { on := 11, ground := Go.Ground.data }, { on := 16, ground := Go.Ground.data }], guard := none }) rfl fun K hK => lgyb_17 E hI hf (hed ⟨0, Go.Ground.data⟩ (Array.mem_of_getElem? (i := 0) rfl) rfl) (hed ⟨7, Go.Ground.data⟩ (Array.mem_of_getElem? (i := 1) rfl) rfl) (hed ⟨11, Go.Ground.data⟩ (Array.mem_of_getElem? (i := 2) rfl) rfl) (hed ⟨16, Go.Ground.data⟩ (Array.mem_of_getElem? (i := 3) rfl) rfl) "outright.go:81" (fun a' W' h => hK a' W' h)
  · cases ho
    exact wpOp_step (o := { dst := some 95, op := Go.Op.move (Go.Operand.tmp 113), type := 34, pos := "outright.go:81", after := #[{ on := 17, ground := Go.Ground.data }], guard := none }) rfl fun K hK => lgyb_18 E hI hf (hed ⟨17, Go.Ground.data⟩ (Array.mem_of_getElem? (i := 0) rfl) rfl) "outright.go:81" (fun a' W' h => hK a' W' h)
  · cases ho
    exact wpOp_step (o := { dst := some 114, op := Go.Op.extract (Go.Operand.tmp 95) 0, type := 9, pos := "outright.go:81", after := #[{ on := 18, ground := Go.Ground.data }], guard := none }) rfl fun K hK => lgyb_19 E hI hf (hed ⟨18, Go.Ground.data⟩ (Array.mem_of_getElem? (i := 0) rfl) rfl) "outright.go:81" (fun a' W' h => hK a' W' h)
  · cases ho
    exact wpOp_step (o := { dst := some 115, op := Go.Op.extract (Go.Operand.tmp 95) 1, type := 27, pos := "outright.go:81", after := #[{ on := 18, ground := Go.Ground.data }, { on := 21, ground := Go.Ground.gcOnly Go.Departure.lateStores }], guard := none }) rfl fun K hK => lgyb_20 E hI hf (hed ⟨18, Go.Ground.data⟩ (Array.mem_of_getElem? (i := 0) rfl) rfl) "outright.go:81" (fun a' W' h => hK a' W' h)
  · cases ho
    exact wpOp_step (o := { dst := some 16, op := Go.Op.assign (Go.Operand.tmp 114), type := 9, pos := "outright.go:81", after := #[{ on := 19, ground := Go.Ground.data }, { on := 17, ground := Go.Ground.chain }, { on := 0, ground := Go.Ground.phase }, { on := 1, ground := Go.Ground.phase }, { on := 2, ground := Go.Ground.phase }, { on := 3, ground := Go.Ground.phase }, { on := 4, ground := Go.Ground.phase }, { on := 5, ground := Go.Ground.phase }, { on := 6, ground := Go.Ground.phase }, { on := 7, ground := Go.Ground.phase }, { on := 8, ground := Go.Ground.phase }, { on := 9, ground := Go.Ground.phase }, { on := 10, ground := Go.Ground.phase }, { on := 11, ground := Go.Ground.phase }, { on := 12, ground := Go.Ground.phase }, { on := 13, ground := Go.Ground.phase }, { on := 14, ground := Go.Ground.phase }, { on := 15, ground := Go.Ground.phase }, { on := 16, ground := Go.Ground.phase }, { on := 17, ground := Go.Ground.phase }, { on := 18, ground := Go.Ground.phase }, { on := 19, ground := Go.Ground.phase }, { on := 20, ground := Go.Ground.textOnly Go.Departure.lateStores }], guard := none }) rfl fun K hK => lgyb_21 E hI hf (hed ⟨0, Go.Ground.phase⟩ (Array.mem_of_getElem? (i := 2) rfl) rfl) (hed ⟨1, Go.Ground.phase⟩ (Array.mem_of_getElem? (i := 3) rfl) rfl) (hed ⟨2, Go.Ground.phase⟩ (Array.mem_of_getElem? (i := 4) rfl) rfl) (hed ⟨3, Go.Ground.phase⟩ (Array.mem_of_getElem? (i := 5) rfl) rfl) (hed ⟨4, Go.Ground.phase⟩ (Array.mem_of_getElem? (i := 6) rfl) rfl) (hed ⟨5, Go.Ground.phase⟩ (Array.mem_of_getElem? (i := 7) rfl) rfl) (hed ⟨6, Go.Ground.phase⟩ (Array.mem_of_getElem? (i := 8) rfl) rfl) (hed ⟨7, Go.Ground.phase⟩ (Array.mem_of_getElem? (i := 9) rfl) rfl) (hed ⟨8, Go.Ground.phase⟩ (Array.mem_of_getElem? (i := 10) rfl) rfl) (hed ⟨9, Go.Ground.phase⟩ (Array.mem_of_getElem? (i := 11) rfl) rfl) (hed ⟨10, Go.Ground.phase⟩ (Array.mem_of_getElem? (i := 12) rfl) rfl) (hed ⟨11, Go.Ground.phase⟩ (Array.mem_of_getElem? (i := 13) rfl) rfl) (hed ⟨12, Go.Ground.phase⟩ (Array.mem_of_getElem? (i := 14) rfl) rfl) (hed ⟨13, Go.Ground.phase⟩ (Array.mem_of_getElem? (i := 15) rfl) rfl) (hed ⟨14, Go.Ground.phase⟩ (Array.mem_of_getElem? (i := 16) rfl) rfl) (hed ⟨15, Go.Ground.phase⟩ (Array.mem_of_getElem? (i := 17) rfl) rfl) (hed ⟨16, Go.Ground.phase⟩ (Array.mem_of_getElem? (i := 18) rfl) rfl) (hed ⟨17, Go.Ground.chain⟩ (Array.mem_of_getElem? (i := 1) rfl) rfl) (hed ⟨18, Go.Ground.phase⟩ (Array.mem_of_getElem? (i := 20) rfl) rfl) (hed ⟨19, Go.Ground.data⟩ (Array.mem_of_getElem? (i := 0) rfl) rfl) "outright.go:81" (fun a' W' h => hK a' W' h)
  · cases ho
    exact wpOp_step (o := { dst := some 17, op := Go.Op.assign (Go.Operand.tmp 115), type := 27, pos := "outright.go:81", after := #[{ on := 20, ground := Go.Ground.data }, { on := 21, ground := Go.Ground.chain }, { on := 0, ground := Go.Ground.phase }, { on := 1, ground := Go.Ground.phase }, { on := 2, ground := Go.Ground.phase }, { on := 3, ground := Go.Ground.phase }, { on := 4, ground := Go.Ground.phase }, { on := 5, ground := Go.Ground.phase }, { on := 6, ground := Go.Ground.phase }, { on := 7, ground := Go.Ground.phase }, { on := 8, ground := Go.Ground.phase }, { on := 9, ground := Go.Ground.phase }, { on := 10, ground := Go.Ground.phase }, { on := 11, ground := Go.Ground.phase }, { on := 12, ground := Go.Ground.phase }, { on := 13, ground := Go.Ground.phase }, { on := 14, ground := Go.Ground.phase }, { on := 15, ground := Go.Ground.phase }, { on := 16, ground := Go.Ground.phase }, { on := 17, ground := Go.Ground.phase }, { on := 18, ground := Go.Ground.phase }, { on := 19, ground := Go.Ground.phase }, { on := 20, ground := Go.Ground.phase }, { on := 21, ground := Go.Ground.phase }], guard := none }) rfl fun K hK => lgyb_22 E hI hf (hed ⟨0, Go.Ground.phase⟩ (Array.mem_of_getElem? (i := 2) rfl) rfl) (hed ⟨1, Go.Ground.phase⟩ (Array.mem_of_getElem? (i := 3) rfl) rfl) (hed ⟨2, Go.Ground.phase⟩ (Array.mem_of_getElem? (i := 4) rfl) rfl) (hed ⟨3, Go.Ground.phase⟩ (Array.mem_of_getElem? (i := 5) rfl) rfl) (hed ⟨4, Go.Ground.phase⟩ (Array.mem_of_getElem? (i := 6) rfl) rfl) (hed ⟨5, Go.Ground.phase⟩ (Array.mem_of_getElem? (i := 7) rfl) rfl) (hed ⟨6, Go.Ground.phase⟩ (Array.mem_of_getElem? (i := 8) rfl) rfl) (hed ⟨7, Go.Ground.phase⟩ (Array.mem_of_getElem? (i := 9) rfl) rfl) (hed ⟨8, Go.Ground.phase⟩ (Array.mem_of_getElem? (i := 10) rfl) rfl) (hed ⟨9, Go.Ground.phase⟩ (Array.mem_of_getElem? (i := 11) rfl) rfl) (hed ⟨10, Go.Ground.phase⟩ (Array.mem_of_getElem? (i := 12) rfl) rfl) (hed ⟨11, Go.Ground.phase⟩ (Array.mem_of_getElem? (i := 13) rfl) rfl) (hed ⟨12, Go.Ground.phase⟩ (Array.mem_of_getElem? (i := 14) rfl) rfl) (hed ⟨13, Go.Ground.phase⟩ (Array.mem_of_getElem? (i := 15) rfl) rfl) (hed ⟨14, Go.Ground.phase⟩ (Array.mem_of_getElem? (i := 16) rfl) rfl) (hed ⟨15, Go.Ground.phase⟩ (Array.mem_of_getElem? (i := 17) rfl) rfl) (hed ⟨16, Go.Ground.phase⟩ (Array.mem_of_getElem? (i := 18) rfl) rfl) (hed ⟨17, Go.Ground.phase⟩ (Array.mem_of_getElem? (i := 19) rfl) rfl) (hed ⟨18, Go.Ground.phase⟩ (Array.mem_of_getElem? (i := 20) rfl) rfl) (hed ⟨19, Go.Ground.phase⟩ (Array.mem_of_getElem? (i := 21) rfl) rfl) (hed ⟨20, Go.Ground.data⟩ (Array.mem_of_getElem? (i := 0) rfl) rfl) (hed ⟨21, Go.Ground.chain⟩ (Array.mem_of_getElem? (i := 1) rfl) rfl) "outright.go:81" (fun a' W' h => hK a' W' h)

/-- THE REGION -/
theorem lgyb_region {g len cap len2 cap2 len3 cap3 k id v p : Nat} {ad ad2 ad3 : Addr} {d : ByteArray} {x r : Int} {Pre Post : World → Prop} {tm : Array Value} {Q : Exit → Act → World → Prop} {w : World} (hsz : tm.size = 177) (E : lgybEnv g len cap len2 cap2 len3 cap3 k id v p ad ad2 ad3 d x r Pre Post tm) (hT : Pre w.drew)
    (hend : ∀ W, Post W → Q .normal ⟨(((((((((((((((((((((((tm.setIfInBounds 96 (.pointer (some ⟨g, 0, none⟩))).setIfInBounds 97 (.slice (some ad2) len2 cap2)).setIfInBounds 98 (.int .i64 (k : Int))).setIfInBounds 99 (.pointer (some (ad2.add k)))).setIfInBounds 100 (.int .i64 x)).setIfInBounds 101 (.int .i64 r)).setIfInBounds 102 (.int .i64 (r + 3))).setIfInBounds 103 (.int .i64 (v : Int))).setIfInBounds 104 (.slice (some ad3) len3 cap3)).setIfInBounds 105 (.int .i64 (k : Int))).setIfInBounds 106 (.pointer (some (ad3.add k)))).setIfInBounds 107 (.int .i64 (p : Int))).setIfInBounds 108 (.slice (some ad) len cap)).setIfInBounds 109 (.int .i64 (k : Int))).setIfInBounds 110 (.pointer (some (ad.add (k * 3))))).setIfInBounds 111 (.pointer (some (ad.add (k * 3))))).setIfInBounds 112 (.int .u64 (id : Int))).setIfInBounds 113 (.tuple #[.string d, .int .i64 0])).setIfInBounds 95 (.tuple #[.string d, .int .i64 0])).setIfInBounds 114 (.string d)).setIfInBounds 115 (.int .i64 0)).setIfInBounds 16 (.string d)).setIfInBounds 17 (.int .i64 0)), []⟩ W) : (Code.region 19 lgybOps true).wp Tryd.prog Q ⟨tm, []⟩ w := by
  refine wp_region_inv (by kernel_rfl) (by kernel_rfl) ((lgybTb g len cap len2 cap2 len3 cap3 k id v p ad ad2 ad3 d x r Pre Post tm).Inv (fun f W => if f 17 = true then Post W else Pre W)) ⟨hsz, rfl, fun s _ => rfl, fun i d _ hf => (by cases hf), hT⟩ (lgyb_step E) ?_
  intro f a W hall hI
  have ha := hI.fin hall hsz lgyb_nodup rfl
  rw [ha]
  exact hend W (by have := hI.held; rwa [if_pos (hall 17 (by decide))] at this)
end Go.Proofs.YtniecodpdmjppaaDoor

/- LibraryBlobs: region 20: it is what was written. Written by gen_rf.py. -/
namespace Go.Proofs.YtniecodpdmjppaaDoor
open Go.RowKit
open Sm
set_option linter.unusedVariables false
set_option linter.unusedSimpArgs false

def lgycTb (len cap k id : Nat) (ad : Addr) (s d : ByteArray) (n : Int) (Pre : World → Prop) (base : Array Value) : Tf where
  slots := [116, 117, 118, 119, 120, 121, 122, 123, 124, 125, 126, 127, 128, 129, 130, 131, 132]
  size := 177
  base := base
  val := fun
    | 0 => .int .i64 0
    | 1 => .bool false
    | 2 => .bool false
    | 3 => .string d
    | 4 => .slice (some ad) len cap
    | 5 => .int .i64 (k : Int)
    | 6 => .pointer (some (ad.add (k * 3)))
    | 7 => .pointer (some ⟨(ad.add (k * 3)).block, (ad.add (k * 3)).off + 1, none⟩)
    | 8 => .string s
    | 9 => .slice (some ad) len cap
    | 10 => .int .i64 (k : Int)
    | 11 => .pointer (some (ad.add (k * 3)))
    | 12 => .pointer (some ⟨(ad.add (k * 3)).block, (ad.add (k * 3)).off + 2, none⟩)
    | 13 => .int .i64 n
    | 14 => .string d
    | 15 => .bool false
    | 16 => .bool false
    | _ => undef

structure lgycEnv (len cap k id : Nat) (ad : Addr) (s d : ByteArray) (n : Int) (Pre : World → Prop) (base : Array Value) : Prop where
  b17 : base[17]?.getD undef = .int .i64 0
  b16 : base[16]?.getD undef = .string d
  b1 : base[1]?.getD undef = .slice (some ad) len cap
  b15 : base[15]?.getD undef = .int .i64 (k : Int)
  kk : k < len
  c : ∀ W, Pre W ∨ Pre W → W.cell? (ad.add (k * 3)) = some (.int .u64 (id : Int)) ∧ W.cell? ⟨(ad.add (k * 3)).block, (ad.add (k * 3)).off + 1, none⟩ = some (.string s) ∧ W.cell? ⟨(ad.add (k * 3)).block, (ad.add (k * 3)).off + 2, none⟩ = some (.int .i64 n)
  lo : ∀ W, Calls Tryd.prog 8 #[.string s, .int .i64 n] W fun e w' => e = .returned (.string d) ∧ W = w'

theorem lgyc_nodup : [116, 117, 118, 119, 120, 121, 122, 123, 124, 125, 126, 127, 128, 129, 130, 131, 132].Nodup := by decide
set_option maxRecDepth 100000 in
theorem lgyc_0 {len cap k id : Nat} {ad : Addr} {s d : ByteArray} {n : Int} {Pre : World → Prop} {base : Array Value} {f : Nat → Bool} {a : Act} {W : World} {K : Act → World → Prop} {Q : Exit → Act → World → Prop} {ops : Array Oper} (E : lgycEnv len cap k id ad s d n Pre base) (hI : (lgycTb len cap k id ad s d n Pre base).Inv (fun f W => Pre W) f a W) (hf : f 0 = false) (pos : String) (hK : ∀ a' W', (lgycTb len cap k id ad s d n Pre base).Inv (fun f W => Pre W) (hit f 0) a' W' → K a' W') : if Region.wanted { dst := some 116, op := Go.Op.move (Go.Operand.tmp 17), type := 27, pos := pos, after := #[], guard := none } (yielded ops a.tmps) = true then Oper.wp Tryd.prog { dst := some 116, op := Go.Op.move (Go.Operand.tmp 17), type := 27, pos := pos, after := #[], guard := none } a W K Q else K (a.put (some 116) undef) W := by
  have q : a.tmps[17]?.getD undef = .int .i64 0 := (hI.base 17 rfl).trans E.b17
  have R := Lib.hid (hI.step (i := 0) (d := 116) (v := .int .i64 0) rfl lgyc_nodup (show 116 < 177 by decide) rfl hI.held)
  clear hI E hf
  go_simp
  exact hK _ _ R.out

set_option maxRecDepth 100000 in
theorem lgyc_1 {len cap k id : Nat} {ad : Addr} {s d : ByteArray} {n : Int} {Pre : World → Prop} {base : Array Value} {f : Nat → Bool} {a : Act} {W : World} {K : Act → World → Prop} {Q : Exit → Act → World → Prop} {ops : Array Oper} (E : lgycEnv len cap k id ad s d n Pre base) (hI : (lgycTb len cap k id ad s d n Pre base).Inv (fun f W => Pre W) f a W) (hf : f 1 = false) (h0 : f 0 = true) (pos : String) (hK : ∀ a' W', (lgycTb len cap k id ad s d n Pre base).Inv (fun f W => Pre W) (hit f 1) a' W' → K a' W') : if Region.wanted { dst := some 117, op := Go.Op.binOp Go.BinOp.neq 27 (Go.Operand.tmp 116) (Go.Operand.const (Go.Value.int Go.IntKind.i64 0)) 27, type := 4, pos := pos, after := #[{ on := 0, ground := Go.Ground.data }], guard := none } (yielded ops a.tmps) = true then Oper.wp Tryd.prog { dst := some 117, op := Go.Op.binOp Go.BinOp.neq 27 (Go.Operand.tmp 116) (Go.Operand.const (Go.Value.int Go.IntKind.i64 0)) 27, type := 4, pos := pos, after := #[{ on := 0, ground := Go.Ground.data }], guard := none } a W K Q else K (a.put (some 117) undef) W := by
  have y0 : a.tmps[116]?.getD undef = .int .i64 0 := hI.val 0 116 rfl h0
  have R := Lib.hid (hI.step (i := 1) (d := 117) (v := .bool false) rfl lgyc_nodup (show 117 < 177 by decide) rfl hI.held)
  clear hI E hf
  go_simp
  exact hK _ _ R.out

set_option maxRecDepth 100000 in
theorem lgyc_2 {len cap k id : Nat} {ad : Addr} {s d : ByteArray} {n : Int} {Pre : World → Prop} {base : Array Value} {f : Nat → Bool} {a : Act} {W : World} {K : Act → World → Prop} {Q : Exit → Act → World → Prop} {ops : Array Oper} (E : lgycEnv len cap k id ad s d n Pre base) (hI : (lgycTb len cap k id ad s d n Pre base).Inv (fun f W => Pre W) f a W) (hf : f 2 = false) (h1 : f 1 = true) (pos : String) (hK : ∀ a' W', (lgycTb len cap k id ad s d n Pre base).Inv (fun f W => Pre W) (hit f 2) a' W' → K a' W') : if Region.wanted { dst := some 118, op := Go.Op.move (Go.Operand.tmp 117), type := 4, pos := pos, after := #[{ on := 1, ground := Go.Ground.data }], guard := none } (yielded ops a.tmps) = true then Oper.wp Tryd.prog { dst := some 118, op := Go.Op.move (Go.Operand.tmp 117), type := 4, pos := pos, after := #[{ on := 1, ground := Go.Ground.data }], guard := none } a W K Q else K (a.put (some 118) undef) W := by
  have q : a.tmps[117]?.getD undef = .bool false := hI.val 1 117 rfl h1
  have R := Lib.hid (hI.step (i := 2) (d := 118) (v := .bool false) rfl lgyc_nodup (show 118 < 177 by decide) rfl hI.held)
  clear hI E hf
  go_simp
  exact hK _ _ R.out

set_option maxRecDepth 100000 in
theorem lgyc_3 {len cap k id : Nat} {ad : Addr} {s d : ByteArray} {n : Int} {Pre : World → Prop} {base : Array Value} {f : Nat → Bool} {a : Act} {W : World} {K : Act → World → Prop} {Q : Exit → Act → World → Prop} {ops : Array Oper} (E : lgycEnv len cap k id ad s d n Pre base) (hI : (lgycTb len cap k id ad s d n Pre base).Inv (fun f W => Pre W) f a W) (hf : f 3 = false) (h2 : f 2 = true) (hgd : (ops[2]?).bind (·.dst) = some 118) (pos : String) (hK : ∀ a' W', (lgycTb len cap k id ad s d n Pre base).Inv (fun f W => Pre W) (hit f 3) a' W' → K a' W') : if Region.wanted { dst := some 119, op := Go.Op.move (Go.Operand.tmp 16), type := 9, pos := pos, after := #[{ on := 2, ground := Go.Ground.guard }], guard := some (2, false) } (yielded ops a.tmps) = true then Oper.wp Tryd.prog { dst := some 119, op := Go.Op.move (Go.Operand.tmp 16), type := 9, pos := pos, after := #[{ on := 2, ground := Go.Ground.guard }], guard := some (2, false) } a W K Q else K (a.put (some 119) undef) W := by
  have hy : yielded ops a.tmps 2 = some false := yielded_of hgd (by rw [hI.size]; show 118 < 177; decide) (hI.val 2 118 rfl h2)
  have hw : Region.wanted { dst := some 119, op := Go.Op.move (Go.Operand.tmp 16), type := 9, pos := pos, after := #[{ on := 2, ground := Go.Ground.guard }], guard := some (2, false) } (yielded ops a.tmps) = true := by
    show (yielded ops a.tmps 2 == some false) = true
    rw [hy]
    rfl
  rw [if_pos hw]
  clear hw hy
  have q : a.tmps[16]?.getD undef = .string d := (hI.base 16 rfl).trans E.b16
  have R := Lib.hid (hI.step (i := 3) (d := 119) (v := .string d) rfl lgyc_nodup (show 119 < 177 by decide) rfl hI.held)
  clear hI E hf
  go_simp
  exact hK _ _ R.out

set_option maxRecDepth 100000 in
theorem lgyc_4 {len cap k id : Nat} {ad : Addr} {s d : ByteArray} {n : Int} {Pre : World → Prop} {base : Array Value} {f : Nat → Bool} {a : Act} {W : World} {K : Act → World → Prop} {Q : Exit → Act → World → Prop} {ops : Array Oper} (E : lgycEnv len cap k id ad s d n Pre base) (hI : (lgycTb len cap k id ad s d n Pre base).Inv (fun f W => Pre W) f a W) (hf : f 4 = false) (h2 : f 2 = true) (hgd : (ops[2]?).bind (·.dst) = some 118) (pos : String) (hK : ∀ a' W', (lgycTb len cap k id ad s d n Pre base).Inv (fun f W => Pre W) (hit f 4) a' W' → K a' W') : if Region.wanted { dst := some 120, op := Go.Op.move (Go.Operand.tmp 1), type := 22, pos := pos, after := #[{ on := 2, ground := Go.Ground.guard }], guard := some (2, false) } (yielded ops a.tmps) = true then Oper.wp Tryd.prog { dst := some 120, op := Go.Op.move (Go.Operand.tmp 1), type := 22, pos := pos, after := #[{ on := 2, ground := Go.Ground.guard }], guard := some (2, false) } a W K Q else K (a.put (some 120) undef) W := by
  have hy : yielded ops a.tmps 2 = some false := yielded_of hgd (by rw [hI.size]; show 118 < 177; decide) (hI.val 2 118 rfl h2)
  have hw : Region.wanted { dst := some 120, op := Go.Op.move (Go.Operand.tmp 1), type := 22, pos := pos, after := #[{ on := 2, ground := Go.Ground.guard }], guard := some (2, false) } (yielded ops a.tmps) = true := by
    show (yielded ops a.tmps 2 == some false) = true
    rw [hy]
    rfl
  rw [if_pos hw]
  clear hw hy
  have q : a.tmps[1]?.getD undef = .slice (some ad) len cap := (hI.base 1 rfl).trans E.b1
  have R := Lib.hid (hI.step (i := 4) (d := 120) (v := .slice (some ad) len cap) rfl lgyc_nodup (show 120 < 177 by decide) rfl hI.held)
  clear hI E hf
  go_simp
  exact hK _ _ R.out

set_option maxRecDepth 100000 in
theorem lgyc_5 {len cap k id : Nat} {ad : Addr} {s d : ByteArray} {n : Int} {Pre : World → Prop} {base : Array Value} {f : Nat → Bool} {a : Act} {W : World} {K : Act → World → Prop} {Q : Exit → Act → World → Prop} {ops : Array Oper} (E : lgycEnv len cap k id ad s d n Pre base) (hI : (lgycTb len cap k id ad s d n Pre base).Inv (fun f W => Pre W) f a W) (hf : f 5 = false) (h2 : f 2 = true) (hgd : (ops[2]?).bind (·.dst) = some 118) (pos : String) (hK : ∀ a' W', (lgycTb len cap k id ad s d n Pre base).Inv (fun f W => Pre W) (hit f 5) a' W' → K a' W') : if Region.wanted { dst := some 121, op := Go.Op.move (Go.Operand.tmp 15), type := 3, pos := pos, after := #[{ on := 2, ground := Go.Ground.guard }], guard := some (2, false) } (yielded ops a.tmps) = true then Oper.wp Tryd.prog { dst := some 121, op := Go.Op.move (Go.Operand.tmp 15), type := 3, pos := pos, after := #[{ on := 2, ground := Go.Ground.guard }], guard := some (2, false) } a W K Q else K (a.put (some 121) undef) W := by
  have hy : yielded ops a.tmps 2 = some false := yielded_of hgd (by rw [hI.size]; show 118 < 177; decide) (hI.val 2 118 rfl h2)
  have hw : Region.wanted { dst := some 121, op := Go.Op.move (Go.Operand.tmp 15), type := 3, pos := pos, after := #[{ on := 2, ground := Go.Ground.guard }], guard := some (2, false) } (yielded ops a.tmps) = true := by
    show (yielded ops a.tmps 2 == some false) = true
    rw [hy]
    rfl
  rw [if_pos hw]
  clear hw hy
  have q : a.tmps[15]?.getD undef = .int .i64 (k : Int) := (hI.base 15 rfl).trans E.b15
  have R := Lib.hid (hI.step (i := 5) (d := 121) (v := .int .i64 (k : Int)) rfl lgyc_nodup (show 121 < 177 by decide) rfl hI.held)
  clear hI E hf
  go_simp
  exact hK _ _ R.out

set_option maxRecDepth 100000 in
theorem lgyc_6 {len cap k id : Nat} {ad : Addr} {s d : ByteArray} {n : Int} {Pre : World → Prop} {base : Array Value} {f : Nat → Bool} {a : Act} {W : World} {K : Act → World → Prop} {Q : Exit → Act → World → Prop} {ops : Array Oper} (E : lgycEnv len cap k id ad s d n Pre base) (hI : (lgycTb len cap k id ad s d n Pre base).Inv (fun f W => Pre W) f a W) (hf : f 6 = false) (h2 : f 2 = true) (h4 : f 4 = true) (h5 : f 5 = true) (hgd : (ops[2]?).bind (·.dst) = some 118) (pos : String) (hK : ∀ a' W', (lgycTb len cap k id ad s d n Pre base).Inv (fun f W => Pre W) (hit f 6) a' W' → K a' W') : if Region.wanted { dst := some 122, op := Go.Op.indexAddr 22 (Go.Operand.tmp 120) (Go.Operand.tmp 121), type := 0, pos := pos, after := #[{ on := 4, ground := Go.Ground.data }, { on := 5, ground := Go.Ground.data }, { on := 2, ground := Go.Ground.guard }], guard := some (2, false) } (yielded ops a.tmps) = true then Oper.wp Tryd.prog { dst := some 122, op := Go.Op.indexAddr 22 (Go.Operand.tmp 120) (Go.Operand.tmp 121), type := 0, pos := pos, after := #[{ on := 4, ground := Go.Ground.data }, { on := 5, ground := Go.Ground.data }, { on := 2, ground := Go.Ground.guard }], guard := some (2, false) } a W K Q else K (a.put (some 122) undef) W := by
  have hy : yielded ops a.tmps 2 = some false := yielded_of hgd (by rw [hI.size]; show 118 < 177; decide) (hI.val 2 118 rfl h2)
  have hw : Region.wanted { dst := some 122, op := Go.Op.indexAddr 22 (Go.Operand.tmp 120) (Go.Operand.tmp 121), type := 0, pos := pos, after := #[{ on := 4, ground := Go.Ground.data }, { on := 5, ground := Go.Ground.data }, { on := 2, ground := Go.Ground.guard }], guard := some (2, false) } (yielded ops a.tmps) = true := by
    show (yielded ops a.tmps 2 == some false) = true
    rw [hy]
    rfl
  rw [if_pos hw]
  clear hw hy
  have y0 : a.tmps[120]?.getD undef = .slice (some ad) len cap := hI.val 4 120 rfl h4
  have y1 : a.tmps[121]?.getD undef = .int .i64 (k : Int) := hI.val 5 121 rfl h5
  have hk := E.kk
  have i0 : (0 : Int) ≤ (k : Int) := by omega
  have i1 : (k : Int) < (len : Int) := by omega
  have R := Lib.hid (hI.step (i := 6) (d := 122) (v := .pointer (some (ad.add (k * 3)))) rfl lgyc_nodup (show 122 < 177 by decide) rfl hI.held)
  clear hI E hf
  go_simp
  exact hK _ _ R.out

set_option maxRecDepth 100000 in
theorem lgyc_7 {len cap k id : Nat} {ad : Addr} {s d : ByteArray} {n : Int} {Pre : World → Prop} {base : Array Value} {f : Nat → Bool} {a : Act} {W : World} {K : Act → World → Prop} {Q : Exit → Act → World → Prop} {ops : Array Oper} (E : lgycEnv len cap k id ad s d n Pre base) (hI : (lgycTb len cap k id ad s d n Pre base).Inv (fun f W => Pre W) f a W) (hf : f 7 = false) (h2 : f 2 = true) (h6 : f 6 = true) (hgd : (ops[2]?).bind (·.dst) = some 118) (pos : String) (hK : ∀ a' W', (lgycTb len cap k id ad s d n Pre base).Inv (fun f W => Pre W) (hit f 7) a' W' → K a' W') : if Region.wanted { dst := some 123, op := Go.Op.fieldAddr 32 (Go.Operand.tmp 122) 1, type := 0, pos := pos, after := #[{ on := 6, ground := Go.Ground.data }, { on := 2, ground := Go.Ground.guard }], guard := some (2, false) } (yielded ops a.tmps) = true then Oper.wp Tryd.prog { dst := some 123, op := Go.Op.fieldAddr 32 (Go.Operand.tmp 122) 1, type := 0, pos := pos, after := #[{ on := 6, ground := Go.Ground.data }, { on := 2, ground := Go.Ground.guard }], guard := some (2, false) } a W K Q else K (a.put (some 123) undef) W := by
  have hy : yielded ops a.tmps 2 = some false := yielded_of hgd (by rw [hI.size]; show 118 < 177; decide) (hI.val 2 118 rfl h2)
  have hw : Region.wanted { dst := some 123, op := Go.Op.fieldAddr 32 (Go.Operand.tmp 122) 1, type := 0, pos := pos, after := #[{ on := 6, ground := Go.Ground.data }, { on := 2, ground := Go.Ground.guard }], guard := some (2, false) } (yielded ops a.tmps) = true := by
    show (yielded ops a.tmps 2 == some false) = true
    rw [hy]
    rfl
  rw [if_pos hw]
  clear hw hy
  have q : a.tmps[122]?.getD undef = .pointer (some (ad.add (k * 3))) := hI.val 6 122 rfl h6
  have R := Lib.hid (hI.step (i := 7) (d := 123) (v := .pointer (some ⟨(ad.add (k * 3)).block, (ad.add (k * 3)).off + 1, none⟩)) rfl lgyc_nodup (show 123 < 177 by decide) rfl hI.held)
  clear hI E hf
  go_simp
  exact hK _ _ R.out

set_option maxRecDepth 100000 in
theorem lgyc_8 {len cap k id : Nat} {ad : Addr} {s d : ByteArray} {n : Int} {Pre : World → Prop} {base : Array Value} {f : Nat → Bool} {a : Act} {W : World} {K : Act → World → Prop} {Q : Exit → Act → World → Prop} {ops : Array Oper} (E : lgycEnv len cap k id ad s d n Pre base) (hI : (lgycTb len cap k id ad s d n Pre base).Inv (fun f W => Pre W) f a W) (hf : f 8 = false) (h2 : f 2 = true) (h7 : f 7 = true) (hgd : (ops[2]?).bind (·.dst) = some 118) (pos : String) (hK : ∀ a' W', (lgycTb len cap k id ad s d n Pre base).Inv (fun f W => Pre W) (hit f 8) a' W' → K a' W') : if Region.wanted { dst := some 124, op := Go.Op.load 9 (Go.Operand.tmp 123), type := 9, pos := pos, after := #[{ on := 7, ground := Go.Ground.data }, { on := 2, ground := Go.Ground.guard }], guard := some (2, false) } (yielded ops a.tmps) = true then Oper.wp Tryd.prog { dst := some 124, op := Go.Op.load 9 (Go.Operand.tmp 123), type := 9, pos := pos, after := #[{ on := 7, ground := Go.Ground.data }, { on := 2, ground := Go.Ground.guard }], guard := some (2, false) } a W K Q else K (a.put (some 124) undef) W := by
  have hy : yielded ops a.tmps 2 = some false := yielded_of hgd (by rw [hI.size]; show 118 < 177; decide) (hI.val 2 118 rfl h2)
  have hw : Region.wanted { dst := some 124, op := Go.Op.load 9 (Go.Operand.tmp 123), type := 9, pos := pos, after := #[{ on := 7, ground := Go.Ground.data }, { on := 2, ground := Go.Ground.guard }], guard := some (2, false) } (yielded ops a.tmps) = true := by
    show (yielded ops a.tmps 2 == some false) = true
    rw [hy]
    rfl
  rw [if_pos hw]
  clear hw hy
  have q : a.tmps[123]?.getD undef = .pointer (some ⟨(ad.add (k * 3)).block, (ad.add (k * 3)).off + 1, none⟩) := hI.val 7 123 rfl h7
  have c : W.cell? ⟨(ad.add (k * 3)).block, (ad.add (k * 3)).off + 1, none⟩ = some (.string s) := (E.c W (.inl hI.held)).2.1
  have R := Lib.hid (hI.step (i := 8) (d := 124) (v := .string s) rfl lgyc_nodup (show 124 < 177 by decide) rfl hI.held)
  clear hI E hf
  go_simp
  exact hK _ _ R.out

set_option maxRecDepth 100000 in
theorem lgyc_9 {len cap k id : Nat} {ad : Addr} {s d : ByteArray} {n : Int} {Pre : World → Prop} {base : Array Value} {f : Nat → Bool} {a : Act} {W : World} {K : Act → World → Prop} {Q : Exit → Act → World → Prop} {ops : Array Oper} (E : lgycEnv len cap k id ad s d n Pre base) (hI : (lgycTb len cap k id ad s d n Pre base).Inv (fun f W => Pre W) f a W) (hf : f 9 = false) (h2 : f 2 = true) (hgd : (ops[2]?).bind (·.dst) = some 118) (pos : String) (hK : ∀ a' W', (lgycTb len cap k id ad s d n Pre base).Inv (fun f W => Pre W) (hit f 9) a' W' → K a' W') : if Region.wanted { dst := some 125, op := Go.Op.move (Go.Operand.tmp 1), type := 22, pos := pos, after := #[{ on := 2, ground := Go.Ground.guard }], guard := some (2, false) } (yielded ops a.tmps) = true then Oper.wp Tryd.prog { dst := some 125, op := Go.Op.move (Go.Operand.tmp 1), type := 22, pos := pos, after := #[{ on := 2, ground := Go.Ground.guard }], guard := some (2, false) } a W K Q else K (a.put (some 125) undef) W := by
  have hy : yielded ops a.tmps 2 = some false := yielded_of hgd (by rw [hI.size]; show 118 < 177; decide) (hI.val 2 118 rfl h2)
  have hw : Region.wanted { dst := some 125, op := Go.Op.move (Go.Operand.tmp 1), type := 22, pos := pos, after := #[{ on := 2, ground := Go.Ground.guard }], guard := some (2, false) } (yielded ops a.tmps) = true := by
    show (yielded ops a.tmps 2 == some false) = true
    rw [hy]
    rfl
  rw [if_pos hw]
  clear hw hy
  have q : a.tmps[1]?.getD undef = .slice (some ad) len cap := (hI.base 1 rfl).trans E.b1
  have R := Lib.hid (hI.step (i := 9) (d := 125) (v := .slice (some ad) len cap) rfl lgyc_nodup (show 125 < 177 by decide) rfl hI.held)
  clear hI E hf
  go_simp
  exact hK _ _ R.out

set_option maxRecDepth 100000 in
theorem lgyc_10 {len cap k id : Nat} {ad : Addr} {s d : ByteArray} {n : Int} {Pre : World → Prop} {base : Array Value} {f : Nat → Bool} {a : Act} {W : World} {K : Act → World → Prop} {Q : Exit → Act → World → Prop} {ops : Array Oper} (E : lgycEnv len cap k id ad s d n Pre base) (hI : (lgycTb len cap k id ad s d n Pre base).Inv (fun f W => Pre W) f a W) (hf : f 10 = false) (h2 : f 2 = true) (hgd : (ops[2]?).bind (·.dst) = some 118) (pos : String) (hK : ∀ a' W', (lgycTb len cap k id ad s d n Pre base).Inv (fun f W => Pre W) (hit f 10) a' W' → K a' W') : if Region.wanted { dst := some 126, op := Go.Op.move (Go.Operand.tmp 15), type := 3, pos := pos, after := #[{ on := 2, ground := Go.Ground.guard }], guard := some (2, false) } (yielded ops a.tmps) = true then Oper.wp Tryd.prog { dst := some 126, op := Go.Op.move (Go.Operand.tmp 15), type := 3, pos := pos, after := #[{ on := 2, ground := Go.Ground.guard }], guard := some (2, false) } a W K Q else K (a.put (some 126) undef) W := by
  have hy : yielded ops a.tmps 2 = some false := yielded_of hgd (by rw [hI.size]; show 118 < 177; decide) (hI.val 2 118 rfl h2)
  have hw : Region.wanted { dst := some 126, op := Go.Op.move (Go.Operand.tmp 15), type := 3, pos := pos, after := #[{ on := 2, ground := Go.Ground.guard }], guard := some (2, false) } (yielded ops a.tmps) = true := by
    show (yielded ops a.tmps 2 == some false) = true
    rw [hy]
    rfl
  rw [if_pos hw]
  clear hw hy
  have q : a.tmps[15]?.getD undef = .int .i64 (k : Int) := (hI.base 15 rfl).trans E.b15
  have R := Lib.hid (hI.step (i := 10) (d := 126) (v := .int .i64 (k : Int)) rfl lgyc_nodup (show 126 < 177 by decide) rfl hI.held)
  clear hI E hf
  go_simp
  exact hK _ _ R.out

set_option maxRecDepth 100000 in
theorem lgyc_11 {len cap k id : Nat} {ad : Addr} {s d : ByteArray} {n : Int} {Pre : World → Prop} {base : Array Value} {f : Nat → Bool} {a : Act} {W : World} {K : Act → World → Prop} {Q : Exit → Act → World → Prop} {ops : Array Oper} (E : lgycEnv len cap k id ad s d n Pre base) (hI : (lgycTb len cap k id ad s d n Pre base).Inv (fun f W => Pre W) f a W) (hf : f 11 = false) (h2 : f 2 = true) (h9 : f 9 = true) (h10 : f 10 = true) (hgd : (ops[2]?).bind (·.dst) = some 118) (pos : String) (hK : ∀ a' W', (lgycTb len cap k id ad s d n Pre base).Inv (fun f W => Pre W) (hit f 11) a' W' → K a' W') : if Region.wanted { dst := some 127, op := Go.Op.indexAddr 22 (Go.Operand.tmp 125) (Go.Operand.tmp 126), type := 0, pos := pos, after := #[{ on := 9, ground := Go.Ground.data }, { on := 10, ground := Go.Ground.data }, { on := 2, ground := Go.Ground.guard }], guard := some (2, false) } (yielded ops a.tmps) = true then Oper.wp Tryd.prog { dst := some 127, op := Go.Op.indexAddr 22 (Go.Operand.tmp 125) (Go.Operand.tmp 126), type := 0, pos := pos, after := #[{ on := 9, ground := Go.Ground.data }, { on := 10, ground := Go.Ground.data }, { on := 2, ground := Go.Ground.guard }], guard := some (2, false) } a W K Q else K (a.put (some 127) undef) W := by
  have hy : yielded ops a.tmps 2 = some false := yielded_of hgd (by rw [hI.size]; show 118 < 177; decide) (hI.val 2 118 rfl h2)
  have hw : Region.wanted { dst := some 127, op := Go.Op.indexAddr 22 (Go.Operand.tmp 125) (Go.Operand.tmp 126), type := 0, pos := pos, after := #[{ on := 9, ground := Go.Ground.data }, { on := 10, ground := Go.Ground.data }, { on := 2, ground := Go.Ground.guard }], guard := some (2, false) } (yielded ops a.tmps) = true := by
    show (yielded ops a.tmps 2 == some false) = true
    rw [hy]
    rfl
  rw [if_pos hw]
  clear hw hy
  have y0 : a.tmps[125]?.getD undef = .slice (some ad) len cap := hI.val 9 125 rfl h9
  have y1 : a.tmps[126]?.getD undef = .int .i64 (k : Int) := hI.val 10 126 rfl h10
  have hk := E.kk
  have i0 : (0 : Int) ≤ (k : Int) := by omega
  have i1 : (k : Int) < (len : Int) := by omega
  have R := Lib.hid (hI.step (i := 11) (d := 127) (v := .pointer (some (ad.add (k * 3)))) rfl lgyc_nodup (show 127 < 177 by decide) rfl hI.held)
  clear hI E hf
  go_simp
  exact hK _ _ R.out

set_option maxRecDepth 100000 in
theorem lgyc_12 {len cap k id : Nat} {ad : Addr} {s d : ByteArray} {n : Int} {Pre : World → Prop} {base : Array Value} {f : Nat → Bool} {a : Act} {W : World} {K : Act → World → Prop} {Q : Exit → Act → World → Prop} {ops : Array Oper} (E : lgycEnv len cap k id ad s d n Pre base) (hI : (lgycTb len cap k id ad s d n Pre base).Inv (fun f W => Pre W) f a W) (hf : f 12 = false) (h2 : f 2 = true) (h11 : f 11 = true) (hgd : (ops[2]?).bind (·.dst) = some 118) (pos : String) (hK : ∀ a' W', (lgycTb len cap k id ad s d n Pre base).Inv (fun f W => Pre W) (hit f 12) a' W' → K a' W') : if Region.wanted { dst := some 128, op := Go.Op.fieldAddr 32 (Go.Operand.tmp 127) 2, type := 0, pos := pos, after := #[{ on := 11, ground := Go.Ground.data }, { on := 2, ground := Go.Ground.guard }], guard := some (2, false) } (yielded ops a.tmps) = true then Oper.wp Tryd.prog { dst := some 128, op := Go.Op.fieldAddr 32 (Go.Operand.tmp 127) 2, type := 0, pos := pos, after := #[{ on := 11, ground := Go.Ground.data }, { on := 2, ground := Go.Ground.guard }], guard := some (2, false) } a W K Q else K (a.put (some 128) undef) W := by
  have hy : yielded ops a.tmps 2 = some false := yielded_of hgd (by rw [hI.size]; show 118 < 177; decide) (hI.val 2 118 rfl h2)
  have hw : Region.wanted { dst := some 128, op := Go.Op.fieldAddr 32 (Go.Operand.tmp 127) 2, type := 0, pos := pos, after := #[{ on := 11, ground := Go.Ground.data }, { on := 2, ground := Go.Ground.guard }], guard := some (2, false) } (yielded ops a.tmps) = true := by
    show (yielded ops a.tmps 2 == some false) = true
    rw [hy]
    rfl
  rw [if_pos hw]
  clear hw hy
  have q : a.tmps[127]?.getD undef = .pointer (some (ad.add (k * 3))) := hI.val 11 127 rfl h11
  have R := Lib.hid (hI.step (i := 12) (d := 128) (v := .pointer (some ⟨(ad.add (k * 3)).block, (ad.add (k * 3)).off + 2, none⟩)) rfl lgyc_nodup (show 128 < 177 by decide) rfl hI.held)
  clear hI E hf
  go_simp
  exact hK _ _ R.out

set_option maxRecDepth 100000 in
theorem lgyc_13 {len cap k id : Nat} {ad : Addr} {s d : ByteArray} {n : Int} {Pre : World → Prop} {base : Array Value} {f : Nat → Bool} {a : Act} {W : World} {K : Act → World → Prop} {Q : Exit → Act → World → Prop} {ops : Array Oper} (E : lgycEnv len cap k id ad s d n Pre base) (hI : (lgycTb len cap k id ad s d n Pre base).Inv (fun f W => Pre W) f a W) (hf : f 13 = false) (h2 : f 2 = true) (h12 : f 12 = true) (hgd : (ops[2]?).bind (·.dst) = some 118) (pos : String) (hK : ∀ a' W', (lgycTb len cap k id ad s d n Pre base).Inv (fun f W => Pre W) (hit f 13) a' W' → K a' W') : if Region.wanted { dst := some 129, op := Go.Op.load 3 (Go.Operand.tmp 128), type := 3, pos := pos, after := #[{ on := 12, ground := Go.Ground.data }, { on := 2, ground := Go.Ground.guard }], guard := some (2, false) } (yielded ops a.tmps) = true then Oper.wp Tryd.prog { dst := some 129, op := Go.Op.load 3 (Go.Operand.tmp 128), type := 3, pos := pos, after := #[{ on := 12, ground := Go.Ground.data }, { on := 2, ground := Go.Ground.guard }], guard := some (2, false) } a W K Q else K (a.put (some 129) undef) W := by
  have hy : yielded ops a.tmps 2 = some false := yielded_of hgd (by rw [hI.size]; show 118 < 177; decide) (hI.val 2 118 rfl h2)
  have hw : Region.wanted { dst := some 129, op := Go.Op.load 3 (Go.Operand.tmp 128), type := 3, pos := pos, after := #[{ on := 12, ground := Go.Ground.data }, { on := 2, ground := Go.Ground.guard }], guard := some (2, false) } (yielded ops a.tmps) = true := by
    show (yielded ops a.tmps 2 == some false) = true
    rw [hy]
    rfl
  rw [if_pos hw]
  clear hw hy
  have q : a.tmps[128]?.getD undef = .pointer (some ⟨(ad.add (k * 3)).block, (ad.add (k * 3)).off + 2, none⟩) := hI.val 12 128 rfl h12
  have c : W.cell? ⟨(ad.add (k * 3)).block, (ad.add (k * 3)).off + 2, none⟩ = some (.int .i64 n) := (E.c W (.inl hI.held)).2.2
  have R := Lib.hid (hI.step (i := 13) (d := 129) (v := .int .i64 n) rfl lgyc_nodup (show 129 < 177 by decide) rfl hI.held)
  clear hI E hf
  go_simp
  exact hK _ _ R.out

set_option maxRecDepth 100000 in
theorem lgyc_14 {len cap k id : Nat} {ad : Addr} {s d : ByteArray} {n : Int} {Pre : World → Prop} {base : Array Value} {f : Nat → Bool} {a : Act} {W : World} {K : Act → World → Prop} {Q : Exit → Act → World → Prop} {ops : Array Oper} (E : lgycEnv len cap k id ad s d n Pre base) (hI : (lgycTb len cap k id ad s d n Pre base).Inv (fun f W => Pre W) f a W) (hf : f 14 = false) (h2 : f 2 = true) (h8 : f 8 = true) (h13 : f 13 = true) (hgd : (ops[2]?).bind (·.dst) = some 118) (pos : String) (hK : ∀ a' W', (lgycTb len cap k id ad s d n Pre base).Inv (fun f W => Pre W) (hit f 14) a' W' → K a' W') : if Region.wanted { dst := some 130, op := Go.Op.call { callee := Go.Callee.value (Go.Operand.func 8), args := #[Go.Operand.tmp 124, Go.Operand.tmp 129], argTypes := #[9, 3] }, type := 9, pos := pos, after := #[{ on := 8, ground := Go.Ground.data }, { on := 13, ground := Go.Ground.data }, { on := 2, ground := Go.Ground.chain }, { on := 2, ground := Go.Ground.guard }], guard := some (2, false) } (yielded ops a.tmps) = true then Oper.wp Tryd.prog { dst := some 130, op := Go.Op.call { callee := Go.Callee.value (Go.Operand.func 8), args := #[Go.Operand.tmp 124, Go.Operand.tmp 129], argTypes := #[9, 3] }, type := 9, pos := pos, after := #[{ on := 8, ground := Go.Ground.data }, { on := 13, ground := Go.Ground.data }, { on := 2, ground := Go.Ground.chain }, { on := 2, ground := Go.Ground.guard }], guard := some (2, false) } a W K Q else K (a.put (some 130) undef) W := by
  have hy : yielded ops a.tmps 2 = some false := yielded_of hgd (by rw [hI.size]; show 118 < 177; decide) (hI.val 2 118 rfl h2)
  have hw : Region.wanted { dst := some 130, op := Go.Op.call { callee := Go.Callee.value (Go.Operand.func 8), args := #[Go.Operand.tmp 124, Go.Operand.tmp 129], argTypes := #[9, 3] }, type := 9, pos := pos, after := #[{ on := 8, ground := Go.Ground.data }, { on := 13, ground := Go.Ground.data }, { on := 2, ground := Go.Ground.chain }, { on := 2, ground := Go.Ground.guard }], guard := some (2, false) } (yielded ops a.tmps) = true := by
    show (yielded ops a.tmps 2 == some false) = true
    rw [hy]
    rfl
  rw [if_pos hw]
  clear hw hy
  have y0 : a.tmps[124]?.getD undef = .string s := hI.val 8 124 rfl h8
  have y1 : a.tmps[129]?.getD undef = .int .i64 n := hI.val 13 129 rfl h13
  have hC := E.lo W
  have HR := Lib.hid (hI.step (i := 14) (d := 130) (v := .string d) rfl lgyc_nodup (show 130 < 177 by decide) rfl hI.held)
  clear hI E hf
  go_simp
  refine hC.mono ?_
  rintro e W1 ⟨rfl, rfl⟩
  exact hK _ _ HR.out

set_option maxRecDepth 100000 in
theorem lgyc_15 {len cap k id : Nat} {ad : Addr} {s d : ByteArray} {n : Int} {Pre : World → Prop} {base : Array Value} {f : Nat → Bool} {a : Act} {W : World} {K : Act → World → Prop} {Q : Exit → Act → World → Prop} {ops : Array Oper} (E : lgycEnv len cap k id ad s d n Pre base) (hI : (lgycTb len cap k id ad s d n Pre base).Inv (fun f W => Pre W) f a W) (hf : f 15 = false) (h2 : f 2 = true) (h3 : f 3 = true) (h14 : f 14 = true) (hgd : (ops[2]?).bind (·.dst) = some 118) (pos : String) (hK : ∀ a' W', (lgycTb len cap k id ad s d n Pre base).Inv (fun f W => Pre W) (hit f 15) a' W' → K a' W') : if Region.wanted { dst := some 131, op := Go.Op.binOp Go.BinOp.neq 9 (Go.Operand.tmp 119) (Go.Operand.tmp 130) 9, type := 4, pos := pos, after := #[{ on := 3, ground := Go.Ground.data }, { on := 14, ground := Go.Ground.data }, { on := 2, ground := Go.Ground.guard }], guard := some (2, false) } (yielded ops a.tmps) = true then Oper.wp Tryd.prog { dst := some 131, op := Go.Op.binOp Go.BinOp.neq 9 (Go.Operand.tmp 119) (Go.Operand.tmp 130) 9, type := 4, pos := pos, after := #[{ on := 3, ground := Go.Ground.data }, { on := 14, ground := Go.Ground.data }, { on := 2, ground := Go.Ground.guard }], guard := some (2, false) } a W K Q else K (a.put (some 131) undef) W := by
  have hy : yielded ops a.tmps 2 = some false := yielded_of hgd (by rw [hI.size]; show 118 < 177; decide) (hI.val 2 118 rfl h2)
  have hw : Region.wanted { dst := some 131, op := Go.Op.binOp Go.BinOp.neq 9 (Go.Operand.tmp 119) (Go.Operand.tmp 130) 9, type := 4, pos := pos, after := #[{ on := 3, ground := Go.Ground.data }, { on := 14, ground := Go.Ground.data }, { on := 2, ground := Go.Ground.guard }], guard := some (2, false) } (yielded ops a.tmps) = true := by
    show (yielded ops a.tmps 2 == some false) = true
    rw [hy]
    rfl
  rw [if_pos hw]
  clear hw hy
  have y0 : a.tmps[119]?.getD undef = .string d := hI.val 3 119 rfl h3
  have y1 : a.tmps[130]?.getD undef = .string d := hI.val 14 130 rfl h14
  have hz : (!d.toList == d.toList) = false := by simp
  have R := Lib.hid (hI.step (i := 15) (d := 131) (v := .bool false) rfl lgyc_nodup (show 131 < 177 by decide) rfl hI.held)
  clear hI E hf
  go_simp
  exact hK _ _ R.out

set_option maxRecDepth 100000 in
theorem lgyc_16 {len cap k id : Nat} {ad : Addr} {s d : ByteArray} {n : Int} {Pre : World → Prop} {base : Array Value} {f : Nat → Bool} {a : Act} {W : World} {K : Act → World → Prop} {Q : Exit → Act → World → Prop} {ops : Array Oper} (E : lgycEnv len cap k id ad s d n Pre base) (hI : (lgycTb len cap k id ad s d n Pre base).Inv (fun f W => Pre W) f a W) (hf : f 16 = false) (h2 : f 2 = true) (h15 : f 15 = true) (pos : String) (hK : ∀ a' W', (lgycTb len cap k id ad s d n Pre base).Inv (fun f W => Pre W) (hit f 16) a' W' → K a' W') : if Region.wanted { dst := some 132, op := Go.Op.pick (Go.Operand.tmp 118) (Go.Operand.const (Go.Value.bool true)) (Go.Operand.tmp 131), type := 4, pos := pos, after := #[{ on := 2, ground := Go.Ground.data }, { on := 15, ground := Go.Ground.data }], guard := none } (yielded ops a.tmps) = true then Oper.wp Tryd.prog { dst := some 132, op := Go.Op.pick (Go.Operand.tmp 118) (Go.Operand.const (Go.Value.bool true)) (Go.Operand.tmp 131), type := 4, pos := pos, after := #[{ on := 2, ground := Go.Ground.data }, { on := 15, ground := Go.Ground.data }], guard := none } a W K Q else K (a.put (some 132) undef) W := by
  have y0 : a.tmps[118]?.getD undef = .bool false := hI.val 2 118 rfl h2
  have y2 : a.tmps[131]?.getD undef = .bool false := hI.val 15 131 rfl h15
  have R := Lib.hid (hI.step (i := 16) (d := 132) (v := .bool false) rfl lgyc_nodup (show 132 < 177 by decide) rfl hI.held)
  clear hI E hf
  go_simp
  exact hK _ _ R.out

abbrev lgycOps : Array Oper := #[{ dst := some 116, op := Go.Op.move (Go.Operand.tmp 17), type := 27, pos := "outright.go:82", after := #[], guard := none }, { dst := some 117, op := Go.Op.binOp Go.BinOp.neq 27 (Go.Operand.tmp 116) (Go.Operand.const (Go.Value.int Go.IntKind.i64 0)) 27, type := 4, pos := "outright.go:82", after := #[{ on := 0, ground := Go.Ground.data }], guard := none }, { dst := some 118, op := Go.Op.move (Go.Operand.tmp 117), type := 4, pos := "outright.go:82", after := #[{ on := 1, ground := Go.Ground.data }], guard := none }, { dst := some 119, op := Go.Op.move (Go.Operand.tmp 16), type := 9, pos := "outright.go:82", after := #[{ on := 2, ground := Go.Ground.guard }], guard := some (2, false) }, { dst := some 120, op := Go.Op.move (Go.Operand.tmp 1), type := 22, pos := "outright.go:82", after := #[{ on := 2, ground := Go.Ground.guard }], guard := some (2, false) }, { dst := some 121, op := Go.Op.move (Go.Operand.tmp 15), type := 3, pos := "outright.go:82", after := #[{ on := 2, ground := Go.Ground.guard }], guard := some (2, false) }, { dst := some 122, op := Go.Op.indexAddr 22 (Go.Operand.tmp 120) (Go.Operand.tmp 121), type := 0, pos := "outright.go:82", after := #[{ on := 4, ground := Go.Ground.data }, { on := 5, ground := Go.Ground.data }, { on := 2, ground := Go.Ground.guard }], guard := some (2, false) }, { dst := some 123, op := Go.Op.fieldAddr 32 (Go.Operand.tmp 122) 1, type := 0, pos := "outright.go:82", after := #[{ on := 6, ground := Go.Ground.data }, { on := 2, ground := Go.Ground.guard }], guard := some (2, false) }, { dst := some 124, op := Go.Op.load 9 (Go.Operand.tmp 123), type := 9, pos := "outright.go:82", after := #[{ on := 7, ground := Go.Ground.data }, { on := 2, ground := Go.Ground.guard }], guard := some (2, false) }, { dst := some 125, op := Go.Op.move (Go.Operand.tmp 1), type := 22, pos := "outright.go:82", after := #[{ on := 2, ground := Go.Ground.guard }], guard := some (2, false) }, { dst := some 126, op := Go.Op.move (Go.Operand.tmp 15), type := 3, pos := "outright.go:82", after := #[{ on := 2, ground := Go.Ground.guard }], guard := some (2, false) }, { dst := some 127, op := Go.Op.indexAddr 22 (Go.Operand.tmp 125) (Go.Operand.tmp 126), type := 0, pos := "outright.go:82", after := #[{ on := 9, ground := Go.Ground.data }, { on := 10, ground := Go.Ground.data }, { on := 2, ground := Go.Ground.guard }], guard := some (2, false) }, { dst := some 128, op := Go.Op.fieldAddr 32 (Go.Operand.tmp 127) 2, type := 0, pos := "outright.go:82", after := #[{ on := 11, ground := Go.Ground.data }, { on := 2, ground := Go.Ground.guard }], guard := some (2, false) }, { dst := some 129, op := Go.Op.load 3 (Go.Operand.tmp 128), type := 3, pos := "outright.go:82", after := #[{ on := 12, ground := Go.Ground.data }, { on := 2, ground := Go.Ground.guard }], guard := some (2, false) }, { dst := some 130, op := Go.Op.call { callee := Go.Callee.value (Go.Operand.func 8), args := #[Go.Operand.tmp 124, Go.Operand.tmp 129], argTypes := #[9, 3] }, type := 9, pos := "outright.go:82", after := #[{ on := 8, ground := Go.Ground.data }, { on := 13, ground := Go.Ground.data }, { on := 2, ground := Go.Ground.chain }, { on := 2, ground := Go.Ground.guard }], guard := some (2, false) }, { dst := some 131, op := Go.Op.binOp Go.BinOp.neq 9 (Go.Operand.tmp 119) (Go.Operand.tmp 130) 9, type := 4, pos := "outright.go:82", after := #[{ on := 3, ground := Go.Ground.data }, { on := 14, ground := Go.Ground.data }, { on := 2, ground := Go.Ground.guard }], guard := some (2, false) }, { dst := some 132, op := Go.Op.pick (Go.Operand.tmp 118) (Go.Operand.const (Go.Value.bool true)) (Go.Operand.tmp 131), type := 4, pos := "outright.go:82", after := #[{ on := 2, ground := Go.Ground.data }, { on := 15, ground := Go.Ground.data }], guard := none }]
set_option maxRecDepth 100000 in
set_option maxHeartbeats 4000000 in
theorem lgyc_step {len cap k id : Nat} {ad : Addr} {s d : ByteArray} {n : Int} {Pre : World → Prop} {base : Array Value} {Q : Exit → Act → World → Prop} (E : lgycEnv len cap k id ad s d n Pre base) :
    ∀ f a W i o, lgycOps[i]? = some o → f i = false → (∀ e ∈ o.after, Region.binds .any e = true → f e.on = true) → (lgycTb len cap k id ad s d n Pre base).Inv (fun f W => Pre W) f a W → wpOp Tryd.prog lgycOps Q i (fun a' W' => (lgycTb len cap k id ad s d n Pre base).Inv (fun f W => Pre W) (hit f i) a' W') a W := by
  intro f a W i o ho hf hed hI
  have hi : i < 17 := (Array.getElem?_eq_some_iff.1 ho).1
  have hc : i = 0 ∨ i = 1 ∨ i = 2 ∨ i = 3 ∨ i = 4 ∨ i = 5 ∨ i = 6 ∨ i = 7 ∨ i = 8 ∨ i = 9 ∨ i = 10 ∨ i = 11 ∨ i = 12 ∨ i = 13 ∨ i = 14 ∨ i = 15 ∨ i = 16 := by omega
  rcases hc with rfl | rfl | rfl | rfl | rfl | rfl | rfl | rfl | rfl | rfl | rfl | rfl | rfl | rfl | rfl | rfl | rfl
  · cases ho
    exact wpOp_step (o := { dst := some 116, op := Go.Op.move (Go.Operand.tmp 17), type := 27, pos := "outright.go:82", after := #[], guard := none }) rfl fun K hK => lgyc_0 E hI hf "outright.go:82" (fun a' W' h => hK a' W' h)
  · cases ho
    exact wpOp_step (o := { dst := some 117, op := Go.Op.binOp Go.BinOp.neq 27 (Go.Operand.tmp 116) (Go.Operand.const (Go.Value.int Go.IntKind.i64 0)) 27, type := 4, pos := "outright.go:82", after := #[{ on := 0, ground := Go.Ground.data }], guard := none }) rfl fun K hK => lgyc_1 E hI hf (hed ⟨0, Go.Ground.data⟩ (Array.mem_of_getElem? (i := 0) rfl) rfl) "outright.go:82" (fun a' W' h => hK a' W' h)
  · cases ho
    exact wpOp_step (o := { dst := some 118, op := Go.Op.move (Go.Operand.tmp 117), type := 4, pos := "outright.go:82", after := #[{ on := 1, ground := Go.Ground.data }], guard := none }) rfl fun K hK => lgyc_2 E hI hf (hed ⟨1, Go.Ground.data⟩ (Array.mem_of_getElem? (i := 0) rfl) rfl) "outright.go:82" (fun a' W' h => hK a' W' h)
  · cases ho
    exact wpOp_step (o := { dst := some 119, op := Go.Op.move (Go.Operand.tmp 16), type := 9, pos := "outright.go:82", after := #[{ on := 2, ground := Go.Ground.guard }], guard := some (2, false) }) rfl fun K hK => lgyc_3 E hI hf (hed ⟨2, Go.Ground.guard⟩ (Array.mem_of_getElem? (i := 0) rfl) rfl) rfl "outright.go:82" (fun a' W' h => hK a' W' h)
  · cases ho
    exact wpOp_step (o := { dst := some 120, op := Go.Op.move (Go.Operand.tmp 1), type := 22, pos := "outright.go:82", after := #[{ on := 2, ground := Go.Ground.guard }], guard := some (2, false) }) rfl fun K hK => lgyc_4 E hI hf (hed ⟨2, Go.Ground.guard⟩ (Array.mem_of_getElem? (i := 0) rfl) rfl) rfl "outright.go:82" (fun a' W' h => hK a' W' h)
  · cases ho
    exact wpOp_step (o := { dst := some 121, op := Go.Op.move (Go.Operand.tmp 15), type := 3, pos := "outright.go:82", after := #[{ on := 2, ground := Go.Ground.guard }], guard := some (2, false) }) rfl fun K hK => lgyc_5 E hI hf (hed ⟨2, Go.Ground.guard⟩ (Array.mem_of_getElem? (i := 0) rfl) rfl) rfl "outright.go:82" (fun a' W' h => hK a' W' h)
  · cases ho
    exact wpOp_step (o := { dst := some 122, op := Go.Op.indexAddr 22 (Go.Operand.tmp 120) (Go.Operand.tmp 121), type := 0, pos := "outright.go:82", after := #[{ on := 4, ground := Go.Ground.data }, { on := 5, ground := Go.Ground.data }, { on := 2, ground := Go.Ground.guard }], guard := some (2, false) }) rfl fun K hK => lgyc_6 E hI hf (hed ⟨2, Go.Ground.guard⟩ (Array.mem_of_getElem? (i := 2) rfl) rfl) (hed ⟨4, Go.Ground.data⟩ (Array.mem_of_getElem? (i := 0) rfl) rfl) (hed ⟨5, Go.Ground.data⟩ (Array.mem_of_getElem? (i := 1) rfl) rfl) rfl "outright.go:82" (fun a' W' h => hK a' W' h)
  · cases ho
    exact wpOp_step (o := { dst := some 123, op := Go.Op.fieldAddr 32 (Go.Operand.tmp 122) 1, type := 0, pos := "outright.go:82", after := #[{ on := 6, ground := Go.Ground.data }, { on := 2, ground := Go.Ground.guard }], guard := some (2, false) }) rfl fun K hK => lgyc_7 E hI hf (hed ⟨2, Go.Ground.guard⟩ (Array.mem_of_getElem? (i := 1) rfl) rfl) (hed ⟨6, Go.Ground.data⟩ (Array.mem_of_getElem? (i := 0) rfl) rfl) rfl "outright.go:82" (fun a' W' h => hK a' W' h)
  · cases ho
    exact wpOp_step (o := { dst := some 124, op := Go.Op.load 9 (Go.Operand.tmp 123), type := 9, pos := "outright.go:82", after := #[{ on := 7, ground := Go.Ground.data }, { on := 2, ground := Go.Ground.guard }], guard := some (2, false) }) rfl fun K hK => lgyc_8 E hI hf (hed ⟨2, Go.Ground.guard⟩ (Array.mem_of_getElem? (i := 1) rfl) rfl) (hed ⟨7, Go.Ground.data⟩ (Array.mem_of_getElem? (i := 0) rfl) rfl) rfl "outright.go:82" (fun a' W' h => hK a' W' h)
  · cases ho
    exact wpOp_step (o := { dst := some 125, op := Go.Op.move (Go.Operand.tmp 1), type := 22, pos := "outright.go:82", after := #[{ on := 2, ground := Go.Ground.guard }], guard := some (2, false) }) rfl fun K hK => lgyc_9 E hI hf (hed ⟨2, Go.Ground.guard⟩ (Array.mem_of_getElem? (i := 0) rfl) rfl) rfl "outright.go:82" (fun a' W' h => hK a' W' h)
  · cases ho
    exact wpOp_step (o := { dst := some 126, op := Go.Op.move (Go.Operand.tmp 15), type := 3, pos := "outright.go:82", after := #[{ on := 2, ground := Go.Ground.guard }], guard := some (2, false) }) rfl fun K hK => lgyc_10 E hI hf (hed ⟨2, Go.Ground.guard⟩ (Array.mem_of_getElem? (i := 0) rfl) rfl) rfl "outright.go:82" (fun a' W' h => hK a' W' h)
  · cases ho
    exact wpOp_step (o := { dst := some 127, op := Go.Op.indexAddr 22 (Go.Operand.tmp 125) (Go.Operand.tmp 126), type := 0, pos := "outright.go:82", after := #[{ on := 9, ground := Go.Ground.data }, { on := 10, ground := Go.Ground.data }, { on := 2, ground := Go.Ground.guard }], guard := some (2, false) }) rfl fun K hK => lgyc_11 E hI hf (hed ⟨2, Go.Ground.guard⟩ (Array.mem_of_getElem? (i := 2) rfl) rfl) (hed ⟨9, Go.Ground.data⟩ (Array.mem_of_getElem? (i := 0) rfl) rfl) (hed ⟨10, Go.Ground.data⟩ (Array.mem_of_getElem? (i := 1) rfl) rfl) rfl "outright.go:82" (fun a' W' h => hK a' W' h)
  · cases ho
    exact wpOp_step (o := { dst := some 128, op := Go.Op.fieldAddr 32 (Go.Operand.tmp 127) 2, type := 0, pos := "outright.go:82", after := #[{ on := 11, ground := Go.Ground.data }, { on := 2, ground := Go.Ground.guard }], guard := some (2, false) }) rfl fun K hK => lgyc_12 E hI hf (hed ⟨2, Go.Ground.guard⟩ (Array.mem_of_getElem? (i := 1) rfl) rfl) (hed ⟨11, Go.Ground.data⟩ (Array.mem_of_getElem? (i := 0) rfl) rfl) rfl "outright.go:82" (fun a' W' h => hK a' W' h)
  · cases ho
    exact wpOp_step (o := { dst := some 129, op := Go.Op.load 3 (Go.Operand.tmp 128), type := 3, pos := "outright.go:82", after := #[{ on := 12, ground := Go.Ground.data }, { on := 2, ground := Go.Ground.guard }], guard := some (2, false) }) rfl fun K hK => lgyc_13 E hI hf (hed ⟨2, Go.Ground.guard⟩ (Array.mem_of_getElem? (i := 1) rfl) rfl) (hed ⟨12, Go.Ground.data⟩ (Array.mem_of_getElem? (i := 0) rfl) rfl) rfl "outright.go:82" (fun a' W' h => hK a' W' h)
  · cases ho
    exact wpOp_step (o := { dst := some 130, op := Go.Op.call { callee := Go.Callee.value (Go.Operand.func 8), args := #[Go.Operand.tmp 124, Go.Operand.tmp 129], argTypes := #[9, 3] }, type := 9, pos := "outright.go:82", after := #[{ on := 8, ground := Go.Ground.data }, { on := 13, ground := Go.Ground.data }, { on := 2, ground := Go.Ground.chain }, { on := 2, ground := Go.Ground.guard }], guard := some (2, false) }) rfl fun K hK => lgyc_14 E hI hf (hed ⟨2, Go.Ground.chain⟩ (Array.mem_of_getElem? (i := 2) rfl) rfl) (hed ⟨8, Go.Ground.data⟩ (Array.mem_of_getElem? (i := 0) rfl) rfl) (hed ⟨13, Go.Ground.data⟩ (Array.mem_of_getElem? (i := 1) rfl) rfl) rfl "outright.go:82" (fun a' W' h => hK a' W' h)
  · cases ho
    exact wpOp_step (o := { dst := some 131, op := Go.Op.binOp Go.BinOp.neq 9 (Go.Operand.tmp 119) (Go.Operand.tmp 130) 9, type := 4, pos := "outright.go:82", after := #[{ on := 3, ground := Go.Ground.data }, { on := 14, ground := Go.Ground.data }, { on := 2, ground := Go.Ground.guard }], guard := some (2, false) }) rfl fun K hK => lgyc_15 E hI hf (hed ⟨2, Go.Ground.guard⟩ (Array.mem_of_getElem? (i := 2) rfl) rfl) (hed ⟨3, Go.Ground.data⟩ (Array.mem_of_getElem? (i := 0) rfl) rfl) (hed ⟨14, Go.Ground.data⟩ (Array.mem_of_getElem? (i := 1) rfl) rfl) rfl "outright.go:82" (fun a' W' h => hK a' W' h)
  · cases ho
    exact wpOp_step (o := { dst := some 132, op := Go.Op.pick (Go.Operand.tmp 118) (Go.Operand.const (Go.Value.bool true)) (Go.Operand.tmp 131), type := 4, pos := "outright.go:82", after := #[{ on := 2, ground := Go.Ground.data }, { on := 15, ground := Go.Ground.data }], guard := none }) rfl fun K hK => lgyc_16 E hI hf (hed ⟨2, Go.Ground.data⟩ (Array.mem_of_getElem? (i := 0) rfl) rfl) (hed ⟨15, Go.Ground.data⟩ (Array.mem_of_getElem? (i := 1) rfl) rfl) "outright.go:82" (fun a' W' h => hK a' W' h)

/-- THE REGION -/
theorem lgyc_region {len cap k id : Nat} {ad : Addr} {s d : ByteArray} {n : Int} {Pre : World → Prop} {tm : Array Value} {Q : Exit → Act → World → Prop} {w : World} (hsz : tm.size = 177) (E : lgycEnv len cap k id ad s d n Pre tm) (hT : Pre w.drew)
    (hend : ∀ W, Pre W → Q .normal ⟨(((((((((((((((((tm.setIfInBounds 116 (.int .i64 0)).setIfInBounds 117 (.bool false)).setIfInBounds 118 (.bool false)).setIfInBounds 119 (.string d)).setIfInBounds 120 (.slice (some ad) len cap)).setIfInBounds 121 (.int .i64 (k : Int))).setIfInBounds 122 (.pointer (some (ad.add (k * 3))))).setIfInBounds 123 (.pointer (some ⟨(ad.add (k * 3)).block, (ad.add (k * 3)).off + 1, none⟩))).setIfInBounds 124 (.string s)).setIfInBounds 125 (.slice (some ad) len cap)).setIfInBounds 126 (.int .i64 (k : Int))).setIfInBounds 127 (.pointer (some (ad.add (k * 3))))).setIfInBounds 128 (.pointer (some ⟨(ad.add (k * 3)).block, (ad.add (k * 3)).off + 2, none⟩))).setIfInBounds 129 (.int .i64 n)).setIfInBounds 130 (.string d)).setIfInBounds 131 (.bool false)).setIfInBounds 132 (.bool false)), []⟩ W) : (Code.region 20 lgycOps true).wp Tryd.prog Q ⟨tm, []⟩ w := by
  refine wp_region_inv (by kernel_rfl) (by kernel_rfl) ((lgycTb len cap k id ad s d n Pre tm).Inv (fun f W => Pre W)) ⟨hsz, rfl, fun s _ => rfl, fun i d _ hf => (by cases hf), hT⟩ (lgyc_step E) ?_
  intro f a W hall hI
  have ha := hI.fin hall hsz lgyc_nodup rfl
  rw [ha]
  exact hend W hI.held
end Go.Proofs.YtniecodpdmjppaaDoor
