/- Tna, Tnb: merged (a claim holds few files). -/
import Derived.Test.YtejgogahkjnefaaDoorMT3
import Derived.Test.YtejgogahkjnefaaDoorOb
/- TapefmtTorn: region 8: a blob is written. Written by gen_rf.py. -/
namespace Go.Proofs.YtejgogahkjnefaaDoor
open Go.RowKit
open Sm
set_option linter.unusedVariables false
set_option linter.unusedSimpArgs false

def tnaTb (g len cap k id : Nat) (ad : Addr) (s d : ByteArray) (n : Int) (r1 r2 : Int) (Pre Post : World → Prop) (base : Array Value) : Tf where
  slots := [49, 50, 51, 52, 53, 54, 55, 56, 57, 58, 59, 60, 61, 62, 63, 64, 65, 66, 48, 67, 68, 12, 13]
  size := 194
  base := base
  val := fun
    | 0 => .pointer (some ⟨g, 0, none⟩)
    | 1 => .slice (some ad) len cap
    | 2 => .int .i64 (k : Int)
    | 3 => .pointer (some (ad.add (k * 3)))
    | 4 => .pointer (some (ad.add (k * 3)))
    | 5 => .int .u64 (id : Int)
    | 6 => .slice (some ad) len cap
    | 7 => .int .i64 (k : Int)
    | 8 => .pointer (some (ad.add (k * 3)))
    | 9 => .pointer (some ⟨(ad.add (k * 3)).block, (ad.add (k * 3)).off + 1, none⟩)
    | 10 => .string s
    | 11 => .slice (some ad) len cap
    | 12 => .int .i64 (k : Int)
    | 13 => .pointer (some (ad.add (k * 3)))
    | 14 => .pointer (some ⟨(ad.add (k * 3)).block, (ad.add (k * 3)).off + 2, none⟩)
    | 15 => .int .i64 n
    | 16 => .string d
    | 17 => .tuple #[.int .i64 r1, .int .i64 r2]
    | 18 => .tuple #[.int .i64 r1, .int .i64 r2]
    | 19 => .int .i64 r1
    | 20 => .int .i64 r2
    | 21 => .int .i64 r1
    | 22 => .int .i64 r2
    | _ => undef

structure tnaEnv (g len cap k id : Nat) (ad : Addr) (s d : ByteArray) (n : Int) (r1 r2 : Int) (Pre Post : World → Prop) (base : Array Value) : Prop where
  kk : k < len
  b9 : base[9]?.getD undef = .pointer (some ⟨g, 0, none⟩)
  b0 : base[0]?.getD undef = .slice (some ad) len cap
  b11 : base[11]?.getD undef = .int .i64 (k : Int)
  c : ∀ W, Pre W ∨ Post W → W.cell? (ad.add (k * 3)) = some (.int .u64 (id : Int)) ∧ W.cell? ⟨(ad.add (k * 3)).block, (ad.add (k * 3)).off + 1, none⟩ = some (.string s) ∧ W.cell? ⟨(ad.add (k * 3)).block, (ad.add (k * 3)).off + 2, none⟩ = some (.int .i64 n)
  lo : ∀ W, Calls Tryd.prog 11 #[.string s, .int .i64 n] W fun e w' => e = .returned (.string d) ∧ W = w'
  wr : ∀ W, Pre W → Calls Tryd.prog 10 #[.pointer (some ⟨g, 0, none⟩), .int .u64 (id : Int), .string d] W fun e w' => e = .returned (.tuple #[.int .i64 r1, .int .i64 r2]) ∧ Post w'

theorem tna_nodup : [49, 50, 51, 52, 53, 54, 55, 56, 57, 58, 59, 60, 61, 62, 63, 64, 65, 66, 48, 67, 68, 12, 13].Nodup := by decide
set_option maxRecDepth 100000 in
theorem tna_0 {g len cap k id : Nat} {ad : Addr} {s d : ByteArray} {n : Int} {r1 r2 : Int} {Pre Post : World → Prop} {base : Array Value} {f : Nat → Bool} {a : Act} {W : World} {K : Act → World → Prop} {Q : Exit → Act → World → Prop} {ops : Array Oper} (E : tnaEnv g len cap k id ad s d n r1 r2 Pre Post base) (hI : (tnaTb g len cap k id ad s d n r1 r2 Pre Post base).Inv (fun f W => if f 17 = true then Post W else Pre W) f a W) (hf : f 0 = false) (pos : String) (hK : ∀ a' W', (tnaTb g len cap k id ad s d n r1 r2 Pre Post base).Inv (fun f W => if f 17 = true then Post W else Pre W) (hit f 0) a' W' → K a' W') : if Region.wanted { dst := some 49, op := Go.Op.move (Go.Operand.tmp 9), type := 27, pos := pos, after := #[], guard := none } (yielded ops a.tmps) = true then Oper.wp Tryd.prog { dst := some 49, op := Go.Op.move (Go.Operand.tmp 9), type := 27, pos := pos, after := #[], guard := none } a W K Q else K (a.put (some 49) undef) W := by
  have q : a.tmps[9]?.getD undef = .pointer (some ⟨g, 0, none⟩) := (hI.base 9 rfl).trans E.b9
  have R := Lib.hid (hI.step (i := 0) (d := 49) (v := .pointer (some ⟨g, 0, none⟩)) rfl tna_nodup (show 49 < 194 by decide) rfl (show (if hit f 0 17 = true then Post W else Pre W) by rw [hit_of f 0 17 (by decide)]; exact hI.held))
  clear hI E hf
  go_simp
  exact hK _ _ R.out

set_option maxRecDepth 100000 in
theorem tna_1 {g len cap k id : Nat} {ad : Addr} {s d : ByteArray} {n : Int} {r1 r2 : Int} {Pre Post : World → Prop} {base : Array Value} {f : Nat → Bool} {a : Act} {W : World} {K : Act → World → Prop} {Q : Exit → Act → World → Prop} {ops : Array Oper} (E : tnaEnv g len cap k id ad s d n r1 r2 Pre Post base) (hI : (tnaTb g len cap k id ad s d n r1 r2 Pre Post base).Inv (fun f W => if f 17 = true then Post W else Pre W) f a W) (hf : f 1 = false) (pos : String) (hK : ∀ a' W', (tnaTb g len cap k id ad s d n r1 r2 Pre Post base).Inv (fun f W => if f 17 = true then Post W else Pre W) (hit f 1) a' W' → K a' W') : if Region.wanted { dst := some 50, op := Go.Op.move (Go.Operand.tmp 0), type := 22, pos := pos, after := #[], guard := none } (yielded ops a.tmps) = true then Oper.wp Tryd.prog { dst := some 50, op := Go.Op.move (Go.Operand.tmp 0), type := 22, pos := pos, after := #[], guard := none } a W K Q else K (a.put (some 50) undef) W := by
  have q : a.tmps[0]?.getD undef = .slice (some ad) len cap := (hI.base 0 rfl).trans E.b0
  have R := Lib.hid (hI.step (i := 1) (d := 50) (v := .slice (some ad) len cap) rfl tna_nodup (show 50 < 194 by decide) rfl (show (if hit f 1 17 = true then Post W else Pre W) by rw [hit_of f 1 17 (by decide)]; exact hI.held))
  clear hI E hf
  go_simp
  exact hK _ _ R.out

set_option maxRecDepth 100000 in
theorem tna_2 {g len cap k id : Nat} {ad : Addr} {s d : ByteArray} {n : Int} {r1 r2 : Int} {Pre Post : World → Prop} {base : Array Value} {f : Nat → Bool} {a : Act} {W : World} {K : Act → World → Prop} {Q : Exit → Act → World → Prop} {ops : Array Oper} (E : tnaEnv g len cap k id ad s d n r1 r2 Pre Post base) (hI : (tnaTb g len cap k id ad s d n r1 r2 Pre Post base).Inv (fun f W => if f 17 = true then Post W else Pre W) f a W) (hf : f 2 = false) (pos : String) (hK : ∀ a' W', (tnaTb g len cap k id ad s d n r1 r2 Pre Post base).Inv (fun f W => if f 17 = true then Post W else Pre W) (hit f 2) a' W' → K a' W') : if Region.wanted { dst := some 51, op := Go.Op.move (Go.Operand.tmp 11), type := 3, pos := pos, after := #[], guard := none } (yielded ops a.tmps) = true then Oper.wp Tryd.prog { dst := some 51, op := Go.Op.move (Go.Operand.tmp 11), type := 3, pos := pos, after := #[], guard := none } a W K Q else K (a.put (some 51) undef) W := by
  have q : a.tmps[11]?.getD undef = .int .i64 (k : Int) := (hI.base 11 rfl).trans E.b11
  have R := Lib.hid (hI.step (i := 2) (d := 51) (v := .int .i64 (k : Int)) rfl tna_nodup (show 51 < 194 by decide) rfl (show (if hit f 2 17 = true then Post W else Pre W) by rw [hit_of f 2 17 (by decide)]; exact hI.held))
  clear hI E hf
  go_simp
  exact hK _ _ R.out

set_option maxRecDepth 100000 in
theorem tna_3 {g len cap k id : Nat} {ad : Addr} {s d : ByteArray} {n : Int} {r1 r2 : Int} {Pre Post : World → Prop} {base : Array Value} {f : Nat → Bool} {a : Act} {W : World} {K : Act → World → Prop} {Q : Exit → Act → World → Prop} {ops : Array Oper} (E : tnaEnv g len cap k id ad s d n r1 r2 Pre Post base) (hI : (tnaTb g len cap k id ad s d n r1 r2 Pre Post base).Inv (fun f W => if f 17 = true then Post W else Pre W) f a W) (hf : f 3 = false) (h1 : f 1 = true) (h2 : f 2 = true) (pos : String) (hK : ∀ a' W', (tnaTb g len cap k id ad s d n r1 r2 Pre Post base).Inv (fun f W => if f 17 = true then Post W else Pre W) (hit f 3) a' W' → K a' W') : if Region.wanted { dst := some 52, op := Go.Op.indexAddr 22 (Go.Operand.tmp 50) (Go.Operand.tmp 51), type := 0, pos := pos, after := #[{ on := 1, ground := Go.Ground.data }, { on := 2, ground := Go.Ground.data }], guard := none } (yielded ops a.tmps) = true then Oper.wp Tryd.prog { dst := some 52, op := Go.Op.indexAddr 22 (Go.Operand.tmp 50) (Go.Operand.tmp 51), type := 0, pos := pos, after := #[{ on := 1, ground := Go.Ground.data }, { on := 2, ground := Go.Ground.data }], guard := none } a W K Q else K (a.put (some 52) undef) W := by
  have y0 : a.tmps[50]?.getD undef = .slice (some ad) len cap := hI.val 1 50 rfl h1
  have y1 : a.tmps[51]?.getD undef = .int .i64 (k : Int) := hI.val 2 51 rfl h2
  have hk := E.kk
  have i0 : (0 : Int) ≤ (k : Int) := by omega
  have i1 : (k : Int) < (len : Int) := by omega
  have hc3 := blob_cells
  have R := Lib.hid (hI.step (i := 3) (d := 52) (v := .pointer (some (ad.add (k * 3)))) rfl tna_nodup (show 52 < 194 by decide) rfl (show (if hit f 3 17 = true then Post W else Pre W) by rw [hit_of f 3 17 (by decide)]; exact hI.held))
  clear hI E hf
  go_simp
  exact hK _ _ R.out

set_option maxRecDepth 100000 in
theorem tna_4 {g len cap k id : Nat} {ad : Addr} {s d : ByteArray} {n : Int} {r1 r2 : Int} {Pre Post : World → Prop} {base : Array Value} {f : Nat → Bool} {a : Act} {W : World} {K : Act → World → Prop} {Q : Exit → Act → World → Prop} {ops : Array Oper} (E : tnaEnv g len cap k id ad s d n r1 r2 Pre Post base) (hI : (tnaTb g len cap k id ad s d n r1 r2 Pre Post base).Inv (fun f W => if f 17 = true then Post W else Pre W) f a W) (hf : f 4 = false) (h3 : f 3 = true) (pos : String) (hK : ∀ a' W', (tnaTb g len cap k id ad s d n r1 r2 Pre Post base).Inv (fun f W => if f 17 = true then Post W else Pre W) (hit f 4) a' W' → K a' W') : if Region.wanted { dst := some 53, op := Go.Op.fieldAddr 25 (Go.Operand.tmp 52) 0, type := 0, pos := pos, after := #[{ on := 3, ground := Go.Ground.data }], guard := none } (yielded ops a.tmps) = true then Oper.wp Tryd.prog { dst := some 53, op := Go.Op.fieldAddr 25 (Go.Operand.tmp 52) 0, type := 0, pos := pos, after := #[{ on := 3, ground := Go.Ground.data }], guard := none } a W K Q else K (a.put (some 53) undef) W := by
  have y0 : a.tmps[52]?.getD undef = .pointer (some (ad.add (k * 3))) := hI.val 3 52 rfl h3
  have R := Lib.hid (hI.step (i := 4) (d := 53) (v := .pointer (some (ad.add (k * 3)))) rfl tna_nodup (show 53 < 194 by decide) rfl (show (if hit f 4 17 = true then Post W else Pre W) by rw [hit_of f 4 17 (by decide)]; exact hI.held))
  clear hI E hf
  go_simp
  exact hK _ _ R.out

set_option maxRecDepth 100000 in
theorem tna_5 {g len cap k id : Nat} {ad : Addr} {s d : ByteArray} {n : Int} {r1 r2 : Int} {Pre Post : World → Prop} {base : Array Value} {f : Nat → Bool} {a : Act} {W : World} {K : Act → World → Prop} {Q : Exit → Act → World → Prop} {ops : Array Oper} (E : tnaEnv g len cap k id ad s d n r1 r2 Pre Post base) (hI : (tnaTb g len cap k id ad s d n r1 r2 Pre Post base).Inv (fun f W => if f 17 = true then Post W else Pre W) f a W) (hf : f 5 = false) (h4 : f 4 = true) (pos : String) (hK : ∀ a' W', (tnaTb g len cap k id ad s d n r1 r2 Pre Post base).Inv (fun f W => if f 17 = true then Post W else Pre W) (hit f 5) a' W' → K a' W') : if Region.wanted { dst := some 54, op := Go.Op.load 23 (Go.Operand.tmp 53), type := 23, pos := pos, after := #[{ on := 4, ground := Go.Ground.data }], guard := none } (yielded ops a.tmps) = true then Oper.wp Tryd.prog { dst := some 54, op := Go.Op.load 23 (Go.Operand.tmp 53), type := 23, pos := pos, after := #[{ on := 4, ground := Go.Ground.data }], guard := none } a W K Q else K (a.put (some 54) undef) W := by
  have q : a.tmps[53]?.getD undef = .pointer (some (ad.add (k * 3))) := hI.val 4 53 rfl h4
  have c : W.cell? (ad.add (k * 3)) = some (.int .u64 (id : Int)) := (E.c W (by have h : (if f 17 = true then Post W else Pre W) := hI.held; by_cases h8 : f 17 = true; (rw [if_pos h8] at h; exact .inr h); (rw [if_neg h8] at h; exact .inl h))).1
  have R := Lib.hid (hI.step (i := 5) (d := 54) (v := .int .u64 (id : Int)) rfl tna_nodup (show 54 < 194 by decide) rfl (show (if hit f 5 17 = true then Post W else Pre W) by rw [hit_of f 5 17 (by decide)]; exact hI.held))
  clear hI E hf
  go_simp
  exact hK _ _ R.out

set_option maxRecDepth 100000 in
theorem tna_6 {g len cap k id : Nat} {ad : Addr} {s d : ByteArray} {n : Int} {r1 r2 : Int} {Pre Post : World → Prop} {base : Array Value} {f : Nat → Bool} {a : Act} {W : World} {K : Act → World → Prop} {Q : Exit → Act → World → Prop} {ops : Array Oper} (E : tnaEnv g len cap k id ad s d n r1 r2 Pre Post base) (hI : (tnaTb g len cap k id ad s d n r1 r2 Pre Post base).Inv (fun f W => if f 17 = true then Post W else Pre W) f a W) (hf : f 6 = false) (pos : String) (hK : ∀ a' W', (tnaTb g len cap k id ad s d n r1 r2 Pre Post base).Inv (fun f W => if f 17 = true then Post W else Pre W) (hit f 6) a' W' → K a' W') : if Region.wanted { dst := some 55, op := Go.Op.move (Go.Operand.tmp 0), type := 22, pos := pos, after := #[], guard := none } (yielded ops a.tmps) = true then Oper.wp Tryd.prog { dst := some 55, op := Go.Op.move (Go.Operand.tmp 0), type := 22, pos := pos, after := #[], guard := none } a W K Q else K (a.put (some 55) undef) W := by
  have q : a.tmps[0]?.getD undef = .slice (some ad) len cap := (hI.base 0 rfl).trans E.b0
  have R := Lib.hid (hI.step (i := 6) (d := 55) (v := .slice (some ad) len cap) rfl tna_nodup (show 55 < 194 by decide) rfl (show (if hit f 6 17 = true then Post W else Pre W) by rw [hit_of f 6 17 (by decide)]; exact hI.held))
  clear hI E hf
  go_simp
  exact hK _ _ R.out

set_option maxRecDepth 100000 in
theorem tna_7 {g len cap k id : Nat} {ad : Addr} {s d : ByteArray} {n : Int} {r1 r2 : Int} {Pre Post : World → Prop} {base : Array Value} {f : Nat → Bool} {a : Act} {W : World} {K : Act → World → Prop} {Q : Exit → Act → World → Prop} {ops : Array Oper} (E : tnaEnv g len cap k id ad s d n r1 r2 Pre Post base) (hI : (tnaTb g len cap k id ad s d n r1 r2 Pre Post base).Inv (fun f W => if f 17 = true then Post W else Pre W) f a W) (hf : f 7 = false) (pos : String) (hK : ∀ a' W', (tnaTb g len cap k id ad s d n r1 r2 Pre Post base).Inv (fun f W => if f 17 = true then Post W else Pre W) (hit f 7) a' W' → K a' W') : if Region.wanted { dst := some 56, op := Go.Op.move (Go.Operand.tmp 11), type := 3, pos := pos, after := #[], guard := none } (yielded ops a.tmps) = true then Oper.wp Tryd.prog { dst := some 56, op := Go.Op.move (Go.Operand.tmp 11), type := 3, pos := pos, after := #[], guard := none } a W K Q else K (a.put (some 56) undef) W := by
  have q : a.tmps[11]?.getD undef = .int .i64 (k : Int) := (hI.base 11 rfl).trans E.b11
  have R := Lib.hid (hI.step (i := 7) (d := 56) (v := .int .i64 (k : Int)) rfl tna_nodup (show 56 < 194 by decide) rfl (show (if hit f 7 17 = true then Post W else Pre W) by rw [hit_of f 7 17 (by decide)]; exact hI.held))
  clear hI E hf
  go_simp
  exact hK _ _ R.out

set_option maxRecDepth 100000 in
theorem tna_8 {g len cap k id : Nat} {ad : Addr} {s d : ByteArray} {n : Int} {r1 r2 : Int} {Pre Post : World → Prop} {base : Array Value} {f : Nat → Bool} {a : Act} {W : World} {K : Act → World → Prop} {Q : Exit → Act → World → Prop} {ops : Array Oper} (E : tnaEnv g len cap k id ad s d n r1 r2 Pre Post base) (hI : (tnaTb g len cap k id ad s d n r1 r2 Pre Post base).Inv (fun f W => if f 17 = true then Post W else Pre W) f a W) (hf : f 8 = false) (h6 : f 6 = true) (h7 : f 7 = true) (pos : String) (hK : ∀ a' W', (tnaTb g len cap k id ad s d n r1 r2 Pre Post base).Inv (fun f W => if f 17 = true then Post W else Pre W) (hit f 8) a' W' → K a' W') : if Region.wanted { dst := some 57, op := Go.Op.indexAddr 22 (Go.Operand.tmp 55) (Go.Operand.tmp 56), type := 0, pos := pos, after := #[{ on := 6, ground := Go.Ground.data }, { on := 7, ground := Go.Ground.data }], guard := none } (yielded ops a.tmps) = true then Oper.wp Tryd.prog { dst := some 57, op := Go.Op.indexAddr 22 (Go.Operand.tmp 55) (Go.Operand.tmp 56), type := 0, pos := pos, after := #[{ on := 6, ground := Go.Ground.data }, { on := 7, ground := Go.Ground.data }], guard := none } a W K Q else K (a.put (some 57) undef) W := by
  have y0 : a.tmps[55]?.getD undef = .slice (some ad) len cap := hI.val 6 55 rfl h6
  have y1 : a.tmps[56]?.getD undef = .int .i64 (k : Int) := hI.val 7 56 rfl h7
  have hk := E.kk
  have i0 : (0 : Int) ≤ (k : Int) := by omega
  have i1 : (k : Int) < (len : Int) := by omega
  have hc3 := blob_cells
  have R := Lib.hid (hI.step (i := 8) (d := 57) (v := .pointer (some (ad.add (k * 3)))) rfl tna_nodup (show 57 < 194 by decide) rfl (show (if hit f 8 17 = true then Post W else Pre W) by rw [hit_of f 8 17 (by decide)]; exact hI.held))
  clear hI E hf
  go_simp
  exact hK _ _ R.out

set_option maxRecDepth 100000 in
theorem tna_9 {g len cap k id : Nat} {ad : Addr} {s d : ByteArray} {n : Int} {r1 r2 : Int} {Pre Post : World → Prop} {base : Array Value} {f : Nat → Bool} {a : Act} {W : World} {K : Act → World → Prop} {Q : Exit → Act → World → Prop} {ops : Array Oper} (E : tnaEnv g len cap k id ad s d n r1 r2 Pre Post base) (hI : (tnaTb g len cap k id ad s d n r1 r2 Pre Post base).Inv (fun f W => if f 17 = true then Post W else Pre W) f a W) (hf : f 9 = false) (h8 : f 8 = true) (pos : String) (hK : ∀ a' W', (tnaTb g len cap k id ad s d n r1 r2 Pre Post base).Inv (fun f W => if f 17 = true then Post W else Pre W) (hit f 9) a' W' → K a' W') : if Region.wanted { dst := some 58, op := Go.Op.fieldAddr 25 (Go.Operand.tmp 57) 1, type := 0, pos := pos, after := #[{ on := 8, ground := Go.Ground.data }], guard := none } (yielded ops a.tmps) = true then Oper.wp Tryd.prog { dst := some 58, op := Go.Op.fieldAddr 25 (Go.Operand.tmp 57) 1, type := 0, pos := pos, after := #[{ on := 8, ground := Go.Ground.data }], guard := none } a W K Q else K (a.put (some 58) undef) W := by
  have y0 : a.tmps[57]?.getD undef = .pointer (some (ad.add (k * 3))) := hI.val 8 57 rfl h8
  have R := Lib.hid (hI.step (i := 9) (d := 58) (v := .pointer (some ⟨(ad.add (k * 3)).block, (ad.add (k * 3)).off + 1, none⟩)) rfl tna_nodup (show 58 < 194 by decide) rfl (show (if hit f 9 17 = true then Post W else Pre W) by rw [hit_of f 9 17 (by decide)]; exact hI.held))
  clear hI E hf
  go_simp
  exact hK _ _ R.out

set_option maxRecDepth 100000 in
theorem tna_10 {g len cap k id : Nat} {ad : Addr} {s d : ByteArray} {n : Int} {r1 r2 : Int} {Pre Post : World → Prop} {base : Array Value} {f : Nat → Bool} {a : Act} {W : World} {K : Act → World → Prop} {Q : Exit → Act → World → Prop} {ops : Array Oper} (E : tnaEnv g len cap k id ad s d n r1 r2 Pre Post base) (hI : (tnaTb g len cap k id ad s d n r1 r2 Pre Post base).Inv (fun f W => if f 17 = true then Post W else Pre W) f a W) (hf : f 10 = false) (h9 : f 9 = true) (pos : String) (hK : ∀ a' W', (tnaTb g len cap k id ad s d n r1 r2 Pre Post base).Inv (fun f W => if f 17 = true then Post W else Pre W) (hit f 10) a' W' → K a' W') : if Region.wanted { dst := some 59, op := Go.Op.load 9 (Go.Operand.tmp 58), type := 9, pos := pos, after := #[{ on := 9, ground := Go.Ground.data }], guard := none } (yielded ops a.tmps) = true then Oper.wp Tryd.prog { dst := some 59, op := Go.Op.load 9 (Go.Operand.tmp 58), type := 9, pos := pos, after := #[{ on := 9, ground := Go.Ground.data }], guard := none } a W K Q else K (a.put (some 59) undef) W := by
  have q : a.tmps[58]?.getD undef = .pointer (some ⟨(ad.add (k * 3)).block, (ad.add (k * 3)).off + 1, none⟩) := hI.val 9 58 rfl h9
  have c : W.cell? ⟨(ad.add (k * 3)).block, (ad.add (k * 3)).off + 1, none⟩ = some (.string s) := (E.c W (by have h : (if f 17 = true then Post W else Pre W) := hI.held; by_cases h8 : f 17 = true; (rw [if_pos h8] at h; exact .inr h); (rw [if_neg h8] at h; exact .inl h))).2.1
  have R := Lib.hid (hI.step (i := 10) (d := 59) (v := .string s) rfl tna_nodup (show 59 < 194 by decide) rfl (show (if hit f 10 17 = true then Post W else Pre W) by rw [hit_of f 10 17 (by decide)]; exact hI.held))
  clear hI E hf
  go_simp
  exact hK _ _ R.out

set_option maxRecDepth 100000 in
theorem tna_11 {g len cap k id : Nat} {ad : Addr} {s d : ByteArray} {n : Int} {r1 r2 : Int} {Pre Post : World → Prop} {base : Array Value} {f : Nat → Bool} {a : Act} {W : World} {K : Act → World → Prop} {Q : Exit → Act → World → Prop} {ops : Array Oper} (E : tnaEnv g len cap k id ad s d n r1 r2 Pre Post base) (hI : (tnaTb g len cap k id ad s d n r1 r2 Pre Post base).Inv (fun f W => if f 17 = true then Post W else Pre W) f a W) (hf : f 11 = false) (pos : String) (hK : ∀ a' W', (tnaTb g len cap k id ad s d n r1 r2 Pre Post base).Inv (fun f W => if f 17 = true then Post W else Pre W) (hit f 11) a' W' → K a' W') : if Region.wanted { dst := some 60, op := Go.Op.move (Go.Operand.tmp 0), type := 22, pos := pos, after := #[], guard := none } (yielded ops a.tmps) = true then Oper.wp Tryd.prog { dst := some 60, op := Go.Op.move (Go.Operand.tmp 0), type := 22, pos := pos, after := #[], guard := none } a W K Q else K (a.put (some 60) undef) W := by
  have q : a.tmps[0]?.getD undef = .slice (some ad) len cap := (hI.base 0 rfl).trans E.b0
  have R := Lib.hid (hI.step (i := 11) (d := 60) (v := .slice (some ad) len cap) rfl tna_nodup (show 60 < 194 by decide) rfl (show (if hit f 11 17 = true then Post W else Pre W) by rw [hit_of f 11 17 (by decide)]; exact hI.held))
  clear hI E hf
  go_simp
  exact hK _ _ R.out

set_option maxRecDepth 100000 in
theorem tna_12 {g len cap k id : Nat} {ad : Addr} {s d : ByteArray} {n : Int} {r1 r2 : Int} {Pre Post : World → Prop} {base : Array Value} {f : Nat → Bool} {a : Act} {W : World} {K : Act → World → Prop} {Q : Exit → Act → World → Prop} {ops : Array Oper} (E : tnaEnv g len cap k id ad s d n r1 r2 Pre Post base) (hI : (tnaTb g len cap k id ad s d n r1 r2 Pre Post base).Inv (fun f W => if f 17 = true then Post W else Pre W) f a W) (hf : f 12 = false) (pos : String) (hK : ∀ a' W', (tnaTb g len cap k id ad s d n r1 r2 Pre Post base).Inv (fun f W => if f 17 = true then Post W else Pre W) (hit f 12) a' W' → K a' W') : if Region.wanted { dst := some 61, op := Go.Op.move (Go.Operand.tmp 11), type := 3, pos := pos, after := #[], guard := none } (yielded ops a.tmps) = true then Oper.wp Tryd.prog { dst := some 61, op := Go.Op.move (Go.Operand.tmp 11), type := 3, pos := pos, after := #[], guard := none } a W K Q else K (a.put (some 61) undef) W := by
  have q : a.tmps[11]?.getD undef = .int .i64 (k : Int) := (hI.base 11 rfl).trans E.b11
  have R := Lib.hid (hI.step (i := 12) (d := 61) (v := .int .i64 (k : Int)) rfl tna_nodup (show 61 < 194 by decide) rfl (show (if hit f 12 17 = true then Post W else Pre W) by rw [hit_of f 12 17 (by decide)]; exact hI.held))
  clear hI E hf
  go_simp
  exact hK _ _ R.out

set_option maxRecDepth 100000 in
theorem tna_13 {g len cap k id : Nat} {ad : Addr} {s d : ByteArray} {n : Int} {r1 r2 : Int} {Pre Post : World → Prop} {base : Array Value} {f : Nat → Bool} {a : Act} {W : World} {K : Act → World → Prop} {Q : Exit → Act → World → Prop} {ops : Array Oper} (E : tnaEnv g len cap k id ad s d n r1 r2 Pre Post base) (hI : (tnaTb g len cap k id ad s d n r1 r2 Pre Post base).Inv (fun f W => if f 17 = true then Post W else Pre W) f a W) (hf : f 13 = false) (h11 : f 11 = true) (h12 : f 12 = true) (pos : String) (hK : ∀ a' W', (tnaTb g len cap k id ad s d n r1 r2 Pre Post base).Inv (fun f W => if f 17 = true then Post W else Pre W) (hit f 13) a' W' → K a' W') : if Region.wanted { dst := some 62, op := Go.Op.indexAddr 22 (Go.Operand.tmp 60) (Go.Operand.tmp 61), type := 0, pos := pos, after := #[{ on := 11, ground := Go.Ground.data }, { on := 12, ground := Go.Ground.data }], guard := none } (yielded ops a.tmps) = true then Oper.wp Tryd.prog { dst := some 62, op := Go.Op.indexAddr 22 (Go.Operand.tmp 60) (Go.Operand.tmp 61), type := 0, pos := pos, after := #[{ on := 11, ground := Go.Ground.data }, { on := 12, ground := Go.Ground.data }], guard := none } a W K Q else K (a.put (some 62) undef) W := by
  have y0 : a.tmps[60]?.getD undef = .slice (some ad) len cap := hI.val 11 60 rfl h11
  have y1 : a.tmps[61]?.getD undef = .int .i64 (k : Int) := hI.val 12 61 rfl h12
  have hk := E.kk
  have i0 : (0 : Int) ≤ (k : Int) := by omega
  have i1 : (k : Int) < (len : Int) := by omega
  have hc3 := blob_cells
  have R := Lib.hid (hI.step (i := 13) (d := 62) (v := .pointer (some (ad.add (k * 3)))) rfl tna_nodup (show 62 < 194 by decide) rfl (show (if hit f 13 17 = true then Post W else Pre W) by rw [hit_of f 13 17 (by decide)]; exact hI.held))
  clear hI E hf
  go_simp
  exact hK _ _ R.out

set_option maxRecDepth 100000 in
theorem tna_14 {g len cap k id : Nat} {ad : Addr} {s d : ByteArray} {n : Int} {r1 r2 : Int} {Pre Post : World → Prop} {base : Array Value} {f : Nat → Bool} {a : Act} {W : World} {K : Act → World → Prop} {Q : Exit → Act → World → Prop} {ops : Array Oper} (E : tnaEnv g len cap k id ad s d n r1 r2 Pre Post base) (hI : (tnaTb g len cap k id ad s d n r1 r2 Pre Post base).Inv (fun f W => if f 17 = true then Post W else Pre W) f a W) (hf : f 14 = false) (h13 : f 13 = true) (pos : String) (hK : ∀ a' W', (tnaTb g len cap k id ad s d n r1 r2 Pre Post base).Inv (fun f W => if f 17 = true then Post W else Pre W) (hit f 14) a' W' → K a' W') : if Region.wanted { dst := some 63, op := Go.Op.fieldAddr 25 (Go.Operand.tmp 62) 2, type := 0, pos := pos, after := #[{ on := 13, ground := Go.Ground.data }], guard := none } (yielded ops a.tmps) = true then Oper.wp Tryd.prog { dst := some 63, op := Go.Op.fieldAddr 25 (Go.Operand.tmp 62) 2, type := 0, pos := pos, after := #[{ on := 13, ground := Go.Ground.data }], guard := none } a W K Q else K (a.put (some 63) undef) W := by
  have y0 : a.tmps[62]?.getD undef = .pointer (some (ad.add (k * 3))) := hI.val 13 62 rfl h13
  have R := Lib.hid (hI.step (i := 14) (d := 63) (v := .pointer (some ⟨(ad.add (k * 3)).block, (ad.add (k * 3)).off + 2, none⟩)) rfl tna_nodup (show 63 < 194 by decide) rfl (show (if hit f 14 17 = true then Post W else Pre W) by rw [hit_of f 14 17 (by decide)]; exact hI.held))
  clear hI E hf
  go_simp
  exact hK _ _ R.out

set_option maxRecDepth 100000 in
theorem tna_15 {g len cap k id : Nat} {ad : Addr} {s d : ByteArray} {n : Int} {r1 r2 : Int} {Pre Post : World → Prop} {base : Array Value} {f : Nat → Bool} {a : Act} {W : World} {K : Act → World → Prop} {Q : Exit → Act → World → Prop} {ops : Array Oper} (E : tnaEnv g len cap k id ad s d n r1 r2 Pre Post base) (hI : (tnaTb g len cap k id ad s d n r1 r2 Pre Post base).Inv (fun f W => if f 17 = true then Post W else Pre W) f a W) (hf : f 15 = false) (h14 : f 14 = true) (pos : String) (hK : ∀ a' W', (tnaTb g len cap k id ad s d n r1 r2 Pre Post base).Inv (fun f W => if f 17 = true then Post W else Pre W) (hit f 15) a' W' → K a' W') : if Region.wanted { dst := some 64, op := Go.Op.load 3 (Go.Operand.tmp 63), type := 3, pos := pos, after := #[{ on := 14, ground := Go.Ground.data }], guard := none } (yielded ops a.tmps) = true then Oper.wp Tryd.prog { dst := some 64, op := Go.Op.load 3 (Go.Operand.tmp 63), type := 3, pos := pos, after := #[{ on := 14, ground := Go.Ground.data }], guard := none } a W K Q else K (a.put (some 64) undef) W := by
  have q : a.tmps[63]?.getD undef = .pointer (some ⟨(ad.add (k * 3)).block, (ad.add (k * 3)).off + 2, none⟩) := hI.val 14 63 rfl h14
  have c : W.cell? ⟨(ad.add (k * 3)).block, (ad.add (k * 3)).off + 2, none⟩ = some (.int .i64 n) := (E.c W (by have h : (if f 17 = true then Post W else Pre W) := hI.held; by_cases h8 : f 17 = true; (rw [if_pos h8] at h; exact .inr h); (rw [if_neg h8] at h; exact .inl h))).2.2
  have R := Lib.hid (hI.step (i := 15) (d := 64) (v := .int .i64 n) rfl tna_nodup (show 64 < 194 by decide) rfl (show (if hit f 15 17 = true then Post W else Pre W) by rw [hit_of f 15 17 (by decide)]; exact hI.held))
  clear hI E hf
  go_simp
  exact hK _ _ R.out

set_option maxRecDepth 100000 in
theorem tna_16 {g len cap k id : Nat} {ad : Addr} {s d : ByteArray} {n : Int} {r1 r2 : Int} {Pre Post : World → Prop} {base : Array Value} {f : Nat → Bool} {a : Act} {W : World} {K : Act → World → Prop} {Q : Exit → Act → World → Prop} {ops : Array Oper} (E : tnaEnv g len cap k id ad s d n r1 r2 Pre Post base) (hI : (tnaTb g len cap k id ad s d n r1 r2 Pre Post base).Inv (fun f W => if f 17 = true then Post W else Pre W) f a W) (hf : f 16 = false) (h10 : f 10 = true) (h15 : f 15 = true) (pos : String) (hK : ∀ a' W', (tnaTb g len cap k id ad s d n r1 r2 Pre Post base).Inv (fun f W => if f 17 = true then Post W else Pre W) (hit f 16) a' W' → K a' W') : if Region.wanted { dst := some 65, op := Go.Op.call { callee := Go.Callee.value (Go.Operand.func 11), args := #[Go.Operand.tmp 59, Go.Operand.tmp 64], argTypes := #[9, 3] }, type := 9, pos := pos, after := #[{ on := 10, ground := Go.Ground.data }, { on := 15, ground := Go.Ground.data }], guard := none } (yielded ops a.tmps) = true then Oper.wp Tryd.prog { dst := some 65, op := Go.Op.call { callee := Go.Callee.value (Go.Operand.func 11), args := #[Go.Operand.tmp 59, Go.Operand.tmp 64], argTypes := #[9, 3] }, type := 9, pos := pos, after := #[{ on := 10, ground := Go.Ground.data }, { on := 15, ground := Go.Ground.data }], guard := none } a W K Q else K (a.put (some 65) undef) W := by
  have y0 : a.tmps[59]?.getD undef = .string s := hI.val 10 59 rfl h10
  have y1 : a.tmps[64]?.getD undef = .int .i64 n := hI.val 15 64 rfl h15
  have hC := E.lo W
  have HR := Lib.hid (hI.step (i := 16) (d := 65) (v := .string d) rfl tna_nodup (show 65 < 194 by decide) rfl (show (if hit f 16 17 = true then Post W else Pre W) by rw [hit_of f 16 17 (by decide)]; exact hI.held))
  clear hI E hf
  go_simp
  refine hC.mono ?_
  rintro e W1 ⟨rfl, rfl⟩
  exact hK _ _ HR.out

set_option maxRecDepth 100000 in
theorem tna_17 {g len cap k id : Nat} {ad : Addr} {s d : ByteArray} {n : Int} {r1 r2 : Int} {Pre Post : World → Prop} {base : Array Value} {f : Nat → Bool} {a : Act} {W : World} {K : Act → World → Prop} {Q : Exit → Act → World → Prop} {ops : Array Oper} (E : tnaEnv g len cap k id ad s d n r1 r2 Pre Post base) (hI : (tnaTb g len cap k id ad s d n r1 r2 Pre Post base).Inv (fun f W => if f 17 = true then Post W else Pre W) f a W) (hf : f 17 = false) (h0 : f 0 = true) (h5 : f 5 = true) (h16 : f 16 = true) (pos : String) (hK : ∀ a' W', (tnaTb g len cap k id ad s d n r1 r2 Pre Post base).Inv (fun f W => if f 17 = true then Post W else Pre W) (hit f 17) a' W' → K a' W') : if Region.wanted { dst := some 66, op := Go.Op.call { callee := Go.Callee.value (Go.Operand.func 10), args := #[Go.Operand.tmp 49, Go.Operand.tmp 54, Go.Operand.tmp 65], argTypes := #[27, 23, 9] }, type := 32, pos := pos, after := #[{ on := 0, ground := Go.Ground.data }, { on := 5, ground := Go.Ground.data }, { on := 16, ground := Go.Ground.data }, { on := 16, ground := Go.Ground.chain }], guard := none } (yielded ops a.tmps) = true then Oper.wp Tryd.prog { dst := some 66, op := Go.Op.call { callee := Go.Callee.value (Go.Operand.func 10), args := #[Go.Operand.tmp 49, Go.Operand.tmp 54, Go.Operand.tmp 65], argTypes := #[27, 23, 9] }, type := 32, pos := pos, after := #[{ on := 0, ground := Go.Ground.data }, { on := 5, ground := Go.Ground.data }, { on := 16, ground := Go.Ground.data }, { on := 16, ground := Go.Ground.chain }], guard := none } a W K Q else K (a.put (some 66) undef) W := by
  have y0 : a.tmps[49]?.getD undef = .pointer (some ⟨g, 0, none⟩) := hI.val 0 49 rfl h0
  have y1 : a.tmps[54]?.getD undef = .int .u64 (id : Int) := hI.val 5 54 rfl h5
  have y2 : a.tmps[65]?.getD undef = .string d := hI.val 16 65 rfl h16
  have hp : Pre W := by have := hI.held; simp only [hf] at this; simpa using this
  have hC := E.wr W hp
  have HR := Lib.hid (fun W1 (hb : Post W1) => hI.step (i := 17) (d := 66) (v := .tuple #[.int .i64 r1, .int .i64 r2]) rfl tna_nodup (show 66 < 194 by decide) rfl (show (if hit f 17 17 = true then Post W1 else Pre W1) by rw [hit_at, if_pos rfl]; exact hb))
  clear hI E hf hp
  go_simp
  refine hC.mono ?_
  rintro e W1 ⟨rfl, hb⟩
  exact hK _ _ (HR.out W1 hb)

set_option maxRecDepth 100000 in
theorem tna_18 {g len cap k id : Nat} {ad : Addr} {s d : ByteArray} {n : Int} {r1 r2 : Int} {Pre Post : World → Prop} {base : Array Value} {f : Nat → Bool} {a : Act} {W : World} {K : Act → World → Prop} {Q : Exit → Act → World → Prop} {ops : Array Oper} (E : tnaEnv g len cap k id ad s d n r1 r2 Pre Post base) (hI : (tnaTb g len cap k id ad s d n r1 r2 Pre Post base).Inv (fun f W => if f 17 = true then Post W else Pre W) f a W) (hf : f 18 = false) (h17 : f 17 = true) (pos : String) (hK : ∀ a' W', (tnaTb g len cap k id ad s d n r1 r2 Pre Post base).Inv (fun f W => if f 17 = true then Post W else Pre W) (hit f 18) a' W' → K a' W') : if Region.wanted { dst := some 48, op := Go.Op.move (Go.Operand.tmp 66), type := 32, pos := pos, after := #[{ on := 17, ground := Go.Ground.data }], guard := none } (yielded ops a.tmps) = true then Oper.wp Tryd.prog { dst := some 48, op := Go.Op.move (Go.Operand.tmp 66), type := 32, pos := pos, after := #[{ on := 17, ground := Go.Ground.data }], guard := none } a W K Q else K (a.put (some 48) undef) W := by
  have q : a.tmps[66]?.getD undef = .tuple #[.int .i64 r1, .int .i64 r2] := hI.val 17 66 rfl h17
  have R := Lib.hid (hI.step (i := 18) (d := 48) (v := .tuple #[.int .i64 r1, .int .i64 r2]) rfl tna_nodup (show 48 < 194 by decide) rfl (show (if hit f 18 17 = true then Post W else Pre W) by rw [hit_of f 18 17 (by decide)]; exact hI.held))
  clear hI E hf
  go_simp
  exact hK _ _ R.out

set_option maxRecDepth 100000 in
theorem tna_19 {g len cap k id : Nat} {ad : Addr} {s d : ByteArray} {n : Int} {r1 r2 : Int} {Pre Post : World → Prop} {base : Array Value} {f : Nat → Bool} {a : Act} {W : World} {K : Act → World → Prop} {Q : Exit → Act → World → Prop} {ops : Array Oper} (E : tnaEnv g len cap k id ad s d n r1 r2 Pre Post base) (hI : (tnaTb g len cap k id ad s d n r1 r2 Pre Post base).Inv (fun f W => if f 17 = true then Post W else Pre W) f a W) (hf : f 19 = false) (h18 : f 18 = true) (pos : String) (hK : ∀ a' W', (tnaTb g len cap k id ad s d n r1 r2 Pre Post base).Inv (fun f W => if f 17 = true then Post W else Pre W) (hit f 19) a' W' → K a' W') : if Region.wanted { dst := some 67, op := Go.Op.extract (Go.Operand.tmp 48) 0, type := 3, pos := pos, after := #[{ on := 18, ground := Go.Ground.data }], guard := none } (yielded ops a.tmps) = true then Oper.wp Tryd.prog { dst := some 67, op := Go.Op.extract (Go.Operand.tmp 48) 0, type := 3, pos := pos, after := #[{ on := 18, ground := Go.Ground.data }], guard := none } a W K Q else K (a.put (some 67) undef) W := by
  have q : a.tmps[48]?.getD undef = .tuple #[.int .i64 r1, .int .i64 r2] := hI.val 18 48 rfl h18
  have R := Lib.hid (hI.step (i := 19) (d := 67) (v := .int .i64 r1) rfl tna_nodup (show 67 < 194 by decide) rfl (show (if hit f 19 17 = true then Post W else Pre W) by rw [hit_of f 19 17 (by decide)]; exact hI.held))
  clear hI E hf
  go_simp
  exact hK _ _ R.out

set_option maxRecDepth 100000 in
theorem tna_20 {g len cap k id : Nat} {ad : Addr} {s d : ByteArray} {n : Int} {r1 r2 : Int} {Pre Post : World → Prop} {base : Array Value} {f : Nat → Bool} {a : Act} {W : World} {K : Act → World → Prop} {Q : Exit → Act → World → Prop} {ops : Array Oper} (E : tnaEnv g len cap k id ad s d n r1 r2 Pre Post base) (hI : (tnaTb g len cap k id ad s d n r1 r2 Pre Post base).Inv (fun f W => if f 17 = true then Post W else Pre W) f a W) (hf : f 20 = false) (h18 : f 18 = true) (pos : String) (hK : ∀ a' W', (tnaTb g len cap k id ad s d n r1 r2 Pre Post base).Inv (fun f W => if f 17 = true then Post W else Pre W) (hit f 20) a' W' → K a' W') : if Region.wanted { dst := some 68, op := Go.Op.extract (Go.Operand.tmp 48) 1, type := 30, pos := pos, after := #[{ on := 18, ground := Go.Ground.data }, { on := 21, ground := Go.Ground.gcOnly Go.Departure.lateStores }], guard := none } (yielded ops a.tmps) = true then Oper.wp Tryd.prog { dst := some 68, op := Go.Op.extract (Go.Operand.tmp 48) 1, type := 30, pos := pos, after := #[{ on := 18, ground := Go.Ground.data }, { on := 21, ground := Go.Ground.gcOnly Go.Departure.lateStores }], guard := none } a W K Q else K (a.put (some 68) undef) W := by
  have q : a.tmps[48]?.getD undef = .tuple #[.int .i64 r1, .int .i64 r2] := hI.val 18 48 rfl h18
  have R := Lib.hid (hI.step (i := 20) (d := 68) (v := .int .i64 r2) rfl tna_nodup (show 68 < 194 by decide) rfl (show (if hit f 20 17 = true then Post W else Pre W) by rw [hit_of f 20 17 (by decide)]; exact hI.held))
  clear hI E hf
  go_simp
  exact hK _ _ R.out

set_option maxRecDepth 100000 in
theorem tna_21 {g len cap k id : Nat} {ad : Addr} {s d : ByteArray} {n : Int} {r1 r2 : Int} {Pre Post : World → Prop} {base : Array Value} {f : Nat → Bool} {a : Act} {W : World} {K : Act → World → Prop} {Q : Exit → Act → World → Prop} {ops : Array Oper} (E : tnaEnv g len cap k id ad s d n r1 r2 Pre Post base) (hI : (tnaTb g len cap k id ad s d n r1 r2 Pre Post base).Inv (fun f W => if f 17 = true then Post W else Pre W) f a W) (hf : f 21 = false) (h0 : f 0 = true) (h1 : f 1 = true) (h2 : f 2 = true) (h3 : f 3 = true) (h4 : f 4 = true) (h5 : f 5 = true) (h6 : f 6 = true) (h7 : f 7 = true) (h8 : f 8 = true) (h9 : f 9 = true) (h10 : f 10 = true) (h11 : f 11 = true) (h12 : f 12 = true) (h13 : f 13 = true) (h14 : f 14 = true) (h15 : f 15 = true) (h16 : f 16 = true) (h17 : f 17 = true) (h18 : f 18 = true) (h19 : f 19 = true) (pos : String) (hK : ∀ a' W', (tnaTb g len cap k id ad s d n r1 r2 Pre Post base).Inv (fun f W => if f 17 = true then Post W else Pre W) (hit f 21) a' W' → K a' W') : if Region.wanted { dst := some 12, op := Go.Op.assign (Go.Operand.tmp 67), type := 3, pos := pos, after := #[{ on := 19, ground := Go.Ground.data }, { on := 17, ground := Go.Ground.chain }, { on := 0, ground := Go.Ground.phase }, { on := 1, ground := Go.Ground.phase }, { on := 2, ground := Go.Ground.phase }, { on := 3, ground := Go.Ground.phase }, { on := 4, ground := Go.Ground.phase }, { on := 5, ground := Go.Ground.phase }, { on := 6, ground := Go.Ground.phase }, { on := 7, ground := Go.Ground.phase }, { on := 8, ground := Go.Ground.phase }, { on := 9, ground := Go.Ground.phase }, { on := 10, ground := Go.Ground.phase }, { on := 11, ground := Go.Ground.phase }, { on := 12, ground := Go.Ground.phase }, { on := 13, ground := Go.Ground.phase }, { on := 14, ground := Go.Ground.phase }, { on := 15, ground := Go.Ground.phase }, { on := 16, ground := Go.Ground.phase }, { on := 17, ground := Go.Ground.phase }, { on := 18, ground := Go.Ground.phase }, { on := 19, ground := Go.Ground.phase }, { on := 20, ground := Go.Ground.textOnly Go.Departure.lateStores }], guard := none } (yielded ops a.tmps) = true then Oper.wp Tryd.prog { dst := some 12, op := Go.Op.assign (Go.Operand.tmp 67), type := 3, pos := pos, after := #[{ on := 19, ground := Go.Ground.data }, { on := 17, ground := Go.Ground.chain }, { on := 0, ground := Go.Ground.phase }, { on := 1, ground := Go.Ground.phase }, { on := 2, ground := Go.Ground.phase }, { on := 3, ground := Go.Ground.phase }, { on := 4, ground := Go.Ground.phase }, { on := 5, ground := Go.Ground.phase }, { on := 6, ground := Go.Ground.phase }, { on := 7, ground := Go.Ground.phase }, { on := 8, ground := Go.Ground.phase }, { on := 9, ground := Go.Ground.phase }, { on := 10, ground := Go.Ground.phase }, { on := 11, ground := Go.Ground.phase }, { on := 12, ground := Go.Ground.phase }, { on := 13, ground := Go.Ground.phase }, { on := 14, ground := Go.Ground.phase }, { on := 15, ground := Go.Ground.phase }, { on := 16, ground := Go.Ground.phase }, { on := 17, ground := Go.Ground.phase }, { on := 18, ground := Go.Ground.phase }, { on := 19, ground := Go.Ground.phase }, { on := 20, ground := Go.Ground.textOnly Go.Departure.lateStores }], guard := none } a W K Q else K (a.put (some 12) undef) W := by
  have q : a.tmps[67]?.getD undef = .int .i64 r1 := hI.val 19 67 rfl h19
  have R := Lib.hid (hI.step (i := 21) (d := 12) (v := .int .i64 r1) rfl tna_nodup (show 12 < 194 by decide) rfl (show (if hit f 21 17 = true then Post W else Pre W) by rw [hit_of f 21 17 (by decide)]; exact hI.held))
  clear hI E hf
  go_simp
  exact hK _ _ R.out

set_option maxRecDepth 100000 in
theorem tna_22 {g len cap k id : Nat} {ad : Addr} {s d : ByteArray} {n : Int} {r1 r2 : Int} {Pre Post : World → Prop} {base : Array Value} {f : Nat → Bool} {a : Act} {W : World} {K : Act → World → Prop} {Q : Exit → Act → World → Prop} {ops : Array Oper} (E : tnaEnv g len cap k id ad s d n r1 r2 Pre Post base) (hI : (tnaTb g len cap k id ad s d n r1 r2 Pre Post base).Inv (fun f W => if f 17 = true then Post W else Pre W) f a W) (hf : f 22 = false) (h0 : f 0 = true) (h1 : f 1 = true) (h2 : f 2 = true) (h3 : f 3 = true) (h4 : f 4 = true) (h5 : f 5 = true) (h6 : f 6 = true) (h7 : f 7 = true) (h8 : f 8 = true) (h9 : f 9 = true) (h10 : f 10 = true) (h11 : f 11 = true) (h12 : f 12 = true) (h13 : f 13 = true) (h14 : f 14 = true) (h15 : f 15 = true) (h16 : f 16 = true) (h17 : f 17 = true) (h18 : f 18 = true) (h19 : f 19 = true) (h20 : f 20 = true) (h21 : f 21 = true) (pos : String) (hK : ∀ a' W', (tnaTb g len cap k id ad s d n r1 r2 Pre Post base).Inv (fun f W => if f 17 = true then Post W else Pre W) (hit f 22) a' W' → K a' W') : if Region.wanted { dst := some 13, op := Go.Op.assign (Go.Operand.tmp 68), type := 30, pos := pos, after := #[{ on := 20, ground := Go.Ground.data }, { on := 21, ground := Go.Ground.chain }, { on := 0, ground := Go.Ground.phase }, { on := 1, ground := Go.Ground.phase }, { on := 2, ground := Go.Ground.phase }, { on := 3, ground := Go.Ground.phase }, { on := 4, ground := Go.Ground.phase }, { on := 5, ground := Go.Ground.phase }, { on := 6, ground := Go.Ground.phase }, { on := 7, ground := Go.Ground.phase }, { on := 8, ground := Go.Ground.phase }, { on := 9, ground := Go.Ground.phase }, { on := 10, ground := Go.Ground.phase }, { on := 11, ground := Go.Ground.phase }, { on := 12, ground := Go.Ground.phase }, { on := 13, ground := Go.Ground.phase }, { on := 14, ground := Go.Ground.phase }, { on := 15, ground := Go.Ground.phase }, { on := 16, ground := Go.Ground.phase }, { on := 17, ground := Go.Ground.phase }, { on := 18, ground := Go.Ground.phase }, { on := 19, ground := Go.Ground.phase }, { on := 20, ground := Go.Ground.phase }, { on := 21, ground := Go.Ground.phase }], guard := none } (yielded ops a.tmps) = true then Oper.wp Tryd.prog { dst := some 13, op := Go.Op.assign (Go.Operand.tmp 68), type := 30, pos := pos, after := #[{ on := 20, ground := Go.Ground.data }, { on := 21, ground := Go.Ground.chain }, { on := 0, ground := Go.Ground.phase }, { on := 1, ground := Go.Ground.phase }, { on := 2, ground := Go.Ground.phase }, { on := 3, ground := Go.Ground.phase }, { on := 4, ground := Go.Ground.phase }, { on := 5, ground := Go.Ground.phase }, { on := 6, ground := Go.Ground.phase }, { on := 7, ground := Go.Ground.phase }, { on := 8, ground := Go.Ground.phase }, { on := 9, ground := Go.Ground.phase }, { on := 10, ground := Go.Ground.phase }, { on := 11, ground := Go.Ground.phase }, { on := 12, ground := Go.Ground.phase }, { on := 13, ground := Go.Ground.phase }, { on := 14, ground := Go.Ground.phase }, { on := 15, ground := Go.Ground.phase }, { on := 16, ground := Go.Ground.phase }, { on := 17, ground := Go.Ground.phase }, { on := 18, ground := Go.Ground.phase }, { on := 19, ground := Go.Ground.phase }, { on := 20, ground := Go.Ground.phase }, { on := 21, ground := Go.Ground.phase }], guard := none } a W K Q else K (a.put (some 13) undef) W := by
  have q : a.tmps[68]?.getD undef = .int .i64 r2 := hI.val 20 68 rfl h20
  have R := Lib.hid (hI.step (i := 22) (d := 13) (v := .int .i64 r2) rfl tna_nodup (show 13 < 194 by decide) rfl (show (if hit f 22 17 = true then Post W else Pre W) by rw [hit_of f 22 17 (by decide)]; exact hI.held))
  clear hI E hf
  go_simp
  exact hK _ _ R.out

abbrev tnaOps : Array Oper := #[{ dst := some 49, op := Go.Op.move (Go.Operand.tmp 9), type := 27, pos := "outright.go:55", after := #[], guard := none }, { dst := some 50, op := Go.Op.move (Go.Operand.tmp 0), type := 22, pos := "outright.go:55", after := #[], guard := none }, { dst := some 51, op := Go.Op.move (Go.Operand.tmp 11), type := 3, pos := "outright.go:55", after := #[], guard := none }, { dst := some 52, op := Go.Op.indexAddr 22 (Go.Operand.tmp 50) (Go.Operand.tmp 51), type := 0, pos := "outright.go:55", after := #[{ on := 1, ground := Go.Ground.data }, { on := 2, ground := Go.Ground.data }], guard := none }, { dst := some 53, op := Go.Op.fieldAddr 25 (Go.Operand.tmp 52) 0, type := 0, pos := "outright.go:55", after := #[{ on := 3, ground := Go.Ground.data }], guard := none }, { dst := some 54, op := Go.Op.load 23 (Go.Operand.tmp 53), type := 23, pos := "outright.go:55", after := #[{ on := 4, ground := Go.Ground.data }], guard := none }, { dst := some 55, op := Go.Op.move (Go.Operand.tmp 0), type := 22, pos := "outright.go:55", after := #[], guard := none }, { dst := some 56, op := Go.Op.move (Go.Operand.tmp 11), type := 3, pos := "outright.go:55", after := #[], guard := none }, { dst := some 57, op := Go.Op.indexAddr 22 (Go.Operand.tmp 55) (Go.Operand.tmp 56), type := 0, pos := "outright.go:55", after := #[{ on := 6, ground := Go.Ground.data }, { on := 7, ground := Go.Ground.data }], guard := none }, { dst := some 58, op := Go.Op.fieldAddr 25 (Go.Operand.tmp 57) 1, type := 0, pos := "outright.go:55", after := #[{ on := 8, ground := Go.Ground.data }], guard := none }, { dst := some 59, op := Go.Op.load 9 (Go.Operand.tmp 58), type := 9, pos := "outright.go:55", after := #[{ on := 9, ground := Go.Ground.data }], guard := none }, { dst := some 60, op := Go.Op.move (Go.Operand.tmp 0), type := 22, pos := "outright.go:55", after := #[], guard := none }, { dst := some 61, op := Go.Op.move (Go.Operand.tmp 11), type := 3, pos := "outright.go:55", after := #[], guard := none }, { dst := some 62, op := Go.Op.indexAddr 22 (Go.Operand.tmp 60) (Go.Operand.tmp 61), type := 0, pos := "outright.go:55", after := #[{ on := 11, ground := Go.Ground.data }, { on := 12, ground := Go.Ground.data }], guard := none }, { dst := some 63, op := Go.Op.fieldAddr 25 (Go.Operand.tmp 62) 2, type := 0, pos := "outright.go:55", after := #[{ on := 13, ground := Go.Ground.data }], guard := none }, { dst := some 64, op := Go.Op.load 3 (Go.Operand.tmp 63), type := 3, pos := "outright.go:55", after := #[{ on := 14, ground := Go.Ground.data }], guard := none }, { dst := some 65, op := Go.Op.call { callee := Go.Callee.value (Go.Operand.func 11), args := #[Go.Operand.tmp 59, Go.Operand.tmp 64], argTypes := #[9, 3] }, type := 9, pos := "outright.go:55", after := #[{ on := 10, ground := Go.Ground.data }, { on := 15, ground := Go.Ground.data }], guard := none }, { dst := some 66, op := Go.Op.call { callee := Go.Callee.value (Go.Operand.func 10), args := #[Go.Operand.tmp 49, Go.Operand.tmp 54, Go.Operand.tmp 65], argTypes := #[27, 23, 9] }, type := 32, pos := "outright.go:55", after := #[{ on := 0, ground := Go.Ground.data }, { on := 5, ground := Go.Ground.data }, { on := 16, ground := Go.Ground.data }, { on := 16, ground := Go.Ground.chain }], guard := none }, { dst := some 48, op := Go.Op.move (Go.Operand.tmp 66), type := 32, pos := "outright.go:55", after := #[{ on := 17, ground := Go.Ground.data }], guard := none }, { dst := some 67, op := Go.Op.extract (Go.Operand.tmp 48) 0, type := 3, pos := "outright.go:55", after := #[{ on := 18, ground := Go.Ground.data }], guard := none }, { dst := some 68, op := Go.Op.extract (Go.Operand.tmp 48) 1, type := 30, pos := "outright.go:55", after := #[{ on := 18, ground := Go.Ground.data }, { on := 21, ground := Go.Ground.gcOnly Go.Departure.lateStores }], guard := none }, { dst := some 12, op := Go.Op.assign (Go.Operand.tmp 67), type := 3, pos := "outright.go:55", after := #[{ on := 19, ground := Go.Ground.data }, { on := 17, ground := Go.Ground.chain }, { on := 0, ground := Go.Ground.phase }, { on := 1, ground := Go.Ground.phase }, { on := 2, ground := Go.Ground.phase }, { on := 3, ground := Go.Ground.phase }, { on := 4, ground := Go.Ground.phase }, { on := 5, ground := Go.Ground.phase }, { on := 6, ground := Go.Ground.phase }, { on := 7, ground := Go.Ground.phase }, { on := 8, ground := Go.Ground.phase }, { on := 9, ground := Go.Ground.phase }, { on := 10, ground := Go.Ground.phase }, { on := 11, ground := Go.Ground.phase }, { on := 12, ground := Go.Ground.phase }, { on := 13, ground := Go.Ground.phase }, { on := 14, ground := Go.Ground.phase }, { on := 15, ground := Go.Ground.phase }, { on := 16, ground := Go.Ground.phase }, { on := 17, ground := Go.Ground.phase }, { on := 18, ground := Go.Ground.phase }, { on := 19, ground := Go.Ground.phase }, { on := 20, ground := Go.Ground.textOnly Go.Departure.lateStores }], guard := none }, { dst := some 13, op := Go.Op.assign (Go.Operand.tmp 68), type := 30, pos := "outright.go:55", after := #[{ on := 20, ground := Go.Ground.data }, { on := 21, ground := Go.Ground.chain }, { on := 0, ground := Go.Ground.phase }, { on := 1, ground := Go.Ground.phase }, { on := 2, ground := Go.Ground.phase }, { on := 3, ground := Go.Ground.phase }, { on := 4, ground := Go.Ground.phase }, { on := 5, ground := Go.Ground.phase }, { on := 6, ground := Go.Ground.phase }, { on := 7, ground := Go.Ground.phase }, { on := 8, ground := Go.Ground.phase }, { on := 9, ground := Go.Ground.phase }, { on := 10, ground := Go.Ground.phase }, { on := 11, ground := Go.Ground.phase }, { on := 12, ground := Go.Ground.phase }, { on := 13, ground := Go.Ground.phase }, { on := 14, ground := Go.Ground.phase }, { on := 15, ground := Go.Ground.phase }, { on := 16, ground := Go.Ground.phase }, { on := 17, ground := Go.Ground.phase }, { on := 18, ground := Go.Ground.phase }, { on := 19, ground := Go.Ground.phase }, { on := 20, ground := Go.Ground.phase }, { on := 21, ground := Go.Ground.phase }], guard := none }]
set_option maxRecDepth 100000 in
set_option maxHeartbeats 4000000 in
theorem tna_step {g len cap k id : Nat} {ad : Addr} {s d : ByteArray} {n : Int} {r1 r2 : Int} {Pre Post : World → Prop} {base : Array Value} {Q : Exit → Act → World → Prop} (E : tnaEnv g len cap k id ad s d n r1 r2 Pre Post base) :
    ∀ f a W i o, tnaOps[i]? = some o → f i = false → (∀ e ∈ o.after, Region.binds .any e = true → f e.on = true) → (tnaTb g len cap k id ad s d n r1 r2 Pre Post base).Inv (fun f W => if f 17 = true then Post W else Pre W) f a W → wpOp Tryd.prog tnaOps Q i (fun a' W' => (tnaTb g len cap k id ad s d n r1 r2 Pre Post base).Inv (fun f W => if f 17 = true then Post W else Pre W) (hit f i) a' W') a W := by
  intro f a W i o ho hf hed hI
  have hi : i < 23 := (Array.getElem?_eq_some_iff.1 ho).1
  have hc : i = 0 ∨ i = 1 ∨ i = 2 ∨ i = 3 ∨ i = 4 ∨ i = 5 ∨ i = 6 ∨ i = 7 ∨ i = 8 ∨ i = 9 ∨ i = 10 ∨ i = 11 ∨ i = 12 ∨ i = 13 ∨ i = 14 ∨ i = 15 ∨ i = 16 ∨ i = 17 ∨ i = 18 ∨ i = 19 ∨ i = 20 ∨ i = 21 ∨ i = 22 := by omega
  rcases hc with rfl | rfl | rfl | rfl | rfl | rfl | rfl | rfl | rfl | rfl | rfl | rfl | rfl | rfl | rfl | rfl | rfl | rfl | rfl | rfl | rfl | rfl | rfl
  · cases ho
    exact wpOp_step (o := { dst := some 49, op := Go.Op.move (Go.Operand.tmp 9), type := 27, pos := "outright.go:55", after := #[], guard := none }) rfl fun K hK => tna_0 E hI hf "outright.go:55" (fun a' W' h => hK a' W' h)
  · cases ho
    exact wpOp_step (o := { dst := some 50, op := Go.Op.move (Go.Operand.tmp 0), type := 22, pos := "outright.go:55", after := #[], guard := none }) rfl fun K hK => tna_1 E hI hf "outright.go:55" (fun a' W' h => hK a' W' h)
  · cases ho
    exact wpOp_step (o := { dst := some 51, op := Go.Op.move (Go.Operand.tmp 11), type := 3, pos := "outright.go:55", after := #[], guard := none }) rfl fun K hK => tna_2 E hI hf "outright.go:55" (fun a' W' h => hK a' W' h)
  · cases ho
    exact wpOp_step (o := { dst := some 52, op := Go.Op.indexAddr 22 (Go.Operand.tmp 50) (Go.Operand.tmp 51), type := 0, pos := "outright.go:55", after := #[{ on := 1, ground := Go.Ground.data }, { on := 2, ground := Go.Ground.data }], guard := none }) rfl fun K hK => tna_3 E hI hf (hed ⟨1, Go.Ground.data⟩ (Array.mem_of_getElem? (i := 0) rfl) rfl) (hed ⟨2, Go.Ground.data⟩ (Array.mem_of_getElem? (i := 1) rfl) rfl) "outright.go:55" (fun a' W' h => hK a' W' h)
  · cases ho
    exact wpOp_step (o := { dst := some 53, op := Go.Op.fieldAddr 25 (Go.Operand.tmp 52) 0, type := 0, pos := "outright.go:55", after := #[{ on := 3, ground := Go.Ground.data }], guard := none }) rfl fun K hK => tna_4 E hI hf (hed ⟨3, Go.Ground.data⟩ (Array.mem_of_getElem? (i := 0) rfl) rfl) "outright.go:55" (fun a' W' h => hK a' W' h)
  · cases ho
    exact wpOp_step (o := { dst := some 54, op := Go.Op.load 23 (Go.Operand.tmp 53), type := 23, pos := "outright.go:55", after := #[{ on := 4, ground := Go.Ground.data }], guard := none }) rfl fun K hK => tna_5 E hI hf (hed ⟨4, Go.Ground.data⟩ (Array.mem_of_getElem? (i := 0) rfl) rfl) "outright.go:55" (fun a' W' h => hK a' W' h)
  · cases ho
    exact wpOp_step (o := { dst := some 55, op := Go.Op.move (Go.Operand.tmp 0), type := 22, pos := "outright.go:55", after := #[], guard := none }) rfl fun K hK => tna_6 E hI hf "outright.go:55" (fun a' W' h => hK a' W' h)
  · cases ho
    exact wpOp_step (o := { dst := some 56, op := Go.Op.move (Go.Operand.tmp 11), type := 3, pos := "outright.go:55", after := #[], guard := none }) rfl fun K hK => tna_7 E hI hf "outright.go:55" (fun a' W' h => hK a' W' h)
  · cases ho
    exact wpOp_step (o := { dst := some 57, op := Go.Op.indexAddr 22 (Go.Operand.tmp 55) (Go.Operand.tmp 56), type := 0, pos := "outright.go:55", after := #[{ on := 6, ground := Go.Ground.data }, { on := 7, ground := Go.Ground.data }], guard := none }) rfl fun K hK => tna_8 E hI hf (hed ⟨6, Go.Ground.data⟩ (Array.mem_of_getElem? (i := 0) rfl) rfl) (hed ⟨7, Go.Ground.data⟩ (Array.mem_of_getElem? (i := 1) rfl) rfl) "outright.go:55" (fun a' W' h => hK a' W' h)
  · cases ho
    exact wpOp_step (o := { dst := some 58, op := Go.Op.fieldAddr 25 (Go.Operand.tmp 57) 1, type := 0, pos := "outright.go:55", after := #[{ on := 8, ground := Go.Ground.data }], guard := none }) rfl fun K hK => tna_9 E hI hf (hed ⟨8, Go.Ground.data⟩ (Array.mem_of_getElem? (i := 0) rfl) rfl) "outright.go:55" (fun a' W' h => hK a' W' h)
  · cases ho
    exact wpOp_step (o := { dst := some 59, op := Go.Op.load 9 (Go.Operand.tmp 58), type := 9, pos := "outright.go:55", after := #[{ on := 9, ground := Go.Ground.data }], guard := none }) rfl fun K hK => tna_10 E hI hf (hed ⟨9, Go.Ground.data⟩ (Array.mem_of_getElem? (i := 0) rfl) rfl) "outright.go:55" (fun a' W' h => hK a' W' h)
  · cases ho
    exact wpOp_step (o := { dst := some 60, op := Go.Op.move (Go.Operand.tmp 0), type := 22, pos := "outright.go:55", after := #[], guard := none }) rfl fun K hK => tna_11 E hI hf "outright.go:55" (fun a' W' h => hK a' W' h)
  · cases ho
    exact wpOp_step (o := { dst := some 61, op := Go.Op.move (Go.Operand.tmp 11), type := 3, pos := "outright.go:55", after := #[], guard := none }) rfl fun K hK => tna_12 E hI hf "outright.go:55" (fun a' W' h => hK a' W' h)
  · cases ho
    exact wpOp_step (o := { dst := some 62, op := Go.Op.indexAddr 22 (Go.Operand.tmp 60) (Go.Operand.tmp 61), type := 0, pos := "outright.go:55", after := #[{ on := 11, ground := Go.Ground.data }, { on := 12, ground := Go.Ground.data }], guard := none }) rfl fun K hK => tna_13 E hI hf (hed ⟨11, Go.Ground.data⟩ (Array.mem_of_getElem? (i := 0) rfl) rfl) (hed ⟨12, Go.Ground.data⟩ (Array.mem_of_getElem? (i := 1) rfl) rfl) "outright.go:55" (fun a' W' h => hK a' W' h)
  · cases ho
    exact wpOp_step (o := { dst := some 63, op := Go.Op.fieldAddr 25 (Go.Operand.tmp 62) 2, type := 0, pos := "outright.go:55", after := #[{ on := 13, ground := Go.Ground.data }], guard := none }) rfl fun K hK => tna_14 E hI hf (hed ⟨13, Go.Ground.data⟩ (Array.mem_of_getElem? (i := 0) rfl) rfl) "outright.go:55" (fun a' W' h => hK a' W' h)
  · cases ho
    exact wpOp_step (o := { dst := some 64, op := Go.Op.load 3 (Go.Operand.tmp 63), type := 3, pos := "outright.go:55", after := #[{ on := 14, ground := Go.Ground.data }], guard := none }) rfl fun K hK => tna_15 E hI hf (hed ⟨14, Go.Ground.data⟩ (Array.mem_of_getElem? (i := 0) rfl) rfl) "outright.go:55" (fun a' W' h => hK a' W' h)
  · cases ho
    exact wpOp_step (o := { dst := some 65, op := Go.Op.call { callee := Go.Callee.value (Go.Operand.func 11), args := #[Go.Operand.tmp 59, Go.Operand.tmp 64], argTypes := #[9, 3] }, type := 9, pos := "outright.go:55", after := #[{ on := 10, ground := Go.Ground.data }, { on := 15, ground := Go.Ground.data }], guard := none }) rfl fun K hK => tna_16 E hI hf (hed ⟨10, Go.Ground.data⟩ (Array.mem_of_getElem? (i := 0) rfl) rfl) (hed ⟨15, Go.Ground.data⟩ (Array.mem_of_getElem? (i := 1) rfl) rfl) "outright.go:55" (fun a' W' h => hK a' W' h)
  · cases ho
    exact wpOp_step (o := { dst := some 66, op := Go.Op.call { callee := Go.Callee.value (Go.Operand.func 10), args := #[Go.Operand.tmp 49, Go.Operand.tmp 54, Go.Operand.tmp 65], argTypes := #[27, 23, 9] }, type := 32, pos := "outright.go:55", after := #[{ on := 0, ground := Go.Ground.data }, { on := 5, ground := Go.Ground.data }, { on := 16, ground := Go.Ground.data }, { on := 16, ground := Go.Ground.chain }], guard := none }) rfl fun K hK => tna_17 E hI hf (hed ⟨0, Go.Ground.data⟩ (Array.mem_of_getElem? (i := 0) rfl) rfl) (hed ⟨5, Go.Ground.data⟩ (Array.mem_of_getElem? (i := 1) rfl) rfl) (hed ⟨16, Go.Ground.data⟩ (Array.mem_of_getElem? (i := 2) rfl) rfl) "outright.go:55" (fun a' W' h => hK a' W' h)
  · cases ho
    exact wpOp_step (o := { dst := some 48, op := Go.Op.move (Go.Operand.tmp 66), type := 32, pos := "outright.go:55", after := #[{ on := 17, ground := Go.Ground.data }], guard := none }) rfl fun K hK => tna_18 E hI hf (hed ⟨17, Go.Ground.data⟩ (Array.mem_of_getElem? (i := 0) rfl) rfl) "outright.go:55" (fun a' W' h => hK a' W' h)
  · cases ho
    exact wpOp_step (o := { dst := some 67, op := Go.Op.extract (Go.Operand.tmp 48) 0, type := 3, pos := "outright.go:55", after := #[{ on := 18, ground := Go.Ground.data }], guard := none }) rfl fun K hK => tna_19 E hI hf (hed ⟨18, Go.Ground.data⟩ (Array.mem_of_getElem? (i := 0) rfl) rfl) "outright.go:55" (fun a' W' h => hK a' W' h)
  · cases ho
    exact wpOp_step (o := { dst := some 68, op := Go.Op.extract (Go.Operand.tmp 48) 1, type := 30, pos := "outright.go:55", after := #[{ on := 18, ground := Go.Ground.data }, { on := 21, ground := Go.Ground.gcOnly Go.Departure.lateStores }], guard := none }) rfl fun K hK => tna_20 E hI hf (hed ⟨18, Go.Ground.data⟩ (Array.mem_of_getElem? (i := 0) rfl) rfl) "outright.go:55" (fun a' W' h => hK a' W' h)
  · cases ho
    exact wpOp_step (o := { dst := some 12, op := Go.Op.assign (Go.Operand.tmp 67), type := 3, pos := "outright.go:55", after := #[{ on := 19, ground := Go.Ground.data }, { on := 17, ground := Go.Ground.chain }, { on := 0, ground := Go.Ground.phase }, { on := 1, ground := Go.Ground.phase }, { on := 2, ground := Go.Ground.phase }, { on := 3, ground := Go.Ground.phase }, { on := 4, ground := Go.Ground.phase }, { on := 5, ground := Go.Ground.phase }, { on := 6, ground := Go.Ground.phase }, { on := 7, ground := Go.Ground.phase }, { on := 8, ground := Go.Ground.phase }, { on := 9, ground := Go.Ground.phase }, { on := 10, ground := Go.Ground.phase }, { on := 11, ground := Go.Ground.phase }, { on := 12, ground := Go.Ground.phase }, { on := 13, ground := Go.Ground.phase }, { on := 14, ground := Go.Ground.phase }, { on := 15, ground := Go.Ground.phase }, { on := 16, ground := Go.Ground.phase }, { on := 17, ground := Go.Ground.phase }, { on := 18, ground := Go.Ground.phase }, { on := 19, ground := Go.Ground.phase }, { on := 20, ground := Go.Ground.textOnly Go.Departure.lateStores }], guard := none }) rfl fun K hK => tna_21 E hI hf (hed ⟨0, Go.Ground.phase⟩ (Array.mem_of_getElem? (i := 2) rfl) rfl) (hed ⟨1, Go.Ground.phase⟩ (Array.mem_of_getElem? (i := 3) rfl) rfl) (hed ⟨2, Go.Ground.phase⟩ (Array.mem_of_getElem? (i := 4) rfl) rfl) (hed ⟨3, Go.Ground.phase⟩ (Array.mem_of_getElem? (i := 5) rfl) rfl) (hed ⟨4, Go.Ground.phase⟩ (Array.mem_of_getElem? (i := 6) rfl) rfl) (hed ⟨5, Go.Ground.phase⟩ (Array.mem_of_getElem? (i := 7) rfl) rfl) (hed ⟨6, Go.Ground.phase⟩ (Array.mem_of_getElem? (i := 8) rfl) rfl) (hed ⟨7, Go.Ground.phase⟩ (Array.mem_of_getElem? (i := 9) rfl) rfl) (hed ⟨8, Go.Ground.phase⟩ (Array.mem_of_getElem? (i := 10) rfl) rfl) (hed ⟨9, Go.Ground.phase⟩ (Array.mem_of_getElem? (i := 11) rfl) rfl) (hed ⟨10, Go.Ground.phase⟩ (Array.mem_of_getElem? (i := 12) rfl) rfl) (hed ⟨11, Go.Ground.phase⟩ (Array.mem_of_getElem? (i := 13) rfl) rfl) (hed ⟨12, Go.Ground.phase⟩ (Array.mem_of_getElem? (i := 14) rfl) rfl) (hed ⟨13, Go.Ground.phase⟩ (Array.mem_of_getElem? (i := 15) rfl) rfl) (hed ⟨14, Go.Ground.phase⟩ (Array.mem_of_getElem? (i := 16) rfl) rfl) (hed ⟨15, Go.Ground.phase⟩ (Array.mem_of_getElem? (i := 17) rfl) rfl) (hed ⟨16, Go.Ground.phase⟩ (Array.mem_of_getElem? (i := 18) rfl) rfl) (hed ⟨17, Go.Ground.chain⟩ (Array.mem_of_getElem? (i := 1) rfl) rfl) (hed ⟨18, Go.Ground.phase⟩ (Array.mem_of_getElem? (i := 20) rfl) rfl) (hed ⟨19, Go.Ground.data⟩ (Array.mem_of_getElem? (i := 0) rfl) rfl) "outright.go:55" (fun a' W' h => hK a' W' h)
  · cases ho
    exact wpOp_step (o := { dst := some 13, op := Go.Op.assign (Go.Operand.tmp 68), type := 30, pos := "outright.go:55", after := #[{ on := 20, ground := Go.Ground.data }, { on := 21, ground := Go.Ground.chain }, { on := 0, ground := Go.Ground.phase }, { on := 1, ground := Go.Ground.phase }, { on := 2, ground := Go.Ground.phase }, { on := 3, ground := Go.Ground.phase }, { on := 4, ground := Go.Ground.phase }, { on := 5, ground := Go.Ground.phase }, { on := 6, ground := Go.Ground.phase }, { on := 7, ground := Go.Ground.phase }, { on := 8, ground := Go.Ground.phase }, { on := 9, ground := Go.Ground.phase }, { on := 10, ground := Go.Ground.phase }, { on := 11, ground := Go.Ground.phase }, { on := 12, ground := Go.Ground.phase }, { on := 13, ground := Go.Ground.phase }, { on := 14, ground := Go.Ground.phase }, { on := 15, ground := Go.Ground.phase }, { on := 16, ground := Go.Ground.phase }, { on := 17, ground := Go.Ground.phase }, { on := 18, ground := Go.Ground.phase }, { on := 19, ground := Go.Ground.phase }, { on := 20, ground := Go.Ground.phase }, { on := 21, ground := Go.Ground.phase }], guard := none }) rfl fun K hK => tna_22 E hI hf (hed ⟨0, Go.Ground.phase⟩ (Array.mem_of_getElem? (i := 2) rfl) rfl) (hed ⟨1, Go.Ground.phase⟩ (Array.mem_of_getElem? (i := 3) rfl) rfl) (hed ⟨2, Go.Ground.phase⟩ (Array.mem_of_getElem? (i := 4) rfl) rfl) (hed ⟨3, Go.Ground.phase⟩ (Array.mem_of_getElem? (i := 5) rfl) rfl) (hed ⟨4, Go.Ground.phase⟩ (Array.mem_of_getElem? (i := 6) rfl) rfl) (hed ⟨5, Go.Ground.phase⟩ (Array.mem_of_getElem? (i := 7) rfl) rfl) (hed ⟨6, Go.Ground.phase⟩ (Array.mem_of_getElem? (i := 8) rfl) rfl) (hed ⟨7, Go.Ground.phase⟩ (Array.mem_of_getElem? (i := 9) rfl) rfl) (hed ⟨8, Go.Ground.phase⟩ (Array.mem_of_getElem? (i := 10) rfl) rfl) (hed ⟨9, Go.Ground.phase⟩ (Array.mem_of_getElem? (i := 11) rfl) rfl) (hed ⟨10, Go.Ground.phase⟩ (Array.mem_of_getElem? (i := 12) rfl) rfl) (hed ⟨11, Go.Ground.phase⟩ (Array.mem_of_getElem? (i := 13) rfl) rfl) (hed ⟨12, Go.Ground.phase⟩ (Array.mem_of_getElem? (i := 14) rfl) rfl) (hed ⟨13, Go.Ground.phase⟩ (Array.mem_of_getElem? (i := 15) rfl) rfl) (hed ⟨14, Go.Ground.phase⟩ (Array.mem_of_getElem? (i := 16) rfl) rfl) (hed ⟨15, Go.Ground.phase⟩ (Array.mem_of_getElem? (i := 17) rfl) rfl) (hed ⟨16, Go.Ground.phase⟩ (Array.mem_of_getElem? (i := 18) rfl) rfl) (hed ⟨17, Go.Ground.phase⟩ (Array.mem_of_getElem? (i := 19) rfl) rfl) (hed ⟨18, Go.Ground.phase⟩ (Array.mem_of_getElem? (i := 20) rfl) rfl) (hed ⟨19, Go.Ground.phase⟩ (Array.mem_of_getElem? (i := 21) rfl) rfl) (hed ⟨20, Go.Ground.data⟩ (Array.mem_of_getElem? (i := 0) rfl) rfl) (hed ⟨21, Go.Ground.chain⟩ (Array.mem_of_getElem? (i := 1) rfl) rfl) "outright.go:55" (fun a' W' h => hK a' W' h)

/-- THE REGION -/
theorem tna_region {g len cap k id : Nat} {ad : Addr} {s d : ByteArray} {n : Int} {r1 r2 : Int} {Pre Post : World → Prop} {tm : Array Value} {Q : Exit → Act → World → Prop} {w : World} (hsz : tm.size = 194) (E : tnaEnv g len cap k id ad s d n r1 r2 Pre Post tm) (hT : Pre w.drew)
    (hend : ∀ W, Post W → Q .normal ⟨(((((((((((((((((((((((tm.setIfInBounds 49 (.pointer (some ⟨g, 0, none⟩))).setIfInBounds 50 (.slice (some ad) len cap)).setIfInBounds 51 (.int .i64 (k : Int))).setIfInBounds 52 (.pointer (some (ad.add (k * 3))))).setIfInBounds 53 (.pointer (some (ad.add (k * 3))))).setIfInBounds 54 (.int .u64 (id : Int))).setIfInBounds 55 (.slice (some ad) len cap)).setIfInBounds 56 (.int .i64 (k : Int))).setIfInBounds 57 (.pointer (some (ad.add (k * 3))))).setIfInBounds 58 (.pointer (some ⟨(ad.add (k * 3)).block, (ad.add (k * 3)).off + 1, none⟩))).setIfInBounds 59 (.string s)).setIfInBounds 60 (.slice (some ad) len cap)).setIfInBounds 61 (.int .i64 (k : Int))).setIfInBounds 62 (.pointer (some (ad.add (k * 3))))).setIfInBounds 63 (.pointer (some ⟨(ad.add (k * 3)).block, (ad.add (k * 3)).off + 2, none⟩))).setIfInBounds 64 (.int .i64 n)).setIfInBounds 65 (.string d)).setIfInBounds 66 (.tuple #[.int .i64 r1, .int .i64 r2])).setIfInBounds 48 (.tuple #[.int .i64 r1, .int .i64 r2])).setIfInBounds 67 (.int .i64 r1)).setIfInBounds 68 (.int .i64 r2)).setIfInBounds 12 (.int .i64 r1)).setIfInBounds 13 (.int .i64 r2)), []⟩ W) : (Code.region 8 tnaOps true).wp Tryd.prog Q ⟨tm, []⟩ w := by
  refine wp_region_inv (by kernel_rfl) (by kernel_rfl) ((tnaTb g len cap k id ad s d n r1 r2 Pre Post tm).Inv (fun f W => if f 17 = true then Post W else Pre W)) ⟨hsz, rfl, fun s _ => rfl, fun i d _ hf => (by cases hf), hT⟩ (tna_step E) ?_
  intro f a W hall hI
  have ha := hI.fin hall hsz tna_nodup rfl
  rw [ha]
  exact hend W (by have := hI.held; rwa [if_pos (hall 17 (by decide))] at this)
end Go.Proofs.YtejgogahkjnefaaDoor

/- TapefmtTorn: region 12: a blob is written. Written by gen_rf.py. -/
namespace Go.Proofs.YtejgogahkjnefaaDoor
open Go.RowKit
open Sm
set_option linter.unusedVariables false
set_option linter.unusedSimpArgs false

def tnbTb (g X id : Nat) (s d : ByteArray) (n : Int) (r1 r2 : Int) (Pre Post : World → Prop) (base : Array Value) : Tf where
  slots := [77, 78, 79, 80, 81, 82, 83, 84, 85, 76, 86, 87, 14, 15]
  size := 194
  base := base
  val := fun
    | 0 => .pointer (some ⟨g, 0, none⟩)
    | 1 => .pointer (some ⟨X, 0, none⟩)
    | 2 => .int .u64 (id : Int)
    | 3 => .pointer (some ⟨X, 1, none⟩)
    | 4 => .string s
    | 5 => .pointer (some ⟨X, 2, none⟩)
    | 6 => .int .i64 n
    | 7 => .string d
    | 8 => .tuple #[.int .i64 r1, .int .i64 r2]
    | 9 => .tuple #[.int .i64 r1, .int .i64 r2]
    | 10 => .int .i64 r1
    | 11 => .int .i64 r2
    | 12 => .int .i64 r1
    | 13 => .int .i64 r2
    | _ => undef

structure tnbEnv (g X id : Nat) (s d : ByteArray) (n : Int) (r1 r2 : Int) (Pre Post : World → Prop) (base : Array Value) : Prop where
  b9 : base[9]?.getD undef = .pointer (some ⟨g, 0, none⟩)
  b5 : base[5]?.getD undef = .pointer (some ⟨X, 0, none⟩)
  c : ∀ W, Pre W ∨ Post W → W.cell? ⟨X, 0, none⟩ = some (.int .u64 (id : Int)) ∧ W.cell? ⟨X, 1, none⟩ = some (.string s) ∧ W.cell? ⟨X, 2, none⟩ = some (.int .i64 n)
  lo : ∀ W, Calls Tryd.prog 11 #[.string s, .int .i64 n] W fun e w' => e = .returned (.string d) ∧ W = w'
  wr : ∀ W, Pre W → Calls Tryd.prog 10 #[.pointer (some ⟨g, 0, none⟩), .int .u64 (id : Int), .string d] W fun e w' => e = .returned (.tuple #[.int .i64 r1, .int .i64 r2]) ∧ Post w'

theorem tnb_nodup : [77, 78, 79, 80, 81, 82, 83, 84, 85, 76, 86, 87, 14, 15].Nodup := by decide
set_option maxRecDepth 100000 in
theorem tnb_0 {g X id : Nat} {s d : ByteArray} {n : Int} {r1 r2 : Int} {Pre Post : World → Prop} {base : Array Value} {f : Nat → Bool} {a : Act} {W : World} {K : Act → World → Prop} {Q : Exit → Act → World → Prop} {ops : Array Oper} (E : tnbEnv g X id s d n r1 r2 Pre Post base) (hI : (tnbTb g X id s d n r1 r2 Pre Post base).Inv (fun f W => if f 8 = true then Post W else Pre W) f a W) (hf : f 0 = false) (pos : String) (hK : ∀ a' W', (tnbTb g X id s d n r1 r2 Pre Post base).Inv (fun f W => if f 8 = true then Post W else Pre W) (hit f 0) a' W' → K a' W') : if Region.wanted { dst := some 77, op := Go.Op.move (Go.Operand.tmp 9), type := 27, pos := pos, after := #[], guard := none } (yielded ops a.tmps) = true then Oper.wp Tryd.prog { dst := some 77, op := Go.Op.move (Go.Operand.tmp 9), type := 27, pos := pos, after := #[], guard := none } a W K Q else K (a.put (some 77) undef) W := by
  have q : a.tmps[9]?.getD undef = .pointer (some ⟨g, 0, none⟩) := (hI.base 9 rfl).trans E.b9
  have R := Lib.hid (hI.step (i := 0) (d := 77) (v := .pointer (some ⟨g, 0, none⟩)) rfl tnb_nodup (show 77 < 194 by decide) rfl (show (if hit f 0 8 = true then Post W else Pre W) by rw [hit_of f 0 8 (by decide)]; exact hI.held))
  clear hI E hf
  go_simp
  exact hK _ _ R.out

set_option maxRecDepth 100000 in
theorem tnb_1 {g X id : Nat} {s d : ByteArray} {n : Int} {r1 r2 : Int} {Pre Post : World → Prop} {base : Array Value} {f : Nat → Bool} {a : Act} {W : World} {K : Act → World → Prop} {Q : Exit → Act → World → Prop} {ops : Array Oper} (E : tnbEnv g X id s d n r1 r2 Pre Post base) (hI : (tnbTb g X id s d n r1 r2 Pre Post base).Inv (fun f W => if f 8 = true then Post W else Pre W) f a W) (hf : f 1 = false) (pos : String) (hK : ∀ a' W', (tnbTb g X id s d n r1 r2 Pre Post base).Inv (fun f W => if f 8 = true then Post W else Pre W) (hit f 1) a' W' → K a' W') : if Region.wanted { dst := some 78, op := Go.Op.fieldAddr 25 (Go.Operand.tmp 5) 0, type := 0, pos := pos, after := #[], guard := none } (yielded ops a.tmps) = true then Oper.wp Tryd.prog { dst := some 78, op := Go.Op.fieldAddr 25 (Go.Operand.tmp 5) 0, type := 0, pos := pos, after := #[], guard := none } a W K Q else K (a.put (some 78) undef) W := by
  have q : a.tmps[5]?.getD undef = .pointer (some ⟨X, 0, none⟩) := (hI.base 5 rfl).trans E.b5
  have R := Lib.hid (hI.step (i := 1) (d := 78) (v := .pointer (some ⟨X, 0, none⟩)) rfl tnb_nodup (show 78 < 194 by decide) rfl (show (if hit f 1 8 = true then Post W else Pre W) by rw [hit_of f 1 8 (by decide)]; exact hI.held))
  clear hI E hf
  go_simp
  exact hK _ _ R.out

set_option maxRecDepth 100000 in
theorem tnb_2 {g X id : Nat} {s d : ByteArray} {n : Int} {r1 r2 : Int} {Pre Post : World → Prop} {base : Array Value} {f : Nat → Bool} {a : Act} {W : World} {K : Act → World → Prop} {Q : Exit → Act → World → Prop} {ops : Array Oper} (E : tnbEnv g X id s d n r1 r2 Pre Post base) (hI : (tnbTb g X id s d n r1 r2 Pre Post base).Inv (fun f W => if f 8 = true then Post W else Pre W) f a W) (hf : f 2 = false) (h1 : f 1 = true) (pos : String) (hK : ∀ a' W', (tnbTb g X id s d n r1 r2 Pre Post base).Inv (fun f W => if f 8 = true then Post W else Pre W) (hit f 2) a' W' → K a' W') : if Region.wanted { dst := some 79, op := Go.Op.load 23 (Go.Operand.tmp 78), type := 23, pos := pos, after := #[{ on := 1, ground := Go.Ground.data }], guard := none } (yielded ops a.tmps) = true then Oper.wp Tryd.prog { dst := some 79, op := Go.Op.load 23 (Go.Operand.tmp 78), type := 23, pos := pos, after := #[{ on := 1, ground := Go.Ground.data }], guard := none } a W K Q else K (a.put (some 79) undef) W := by
  have q : a.tmps[78]?.getD undef = .pointer (some ⟨X, 0, none⟩) := hI.val 1 78 rfl h1
  have c : W.cell? ⟨X, 0, none⟩ = some (.int .u64 (id : Int)) := (E.c W (by have h : (if f 8 = true then Post W else Pre W) := hI.held; by_cases h8 : f 8 = true; (rw [if_pos h8] at h; exact .inr h); (rw [if_neg h8] at h; exact .inl h))).1
  have R := Lib.hid (hI.step (i := 2) (d := 79) (v := .int .u64 (id : Int)) rfl tnb_nodup (show 79 < 194 by decide) rfl (show (if hit f 2 8 = true then Post W else Pre W) by rw [hit_of f 2 8 (by decide)]; exact hI.held))
  clear hI E hf
  go_simp
  exact hK _ _ R.out

set_option maxRecDepth 100000 in
theorem tnb_3 {g X id : Nat} {s d : ByteArray} {n : Int} {r1 r2 : Int} {Pre Post : World → Prop} {base : Array Value} {f : Nat → Bool} {a : Act} {W : World} {K : Act → World → Prop} {Q : Exit → Act → World → Prop} {ops : Array Oper} (E : tnbEnv g X id s d n r1 r2 Pre Post base) (hI : (tnbTb g X id s d n r1 r2 Pre Post base).Inv (fun f W => if f 8 = true then Post W else Pre W) f a W) (hf : f 3 = false) (pos : String) (hK : ∀ a' W', (tnbTb g X id s d n r1 r2 Pre Post base).Inv (fun f W => if f 8 = true then Post W else Pre W) (hit f 3) a' W' → K a' W') : if Region.wanted { dst := some 80, op := Go.Op.fieldAddr 25 (Go.Operand.tmp 5) 1, type := 0, pos := pos, after := #[], guard := none } (yielded ops a.tmps) = true then Oper.wp Tryd.prog { dst := some 80, op := Go.Op.fieldAddr 25 (Go.Operand.tmp 5) 1, type := 0, pos := pos, after := #[], guard := none } a W K Q else K (a.put (some 80) undef) W := by
  have q : a.tmps[5]?.getD undef = .pointer (some ⟨X, 0, none⟩) := (hI.base 5 rfl).trans E.b5
  have R := Lib.hid (hI.step (i := 3) (d := 80) (v := .pointer (some ⟨X, 1, none⟩)) rfl tnb_nodup (show 80 < 194 by decide) rfl (show (if hit f 3 8 = true then Post W else Pre W) by rw [hit_of f 3 8 (by decide)]; exact hI.held))
  clear hI E hf
  go_simp
  exact hK _ _ R.out

set_option maxRecDepth 100000 in
theorem tnb_4 {g X id : Nat} {s d : ByteArray} {n : Int} {r1 r2 : Int} {Pre Post : World → Prop} {base : Array Value} {f : Nat → Bool} {a : Act} {W : World} {K : Act → World → Prop} {Q : Exit → Act → World → Prop} {ops : Array Oper} (E : tnbEnv g X id s d n r1 r2 Pre Post base) (hI : (tnbTb g X id s d n r1 r2 Pre Post base).Inv (fun f W => if f 8 = true then Post W else Pre W) f a W) (hf : f 4 = false) (h3 : f 3 = true) (pos : String) (hK : ∀ a' W', (tnbTb g X id s d n r1 r2 Pre Post base).Inv (fun f W => if f 8 = true then Post W else Pre W) (hit f 4) a' W' → K a' W') : if Region.wanted { dst := some 81, op := Go.Op.load 9 (Go.Operand.tmp 80), type := 9, pos := pos, after := #[{ on := 3, ground := Go.Ground.data }], guard := none } (yielded ops a.tmps) = true then Oper.wp Tryd.prog { dst := some 81, op := Go.Op.load 9 (Go.Operand.tmp 80), type := 9, pos := pos, after := #[{ on := 3, ground := Go.Ground.data }], guard := none } a W K Q else K (a.put (some 81) undef) W := by
  have q : a.tmps[80]?.getD undef = .pointer (some ⟨X, 1, none⟩) := hI.val 3 80 rfl h3
  have c : W.cell? ⟨X, 1, none⟩ = some (.string s) := (E.c W (by have h : (if f 8 = true then Post W else Pre W) := hI.held; by_cases h8 : f 8 = true; (rw [if_pos h8] at h; exact .inr h); (rw [if_neg h8] at h; exact .inl h))).2.1
  have R := Lib.hid (hI.step (i := 4) (d := 81) (v := .string s) rfl tnb_nodup (show 81 < 194 by decide) rfl (show (if hit f 4 8 = true then Post W else Pre W) by rw [hit_of f 4 8 (by decide)]; exact hI.held))
  clear hI E hf
  go_simp
  exact hK _ _ R.out

set_option maxRecDepth 100000 in
theorem tnb_5 {g X id : Nat} {s d : ByteArray} {n : Int} {r1 r2 : Int} {Pre Post : World → Prop} {base : Array Value} {f : Nat → Bool} {a : Act} {W : World} {K : Act → World → Prop} {Q : Exit → Act → World → Prop} {ops : Array Oper} (E : tnbEnv g X id s d n r1 r2 Pre Post base) (hI : (tnbTb g X id s d n r1 r2 Pre Post base).Inv (fun f W => if f 8 = true then Post W else Pre W) f a W) (hf : f 5 = false) (pos : String) (hK : ∀ a' W', (tnbTb g X id s d n r1 r2 Pre Post base).Inv (fun f W => if f 8 = true then Post W else Pre W) (hit f 5) a' W' → K a' W') : if Region.wanted { dst := some 82, op := Go.Op.fieldAddr 25 (Go.Operand.tmp 5) 2, type := 0, pos := pos, after := #[], guard := none } (yielded ops a.tmps) = true then Oper.wp Tryd.prog { dst := some 82, op := Go.Op.fieldAddr 25 (Go.Operand.tmp 5) 2, type := 0, pos := pos, after := #[], guard := none } a W K Q else K (a.put (some 82) undef) W := by
  have q : a.tmps[5]?.getD undef = .pointer (some ⟨X, 0, none⟩) := (hI.base 5 rfl).trans E.b5
  have R := Lib.hid (hI.step (i := 5) (d := 82) (v := .pointer (some ⟨X, 2, none⟩)) rfl tnb_nodup (show 82 < 194 by decide) rfl (show (if hit f 5 8 = true then Post W else Pre W) by rw [hit_of f 5 8 (by decide)]; exact hI.held))
  clear hI E hf
  go_simp
  exact hK _ _ R.out

set_option maxRecDepth 100000 in
theorem tnb_6 {g X id : Nat} {s d : ByteArray} {n : Int} {r1 r2 : Int} {Pre Post : World → Prop} {base : Array Value} {f : Nat → Bool} {a : Act} {W : World} {K : Act → World → Prop} {Q : Exit → Act → World → Prop} {ops : Array Oper} (E : tnbEnv g X id s d n r1 r2 Pre Post base) (hI : (tnbTb g X id s d n r1 r2 Pre Post base).Inv (fun f W => if f 8 = true then Post W else Pre W) f a W) (hf : f 6 = false) (h5 : f 5 = true) (pos : String) (hK : ∀ a' W', (tnbTb g X id s d n r1 r2 Pre Post base).Inv (fun f W => if f 8 = true then Post W else Pre W) (hit f 6) a' W' → K a' W') : if Region.wanted { dst := some 83, op := Go.Op.load 3 (Go.Operand.tmp 82), type := 3, pos := pos, after := #[{ on := 5, ground := Go.Ground.data }], guard := none } (yielded ops a.tmps) = true then Oper.wp Tryd.prog { dst := some 83, op := Go.Op.load 3 (Go.Operand.tmp 82), type := 3, pos := pos, after := #[{ on := 5, ground := Go.Ground.data }], guard := none } a W K Q else K (a.put (some 83) undef) W := by
  have q : a.tmps[82]?.getD undef = .pointer (some ⟨X, 2, none⟩) := hI.val 5 82 rfl h5
  have c : W.cell? ⟨X, 2, none⟩ = some (.int .i64 n) := (E.c W (by have h : (if f 8 = true then Post W else Pre W) := hI.held; by_cases h8 : f 8 = true; (rw [if_pos h8] at h; exact .inr h); (rw [if_neg h8] at h; exact .inl h))).2.2
  have R := Lib.hid (hI.step (i := 6) (d := 83) (v := .int .i64 n) rfl tnb_nodup (show 83 < 194 by decide) rfl (show (if hit f 6 8 = true then Post W else Pre W) by rw [hit_of f 6 8 (by decide)]; exact hI.held))
  clear hI E hf
  go_simp
  exact hK _ _ R.out

set_option maxRecDepth 100000 in
theorem tnb_7 {g X id : Nat} {s d : ByteArray} {n : Int} {r1 r2 : Int} {Pre Post : World → Prop} {base : Array Value} {f : Nat → Bool} {a : Act} {W : World} {K : Act → World → Prop} {Q : Exit → Act → World → Prop} {ops : Array Oper} (E : tnbEnv g X id s d n r1 r2 Pre Post base) (hI : (tnbTb g X id s d n r1 r2 Pre Post base).Inv (fun f W => if f 8 = true then Post W else Pre W) f a W) (hf : f 7 = false) (h4 : f 4 = true) (h6 : f 6 = true) (pos : String) (hK : ∀ a' W', (tnbTb g X id s d n r1 r2 Pre Post base).Inv (fun f W => if f 8 = true then Post W else Pre W) (hit f 7) a' W' → K a' W') : if Region.wanted { dst := some 84, op := Go.Op.call { callee := Go.Callee.value (Go.Operand.func 11), args := #[Go.Operand.tmp 81, Go.Operand.tmp 83], argTypes := #[9, 3] }, type := 9, pos := pos, after := #[{ on := 4, ground := Go.Ground.data }, { on := 6, ground := Go.Ground.data }], guard := none } (yielded ops a.tmps) = true then Oper.wp Tryd.prog { dst := some 84, op := Go.Op.call { callee := Go.Callee.value (Go.Operand.func 11), args := #[Go.Operand.tmp 81, Go.Operand.tmp 83], argTypes := #[9, 3] }, type := 9, pos := pos, after := #[{ on := 4, ground := Go.Ground.data }, { on := 6, ground := Go.Ground.data }], guard := none } a W K Q else K (a.put (some 84) undef) W := by
  have y0 : a.tmps[81]?.getD undef = .string s := hI.val 4 81 rfl h4
  have y1 : a.tmps[83]?.getD undef = .int .i64 n := hI.val 6 83 rfl h6
  have hC := E.lo W
  have HR := Lib.hid (hI.step (i := 7) (d := 84) (v := .string d) rfl tnb_nodup (show 84 < 194 by decide) rfl (show (if hit f 7 8 = true then Post W else Pre W) by rw [hit_of f 7 8 (by decide)]; exact hI.held))
  clear hI E hf
  go_simp
  refine hC.mono ?_
  rintro e W1 ⟨rfl, rfl⟩
  exact hK _ _ HR.out

set_option maxRecDepth 100000 in
theorem tnb_8 {g X id : Nat} {s d : ByteArray} {n : Int} {r1 r2 : Int} {Pre Post : World → Prop} {base : Array Value} {f : Nat → Bool} {a : Act} {W : World} {K : Act → World → Prop} {Q : Exit → Act → World → Prop} {ops : Array Oper} (E : tnbEnv g X id s d n r1 r2 Pre Post base) (hI : (tnbTb g X id s d n r1 r2 Pre Post base).Inv (fun f W => if f 8 = true then Post W else Pre W) f a W) (hf : f 8 = false) (h0 : f 0 = true) (h2 : f 2 = true) (h7 : f 7 = true) (pos : String) (hK : ∀ a' W', (tnbTb g X id s d n r1 r2 Pre Post base).Inv (fun f W => if f 8 = true then Post W else Pre W) (hit f 8) a' W' → K a' W') : if Region.wanted { dst := some 85, op := Go.Op.call { callee := Go.Callee.value (Go.Operand.func 10), args := #[Go.Operand.tmp 77, Go.Operand.tmp 79, Go.Operand.tmp 84], argTypes := #[27, 23, 9] }, type := 32, pos := pos, after := #[{ on := 0, ground := Go.Ground.data }, { on := 2, ground := Go.Ground.data }, { on := 7, ground := Go.Ground.data }, { on := 7, ground := Go.Ground.chain }], guard := none } (yielded ops a.tmps) = true then Oper.wp Tryd.prog { dst := some 85, op := Go.Op.call { callee := Go.Callee.value (Go.Operand.func 10), args := #[Go.Operand.tmp 77, Go.Operand.tmp 79, Go.Operand.tmp 84], argTypes := #[27, 23, 9] }, type := 32, pos := pos, after := #[{ on := 0, ground := Go.Ground.data }, { on := 2, ground := Go.Ground.data }, { on := 7, ground := Go.Ground.data }, { on := 7, ground := Go.Ground.chain }], guard := none } a W K Q else K (a.put (some 85) undef) W := by
  have y0 : a.tmps[77]?.getD undef = .pointer (some ⟨g, 0, none⟩) := hI.val 0 77 rfl h0
  have y1 : a.tmps[79]?.getD undef = .int .u64 (id : Int) := hI.val 2 79 rfl h2
  have y2 : a.tmps[84]?.getD undef = .string d := hI.val 7 84 rfl h7
  have hp : Pre W := by have := hI.held; simp only [hf] at this; simpa using this
  have hC := E.wr W hp
  have HR := Lib.hid (fun W1 (hb : Post W1) => hI.step (i := 8) (d := 85) (v := .tuple #[.int .i64 r1, .int .i64 r2]) rfl tnb_nodup (show 85 < 194 by decide) rfl (show (if hit f 8 8 = true then Post W1 else Pre W1) by rw [hit_at, if_pos rfl]; exact hb))
  clear hI E hf hp
  go_simp
  refine hC.mono ?_
  rintro e W1 ⟨rfl, hb⟩
  exact hK _ _ (HR.out W1 hb)

set_option maxRecDepth 100000 in
theorem tnb_9 {g X id : Nat} {s d : ByteArray} {n : Int} {r1 r2 : Int} {Pre Post : World → Prop} {base : Array Value} {f : Nat → Bool} {a : Act} {W : World} {K : Act → World → Prop} {Q : Exit → Act → World → Prop} {ops : Array Oper} (E : tnbEnv g X id s d n r1 r2 Pre Post base) (hI : (tnbTb g X id s d n r1 r2 Pre Post base).Inv (fun f W => if f 8 = true then Post W else Pre W) f a W) (hf : f 9 = false) (h8 : f 8 = true) (pos : String) (hK : ∀ a' W', (tnbTb g X id s d n r1 r2 Pre Post base).Inv (fun f W => if f 8 = true then Post W else Pre W) (hit f 9) a' W' → K a' W') : if Region.wanted { dst := some 76, op := Go.Op.move (Go.Operand.tmp 85), type := 32, pos := pos, after := #[{ on := 8, ground := Go.Ground.data }], guard := none } (yielded ops a.tmps) = true then Oper.wp Tryd.prog { dst := some 76, op := Go.Op.move (Go.Operand.tmp 85), type := 32, pos := pos, after := #[{ on := 8, ground := Go.Ground.data }], guard := none } a W K Q else K (a.put (some 76) undef) W := by
  have q : a.tmps[85]?.getD undef = .tuple #[.int .i64 r1, .int .i64 r2] := hI.val 8 85 rfl h8
  have R := Lib.hid (hI.step (i := 9) (d := 76) (v := .tuple #[.int .i64 r1, .int .i64 r2]) rfl tnb_nodup (show 76 < 194 by decide) rfl (show (if hit f 9 8 = true then Post W else Pre W) by rw [hit_of f 9 8 (by decide)]; exact hI.held))
  clear hI E hf
  go_simp
  exact hK _ _ R.out

set_option maxRecDepth 100000 in
theorem tnb_10 {g X id : Nat} {s d : ByteArray} {n : Int} {r1 r2 : Int} {Pre Post : World → Prop} {base : Array Value} {f : Nat → Bool} {a : Act} {W : World} {K : Act → World → Prop} {Q : Exit → Act → World → Prop} {ops : Array Oper} (E : tnbEnv g X id s d n r1 r2 Pre Post base) (hI : (tnbTb g X id s d n r1 r2 Pre Post base).Inv (fun f W => if f 8 = true then Post W else Pre W) f a W) (hf : f 10 = false) (h9 : f 9 = true) (pos : String) (hK : ∀ a' W', (tnbTb g X id s d n r1 r2 Pre Post base).Inv (fun f W => if f 8 = true then Post W else Pre W) (hit f 10) a' W' → K a' W') : if Region.wanted { dst := some 86, op := Go.Op.extract (Go.Operand.tmp 76) 0, type := 3, pos := pos, after := #[{ on := 9, ground := Go.Ground.data }], guard := none } (yielded ops a.tmps) = true then Oper.wp Tryd.prog { dst := some 86, op := Go.Op.extract (Go.Operand.tmp 76) 0, type := 3, pos := pos, after := #[{ on := 9, ground := Go.Ground.data }], guard := none } a W K Q else K (a.put (some 86) undef) W := by
  have q : a.tmps[76]?.getD undef = .tuple #[.int .i64 r1, .int .i64 r2] := hI.val 9 76 rfl h9
  have R := Lib.hid (hI.step (i := 10) (d := 86) (v := .int .i64 r1) rfl tnb_nodup (show 86 < 194 by decide) rfl (show (if hit f 10 8 = true then Post W else Pre W) by rw [hit_of f 10 8 (by decide)]; exact hI.held))
  clear hI E hf
  go_simp
  exact hK _ _ R.out

set_option maxRecDepth 100000 in
theorem tnb_11 {g X id : Nat} {s d : ByteArray} {n : Int} {r1 r2 : Int} {Pre Post : World → Prop} {base : Array Value} {f : Nat → Bool} {a : Act} {W : World} {K : Act → World → Prop} {Q : Exit → Act → World → Prop} {ops : Array Oper} (E : tnbEnv g X id s d n r1 r2 Pre Post base) (hI : (tnbTb g X id s d n r1 r2 Pre Post base).Inv (fun f W => if f 8 = true then Post W else Pre W) f a W) (hf : f 11 = false) (h9 : f 9 = true) (pos : String) (hK : ∀ a' W', (tnbTb g X id s d n r1 r2 Pre Post base).Inv (fun f W => if f 8 = true then Post W else Pre W) (hit f 11) a' W' → K a' W') : if Region.wanted { dst := some 87, op := Go.Op.extract (Go.Operand.tmp 76) 1, type := 30, pos := pos, after := #[{ on := 9, ground := Go.Ground.data }, { on := 12, ground := Go.Ground.gcOnly Go.Departure.lateStores }], guard := none } (yielded ops a.tmps) = true then Oper.wp Tryd.prog { dst := some 87, op := Go.Op.extract (Go.Operand.tmp 76) 1, type := 30, pos := pos, after := #[{ on := 9, ground := Go.Ground.data }, { on := 12, ground := Go.Ground.gcOnly Go.Departure.lateStores }], guard := none } a W K Q else K (a.put (some 87) undef) W := by
  have q : a.tmps[76]?.getD undef = .tuple #[.int .i64 r1, .int .i64 r2] := hI.val 9 76 rfl h9
  have R := Lib.hid (hI.step (i := 11) (d := 87) (v := .int .i64 r2) rfl tnb_nodup (show 87 < 194 by decide) rfl (show (if hit f 11 8 = true then Post W else Pre W) by rw [hit_of f 11 8 (by decide)]; exact hI.held))
  clear hI E hf
  go_simp
  exact hK _ _ R.out

set_option maxRecDepth 100000 in
theorem tnb_12 {g X id : Nat} {s d : ByteArray} {n : Int} {r1 r2 : Int} {Pre Post : World → Prop} {base : Array Value} {f : Nat → Bool} {a : Act} {W : World} {K : Act → World → Prop} {Q : Exit → Act → World → Prop} {ops : Array Oper} (E : tnbEnv g X id s d n r1 r2 Pre Post base) (hI : (tnbTb g X id s d n r1 r2 Pre Post base).Inv (fun f W => if f 8 = true then Post W else Pre W) f a W) (hf : f 12 = false) (h0 : f 0 = true) (h1 : f 1 = true) (h2 : f 2 = true) (h3 : f 3 = true) (h4 : f 4 = true) (h5 : f 5 = true) (h6 : f 6 = true) (h7 : f 7 = true) (h8 : f 8 = true) (h9 : f 9 = true) (h10 : f 10 = true) (pos : String) (hK : ∀ a' W', (tnbTb g X id s d n r1 r2 Pre Post base).Inv (fun f W => if f 8 = true then Post W else Pre W) (hit f 12) a' W' → K a' W') : if Region.wanted { dst := some 14, op := Go.Op.assign (Go.Operand.tmp 86), type := 3, pos := pos, after := #[{ on := 10, ground := Go.Ground.data }, { on := 8, ground := Go.Ground.chain }, { on := 0, ground := Go.Ground.phase }, { on := 1, ground := Go.Ground.phase }, { on := 2, ground := Go.Ground.phase }, { on := 3, ground := Go.Ground.phase }, { on := 4, ground := Go.Ground.phase }, { on := 5, ground := Go.Ground.phase }, { on := 6, ground := Go.Ground.phase }, { on := 7, ground := Go.Ground.phase }, { on := 8, ground := Go.Ground.phase }, { on := 9, ground := Go.Ground.phase }, { on := 10, ground := Go.Ground.phase }, { on := 11, ground := Go.Ground.textOnly Go.Departure.lateStores }], guard := none } (yielded ops a.tmps) = true then Oper.wp Tryd.prog { dst := some 14, op := Go.Op.assign (Go.Operand.tmp 86), type := 3, pos := pos, after := #[{ on := 10, ground := Go.Ground.data }, { on := 8, ground := Go.Ground.chain }, { on := 0, ground := Go.Ground.phase }, { on := 1, ground := Go.Ground.phase }, { on := 2, ground := Go.Ground.phase }, { on := 3, ground := Go.Ground.phase }, { on := 4, ground := Go.Ground.phase }, { on := 5, ground := Go.Ground.phase }, { on := 6, ground := Go.Ground.phase }, { on := 7, ground := Go.Ground.phase }, { on := 8, ground := Go.Ground.phase }, { on := 9, ground := Go.Ground.phase }, { on := 10, ground := Go.Ground.phase }, { on := 11, ground := Go.Ground.textOnly Go.Departure.lateStores }], guard := none } a W K Q else K (a.put (some 14) undef) W := by
  have q : a.tmps[86]?.getD undef = .int .i64 r1 := hI.val 10 86 rfl h10
  have R := Lib.hid (hI.step (i := 12) (d := 14) (v := .int .i64 r1) rfl tnb_nodup (show 14 < 194 by decide) rfl (show (if hit f 12 8 = true then Post W else Pre W) by rw [hit_of f 12 8 (by decide)]; exact hI.held))
  clear hI E hf
  go_simp
  exact hK _ _ R.out

set_option maxRecDepth 100000 in
theorem tnb_13 {g X id : Nat} {s d : ByteArray} {n : Int} {r1 r2 : Int} {Pre Post : World → Prop} {base : Array Value} {f : Nat → Bool} {a : Act} {W : World} {K : Act → World → Prop} {Q : Exit → Act → World → Prop} {ops : Array Oper} (E : tnbEnv g X id s d n r1 r2 Pre Post base) (hI : (tnbTb g X id s d n r1 r2 Pre Post base).Inv (fun f W => if f 8 = true then Post W else Pre W) f a W) (hf : f 13 = false) (h0 : f 0 = true) (h1 : f 1 = true) (h2 : f 2 = true) (h3 : f 3 = true) (h4 : f 4 = true) (h5 : f 5 = true) (h6 : f 6 = true) (h7 : f 7 = true) (h8 : f 8 = true) (h9 : f 9 = true) (h10 : f 10 = true) (h11 : f 11 = true) (h12 : f 12 = true) (pos : String) (hK : ∀ a' W', (tnbTb g X id s d n r1 r2 Pre Post base).Inv (fun f W => if f 8 = true then Post W else Pre W) (hit f 13) a' W' → K a' W') : if Region.wanted { dst := some 15, op := Go.Op.assign (Go.Operand.tmp 87), type := 30, pos := pos, after := #[{ on := 11, ground := Go.Ground.data }, { on := 12, ground := Go.Ground.chain }, { on := 0, ground := Go.Ground.phase }, { on := 1, ground := Go.Ground.phase }, { on := 2, ground := Go.Ground.phase }, { on := 3, ground := Go.Ground.phase }, { on := 4, ground := Go.Ground.phase }, { on := 5, ground := Go.Ground.phase }, { on := 6, ground := Go.Ground.phase }, { on := 7, ground := Go.Ground.phase }, { on := 8, ground := Go.Ground.phase }, { on := 9, ground := Go.Ground.phase }, { on := 10, ground := Go.Ground.phase }, { on := 11, ground := Go.Ground.phase }, { on := 12, ground := Go.Ground.phase }], guard := none } (yielded ops a.tmps) = true then Oper.wp Tryd.prog { dst := some 15, op := Go.Op.assign (Go.Operand.tmp 87), type := 30, pos := pos, after := #[{ on := 11, ground := Go.Ground.data }, { on := 12, ground := Go.Ground.chain }, { on := 0, ground := Go.Ground.phase }, { on := 1, ground := Go.Ground.phase }, { on := 2, ground := Go.Ground.phase }, { on := 3, ground := Go.Ground.phase }, { on := 4, ground := Go.Ground.phase }, { on := 5, ground := Go.Ground.phase }, { on := 6, ground := Go.Ground.phase }, { on := 7, ground := Go.Ground.phase }, { on := 8, ground := Go.Ground.phase }, { on := 9, ground := Go.Ground.phase }, { on := 10, ground := Go.Ground.phase }, { on := 11, ground := Go.Ground.phase }, { on := 12, ground := Go.Ground.phase }], guard := none } a W K Q else K (a.put (some 15) undef) W := by
  have q : a.tmps[87]?.getD undef = .int .i64 r2 := hI.val 11 87 rfl h11
  have R := Lib.hid (hI.step (i := 13) (d := 15) (v := .int .i64 r2) rfl tnb_nodup (show 15 < 194 by decide) rfl (show (if hit f 13 8 = true then Post W else Pre W) by rw [hit_of f 13 8 (by decide)]; exact hI.held))
  clear hI E hf
  go_simp
  exact hK _ _ R.out

abbrev tnbOps : Array Oper := #[{ dst := some 77, op := Go.Op.move (Go.Operand.tmp 9), type := 27, pos := "outright.go:60", after := #[], guard := none }, { dst := some 78, op := Go.Op.fieldAddr 25 (Go.Operand.tmp 5) 0, type := 0, pos := "outright.go:60", after := #[], guard := none }, { dst := some 79, op := Go.Op.load 23 (Go.Operand.tmp 78), type := 23, pos := "outright.go:60", after := #[{ on := 1, ground := Go.Ground.data }], guard := none }, { dst := some 80, op := Go.Op.fieldAddr 25 (Go.Operand.tmp 5) 1, type := 0, pos := "outright.go:60", after := #[], guard := none }, { dst := some 81, op := Go.Op.load 9 (Go.Operand.tmp 80), type := 9, pos := "outright.go:60", after := #[{ on := 3, ground := Go.Ground.data }], guard := none }, { dst := some 82, op := Go.Op.fieldAddr 25 (Go.Operand.tmp 5) 2, type := 0, pos := "outright.go:60", after := #[], guard := none }, { dst := some 83, op := Go.Op.load 3 (Go.Operand.tmp 82), type := 3, pos := "outright.go:60", after := #[{ on := 5, ground := Go.Ground.data }], guard := none }, { dst := some 84, op := Go.Op.call { callee := Go.Callee.value (Go.Operand.func 11), args := #[Go.Operand.tmp 81, Go.Operand.tmp 83], argTypes := #[9, 3] }, type := 9, pos := "outright.go:60", after := #[{ on := 4, ground := Go.Ground.data }, { on := 6, ground := Go.Ground.data }], guard := none }, { dst := some 85, op := Go.Op.call { callee := Go.Callee.value (Go.Operand.func 10), args := #[Go.Operand.tmp 77, Go.Operand.tmp 79, Go.Operand.tmp 84], argTypes := #[27, 23, 9] }, type := 32, pos := "outright.go:60", after := #[{ on := 0, ground := Go.Ground.data }, { on := 2, ground := Go.Ground.data }, { on := 7, ground := Go.Ground.data }, { on := 7, ground := Go.Ground.chain }], guard := none }, { dst := some 76, op := Go.Op.move (Go.Operand.tmp 85), type := 32, pos := "outright.go:60", after := #[{ on := 8, ground := Go.Ground.data }], guard := none }, { dst := some 86, op := Go.Op.extract (Go.Operand.tmp 76) 0, type := 3, pos := "outright.go:60", after := #[{ on := 9, ground := Go.Ground.data }], guard := none }, { dst := some 87, op := Go.Op.extract (Go.Operand.tmp 76) 1, type := 30, pos := "outright.go:60", after := #[{ on := 9, ground := Go.Ground.data }, { on := 12, ground := Go.Ground.gcOnly Go.Departure.lateStores }], guard := none }, { dst := some 14, op := Go.Op.assign (Go.Operand.tmp 86), type := 3, pos := "outright.go:60", after := #[{ on := 10, ground := Go.Ground.data }, { on := 8, ground := Go.Ground.chain }, { on := 0, ground := Go.Ground.phase }, { on := 1, ground := Go.Ground.phase }, { on := 2, ground := Go.Ground.phase }, { on := 3, ground := Go.Ground.phase }, { on := 4, ground := Go.Ground.phase }, { on := 5, ground := Go.Ground.phase }, { on := 6, ground := Go.Ground.phase }, { on := 7, ground := Go.Ground.phase }, { on := 8, ground := Go.Ground.phase }, { on := 9, ground := Go.Ground.phase }, { on := 10, ground := Go.Ground.phase }, { on := 11, ground := Go.Ground.textOnly Go.Departure.lateStores }], guard := none }, { dst := some 15, op := Go.Op.assign (Go.Operand.tmp 87), type := 30, pos := "outright.go:60", after := #[{ on := 11, ground := Go.Ground.data }, { on := 12, ground := Go.Ground.chain }, { on := 0, ground := Go.Ground.phase }, { on := 1, ground := Go.Ground.phase }, { on := 2, ground := Go.Ground.phase }, { on := 3, ground := Go.Ground.phase }, { on := 4, ground := Go.Ground.phase }, { on := 5, ground := Go.Ground.phase }, { on := 6, ground := Go.Ground.phase }, { on := 7, ground := Go.Ground.phase }, { on := 8, ground := Go.Ground.phase }, { on := 9, ground := Go.Ground.phase }, { on := 10, ground := Go.Ground.phase }, { on := 11, ground := Go.Ground.phase }, { on := 12, ground := Go.Ground.phase }], guard := none }]
set_option maxRecDepth 100000 in
set_option maxHeartbeats 4000000 in
theorem tnb_step {g X id : Nat} {s d : ByteArray} {n : Int} {r1 r2 : Int} {Pre Post : World → Prop} {base : Array Value} {Q : Exit → Act → World → Prop} (E : tnbEnv g X id s d n r1 r2 Pre Post base) :
    ∀ f a W i o, tnbOps[i]? = some o → f i = false → (∀ e ∈ o.after, Region.binds .any e = true → f e.on = true) → (tnbTb g X id s d n r1 r2 Pre Post base).Inv (fun f W => if f 8 = true then Post W else Pre W) f a W → wpOp Tryd.prog tnbOps Q i (fun a' W' => (tnbTb g X id s d n r1 r2 Pre Post base).Inv (fun f W => if f 8 = true then Post W else Pre W) (hit f i) a' W') a W := by
  intro f a W i o ho hf hed hI
  have hi : i < 14 := (Array.getElem?_eq_some_iff.1 ho).1
  have hc : i = 0 ∨ i = 1 ∨ i = 2 ∨ i = 3 ∨ i = 4 ∨ i = 5 ∨ i = 6 ∨ i = 7 ∨ i = 8 ∨ i = 9 ∨ i = 10 ∨ i = 11 ∨ i = 12 ∨ i = 13 := by omega
  rcases hc with rfl | rfl | rfl | rfl | rfl | rfl | rfl | rfl | rfl | rfl | rfl | rfl | rfl | rfl
  · cases ho
    exact wpOp_step (o := { dst := some 77, op := Go.Op.move (Go.Operand.tmp 9), type := 27, pos := "outright.go:60", after := #[], guard := none }) rfl fun K hK => tnb_0 E hI hf "outright.go:60" (fun a' W' h => hK a' W' h)
  · cases ho
    exact wpOp_step (o := { dst := some 78, op := Go.Op.fieldAddr 25 (Go.Operand.tmp 5) 0, type := 0, pos := "outright.go:60", after := #[], guard := none }) rfl fun K hK => tnb_1 E hI hf "outright.go:60" (fun a' W' h => hK a' W' h)
  · cases ho
    exact wpOp_step (o := { dst := some 79, op := Go.Op.load 23 (Go.Operand.tmp 78), type := 23, pos := "outright.go:60", after := #[{ on := 1, ground := Go.Ground.data }], guard := none }) rfl fun K hK => tnb_2 E hI hf (hed ⟨1, Go.Ground.data⟩ (Array.mem_of_getElem? (i := 0) rfl) rfl) "outright.go:60" (fun a' W' h => hK a' W' h)
  · cases ho
    exact wpOp_step (o := { dst := some 80, op := Go.Op.fieldAddr 25 (Go.Operand.tmp 5) 1, type := 0, pos := "outright.go:60", after := #[], guard := none }) rfl fun K hK => tnb_3 E hI hf "outright.go:60" (fun a' W' h => hK a' W' h)
  · cases ho
    exact wpOp_step (o := { dst := some 81, op := Go.Op.load 9 (Go.Operand.tmp 80), type := 9, pos := "outright.go:60", after := #[{ on := 3, ground := Go.Ground.data }], guard := none }) rfl fun K hK => tnb_4 E hI hf (hed ⟨3, Go.Ground.data⟩ (Array.mem_of_getElem? (i := 0) rfl) rfl) "outright.go:60" (fun a' W' h => hK a' W' h)
  · cases ho
    exact wpOp_step (o := { dst := some 82, op := Go.Op.fieldAddr 25 (Go.Operand.tmp 5) 2, type := 0, pos := "outright.go:60", after := #[], guard := none }) rfl fun K hK => tnb_5 E hI hf "outright.go:60" (fun a' W' h => hK a' W' h)
  · cases ho
    exact wpOp_step (o := { dst := some 83, op := Go.Op.load 3 (Go.Operand.tmp 82), type := 3, pos := "outright.go:60", after := #[{ on := 5, ground := Go.Ground.data }], guard := none }) rfl fun K hK => tnb_6 E hI hf (hed ⟨5, Go.Ground.data⟩ (Array.mem_of_getElem? (i := 0) rfl) rfl) "outright.go:60" (fun a' W' h => hK a' W' h)
  · cases ho
    exact wpOp_step (o := { dst := some 84, op := Go.Op.call { callee := Go.Callee.value (Go.Operand.func 11), args := #[Go.Operand.tmp 81, Go.Operand.tmp 83], argTypes := #[9, 3] }, type := 9, pos := "outright.go:60", after := #[{ on := 4, ground := Go.Ground.data }, { on := 6, ground := Go.Ground.data }], guard := none }) rfl fun K hK => tnb_7 E hI hf (hed ⟨4, Go.Ground.data⟩ (Array.mem_of_getElem? (i := 0) rfl) rfl) (hed ⟨6, Go.Ground.data⟩ (Array.mem_of_getElem? (i := 1) rfl) rfl) "outright.go:60" (fun a' W' h => hK a' W' h)
  · cases ho
    exact wpOp_step (o := { dst := some 85, op := Go.Op.call { callee := Go.Callee.value (Go.Operand.func 10), args := #[Go.Operand.tmp 77, Go.Operand.tmp 79, Go.Operand.tmp 84], argTypes := #[27, 23, 9] }, type := 32, pos := "outright.go:60", after := #[{ on := 0, ground := Go.Ground.data }, { on := 2, ground := Go.Ground.data }, { on := 7, ground := Go.Ground.data }, { on := 7, ground := Go.Ground.chain }], guard := none }) rfl fun K hK => tnb_8 E hI hf (hed ⟨0, Go.Ground.data⟩ (Array.mem_of_getElem? (i := 0) rfl) rfl) (hed ⟨2, Go.Ground.data⟩ (Array.mem_of_getElem? (i := 1) rfl) rfl) (hed ⟨7, Go.Ground.data⟩ (Array.mem_of_getElem? (i := 2) rfl) rfl) "outright.go:60" (fun a' W' h => hK a' W' h)
  · cases ho
    exact wpOp_step (o := { dst := some 76, op := Go.Op.move (Go.Operand.tmp 85), type := 32, pos := "outright.go:60", after := #[{ on := 8, ground := Go.Ground.data }], guard := none }) rfl fun K hK => tnb_9 E hI hf (hed ⟨8, Go.Ground.data⟩ (Array.mem_of_getElem? (i := 0) rfl) rfl) "outright.go:60" (fun a' W' h => hK a' W' h)
  · cases ho
    exact wpOp_step (o := { dst := some 86, op := Go.Op.extract (Go.Operand.tmp 76) 0, type := 3, pos := "outright.go:60", after := #[{ on := 9, ground := Go.Ground.data }], guard := none }) rfl fun K hK => tnb_10 E hI hf (hed ⟨9, Go.Ground.data⟩ (Array.mem_of_getElem? (i := 0) rfl) rfl) "outright.go:60" (fun a' W' h => hK a' W' h)
  · cases ho
    exact wpOp_step (o := { dst := some 87, op := Go.Op.extract (Go.Operand.tmp 76) 1, type := 30, pos := "outright.go:60", after := #[{ on := 9, ground := Go.Ground.data }, { on := 12, ground := Go.Ground.gcOnly Go.Departure.lateStores }], guard := none }) rfl fun K hK => tnb_11 E hI hf (hed ⟨9, Go.Ground.data⟩ (Array.mem_of_getElem? (i := 0) rfl) rfl) "outright.go:60" (fun a' W' h => hK a' W' h)
  · cases ho
    exact wpOp_step (o := { dst := some 14, op := Go.Op.assign (Go.Operand.tmp 86), type := 3, pos := "outright.go:60", after := #[{ on := 10, ground := Go.Ground.data }, { on := 8, ground := Go.Ground.chain }, { on := 0, ground := Go.Ground.phase }, { on := 1, ground := Go.Ground.phase }, { on := 2, ground := Go.Ground.phase }, { on := 3, ground := Go.Ground.phase }, { on := 4, ground := Go.Ground.phase }, { on := 5, ground := Go.Ground.phase }, { on := 6, ground := Go.Ground.phase }, { on := 7, ground := Go.Ground.phase }, { on := 8, ground := Go.Ground.phase }, { on := 9, ground := Go.Ground.phase }, { on := 10, ground := Go.Ground.phase }, { on := 11, ground := Go.Ground.textOnly Go.Departure.lateStores }], guard := none }) rfl fun K hK => tnb_12 E hI hf (hed ⟨0, Go.Ground.phase⟩ (Array.mem_of_getElem? (i := 2) rfl) rfl) (hed ⟨1, Go.Ground.phase⟩ (Array.mem_of_getElem? (i := 3) rfl) rfl) (hed ⟨2, Go.Ground.phase⟩ (Array.mem_of_getElem? (i := 4) rfl) rfl) (hed ⟨3, Go.Ground.phase⟩ (Array.mem_of_getElem? (i := 5) rfl) rfl) (hed ⟨4, Go.Ground.phase⟩ (Array.mem_of_getElem? (i := 6) rfl) rfl) (hed ⟨5, Go.Ground.phase⟩ (Array.mem_of_getElem? (i := 7) rfl) rfl) (hed ⟨6, Go.Ground.phase⟩ (Array.mem_of_getElem? (i := 8) rfl) rfl) (hed ⟨7, Go.Ground.phase⟩ (Array.mem_of_getElem? (i := 9) rfl) rfl) (hed ⟨8, Go.Ground.chain⟩ (Array.mem_of_getElem? (i := 1) rfl) rfl) (hed ⟨9, Go.Ground.phase⟩ (Array.mem_of_getElem? (i := 11) rfl) rfl) (hed ⟨10, Go.Ground.data⟩ (Array.mem_of_getElem? (i := 0) rfl) rfl) "outright.go:60" (fun a' W' h => hK a' W' h)
  · cases ho
    exact wpOp_step (o := { dst := some 15, op := Go.Op.assign (Go.Operand.tmp 87), type := 30, pos := "outright.go:60", after := #[{ on := 11, ground := Go.Ground.data }, { on := 12, ground := Go.Ground.chain }, { on := 0, ground := Go.Ground.phase }, { on := 1, ground := Go.Ground.phase }, { on := 2, ground := Go.Ground.phase }, { on := 3, ground := Go.Ground.phase }, { on := 4, ground := Go.Ground.phase }, { on := 5, ground := Go.Ground.phase }, { on := 6, ground := Go.Ground.phase }, { on := 7, ground := Go.Ground.phase }, { on := 8, ground := Go.Ground.phase }, { on := 9, ground := Go.Ground.phase }, { on := 10, ground := Go.Ground.phase }, { on := 11, ground := Go.Ground.phase }, { on := 12, ground := Go.Ground.phase }], guard := none }) rfl fun K hK => tnb_13 E hI hf (hed ⟨0, Go.Ground.phase⟩ (Array.mem_of_getElem? (i := 2) rfl) rfl) (hed ⟨1, Go.Ground.phase⟩ (Array.mem_of_getElem? (i := 3) rfl) rfl) (hed ⟨2, Go.Ground.phase⟩ (Array.mem_of_getElem? (i := 4) rfl) rfl) (hed ⟨3, Go.Ground.phase⟩ (Array.mem_of_getElem? (i := 5) rfl) rfl) (hed ⟨4, Go.Ground.phase⟩ (Array.mem_of_getElem? (i := 6) rfl) rfl) (hed ⟨5, Go.Ground.phase⟩ (Array.mem_of_getElem? (i := 7) rfl) rfl) (hed ⟨6, Go.Ground.phase⟩ (Array.mem_of_getElem? (i := 8) rfl) rfl) (hed ⟨7, Go.Ground.phase⟩ (Array.mem_of_getElem? (i := 9) rfl) rfl) (hed ⟨8, Go.Ground.phase⟩ (Array.mem_of_getElem? (i := 10) rfl) rfl) (hed ⟨9, Go.Ground.phase⟩ (Array.mem_of_getElem? (i := 11) rfl) rfl) (hed ⟨10, Go.Ground.phase⟩ (Array.mem_of_getElem? (i := 12) rfl) rfl) (hed ⟨11, Go.Ground.data⟩ (Array.mem_of_getElem? (i := 0) rfl) rfl) (hed ⟨12, Go.Ground.chain⟩ (Array.mem_of_getElem? (i := 1) rfl) rfl) "outright.go:60" (fun a' W' h => hK a' W' h)

/-- THE REGION -/
theorem tnb_region {g X id : Nat} {s d : ByteArray} {n : Int} {r1 r2 : Int} {Pre Post : World → Prop} {tm : Array Value} {Q : Exit → Act → World → Prop} {w : World} (hsz : tm.size = 194) (E : tnbEnv g X id s d n r1 r2 Pre Post tm) (hT : Pre w.drew)
    (hend : ∀ W, Post W → Q .normal ⟨((((((((((((((tm.setIfInBounds 77 (.pointer (some ⟨g, 0, none⟩))).setIfInBounds 78 (.pointer (some ⟨X, 0, none⟩))).setIfInBounds 79 (.int .u64 (id : Int))).setIfInBounds 80 (.pointer (some ⟨X, 1, none⟩))).setIfInBounds 81 (.string s)).setIfInBounds 82 (.pointer (some ⟨X, 2, none⟩))).setIfInBounds 83 (.int .i64 n)).setIfInBounds 84 (.string d)).setIfInBounds 85 (.tuple #[.int .i64 r1, .int .i64 r2])).setIfInBounds 76 (.tuple #[.int .i64 r1, .int .i64 r2])).setIfInBounds 86 (.int .i64 r1)).setIfInBounds 87 (.int .i64 r2)).setIfInBounds 14 (.int .i64 r1)).setIfInBounds 15 (.int .i64 r2)), []⟩ W) : (Code.region 12 tnbOps true).wp Tryd.prog Q ⟨tm, []⟩ w := by
  refine wp_region_inv (by kernel_rfl) (by kernel_rfl) ((tnbTb g X id s d n r1 r2 Pre Post tm).Inv (fun f W => if f 8 = true then Post W else Pre W)) ⟨hsz, rfl, fun s _ => rfl, fun i d _ hf => (by cases hf), hT⟩ (tnb_step E) ?_
  intro f a W hall hI
  have ha := hI.fin hall hsz tnb_nodup rfl
  rw [ha]
  exact hend W (by have := hI.held; rwa [if_pos (hall 8 (by decide))] at this)
end Go.Proofs.YtejgogahkjnefaaDoor
