/- Spa, Spb, Spc, Spd: merged (a claim holds few files). -/
import Derived.Test.YteobachhanjmfaaDoorQ3
import Derived.Test.YteobachhanjmfaaDoorOb
/- TapefmtSpoilt: region 9: a blob is written. Written by gen_rf.py. -/
namespace Go.Proofs.YteobachhanjmfaaDoor
open Go.RowKit
open Sm
set_option linter.unusedVariables false
set_option linter.unusedSimpArgs false

def spaTb (g len cap k id : Nat) (ad : Addr) (s d : ByteArray) (n : Int) (r1 r2 : Int) (Pre Post : World → Prop) (base : Array Value) : Tf where
  slots := [42, 43, 44, 45, 46, 47, 48, 49, 50, 51, 52, 53, 54, 55, 56, 57, 58, 59, 41, 60, 61, 13, 14]
  size := 151
  base := base
  val := fun
    | 0 => .pointer (some ⟨g, 0, none⟩)
    | 1 => .slice (some ad) len cap
    | 2 => .int .i64 (k : Int)
    | 3 => .pointer (some (ad.add (k * 3)))
    | 4 => .pointer (some (ad.add (k * 3)))
    | 5 => .int .u64 (id : Int)
    | 6 => .slice (some ad) len cap
    | 7 => .int .i64 (k : Int)
    | 8 => .pointer (some (ad.add (k * 3)))
    | 9 => .pointer (some ⟨(ad.add (k * 3)).block, (ad.add (k * 3)).off + 1, none⟩)
    | 10 => .string s
    | 11 => .slice (some ad) len cap
    | 12 => .int .i64 (k : Int)
    | 13 => .pointer (some (ad.add (k * 3)))
    | 14 => .pointer (some ⟨(ad.add (k * 3)).block, (ad.add (k * 3)).off + 2, none⟩)
    | 15 => .int .i64 n
    | 16 => .string d
    | 17 => .tuple #[.int .i64 r1, .int .i64 r2]
    | 18 => .tuple #[.int .i64 r1, .int .i64 r2]
    | 19 => .int .i64 r1
    | 20 => .int .i64 r2
    | 21 => .int .i64 r1
    | 22 => .int .i64 r2
    | _ => undef

structure spaEnv (g len cap k id : Nat) (ad : Addr) (s d : ByteArray) (n : Int) (r1 r2 : Int) (Pre Post : World → Prop) (base : Array Value) : Prop where
  kk : k < len
  b9 : base[9]?.getD undef = .pointer (some ⟨g, 0, none⟩)
  b0 : base[0]?.getD undef = .slice (some ad) len cap
  b12 : base[12]?.getD undef = .int .i64 (k : Int)
  c : ∀ W, Pre W ∨ Post W → W.cell? (ad.add (k * 3)) = some (.int .u64 (id : Int)) ∧ W.cell? ⟨(ad.add (k * 3)).block, (ad.add (k * 3)).off + 1, none⟩ = some (.string s) ∧ W.cell? ⟨(ad.add (k * 3)).block, (ad.add (k * 3)).off + 2, none⟩ = some (.int .i64 n)
  lo : ∀ W, Calls Tryd.prog 15 #[.string s, .int .i64 n] W fun e w' => e = .returned (.string d) ∧ W = w'
  wr : ∀ W, Pre W → Calls Tryd.prog 14 #[.pointer (some ⟨g, 0, none⟩), .int .u64 (id : Int), .string d] W fun e w' => e = .returned (.tuple #[.int .i64 r1, .int .i64 r2]) ∧ Post w'

theorem spa_nodup : [42, 43, 44, 45, 46, 47, 48, 49, 50, 51, 52, 53, 54, 55, 56, 57, 58, 59, 41, 60, 61, 13, 14].Nodup := by decide
set_option maxRecDepth 100000 in
theorem spa_0 {g len cap k id : Nat} {ad : Addr} {s d : ByteArray} {n : Int} {r1 r2 : Int} {Pre Post : World → Prop} {base : Array Value} {f : Nat → Bool} {a : Act} {W : World} {K : Act → World → Prop} {Q : Exit → Act → World → Prop} {ops : Array Oper} (E : spaEnv g len cap k id ad s d n r1 r2 Pre Post base) (hI : (spaTb g len cap k id ad s d n r1 r2 Pre Post base).Inv (fun f W => if f 17 = true then Post W else Pre W) f a W) (hf : f 0 = false) (pos : String) (hK : ∀ a' W', (spaTb g len cap k id ad s d n r1 r2 Pre Post base).Inv (fun f W => if f 17 = true then Post W else Pre W) (hit f 0) a' W' → K a' W') : if Region.wanted { dst := some 42, op := Go.Op.move (Go.Operand.tmp 9), type := 23, pos := pos, after := #[], guard := none } (yielded ops a.tmps) = true then Oper.wp Tryd.prog { dst := some 42, op := Go.Op.move (Go.Operand.tmp 9), type := 23, pos := pos, after := #[], guard := none } a W K Q else K (a.put (some 42) undef) W := by
  have q : a.tmps[9]?.getD undef = .pointer (some ⟨g, 0, none⟩) := (hI.base 9 rfl).trans E.b9
  have R := Lib.hid (hI.step (i := 0) (d := 42) (v := .pointer (some ⟨g, 0, none⟩)) rfl spa_nodup (show 42 < 151 by decide) rfl (show (if hit f 0 17 = true then Post W else Pre W) by rw [hit_of f 0 17 (by decide)]; exact hI.held))
  clear hI E hf
  go_simp
  exact hK _ _ R.out

set_option maxRecDepth 100000 in
theorem spa_1 {g len cap k id : Nat} {ad : Addr} {s d : ByteArray} {n : Int} {r1 r2 : Int} {Pre Post : World → Prop} {base : Array Value} {f : Nat → Bool} {a : Act} {W : World} {K : Act → World → Prop} {Q : Exit → Act → World → Prop} {ops : Array Oper} (E : spaEnv g len cap k id ad s d n r1 r2 Pre Post base) (hI : (spaTb g len cap k id ad s d n r1 r2 Pre Post base).Inv (fun f W => if f 17 = true then Post W else Pre W) f a W) (hf : f 1 = false) (pos : String) (hK : ∀ a' W', (spaTb g len cap k id ad s d n r1 r2 Pre Post base).Inv (fun f W => if f 17 = true then Post W else Pre W) (hit f 1) a' W' → K a' W') : if Region.wanted { dst := some 43, op := Go.Op.move (Go.Operand.tmp 0), type := 22, pos := pos, after := #[], guard := none } (yielded ops a.tmps) = true then Oper.wp Tryd.prog { dst := some 43, op := Go.Op.move (Go.Operand.tmp 0), type := 22, pos := pos, after := #[], guard := none } a W K Q else K (a.put (some 43) undef) W := by
  have q : a.tmps[0]?.getD undef = .slice (some ad) len cap := (hI.base 0 rfl).trans E.b0
  have R := Lib.hid (hI.step (i := 1) (d := 43) (v := .slice (some ad) len cap) rfl spa_nodup (show 43 < 151 by decide) rfl (show (if hit f 1 17 = true then Post W else Pre W) by rw [hit_of f 1 17 (by decide)]; exact hI.held))
  clear hI E hf
  go_simp
  exact hK _ _ R.out

set_option maxRecDepth 100000 in
theorem spa_2 {g len cap k id : Nat} {ad : Addr} {s d : ByteArray} {n : Int} {r1 r2 : Int} {Pre Post : World → Prop} {base : Array Value} {f : Nat → Bool} {a : Act} {W : World} {K : Act → World → Prop} {Q : Exit → Act → World → Prop} {ops : Array Oper} (E : spaEnv g len cap k id ad s d n r1 r2 Pre Post base) (hI : (spaTb g len cap k id ad s d n r1 r2 Pre Post base).Inv (fun f W => if f 17 = true then Post W else Pre W) f a W) (hf : f 2 = false) (pos : String) (hK : ∀ a' W', (spaTb g len cap k id ad s d n r1 r2 Pre Post base).Inv (fun f W => if f 17 = true then Post W else Pre W) (hit f 2) a' W' → K a' W') : if Region.wanted { dst := some 44, op := Go.Op.move (Go.Operand.tmp 12), type := 3, pos := pos, after := #[], guard := none } (yielded ops a.tmps) = true then Oper.wp Tryd.prog { dst := some 44, op := Go.Op.move (Go.Operand.tmp 12), type := 3, pos := pos, after := #[], guard := none } a W K Q else K (a.put (some 44) undef) W := by
  have q : a.tmps[12]?.getD undef = .int .i64 (k : Int) := (hI.base 12 rfl).trans E.b12
  have R := Lib.hid (hI.step (i := 2) (d := 44) (v := .int .i64 (k : Int)) rfl spa_nodup (show 44 < 151 by decide) rfl (show (if hit f 2 17 = true then Post W else Pre W) by rw [hit_of f 2 17 (by decide)]; exact hI.held))
  clear hI E hf
  go_simp
  exact hK _ _ R.out

set_option maxRecDepth 100000 in
theorem spa_3 {g len cap k id : Nat} {ad : Addr} {s d : ByteArray} {n : Int} {r1 r2 : Int} {Pre Post : World → Prop} {base : Array Value} {f : Nat → Bool} {a : Act} {W : World} {K : Act → World → Prop} {Q : Exit → Act → World → Prop} {ops : Array Oper} (E : spaEnv g len cap k id ad s d n r1 r2 Pre Post base) (hI : (spaTb g len cap k id ad s d n r1 r2 Pre Post base).Inv (fun f W => if f 17 = true then Post W else Pre W) f a W) (hf : f 3 = false) (h1 : f 1 = true) (h2 : f 2 = true) (pos : String) (hK : ∀ a' W', (spaTb g len cap k id ad s d n r1 r2 Pre Post base).Inv (fun f W => if f 17 = true then Post W else Pre W) (hit f 3) a' W' → K a' W') : if Region.wanted { dst := some 45, op := Go.Op.indexAddr 22 (Go.Operand.tmp 43) (Go.Operand.tmp 44), type := 0, pos := pos, after := #[{ on := 1, ground := Go.Ground.data }, { on := 2, ground := Go.Ground.data }], guard := none } (yielded ops a.tmps) = true then Oper.wp Tryd.prog { dst := some 45, op := Go.Op.indexAddr 22 (Go.Operand.tmp 43) (Go.Operand.tmp 44), type := 0, pos := pos, after := #[{ on := 1, ground := Go.Ground.data }, { on := 2, ground := Go.Ground.data }], guard := none } a W K Q else K (a.put (some 45) undef) W := by
  have y0 : a.tmps[43]?.getD undef = .slice (some ad) len cap := hI.val 1 43 rfl h1
  have y1 : a.tmps[44]?.getD undef = .int .i64 (k : Int) := hI.val 2 44 rfl h2
  have hk := E.kk
  have i0 : (0 : Int) ≤ (k : Int) := by omega
  have i1 : (k : Int) < (len : Int) := by omega
  have hc3 := blob_cells
  have R := Lib.hid (hI.step (i := 3) (d := 45) (v := .pointer (some (ad.add (k * 3)))) rfl spa_nodup (show 45 < 151 by decide) rfl (show (if hit f 3 17 = true then Post W else Pre W) by rw [hit_of f 3 17 (by decide)]; exact hI.held))
  clear hI E hf
  go_simp
  exact hK _ _ R.out

set_option maxRecDepth 100000 in
theorem spa_4 {g len cap k id : Nat} {ad : Addr} {s d : ByteArray} {n : Int} {r1 r2 : Int} {Pre Post : World → Prop} {base : Array Value} {f : Nat → Bool} {a : Act} {W : World} {K : Act → World → Prop} {Q : Exit → Act → World → Prop} {ops : Array Oper} (E : spaEnv g len cap k id ad s d n r1 r2 Pre Post base) (hI : (spaTb g len cap k id ad s d n r1 r2 Pre Post base).Inv (fun f W => if f 17 = true then Post W else Pre W) f a W) (hf : f 4 = false) (h3 : f 3 = true) (pos : String) (hK : ∀ a' W', (spaTb g len cap k id ad s d n r1 r2 Pre Post base).Inv (fun f W => if f 17 = true then Post W else Pre W) (hit f 4) a' W' → K a' W') : if Region.wanted { dst := some 46, op := Go.Op.fieldAddr 33 (Go.Operand.tmp 45) 0, type := 0, pos := pos, after := #[{ on := 3, ground := Go.Ground.data }], guard := none } (yielded ops a.tmps) = true then Oper.wp Tryd.prog { dst := some 46, op := Go.Op.fieldAddr 33 (Go.Operand.tmp 45) 0, type := 0, pos := pos, after := #[{ on := 3, ground := Go.Ground.data }], guard := none } a W K Q else K (a.put (some 46) undef) W := by
  have y0 : a.tmps[45]?.getD undef = .pointer (some (ad.add (k * 3))) := hI.val 3 45 rfl h3
  have R := Lib.hid (hI.step (i := 4) (d := 46) (v := .pointer (some (ad.add (k * 3)))) rfl spa_nodup (show 46 < 151 by decide) rfl (show (if hit f 4 17 = true then Post W else Pre W) by rw [hit_of f 4 17 (by decide)]; exact hI.held))
  clear hI E hf
  go_simp
  exact hK _ _ R.out

set_option maxRecDepth 100000 in
theorem spa_5 {g len cap k id : Nat} {ad : Addr} {s d : ByteArray} {n : Int} {r1 r2 : Int} {Pre Post : World → Prop} {base : Array Value} {f : Nat → Bool} {a : Act} {W : World} {K : Act → World → Prop} {Q : Exit → Act → World → Prop} {ops : Array Oper} (E : spaEnv g len cap k id ad s d n r1 r2 Pre Post base) (hI : (spaTb g len cap k id ad s d n r1 r2 Pre Post base).Inv (fun f W => if f 17 = true then Post W else Pre W) f a W) (hf : f 5 = false) (h4 : f 4 = true) (pos : String) (hK : ∀ a' W', (spaTb g len cap k id ad s d n r1 r2 Pre Post base).Inv (fun f W => if f 17 = true then Post W else Pre W) (hit f 5) a' W' → K a' W') : if Region.wanted { dst := some 47, op := Go.Op.load 31 (Go.Operand.tmp 46), type := 31, pos := pos, after := #[{ on := 4, ground := Go.Ground.data }], guard := none } (yielded ops a.tmps) = true then Oper.wp Tryd.prog { dst := some 47, op := Go.Op.load 31 (Go.Operand.tmp 46), type := 31, pos := pos, after := #[{ on := 4, ground := Go.Ground.data }], guard := none } a W K Q else K (a.put (some 47) undef) W := by
  have q : a.tmps[46]?.getD undef = .pointer (some (ad.add (k * 3))) := hI.val 4 46 rfl h4
  have c : W.cell? (ad.add (k * 3)) = some (.int .u64 (id : Int)) := (E.c W (by have h : (if f 17 = true then Post W else Pre W) := hI.held; by_cases h8 : f 17 = true; (rw [if_pos h8] at h; exact .inr h); (rw [if_neg h8] at h; exact .inl h))).1
  have R := Lib.hid (hI.step (i := 5) (d := 47) (v := .int .u64 (id : Int)) rfl spa_nodup (show 47 < 151 by decide) rfl (show (if hit f 5 17 = true then Post W else Pre W) by rw [hit_of f 5 17 (by decide)]; exact hI.held))
  clear hI E hf
  go_simp
  exact hK _ _ R.out

set_option maxRecDepth 100000 in
theorem spa_6 {g len cap k id : Nat} {ad : Addr} {s d : ByteArray} {n : Int} {r1 r2 : Int} {Pre Post : World → Prop} {base : Array Value} {f : Nat → Bool} {a : Act} {W : World} {K : Act → World → Prop} {Q : Exit → Act → World → Prop} {ops : Array Oper} (E : spaEnv g len cap k id ad s d n r1 r2 Pre Post base) (hI : (spaTb g len cap k id ad s d n r1 r2 Pre Post base).Inv (fun f W => if f 17 = true then Post W else Pre W) f a W) (hf : f 6 = false) (pos : String) (hK : ∀ a' W', (spaTb g len cap k id ad s d n r1 r2 Pre Post base).Inv (fun f W => if f 17 = true then Post W else Pre W) (hit f 6) a' W' → K a' W') : if Region.wanted { dst := some 48, op := Go.Op.move (Go.Operand.tmp 0), type := 22, pos := pos, after := #[], guard := none } (yielded ops a.tmps) = true then Oper.wp Tryd.prog { dst := some 48, op := Go.Op.move (Go.Operand.tmp 0), type := 22, pos := pos, after := #[], guard := none } a W K Q else K (a.put (some 48) undef) W := by
  have q : a.tmps[0]?.getD undef = .slice (some ad) len cap := (hI.base 0 rfl).trans E.b0
  have R := Lib.hid (hI.step (i := 6) (d := 48) (v := .slice (some ad) len cap) rfl spa_nodup (show 48 < 151 by decide) rfl (show (if hit f 6 17 = true then Post W else Pre W) by rw [hit_of f 6 17 (by decide)]; exact hI.held))
  clear hI E hf
  go_simp
  exact hK _ _ R.out

set_option maxRecDepth 100000 in
theorem spa_7 {g len cap k id : Nat} {ad : Addr} {s d : ByteArray} {n : Int} {r1 r2 : Int} {Pre Post : World → Prop} {base : Array Value} {f : Nat → Bool} {a : Act} {W : World} {K : Act → World → Prop} {Q : Exit → Act → World → Prop} {ops : Array Oper} (E : spaEnv g len cap k id ad s d n r1 r2 Pre Post base) (hI : (spaTb g len cap k id ad s d n r1 r2 Pre Post base).Inv (fun f W => if f 17 = true then Post W else Pre W) f a W) (hf : f 7 = false) (pos : String) (hK : ∀ a' W', (spaTb g len cap k id ad s d n r1 r2 Pre Post base).Inv (fun f W => if f 17 = true then Post W else Pre W) (hit f 7) a' W' → K a' W') : if Region.wanted { dst := some 49, op := Go.Op.move (Go.Operand.tmp 12), type := 3, pos := pos, after := #[], guard := none } (yielded ops a.tmps) = true then Oper.wp Tryd.prog { dst := some 49, op := Go.Op.move (Go.Operand.tmp 12), type := 3, pos := pos, after := #[], guard := none } a W K Q else K (a.put (some 49) undef) W := by
  have q : a.tmps[12]?.getD undef = .int .i64 (k : Int) := (hI.base 12 rfl).trans E.b12
  have R := Lib.hid (hI.step (i := 7) (d := 49) (v := .int .i64 (k : Int)) rfl spa_nodup (show 49 < 151 by decide) rfl (show (if hit f 7 17 = true then Post W else Pre W) by rw [hit_of f 7 17 (by decide)]; exact hI.held))
  clear hI E hf
  go_simp
  exact hK _ _ R.out

set_option maxRecDepth 100000 in
theorem spa_8 {g len cap k id : Nat} {ad : Addr} {s d : ByteArray} {n : Int} {r1 r2 : Int} {Pre Post : World → Prop} {base : Array Value} {f : Nat → Bool} {a : Act} {W : World} {K : Act → World → Prop} {Q : Exit → Act → World → Prop} {ops : Array Oper} (E : spaEnv g len cap k id ad s d n r1 r2 Pre Post base) (hI : (spaTb g len cap k id ad s d n r1 r2 Pre Post base).Inv (fun f W => if f 17 = true then Post W else Pre W) f a W) (hf : f 8 = false) (h6 : f 6 = true) (h7 : f 7 = true) (pos : String) (hK : ∀ a' W', (spaTb g len cap k id ad s d n r1 r2 Pre Post base).Inv (fun f W => if f 17 = true then Post W else Pre W) (hit f 8) a' W' → K a' W') : if Region.wanted { dst := some 50, op := Go.Op.indexAddr 22 (Go.Operand.tmp 48) (Go.Operand.tmp 49), type := 0, pos := pos, after := #[{ on := 6, ground := Go.Ground.data }, { on := 7, ground := Go.Ground.data }], guard := none } (yielded ops a.tmps) = true then Oper.wp Tryd.prog { dst := some 50, op := Go.Op.indexAddr 22 (Go.Operand.tmp 48) (Go.Operand.tmp 49), type := 0, pos := pos, after := #[{ on := 6, ground := Go.Ground.data }, { on := 7, ground := Go.Ground.data }], guard := none } a W K Q else K (a.put (some 50) undef) W := by
  have y0 : a.tmps[48]?.getD undef = .slice (some ad) len cap := hI.val 6 48 rfl h6
  have y1 : a.tmps[49]?.getD undef = .int .i64 (k : Int) := hI.val 7 49 rfl h7
  have hk := E.kk
  have i0 : (0 : Int) ≤ (k : Int) := by omega
  have i1 : (k : Int) < (len : Int) := by omega
  have hc3 := blob_cells
  have R := Lib.hid (hI.step (i := 8) (d := 50) (v := .pointer (some (ad.add (k * 3)))) rfl spa_nodup (show 50 < 151 by decide) rfl (show (if hit f 8 17 = true then Post W else Pre W) by rw [hit_of f 8 17 (by decide)]; exact hI.held))
  clear hI E hf
  go_simp
  exact hK _ _ R.out

set_option maxRecDepth 100000 in
theorem spa_9 {g len cap k id : Nat} {ad : Addr} {s d : ByteArray} {n : Int} {r1 r2 : Int} {Pre Post : World → Prop} {base : Array Value} {f : Nat → Bool} {a : Act} {W : World} {K : Act → World → Prop} {Q : Exit → Act → World → Prop} {ops : Array Oper} (E : spaEnv g len cap k id ad s d n r1 r2 Pre Post base) (hI : (spaTb g len cap k id ad s d n r1 r2 Pre Post base).Inv (fun f W => if f 17 = true then Post W else Pre W) f a W) (hf : f 9 = false) (h8 : f 8 = true) (pos : String) (hK : ∀ a' W', (spaTb g len cap k id ad s d n r1 r2 Pre Post base).Inv (fun f W => if f 17 = true then Post W else Pre W) (hit f 9) a' W' → K a' W') : if Region.wanted { dst := some 51, op := Go.Op.fieldAddr 33 (Go.Operand.tmp 50) 1, type := 0, pos := pos, after := #[{ on := 8, ground := Go.Ground.data }], guard := none } (yielded ops a.tmps) = true then Oper.wp Tryd.prog { dst := some 51, op := Go.Op.fieldAddr 33 (Go.Operand.tmp 50) 1, type := 0, pos := pos, after := #[{ on := 8, ground := Go.Ground.data }], guard := none } a W K Q else K (a.put (some 51) undef) W := by
  have y0 : a.tmps[50]?.getD undef = .pointer (some (ad.add (k * 3))) := hI.val 8 50 rfl h8
  have R := Lib.hid (hI.step (i := 9) (d := 51) (v := .pointer (some ⟨(ad.add (k * 3)).block, (ad.add (k * 3)).off + 1, none⟩)) rfl spa_nodup (show 51 < 151 by decide) rfl (show (if hit f 9 17 = true then Post W else Pre W) by rw [hit_of f 9 17 (by decide)]; exact hI.held))
  clear hI E hf
  go_simp
  exact hK _ _ R.out

set_option maxRecDepth 100000 in
theorem spa_10 {g len cap k id : Nat} {ad : Addr} {s d : ByteArray} {n : Int} {r1 r2 : Int} {Pre Post : World → Prop} {base : Array Value} {f : Nat → Bool} {a : Act} {W : World} {K : Act → World → Prop} {Q : Exit → Act → World → Prop} {ops : Array Oper} (E : spaEnv g len cap k id ad s d n r1 r2 Pre Post base) (hI : (spaTb g len cap k id ad s d n r1 r2 Pre Post base).Inv (fun f W => if f 17 = true then Post W else Pre W) f a W) (hf : f 10 = false) (h9 : f 9 = true) (pos : String) (hK : ∀ a' W', (spaTb g len cap k id ad s d n r1 r2 Pre Post base).Inv (fun f W => if f 17 = true then Post W else Pre W) (hit f 10) a' W' → K a' W') : if Region.wanted { dst := some 52, op := Go.Op.load 9 (Go.Operand.tmp 51), type := 9, pos := pos, after := #[{ on := 9, ground := Go.Ground.data }], guard := none } (yielded ops a.tmps) = true then Oper.wp Tryd.prog { dst := some 52, op := Go.Op.load 9 (Go.Operand.tmp 51), type := 9, pos := pos, after := #[{ on := 9, ground := Go.Ground.data }], guard := none } a W K Q else K (a.put (some 52) undef) W := by
  have q : a.tmps[51]?.getD undef = .pointer (some ⟨(ad.add (k * 3)).block, (ad.add (k * 3)).off + 1, none⟩) := hI.val 9 51 rfl h9
  have c : W.cell? ⟨(ad.add (k * 3)).block, (ad.add (k * 3)).off + 1, none⟩ = some (.string s) := (E.c W (by have h : (if f 17 = true then Post W else Pre W) := hI.held; by_cases h8 : f 17 = true; (rw [if_pos h8] at h; exact .inr h); (rw [if_neg h8] at h; exact .inl h))).2.1
  have R := Lib.hid (hI.step (i := 10) (d := 52) (v := .string s) rfl spa_nodup (show 52 < 151 by decide) rfl (show (if hit f 10 17 = true then Post W else Pre W) by rw [hit_of f 10 17 (by decide)]; exact hI.held))
  clear hI E hf
  go_simp
  exact hK _ _ R.out

set_option maxRecDepth 100000 in
theorem spa_11 {g len cap k id : Nat} {ad : Addr} {s d : ByteArray} {n : Int} {r1 r2 : Int} {Pre Post : World → Prop} {base : Array Value} {f : Nat → Bool} {a : Act} {W : World} {K : Act → World → Prop} {Q : Exit → Act → World → Prop} {ops : Array Oper} (E : spaEnv g len cap k id ad s d n r1 r2 Pre Post base) (hI : (spaTb g len cap k id ad s d n r1 r2 Pre Post base).Inv (fun f W => if f 17 = true then Post W else Pre W) f a W) (hf : f 11 = false) (pos : String) (hK : ∀ a' W', (spaTb g len cap k id ad s d n r1 r2 Pre Post base).Inv (fun f W => if f 17 = true then Post W else Pre W) (hit f 11) a' W' → K a' W') : if Region.wanted { dst := some 53, op := Go.Op.move (Go.Operand.tmp 0), type := 22, pos := pos, after := #[], guard := none } (yielded ops a.tmps) = true then Oper.wp Tryd.prog { dst := some 53, op := Go.Op.move (Go.Operand.tmp 0), type := 22, pos := pos, after := #[], guard := none } a W K Q else K (a.put (some 53) undef) W := by
  have q : a.tmps[0]?.getD undef = .slice (some ad) len cap := (hI.base 0 rfl).trans E.b0
  have R := Lib.hid (hI.step (i := 11) (d := 53) (v := .slice (some ad) len cap) rfl spa_nodup (show 53 < 151 by decide) rfl (show (if hit f 11 17 = true then Post W else Pre W) by rw [hit_of f 11 17 (by decide)]; exact hI.held))
  clear hI E hf
  go_simp
  exact hK _ _ R.out

set_option maxRecDepth 100000 in
theorem spa_12 {g len cap k id : Nat} {ad : Addr} {s d : ByteArray} {n : Int} {r1 r2 : Int} {Pre Post : World → Prop} {base : Array Value} {f : Nat → Bool} {a : Act} {W : World} {K : Act → World → Prop} {Q : Exit → Act → World → Prop} {ops : Array Oper} (E : spaEnv g len cap k id ad s d n r1 r2 Pre Post base) (hI : (spaTb g len cap k id ad s d n r1 r2 Pre Post base).Inv (fun f W => if f 17 = true then Post W else Pre W) f a W) (hf : f 12 = false) (pos : String) (hK : ∀ a' W', (spaTb g len cap k id ad s d n r1 r2 Pre Post base).Inv (fun f W => if f 17 = true then Post W else Pre W) (hit f 12) a' W' → K a' W') : if Region.wanted { dst := some 54, op := Go.Op.move (Go.Operand.tmp 12), type := 3, pos := pos, after := #[], guard := none } (yielded ops a.tmps) = true then Oper.wp Tryd.prog { dst := some 54, op := Go.Op.move (Go.Operand.tmp 12), type := 3, pos := pos, after := #[], guard := none } a W K Q else K (a.put (some 54) undef) W := by
  have q : a.tmps[12]?.getD undef = .int .i64 (k : Int) := (hI.base 12 rfl).trans E.b12
  have R := Lib.hid (hI.step (i := 12) (d := 54) (v := .int .i64 (k : Int)) rfl spa_nodup (show 54 < 151 by decide) rfl (show (if hit f 12 17 = true then Post W else Pre W) by rw [hit_of f 12 17 (by decide)]; exact hI.held))
  clear hI E hf
  go_simp
  exact hK _ _ R.out

set_option maxRecDepth 100000 in
theorem spa_13 {g len cap k id : Nat} {ad : Addr} {s d : ByteArray} {n : Int} {r1 r2 : Int} {Pre Post : World → Prop} {base : Array Value} {f : Nat → Bool} {a : Act} {W : World} {K : Act → World → Prop} {Q : Exit → Act → World → Prop} {ops : Array Oper} (E : spaEnv g len cap k id ad s d n r1 r2 Pre Post base) (hI : (spaTb g len cap k id ad s d n r1 r2 Pre Post base).Inv (fun f W => if f 17 = true then Post W else Pre W) f a W) (hf : f 13 = false) (h11 : f 11 = true) (h12 : f 12 = true) (pos : String) (hK : ∀ a' W', (spaTb g len cap k id ad s d n r1 r2 Pre Post base).Inv (fun f W => if f 17 = true then Post W else Pre W) (hit f 13) a' W' → K a' W') : if Region.wanted { dst := some 55, op := Go.Op.indexAddr 22 (Go.Operand.tmp 53) (Go.Operand.tmp 54), type := 0, pos := pos, after := #[{ on := 11, ground := Go.Ground.data }, { on := 12, ground := Go.Ground.data }], guard := none } (yielded ops a.tmps) = true then Oper.wp Tryd.prog { dst := some 55, op := Go.Op.indexAddr 22 (Go.Operand.tmp 53) (Go.Operand.tmp 54), type := 0, pos := pos, after := #[{ on := 11, ground := Go.Ground.data }, { on := 12, ground := Go.Ground.data }], guard := none } a W K Q else K (a.put (some 55) undef) W := by
  have y0 : a.tmps[53]?.getD undef = .slice (some ad) len cap := hI.val 11 53 rfl h11
  have y1 : a.tmps[54]?.getD undef = .int .i64 (k : Int) := hI.val 12 54 rfl h12
  have hk := E.kk
  have i0 : (0 : Int) ≤ (k : Int) := by omega
  have i1 : (k : Int) < (len : Int) := by omega
  have hc3 := blob_cells
  have R := Lib.hid (hI.step (i := 13) (d := 55) (v := .pointer (some (ad.add (k * 3)))) rfl spa_nodup (show 55 < 151 by decide) rfl (show (if hit f 13 17 = true then Post W else Pre W) by rw [hit_of f 13 17 (by decide)]; exact hI.held))
  clear hI E hf
  go_simp
  exact hK _ _ R.out

set_option maxRecDepth 100000 in
theorem spa_14 {g len cap k id : Nat} {ad : Addr} {s d : ByteArray} {n : Int} {r1 r2 : Int} {Pre Post : World → Prop} {base : Array Value} {f : Nat → Bool} {a : Act} {W : World} {K : Act → World → Prop} {Q : Exit → Act → World → Prop} {ops : Array Oper} (E : spaEnv g len cap k id ad s d n r1 r2 Pre Post base) (hI : (spaTb g len cap k id ad s d n r1 r2 Pre Post base).Inv (fun f W => if f 17 = true then Post W else Pre W) f a W) (hf : f 14 = false) (h13 : f 13 = true) (pos : String) (hK : ∀ a' W', (spaTb g len cap k id ad s d n r1 r2 Pre Post base).Inv (fun f W => if f 17 = true then Post W else Pre W) (hit f 14) a' W' → K a' W') : if Region.wanted { dst := some 56, op := Go.Op.fieldAddr 33 (Go.Operand.tmp 55) 2, type := 0, pos := pos, after := #[{ on := 13, ground := Go.Ground.data }], guard := none } (yielded ops a.tmps) = true then Oper.wp Tryd.prog { dst := some 56, op := Go.Op.fieldAddr 33 (Go.Operand.tmp 55) 2, type := 0, pos := pos, after := #[{ on := 13, ground := Go.Ground.data }], guard := none } a W K Q else K (a.put (some 56) undef) W := by
  have y0 : a.tmps[55]?.getD undef = .pointer (some (ad.add (k * 3))) := hI.val 13 55 rfl h13
  have R := Lib.hid (hI.step (i := 14) (d := 56) (v := .pointer (some ⟨(ad.add (k * 3)).block, (ad.add (k * 3)).off + 2, none⟩)) rfl spa_nodup (show 56 < 151 by decide) rfl (show (if hit f 14 17 = true then Post W else Pre W) by rw [hit_of f 14 17 (by decide)]; exact hI.held))
  clear hI E hf
  go_simp
  exact hK _ _ R.out

set_option maxRecDepth 100000 in
theorem spa_15 {g len cap k id : Nat} {ad : Addr} {s d : ByteArray} {n : Int} {r1 r2 : Int} {Pre Post : World → Prop} {base : Array Value} {f : Nat → Bool} {a : Act} {W : World} {K : Act → World → Prop} {Q : Exit → Act → World → Prop} {ops : Array Oper} (E : spaEnv g len cap k id ad s d n r1 r2 Pre Post base) (hI : (spaTb g len cap k id ad s d n r1 r2 Pre Post base).Inv (fun f W => if f 17 = true then Post W else Pre W) f a W) (hf : f 15 = false) (h14 : f 14 = true) (pos : String) (hK : ∀ a' W', (spaTb g len cap k id ad s d n r1 r2 Pre Post base).Inv (fun f W => if f 17 = true then Post W else Pre W) (hit f 15) a' W' → K a' W') : if Region.wanted { dst := some 57, op := Go.Op.load 3 (Go.Operand.tmp 56), type := 3, pos := pos, after := #[{ on := 14, ground := Go.Ground.data }], guard := none } (yielded ops a.tmps) = true then Oper.wp Tryd.prog { dst := some 57, op := Go.Op.load 3 (Go.Operand.tmp 56), type := 3, pos := pos, after := #[{ on := 14, ground := Go.Ground.data }], guard := none } a W K Q else K (a.put (some 57) undef) W := by
  have q : a.tmps[56]?.getD undef = .pointer (some ⟨(ad.add (k * 3)).block, (ad.add (k * 3)).off + 2, none⟩) := hI.val 14 56 rfl h14
  have c : W.cell? ⟨(ad.add (k * 3)).block, (ad.add (k * 3)).off + 2, none⟩ = some (.int .i64 n) := (E.c W (by have h : (if f 17 = true then Post W else Pre W) := hI.held; by_cases h8 : f 17 = true; (rw [if_pos h8] at h; exact .inr h); (rw [if_neg h8] at h; exact .inl h))).2.2
  have R := Lib.hid (hI.step (i := 15) (d := 57) (v := .int .i64 n) rfl spa_nodup (show 57 < 151 by decide) rfl (show (if hit f 15 17 = true then Post W else Pre W) by rw [hit_of f 15 17 (by decide)]; exact hI.held))
  clear hI E hf
  go_simp
  exact hK _ _ R.out

set_option maxRecDepth 100000 in
theorem spa_16 {g len cap k id : Nat} {ad : Addr} {s d : ByteArray} {n : Int} {r1 r2 : Int} {Pre Post : World → Prop} {base : Array Value} {f : Nat → Bool} {a : Act} {W : World} {K : Act → World → Prop} {Q : Exit → Act → World → Prop} {ops : Array Oper} (E : spaEnv g len cap k id ad s d n r1 r2 Pre Post base) (hI : (spaTb g len cap k id ad s d n r1 r2 Pre Post base).Inv (fun f W => if f 17 = true then Post W else Pre W) f a W) (hf : f 16 = false) (h10 : f 10 = true) (h15 : f 15 = true) (pos : String) (hK : ∀ a' W', (spaTb g len cap k id ad s d n r1 r2 Pre Post base).Inv (fun f W => if f 17 = true then Post W else Pre W) (hit f 16) a' W' → K a' W') : if Region.wanted { dst := some 58, op := Go.Op.call { callee := Go.Callee.value (Go.Operand.func 15), args := #[Go.Operand.tmp 52, Go.Operand.tmp 57], argTypes := #[9, 3] }, type := 9, pos := pos, after := #[{ on := 10, ground := Go.Ground.data }, { on := 15, ground := Go.Ground.data }], guard := none } (yielded ops a.tmps) = true then Oper.wp Tryd.prog { dst := some 58, op := Go.Op.call { callee := Go.Callee.value (Go.Operand.func 15), args := #[Go.Operand.tmp 52, Go.Operand.tmp 57], argTypes := #[9, 3] }, type := 9, pos := pos, after := #[{ on := 10, ground := Go.Ground.data }, { on := 15, ground := Go.Ground.data }], guard := none } a W K Q else K (a.put (some 58) undef) W := by
  have y0 : a.tmps[52]?.getD undef = .string s := hI.val 10 52 rfl h10
  have y1 : a.tmps[57]?.getD undef = .int .i64 n := hI.val 15 57 rfl h15
  have hC := E.lo W
  have HR := Lib.hid (hI.step (i := 16) (d := 58) (v := .string d) rfl spa_nodup (show 58 < 151 by decide) rfl (show (if hit f 16 17 = true then Post W else Pre W) by rw [hit_of f 16 17 (by decide)]; exact hI.held))
  clear hI E hf
  go_simp
  refine hC.mono ?_
  rintro e W1 ⟨rfl, rfl⟩
  exact hK _ _ HR.out

set_option maxRecDepth 100000 in
theorem spa_17 {g len cap k id : Nat} {ad : Addr} {s d : ByteArray} {n : Int} {r1 r2 : Int} {Pre Post : World → Prop} {base : Array Value} {f : Nat → Bool} {a : Act} {W : World} {K : Act → World → Prop} {Q : Exit → Act → World → Prop} {ops : Array Oper} (E : spaEnv g len cap k id ad s d n r1 r2 Pre Post base) (hI : (spaTb g len cap k id ad s d n r1 r2 Pre Post base).Inv (fun f W => if f 17 = true then Post W else Pre W) f a W) (hf : f 17 = false) (h0 : f 0 = true) (h5 : f 5 = true) (h16 : f 16 = true) (pos : String) (hK : ∀ a' W', (spaTb g len cap k id ad s d n r1 r2 Pre Post base).Inv (fun f W => if f 17 = true then Post W else Pre W) (hit f 17) a' W' → K a' W') : if Region.wanted { dst := some 59, op := Go.Op.call { callee := Go.Callee.value (Go.Operand.func 14), args := #[Go.Operand.tmp 42, Go.Operand.tmp 47, Go.Operand.tmp 58], argTypes := #[23, 31, 9] }, type := 29, pos := pos, after := #[{ on := 0, ground := Go.Ground.data }, { on := 5, ground := Go.Ground.data }, { on := 16, ground := Go.Ground.data }, { on := 16, ground := Go.Ground.chain }], guard := none } (yielded ops a.tmps) = true then Oper.wp Tryd.prog { dst := some 59, op := Go.Op.call { callee := Go.Callee.value (Go.Operand.func 14), args := #[Go.Operand.tmp 42, Go.Operand.tmp 47, Go.Operand.tmp 58], argTypes := #[23, 31, 9] }, type := 29, pos := pos, after := #[{ on := 0, ground := Go.Ground.data }, { on := 5, ground := Go.Ground.data }, { on := 16, ground := Go.Ground.data }, { on := 16, ground := Go.Ground.chain }], guard := none } a W K Q else K (a.put (some 59) undef) W := by
  have y0 : a.tmps[42]?.getD undef = .pointer (some ⟨g, 0, none⟩) := hI.val 0 42 rfl h0
  have y1 : a.tmps[47]?.getD undef = .int .u64 (id : Int) := hI.val 5 47 rfl h5
  have y2 : a.tmps[58]?.getD undef = .string d := hI.val 16 58 rfl h16
  have hp : Pre W := by have := hI.held; simp only [hf] at this; simpa using this
  have hC := E.wr W hp
  have HR := Lib.hid (fun W1 (hb : Post W1) => hI.step (i := 17) (d := 59) (v := .tuple #[.int .i64 r1, .int .i64 r2]) rfl spa_nodup (show 59 < 151 by decide) rfl (show (if hit f 17 17 = true then Post W1 else Pre W1) by rw [hit_at, if_pos rfl]; exact hb))
  clear hI E hf hp
  go_simp
  refine hC.mono ?_
  rintro e W1 ⟨rfl, hb⟩
  exact hK _ _ (HR.out W1 hb)

set_option maxRecDepth 100000 in
theorem spa_18 {g len cap k id : Nat} {ad : Addr} {s d : ByteArray} {n : Int} {r1 r2 : Int} {Pre Post : World → Prop} {base : Array Value} {f : Nat → Bool} {a : Act} {W : World} {K : Act → World → Prop} {Q : Exit → Act → World → Prop} {ops : Array Oper} (E : spaEnv g len cap k id ad s d n r1 r2 Pre Post base) (hI : (spaTb g len cap k id ad s d n r1 r2 Pre Post base).Inv (fun f W => if f 17 = true then Post W else Pre W) f a W) (hf : f 18 = false) (h17 : f 17 = true) (pos : String) (hK : ∀ a' W', (spaTb g len cap k id ad s d n r1 r2 Pre Post base).Inv (fun f W => if f 17 = true then Post W else Pre W) (hit f 18) a' W' → K a' W') : if Region.wanted { dst := some 41, op := Go.Op.move (Go.Operand.tmp 59), type := 29, pos := pos, after := #[{ on := 17, ground := Go.Ground.data }], guard := none } (yielded ops a.tmps) = true then Oper.wp Tryd.prog { dst := some 41, op := Go.Op.move (Go.Operand.tmp 59), type := 29, pos := pos, after := #[{ on := 17, ground := Go.Ground.data }], guard := none } a W K Q else K (a.put (some 41) undef) W := by
  have q : a.tmps[59]?.getD undef = .tuple #[.int .i64 r1, .int .i64 r2] := hI.val 17 59 rfl h17
  have R := Lib.hid (hI.step (i := 18) (d := 41) (v := .tuple #[.int .i64 r1, .int .i64 r2]) rfl spa_nodup (show 41 < 151 by decide) rfl (show (if hit f 18 17 = true then Post W else Pre W) by rw [hit_of f 18 17 (by decide)]; exact hI.held))
  clear hI E hf
  go_simp
  exact hK _ _ R.out

set_option maxRecDepth 100000 in
theorem spa_19 {g len cap k id : Nat} {ad : Addr} {s d : ByteArray} {n : Int} {r1 r2 : Int} {Pre Post : World → Prop} {base : Array Value} {f : Nat → Bool} {a : Act} {W : World} {K : Act → World → Prop} {Q : Exit → Act → World → Prop} {ops : Array Oper} (E : spaEnv g len cap k id ad s d n r1 r2 Pre Post base) (hI : (spaTb g len cap k id ad s d n r1 r2 Pre Post base).Inv (fun f W => if f 17 = true then Post W else Pre W) f a W) (hf : f 19 = false) (h18 : f 18 = true) (pos : String) (hK : ∀ a' W', (spaTb g len cap k id ad s d n r1 r2 Pre Post base).Inv (fun f W => if f 17 = true then Post W else Pre W) (hit f 19) a' W' → K a' W') : if Region.wanted { dst := some 60, op := Go.Op.extract (Go.Operand.tmp 41) 0, type := 3, pos := pos, after := #[{ on := 18, ground := Go.Ground.data }], guard := none } (yielded ops a.tmps) = true then Oper.wp Tryd.prog { dst := some 60, op := Go.Op.extract (Go.Operand.tmp 41) 0, type := 3, pos := pos, after := #[{ on := 18, ground := Go.Ground.data }], guard := none } a W K Q else K (a.put (some 60) undef) W := by
  have q : a.tmps[41]?.getD undef = .tuple #[.int .i64 r1, .int .i64 r2] := hI.val 18 41 rfl h18
  have R := Lib.hid (hI.step (i := 19) (d := 60) (v := .int .i64 r1) rfl spa_nodup (show 60 < 151 by decide) rfl (show (if hit f 19 17 = true then Post W else Pre W) by rw [hit_of f 19 17 (by decide)]; exact hI.held))
  clear hI E hf
  go_simp
  exact hK _ _ R.out

set_option maxRecDepth 100000 in
theorem spa_20 {g len cap k id : Nat} {ad : Addr} {s d : ByteArray} {n : Int} {r1 r2 : Int} {Pre Post : World → Prop} {base : Array Value} {f : Nat → Bool} {a : Act} {W : World} {K : Act → World → Prop} {Q : Exit → Act → World → Prop} {ops : Array Oper} (E : spaEnv g len cap k id ad s d n r1 r2 Pre Post base) (hI : (spaTb g len cap k id ad s d n r1 r2 Pre Post base).Inv (fun f W => if f 17 = true then Post W else Pre W) f a W) (hf : f 20 = false) (h18 : f 18 = true) (pos : String) (hK : ∀ a' W', (spaTb g len cap k id ad s d n r1 r2 Pre Post base).Inv (fun f W => if f 17 = true then Post W else Pre W) (hit f 20) a' W' → K a' W') : if Region.wanted { dst := some 61, op := Go.Op.extract (Go.Operand.tmp 41) 1, type := 26, pos := pos, after := #[{ on := 18, ground := Go.Ground.data }, { on := 21, ground := Go.Ground.gcOnly Go.Departure.lateStores }], guard := none } (yielded ops a.tmps) = true then Oper.wp Tryd.prog { dst := some 61, op := Go.Op.extract (Go.Operand.tmp 41) 1, type := 26, pos := pos, after := #[{ on := 18, ground := Go.Ground.data }, { on := 21, ground := Go.Ground.gcOnly Go.Departure.lateStores }], guard := none } a W K Q else K (a.put (some 61) undef) W := by
  have q : a.tmps[41]?.getD undef = .tuple #[.int .i64 r1, .int .i64 r2] := hI.val 18 41 rfl h18
  have R := Lib.hid (hI.step (i := 20) (d := 61) (v := .int .i64 r2) rfl spa_nodup (show 61 < 151 by decide) rfl (show (if hit f 20 17 = true then Post W else Pre W) by rw [hit_of f 20 17 (by decide)]; exact hI.held))
  clear hI E hf
  go_simp
  exact hK _ _ R.out

set_option maxRecDepth 100000 in
theorem spa_21 {g len cap k id : Nat} {ad : Addr} {s d : ByteArray} {n : Int} {r1 r2 : Int} {Pre Post : World → Prop} {base : Array Value} {f : Nat → Bool} {a : Act} {W : World} {K : Act → World → Prop} {Q : Exit → Act → World → Prop} {ops : Array Oper} (E : spaEnv g len cap k id ad s d n r1 r2 Pre Post base) (hI : (spaTb g len cap k id ad s d n r1 r2 Pre Post base).Inv (fun f W => if f 17 = true then Post W else Pre W) f a W) (hf : f 21 = false) (h0 : f 0 = true) (h1 : f 1 = true) (h2 : f 2 = true) (h3 : f 3 = true) (h4 : f 4 = true) (h5 : f 5 = true) (h6 : f 6 = true) (h7 : f 7 = true) (h8 : f 8 = true) (h9 : f 9 = true) (h10 : f 10 = true) (h11 : f 11 = true) (h12 : f 12 = true) (h13 : f 13 = true) (h14 : f 14 = true) (h15 : f 15 = true) (h16 : f 16 = true) (h17 : f 17 = true) (h18 : f 18 = true) (h19 : f 19 = true) (pos : String) (hK : ∀ a' W', (spaTb g len cap k id ad s d n r1 r2 Pre Post base).Inv (fun f W => if f 17 = true then Post W else Pre W) (hit f 21) a' W' → K a' W') : if Region.wanted { dst := some 13, op := Go.Op.assign (Go.Operand.tmp 60), type := 3, pos := pos, after := #[{ on := 19, ground := Go.Ground.data }, { on := 17, ground := Go.Ground.chain }, { on := 0, ground := Go.Ground.phase }, { on := 1, ground := Go.Ground.phase }, { on := 2, ground := Go.Ground.phase }, { on := 3, ground := Go.Ground.phase }, { on := 4, ground := Go.Ground.phase }, { on := 5, ground := Go.Ground.phase }, { on := 6, ground := Go.Ground.phase }, { on := 7, ground := Go.Ground.phase }, { on := 8, ground := Go.Ground.phase }, { on := 9, ground := Go.Ground.phase }, { on := 10, ground := Go.Ground.phase }, { on := 11, ground := Go.Ground.phase }, { on := 12, ground := Go.Ground.phase }, { on := 13, ground := Go.Ground.phase }, { on := 14, ground := Go.Ground.phase }, { on := 15, ground := Go.Ground.phase }, { on := 16, ground := Go.Ground.phase }, { on := 17, ground := Go.Ground.phase }, { on := 18, ground := Go.Ground.phase }, { on := 19, ground := Go.Ground.phase }, { on := 20, ground := Go.Ground.textOnly Go.Departure.lateStores }], guard := none } (yielded ops a.tmps) = true then Oper.wp Tryd.prog { dst := some 13, op := Go.Op.assign (Go.Operand.tmp 60), type := 3, pos := pos, after := #[{ on := 19, ground := Go.Ground.data }, { on := 17, ground := Go.Ground.chain }, { on := 0, ground := Go.Ground.phase }, { on := 1, ground := Go.Ground.phase }, { on := 2, ground := Go.Ground.phase }, { on := 3, ground := Go.Ground.phase }, { on := 4, ground := Go.Ground.phase }, { on := 5, ground := Go.Ground.phase }, { on := 6, ground := Go.Ground.phase }, { on := 7, ground := Go.Ground.phase }, { on := 8, ground := Go.Ground.phase }, { on := 9, ground := Go.Ground.phase }, { on := 10, ground := Go.Ground.phase }, { on := 11, ground := Go.Ground.phase }, { on := 12, ground := Go.Ground.phase }, { on := 13, ground := Go.Ground.phase }, { on := 14, ground := Go.Ground.phase }, { on := 15, ground := Go.Ground.phase }, { on := 16, ground := Go.Ground.phase }, { on := 17, ground := Go.Ground.phase }, { on := 18, ground := Go.Ground.phase }, { on := 19, ground := Go.Ground.phase }, { on := 20, ground := Go.Ground.textOnly Go.Departure.lateStores }], guard := none } a W K Q else K (a.put (some 13) undef) W := by
  have q : a.tmps[60]?.getD undef = .int .i64 r1 := hI.val 19 60 rfl h19
  have R := Lib.hid (hI.step (i := 21) (d := 13) (v := .int .i64 r1) rfl spa_nodup (show 13 < 151 by decide) rfl (show (if hit f 21 17 = true then Post W else Pre W) by rw [hit_of f 21 17 (by decide)]; exact hI.held))
  clear hI E hf
  go_simp
  exact hK _ _ R.out

set_option maxRecDepth 100000 in
theorem spa_22 {g len cap k id : Nat} {ad : Addr} {s d : ByteArray} {n : Int} {r1 r2 : Int} {Pre Post : World → Prop} {base : Array Value} {f : Nat → Bool} {a : Act} {W : World} {K : Act → World → Prop} {Q : Exit → Act → World → Prop} {ops : Array Oper} (E : spaEnv g len cap k id ad s d n r1 r2 Pre Post base) (hI : (spaTb g len cap k id ad s d n r1 r2 Pre Post base).Inv (fun f W => if f 17 = true then Post W else Pre W) f a W) (hf : f 22 = false) (h0 : f 0 = true) (h1 : f 1 = true) (h2 : f 2 = true) (h3 : f 3 = true) (h4 : f 4 = true) (h5 : f 5 = true) (h6 : f 6 = true) (h7 : f 7 = true) (h8 : f 8 = true) (h9 : f 9 = true) (h10 : f 10 = true) (h11 : f 11 = true) (h12 : f 12 = true) (h13 : f 13 = true) (h14 : f 14 = true) (h15 : f 15 = true) (h16 : f 16 = true) (h17 : f 17 = true) (h18 : f 18 = true) (h19 : f 19 = true) (h20 : f 20 = true) (h21 : f 21 = true) (pos : String) (hK : ∀ a' W', (spaTb g len cap k id ad s d n r1 r2 Pre Post base).Inv (fun f W => if f 17 = true then Post W else Pre W) (hit f 22) a' W' → K a' W') : if Region.wanted { dst := some 14, op := Go.Op.assign (Go.Operand.tmp 61), type := 26, pos := pos, after := #[{ on := 20, ground := Go.Ground.data }, { on := 21, ground := Go.Ground.chain }, { on := 0, ground := Go.Ground.phase }, { on := 1, ground := Go.Ground.phase }, { on := 2, ground := Go.Ground.phase }, { on := 3, ground := Go.Ground.phase }, { on := 4, ground := Go.Ground.phase }, { on := 5, ground := Go.Ground.phase }, { on := 6, ground := Go.Ground.phase }, { on := 7, ground := Go.Ground.phase }, { on := 8, ground := Go.Ground.phase }, { on := 9, ground := Go.Ground.phase }, { on := 10, ground := Go.Ground.phase }, { on := 11, ground := Go.Ground.phase }, { on := 12, ground := Go.Ground.phase }, { on := 13, ground := Go.Ground.phase }, { on := 14, ground := Go.Ground.phase }, { on := 15, ground := Go.Ground.phase }, { on := 16, ground := Go.Ground.phase }, { on := 17, ground := Go.Ground.phase }, { on := 18, ground := Go.Ground.phase }, { on := 19, ground := Go.Ground.phase }, { on := 20, ground := Go.Ground.phase }, { on := 21, ground := Go.Ground.phase }], guard := none } (yielded ops a.tmps) = true then Oper.wp Tryd.prog { dst := some 14, op := Go.Op.assign (Go.Operand.tmp 61), type := 26, pos := pos, after := #[{ on := 20, ground := Go.Ground.data }, { on := 21, ground := Go.Ground.chain }, { on := 0, ground := Go.Ground.phase }, { on := 1, ground := Go.Ground.phase }, { on := 2, ground := Go.Ground.phase }, { on := 3, ground := Go.Ground.phase }, { on := 4, ground := Go.Ground.phase }, { on := 5, ground := Go.Ground.phase }, { on := 6, ground := Go.Ground.phase }, { on := 7, ground := Go.Ground.phase }, { on := 8, ground := Go.Ground.phase }, { on := 9, ground := Go.Ground.phase }, { on := 10, ground := Go.Ground.phase }, { on := 11, ground := Go.Ground.phase }, { on := 12, ground := Go.Ground.phase }, { on := 13, ground := Go.Ground.phase }, { on := 14, ground := Go.Ground.phase }, { on := 15, ground := Go.Ground.phase }, { on := 16, ground := Go.Ground.phase }, { on := 17, ground := Go.Ground.phase }, { on := 18, ground := Go.Ground.phase }, { on := 19, ground := Go.Ground.phase }, { on := 20, ground := Go.Ground.phase }, { on := 21, ground := Go.Ground.phase }], guard := none } a W K Q else K (a.put (some 14) undef) W := by
  have q : a.tmps[61]?.getD undef = .int .i64 r2 := hI.val 20 61 rfl h20
  have R := Lib.hid (hI.step (i := 22) (d := 14) (v := .int .i64 r2) rfl spa_nodup (show 14 < 151 by decide) rfl (show (if hit f 22 17 = true then Post W else Pre W) by rw [hit_of f 22 17 (by decide)]; exact hI.held))
  clear hI E hf
  go_simp
  exact hK _ _ R.out

abbrev spaOps : Array Oper := #[{ dst := some 42, op := Go.Op.move (Go.Operand.tmp 9), type := 23, pos := "outright.go:94", after := #[], guard := none }, { dst := some 43, op := Go.Op.move (Go.Operand.tmp 0), type := 22, pos := "outright.go:94", after := #[], guard := none }, { dst := some 44, op := Go.Op.move (Go.Operand.tmp 12), type := 3, pos := "outright.go:94", after := #[], guard := none }, { dst := some 45, op := Go.Op.indexAddr 22 (Go.Operand.tmp 43) (Go.Operand.tmp 44), type := 0, pos := "outright.go:94", after := #[{ on := 1, ground := Go.Ground.data }, { on := 2, ground := Go.Ground.data }], guard := none }, { dst := some 46, op := Go.Op.fieldAddr 33 (Go.Operand.tmp 45) 0, type := 0, pos := "outright.go:94", after := #[{ on := 3, ground := Go.Ground.data }], guard := none }, { dst := some 47, op := Go.Op.load 31 (Go.Operand.tmp 46), type := 31, pos := "outright.go:94", after := #[{ on := 4, ground := Go.Ground.data }], guard := none }, { dst := some 48, op := Go.Op.move (Go.Operand.tmp 0), type := 22, pos := "outright.go:94", after := #[], guard := none }, { dst := some 49, op := Go.Op.move (Go.Operand.tmp 12), type := 3, pos := "outright.go:94", after := #[], guard := none }, { dst := some 50, op := Go.Op.indexAddr 22 (Go.Operand.tmp 48) (Go.Operand.tmp 49), type := 0, pos := "outright.go:94", after := #[{ on := 6, ground := Go.Ground.data }, { on := 7, ground := Go.Ground.data }], guard := none }, { dst := some 51, op := Go.Op.fieldAddr 33 (Go.Operand.tmp 50) 1, type := 0, pos := "outright.go:94", after := #[{ on := 8, ground := Go.Ground.data }], guard := none }, { dst := some 52, op := Go.Op.load 9 (Go.Operand.tmp 51), type := 9, pos := "outright.go:94", after := #[{ on := 9, ground := Go.Ground.data }], guard := none }, { dst := some 53, op := Go.Op.move (Go.Operand.tmp 0), type := 22, pos := "outright.go:94", after := #[], guard := none }, { dst := some 54, op := Go.Op.move (Go.Operand.tmp 12), type := 3, pos := "outright.go:94", after := #[], guard := none }, { dst := some 55, op := Go.Op.indexAddr 22 (Go.Operand.tmp 53) (Go.Operand.tmp 54), type := 0, pos := "outright.go:94", after := #[{ on := 11, ground := Go.Ground.data }, { on := 12, ground := Go.Ground.data }], guard := none }, { dst := some 56, op := Go.Op.fieldAddr 33 (Go.Operand.tmp 55) 2, type := 0, pos := "outright.go:94", after := #[{ on := 13, ground := Go.Ground.data }], guard := none }, { dst := some 57, op := Go.Op.load 3 (Go.Operand.tmp 56), type := 3, pos := "outright.go:94", after := #[{ on := 14, ground := Go.Ground.data }], guard := none }, { dst := some 58, op := Go.Op.call { callee := Go.Callee.value (Go.Operand.func 15), args := #[Go.Operand.tmp 52, Go.Operand.tmp 57], argTypes := #[9, 3] }, type := 9, pos := "outright.go:94", after := #[{ on := 10, ground := Go.Ground.data }, { on := 15, ground := Go.Ground.data }], guard := none }, { dst := some 59, op := Go.Op.call { callee := Go.Callee.value (Go.Operand.func 14), args := #[Go.Operand.tmp 42, Go.Operand.tmp 47, Go.Operand.tmp 58], argTypes := #[23, 31, 9] }, type := 29, pos := "outright.go:94", after := #[{ on := 0, ground := Go.Ground.data }, { on := 5, ground := Go.Ground.data }, { on := 16, ground := Go.Ground.data }, { on := 16, ground := Go.Ground.chain }], guard := none }, { dst := some 41, op := Go.Op.move (Go.Operand.tmp 59), type := 29, pos := "outright.go:94", after := #[{ on := 17, ground := Go.Ground.data }], guard := none }, { dst := some 60, op := Go.Op.extract (Go.Operand.tmp 41) 0, type := 3, pos := "outright.go:94", after := #[{ on := 18, ground := Go.Ground.data }], guard := none }, { dst := some 61, op := Go.Op.extract (Go.Operand.tmp 41) 1, type := 26, pos := "outright.go:94", after := #[{ on := 18, ground := Go.Ground.data }, { on := 21, ground := Go.Ground.gcOnly Go.Departure.lateStores }], guard := none }, { dst := some 13, op := Go.Op.assign (Go.Operand.tmp 60), type := 3, pos := "outright.go:94", after := #[{ on := 19, ground := Go.Ground.data }, { on := 17, ground := Go.Ground.chain }, { on := 0, ground := Go.Ground.phase }, { on := 1, ground := Go.Ground.phase }, { on := 2, ground := Go.Ground.phase }, { on := 3, ground := Go.Ground.phase }, { on := 4, ground := Go.Ground.phase }, { on := 5, ground := Go.Ground.phase }, { on := 6, ground := Go.Ground.phase }, { on := 7, ground := Go.Ground.phase }, { on := 8, ground := Go.Ground.phase }, { on := 9, ground := Go.Ground.phase }, { on := 10, ground := Go.Ground.phase }, { on := 11, ground := Go.Ground.phase }, { on := 12, ground := Go.Ground.phase }, { on := 13, ground := Go.Ground.phase }, { on := 14, ground := Go.Ground.phase }, { on := 15, ground := Go.Ground.phase }, { on := 16, ground := Go.Ground.phase }, { on := 17, ground := Go.Ground.phase }, { on := 18, ground := Go.Ground.phase }, { on := 19, ground := Go.Ground.phase }, { on := 20, ground := Go.Ground.textOnly Go.Departure.lateStores }], guard := none }, { dst := some 14, op := Go.Op.assign (Go.Operand.tmp 61), type := 26, pos := "outright.go:94", after := #[{ on := 20, ground := Go.Ground.data }, { on := 21, ground := Go.Ground.chain }, { on := 0, ground := Go.Ground.phase }, { on := 1, ground := Go.Ground.phase }, { on := 2, ground := Go.Ground.phase }, { on := 3, ground := Go.Ground.phase }, { on := 4, ground := Go.Ground.phase }, { on := 5, ground := Go.Ground.phase }, { on := 6, ground := Go.Ground.phase }, { on := 7, ground := Go.Ground.phase }, { on := 8, ground := Go.Ground.phase }, { on := 9, ground := Go.Ground.phase }, { on := 10, ground := Go.Ground.phase }, { on := 11, ground := Go.Ground.phase }, { on := 12, ground := Go.Ground.phase }, { on := 13, ground := Go.Ground.phase }, { on := 14, ground := Go.Ground.phase }, { on := 15, ground := Go.Ground.phase }, { on := 16, ground := Go.Ground.phase }, { on := 17, ground := Go.Ground.phase }, { on := 18, ground := Go.Ground.phase }, { on := 19, ground := Go.Ground.phase }, { on := 20, ground := Go.Ground.phase }, { on := 21, ground := Go.Ground.phase }], guard := none }]
set_option maxRecDepth 100000 in
set_option maxHeartbeats 4000000 in
theorem spa_step {g len cap k id : Nat} {ad : Addr} {s d : ByteArray} {n : Int} {r1 r2 : Int} {Pre Post : World → Prop} {base : Array Value} {Q : Exit → Act → World → Prop} (E : spaEnv g len cap k id ad s d n r1 r2 Pre Post base) :
    ∀ f a W i o, spaOps[i]? = some o → f i = false → (∀ e ∈ o.after, Region.binds .any e = true → f e.on = true) → (spaTb g len cap k id ad s d n r1 r2 Pre Post base).Inv (fun f W => if f 17 = true then Post W else Pre W) f a W → wpOp Tryd.prog spaOps Q i (fun a' W' => (spaTb g len cap k id ad s d n r1 r2 Pre Post base).Inv (fun f W => if f 17 = true then Post W else Pre W) (hit f i) a' W') a W := by
  intro f a W i o ho hf hed hI
  have hi : i < 23 := (Array.getElem?_eq_some_iff.1 ho).1
  have hc : i = 0 ∨ i = 1 ∨ i = 2 ∨ i = 3 ∨ i = 4 ∨ i = 5 ∨ i = 6 ∨ i = 7 ∨ i = 8 ∨ i = 9 ∨ i = 10 ∨ i = 11 ∨ i = 12 ∨ i = 13 ∨ i = 14 ∨ i = 15 ∨ i = 16 ∨ i = 17 ∨ i = 18 ∨ i = 19 ∨ i = 20 ∨ i = 21 ∨ i = 22 := by omega
  rcases hc with rfl | rfl | rfl | rfl | rfl | rfl | rfl | rfl | rfl | rfl | rfl | rfl | rfl | rfl | rfl | rfl | rfl | rfl | rfl | rfl | rfl | rfl | rfl
  · cases ho
    exact wpOp_step (o := { dst := some 42, op := Go.Op.move (Go.Operand.tmp 9), type := 23, pos := "outright.go:94", after := #[], guard := none }) rfl fun K hK => spa_0 E hI hf "outright.go:94" (fun a' W' h => hK a' W' h)
  · cases ho
    exact wpOp_step (o := { dst := some 43, op := Go.Op.move (Go.Operand.tmp 0), type := 22, pos := "outright.go:94", after := #[], guard := none }) rfl fun K hK => spa_1 E hI hf "outright.go:94" (fun a' W' h => hK a' W' h)
  · cases ho
    exact wpOp_step (o := { dst := some 44, op := Go.Op.move (Go.Operand.tmp 12), type := 3, pos := "outright.go:94", after := #[], guard := none }) rfl fun K hK => spa_2 E hI hf "outright.go:94" (fun a' W' h => hK a' W' h)
  · cases ho
    exact wpOp_step (o := { dst := some 45, op := Go.Op.indexAddr 22 (Go.Operand.tmp 43) (Go.Operand.tmp 44), type := 0, pos := "outright.go:94", after := #[{ on := 1, ground := Go.Ground.data }, { on := 2, ground := Go.Ground.data }], guard := none }) rfl fun K hK => spa_3 E hI hf (hed ⟨1, Go.Ground.data⟩ (Array.mem_of_getElem? (i := 0) rfl) rfl) (hed ⟨2, Go.Ground.data⟩ (Array.mem_of_getElem? (i := 1) rfl) rfl) "outright.go:94" (fun a' W' h => hK a' W' h)
  · cases ho
    exact wpOp_step (o := { dst := some 46, op := Go.Op.fieldAddr 33 (Go.Operand.tmp 45) 0, type := 0, pos := "outright.go:94", after := #[{ on := 3, ground := Go.Ground.data }], guard := none }) rfl fun K hK => spa_4 E hI hf (hed ⟨3, Go.Ground.data⟩ (Array.mem_of_getElem? (i := 0) rfl) rfl) "outright.go:94" (fun a' W' h => hK a' W' h)
  · cases ho
    exact wpOp_step (o := { dst := some 47, op := Go.Op.load 31 (Go.Operand.tmp 46), type := 31, pos := "outright.go:94", after := #[{ on := 4, ground := Go.Ground.data }], guard := none }) rfl fun K hK => spa_5 E hI hf (hed ⟨4, Go.Ground.data⟩ (Array.mem_of_getElem? (i := 0) rfl) rfl) "outright.go:94" (fun a' W' h => hK a' W' h)
  · cases ho
    exact wpOp_step (o := { dst := some 48, op := Go.Op.move (Go.Operand.tmp 0), type := 22, pos := "outright.go:94", after := #[], guard := none }) rfl fun K hK => spa_6 E hI hf "outright.go:94" (fun a' W' h => hK a' W' h)
  · cases ho
    exact wpOp_step (o := { dst := some 49, op := Go.Op.move (Go.Operand.tmp 12), type := 3, pos := "outright.go:94", after := #[], guard := none }) rfl fun K hK => spa_7 E hI hf "outright.go:94" (fun a' W' h => hK a' W' h)
  · cases ho
    exact wpOp_step (o := { dst := some 50, op := Go.Op.indexAddr 22 (Go.Operand.tmp 48) (Go.Operand.tmp 49), type := 0, pos := "outright.go:94", after := #[{ on := 6, ground := Go.Ground.data }, { on := 7, ground := Go.Ground.data }], guard := none }) rfl fun K hK => spa_8 E hI hf (hed ⟨6, Go.Ground.data⟩ (Array.mem_of_getElem? (i := 0) rfl) rfl) (hed ⟨7, Go.Ground.data⟩ (Array.mem_of_getElem? (i := 1) rfl) rfl) "outright.go:94" (fun a' W' h => hK a' W' h)
  · cases ho
    exact wpOp_step (o := { dst := some 51, op := Go.Op.fieldAddr 33 (Go.Operand.tmp 50) 1, type := 0, pos := "outright.go:94", after := #[{ on := 8, ground := Go.Ground.data }], guard := none }) rfl fun K hK => spa_9 E hI hf (hed ⟨8, Go.Ground.data⟩ (Array.mem_of_getElem? (i := 0) rfl) rfl) "outright.go:94" (fun a' W' h => hK a' W' h)
  · cases ho
    exact wpOp_step (o := { dst := some 52, op := Go.Op.load 9 (Go.Operand.tmp 51), type := 9, pos := "outright.go:94", after := #[{ on := 9, ground := Go.Ground.data }], guard := none }) rfl fun K hK => spa_10 E hI hf (hed ⟨9, Go.Ground.data⟩ (Array.mem_of_getElem? (i := 0) rfl) rfl) "outright.go:94" (fun a' W' h => hK a' W' h)
  · cases ho
    exact wpOp_step (o := { dst := some 53, op := Go.Op.move (Go.Operand.tmp 0), type := 22, pos := "outright.go:94", after := #[], guard := none }) rfl fun K hK => spa_11 E hI hf "outright.go:94" (fun a' W' h => hK a' W' h)
  · cases ho
    exact wpOp_step (o := { dst := some 54, op := Go.Op.move (Go.Operand.tmp 12), type := 3, pos := "outright.go:94", after := #[], guard := none }) rfl fun K hK => spa_12 E hI hf "outright.go:94" (fun a' W' h => hK a' W' h)
  · cases ho
    exact wpOp_step (o := { dst := some 55, op := Go.Op.indexAddr 22 (Go.Operand.tmp 53) (Go.Operand.tmp 54), type := 0, pos := "outright.go:94", after := #[{ on := 11, ground := Go.Ground.data }, { on := 12, ground := Go.Ground.data }], guard := none }) rfl fun K hK => spa_13 E hI hf (hed ⟨11, Go.Ground.data⟩ (Array.mem_of_getElem? (i := 0) rfl) rfl) (hed ⟨12, Go.Ground.data⟩ (Array.mem_of_getElem? (i := 1) rfl) rfl) "outright.go:94" (fun a' W' h => hK a' W' h)
  · cases ho
    exact wpOp_step (o := { dst := some 56, op := Go.Op.fieldAddr 33 (Go.Operand.tmp 55) 2, type := 0, pos := "outright.go:94", after := #[{ on := 13, ground := Go.Ground.data }], guard := none }) rfl fun K hK => spa_14 E hI hf (hed ⟨13, Go.Ground.data⟩ (Array.mem_of_getElem? (i := 0) rfl) rfl) "outright.go:94" (fun a' W' h => hK a' W' h)
  · cases ho
    exact wpOp_step (o := { dst := some 57, op := Go.Op.load 3 (Go.Operand.tmp 56), type := 3, pos := "outright.go:94", after := #[{ on := 14, ground := Go.Ground.data }], guard := none }) rfl fun K hK => spa_15 E hI hf (hed ⟨14, Go.Ground.data⟩ (Array.mem_of_getElem? (i := 0) rfl) rfl) "outright.go:94" (fun a' W' h => hK a' W' h)
  · cases ho
    exact wpOp_step (o := { dst := some 58, op := Go.Op.call { callee := Go.Callee.value (Go.Operand.func 15), args := #[Go.Operand.tmp 52, Go.Operand.tmp 57], argTypes := #[9, 3] }, type := 9, pos := "outright.go:94", after := #[{ on := 10, ground := Go.Ground.data }, { on := 15, ground := Go.Ground.data }], guard := none }) rfl fun K hK => spa_16 E hI hf (hed ⟨10, Go.Ground.data⟩ (Array.mem_of_getElem? (i := 0) rfl) rfl) (hed ⟨15, Go.Ground.data⟩ (Array.mem_of_getElem? (i := 1) rfl) rfl) "outright.go:94" (fun a' W' h => hK a' W' h)
  · cases ho
    exact wpOp_step (o := { dst := some 59, op := Go.Op.call { callee := Go.Callee.value (Go.Operand.func 14), args := #[Go.Operand.tmp 42, Go.Operand.tmp 47, Go.Operand.tmp 58], argTypes := #[23, 31, 9] }, type := 29, pos := "outright.go:94", after := #[{ on := 0, ground := Go.Ground.data }, { on := 5, ground := Go.Ground.data }, { on := 16, ground := Go.Ground.data }, { on := 16, ground := Go.Ground.chain }], guard := none }) rfl fun K hK => spa_17 E hI hf (hed ⟨0, Go.Ground.data⟩ (Array.mem_of_getElem? (i := 0) rfl) rfl) (hed ⟨5, Go.Ground.data⟩ (Array.mem_of_getElem? (i := 1) rfl) rfl) (hed ⟨16, Go.Ground.data⟩ (Array.mem_of_getElem? (i := 2) rfl) rfl) "outright.go:94" (fun a' W' h => hK a' W' h)
  · cases ho
    exact wpOp_step (o := { dst := some 41, op := Go.Op.move (Go.Operand.tmp 59), type := 29, pos := "outright.go:94", after := #[{ on := 17, ground := Go.Ground.data }], guard := none }) rfl fun K hK => spa_18 E hI hf (hed ⟨17, Go.Ground.data⟩ (Array.mem_of_getElem? (i := 0) rfl) rfl) "outright.go:94" (fun a' W' h => hK a' W' h)
  · cases ho
    exact wpOp_step (o := { dst := some 60, op := Go.Op.extract (Go.Operand.tmp 41) 0, type := 3, pos := "outright.go:94", after := #[{ on := 18, ground := Go.Ground.data }], guard := none }) rfl fun K hK => spa_19 E hI hf (hed ⟨18, Go.Ground.data⟩ (Array.mem_of_getElem? (i := 0) rfl) rfl) "outright.go:94" (fun a' W' h => hK a' W' h)
  · cases ho
    exact wpOp_step (o := { dst := some 61, op := Go.Op.extract (Go.Operand.tmp 41) 1, type := 26, pos := "outright.go:94", after := #[{ on := 18, ground := Go.Ground.data }, { on := 21, ground := Go.Ground.gcOnly Go.Departure.lateStores }], guard := none }) rfl fun K hK => spa_20 E hI hf (hed ⟨18, Go.Ground.data⟩ (Array.mem_of_getElem? (i := 0) rfl) rfl) "outright.go:94" (fun a' W' h => hK a' W' h)
  · cases ho
    exact wpOp_step (o := { dst := some 13, op := Go.Op.assign (Go.Operand.tmp 60), type := 3, pos := "outright.go:94", after := #[{ on := 19, ground := Go.Ground.data }, { on := 17, ground := Go.Ground.chain }, { on := 0, ground := Go.Ground.phase }, { on := 1, ground := Go.Ground.phase }, { on := 2, ground := Go.Ground.phase }, { on := 3, ground := Go.Ground.phase }, { on := 4, ground := Go.Ground.phase }, { on := 5, ground := Go.Ground.phase }, { on := 6, ground := Go.Ground.phase }, { on := 7, ground := Go.Ground.phase }, { on := 8, ground := Go.Ground.phase }, { on := 9, ground := Go.Ground.phase }, { on := 10, ground := Go.Ground.phase }, { on := 11, ground := Go.Ground.phase }, { on := 12, ground := Go.Ground.phase }, { on := 13, ground := Go.Ground.phase }, { on := 14, ground := Go.Ground.phase }, { on := 15, ground := Go.Ground.phase }, { on := 16, ground := Go.Ground.phase }, { on := 17, ground := Go.Ground.phase }, { on := 18, ground := Go.Ground.phase }, { on := 19, ground := Go.Ground.phase }, { on := 20, ground := Go.Ground.textOnly Go.Departure.lateStores }], guard := none }) rfl fun K hK => spa_21 E hI hf (hed ⟨0, Go.Ground.phase⟩ (Array.mem_of_getElem? (i := 2) rfl) rfl) (hed ⟨1, Go.Ground.phase⟩ (Array.mem_of_getElem? (i := 3) rfl) rfl) (hed ⟨2, Go.Ground.phase⟩ (Array.mem_of_getElem? (i := 4) rfl) rfl) (hed ⟨3, Go.Ground.phase⟩ (Array.mem_of_getElem? (i := 5) rfl) rfl) (hed ⟨4, Go.Ground.phase⟩ (Array.mem_of_getElem? (i := 6) rfl) rfl) (hed ⟨5, Go.Ground.phase⟩ (Array.mem_of_getElem? (i := 7) rfl) rfl) (hed ⟨6, Go.Ground.phase⟩ (Array.mem_of_getElem? (i := 8) rfl) rfl) (hed ⟨7, Go.Ground.phase⟩ (Array.mem_of_getElem? (i := 9) rfl) rfl) (hed ⟨8, Go.Ground.phase⟩ (Array.mem_of_getElem? (i := 10) rfl) rfl) (hed ⟨9, Go.Ground.phase⟩ (Array.mem_of_getElem? (i := 11) rfl) rfl) (hed ⟨10, Go.Ground.phase⟩ (Array.mem_of_getElem? (i := 12) rfl) rfl) (hed ⟨11, Go.Ground.phase⟩ (Array.mem_of_getElem? (i := 13) rfl) rfl) (hed ⟨12, Go.Ground.phase⟩ (Array.mem_of_getElem? (i := 14) rfl) rfl) (hed ⟨13, Go.Ground.phase⟩ (Array.mem_of_getElem? (i := 15) rfl) rfl) (hed ⟨14, Go.Ground.phase⟩ (Array.mem_of_getElem? (i := 16) rfl) rfl) (hed ⟨15, Go.Ground.phase⟩ (Array.mem_of_getElem? (i := 17) rfl) rfl) (hed ⟨16, Go.Ground.phase⟩ (Array.mem_of_getElem? (i := 18) rfl) rfl) (hed ⟨17, Go.Ground.chain⟩ (Array.mem_of_getElem? (i := 1) rfl) rfl) (hed ⟨18, Go.Ground.phase⟩ (Array.mem_of_getElem? (i := 20) rfl) rfl) (hed ⟨19, Go.Ground.data⟩ (Array.mem_of_getElem? (i := 0) rfl) rfl) "outright.go:94" (fun a' W' h => hK a' W' h)
  · cases ho
    exact wpOp_step (o := { dst := some 14, op := Go.Op.assign (Go.Operand.tmp 61), type := 26, pos := "outright.go:94", after := #[{ on := 20, ground := Go.Ground.data }, { on := 21, ground := Go.Ground.chain }, { on := 0, ground := Go.Ground.phase }, { on := 1, ground := Go.Ground.phase }, { on := 2, ground := Go.Ground.phase }, { on := 3, ground := Go.Ground.phase }, { on := 4, ground := Go.Ground.phase }, { on := 5, ground := Go.Ground.phase }, { on := 6, ground := Go.Ground.phase }, { on := 7, ground := Go.Ground.phase }, { on := 8, ground := Go.Ground.phase }, { on := 9, ground := Go.Ground.phase }, { on := 10, ground := Go.Ground.phase }, { on := 11, ground := Go.Ground.phase }, { on := 12, ground := Go.Ground.phase }, { on := 13, ground := Go.Ground.phase }, { on := 14, ground := Go.Ground.phase }, { on := 15, ground := Go.Ground.phase }, { on := 16, ground := Go.Ground.phase }, { on := 17, ground := Go.Ground.phase }, { on := 18, ground := Go.Ground.phase }, { on := 19, ground := Go.Ground.phase }, { on := 20, ground := Go.Ground.phase }, { on := 21, ground := Go.Ground.phase }], guard := none }) rfl fun K hK => spa_22 E hI hf (hed ⟨0, Go.Ground.phase⟩ (Array.mem_of_getElem? (i := 2) rfl) rfl) (hed ⟨1, Go.Ground.phase⟩ (Array.mem_of_getElem? (i := 3) rfl) rfl) (hed ⟨2, Go.Ground.phase⟩ (Array.mem_of_getElem? (i := 4) rfl) rfl) (hed ⟨3, Go.Ground.phase⟩ (Array.mem_of_getElem? (i := 5) rfl) rfl) (hed ⟨4, Go.Ground.phase⟩ (Array.mem_of_getElem? (i := 6) rfl) rfl) (hed ⟨5, Go.Ground.phase⟩ (Array.mem_of_getElem? (i := 7) rfl) rfl) (hed ⟨6, Go.Ground.phase⟩ (Array.mem_of_getElem? (i := 8) rfl) rfl) (hed ⟨7, Go.Ground.phase⟩ (Array.mem_of_getElem? (i := 9) rfl) rfl) (hed ⟨8, Go.Ground.phase⟩ (Array.mem_of_getElem? (i := 10) rfl) rfl) (hed ⟨9, Go.Ground.phase⟩ (Array.mem_of_getElem? (i := 11) rfl) rfl) (hed ⟨10, Go.Ground.phase⟩ (Array.mem_of_getElem? (i := 12) rfl) rfl) (hed ⟨11, Go.Ground.phase⟩ (Array.mem_of_getElem? (i := 13) rfl) rfl) (hed ⟨12, Go.Ground.phase⟩ (Array.mem_of_getElem? (i := 14) rfl) rfl) (hed ⟨13, Go.Ground.phase⟩ (Array.mem_of_getElem? (i := 15) rfl) rfl) (hed ⟨14, Go.Ground.phase⟩ (Array.mem_of_getElem? (i := 16) rfl) rfl) (hed ⟨15, Go.Ground.phase⟩ (Array.mem_of_getElem? (i := 17) rfl) rfl) (hed ⟨16, Go.Ground.phase⟩ (Array.mem_of_getElem? (i := 18) rfl) rfl) (hed ⟨17, Go.Ground.phase⟩ (Array.mem_of_getElem? (i := 19) rfl) rfl) (hed ⟨18, Go.Ground.phase⟩ (Array.mem_of_getElem? (i := 20) rfl) rfl) (hed ⟨19, Go.Ground.phase⟩ (Array.mem_of_getElem? (i := 21) rfl) rfl) (hed ⟨20, Go.Ground.data⟩ (Array.mem_of_getElem? (i := 0) rfl) rfl) (hed ⟨21, Go.Ground.chain⟩ (Array.mem_of_getElem? (i := 1) rfl) rfl) "outright.go:94" (fun a' W' h => hK a' W' h)

/-- THE REGION -/
theorem spa_region {g len cap k id : Nat} {ad : Addr} {s d : ByteArray} {n : Int} {r1 r2 : Int} {Pre Post : World → Prop} {tm : Array Value} {Q : Exit → Act → World → Prop} {w : World} (hsz : tm.size = 151) (E : spaEnv g len cap k id ad s d n r1 r2 Pre Post tm) (hT : Pre w.drew)
    (hend : ∀ W, Post W → Q .normal ⟨(((((((((((((((((((((((tm.setIfInBounds 42 (.pointer (some ⟨g, 0, none⟩))).setIfInBounds 43 (.slice (some ad) len cap)).setIfInBounds 44 (.int .i64 (k : Int))).setIfInBounds 45 (.pointer (some (ad.add (k * 3))))).setIfInBounds 46 (.pointer (some (ad.add (k * 3))))).setIfInBounds 47 (.int .u64 (id : Int))).setIfInBounds 48 (.slice (some ad) len cap)).setIfInBounds 49 (.int .i64 (k : Int))).setIfInBounds 50 (.pointer (some (ad.add (k * 3))))).setIfInBounds 51 (.pointer (some ⟨(ad.add (k * 3)).block, (ad.add (k * 3)).off + 1, none⟩))).setIfInBounds 52 (.string s)).setIfInBounds 53 (.slice (some ad) len cap)).setIfInBounds 54 (.int .i64 (k : Int))).setIfInBounds 55 (.pointer (some (ad.add (k * 3))))).setIfInBounds 56 (.pointer (some ⟨(ad.add (k * 3)).block, (ad.add (k * 3)).off + 2, none⟩))).setIfInBounds 57 (.int .i64 n)).setIfInBounds 58 (.string d)).setIfInBounds 59 (.tuple #[.int .i64 r1, .int .i64 r2])).setIfInBounds 41 (.tuple #[.int .i64 r1, .int .i64 r2])).setIfInBounds 60 (.int .i64 r1)).setIfInBounds 61 (.int .i64 r2)).setIfInBounds 13 (.int .i64 r1)).setIfInBounds 14 (.int .i64 r2)), []⟩ W) : (Code.region 9 spaOps true).wp Tryd.prog Q ⟨tm, []⟩ w := by
  refine wp_region_inv (by kernel_rfl) (by kernel_rfl) ((spaTb g len cap k id ad s d n r1 r2 Pre Post tm).Inv (fun f W => if f 17 = true then Post W else Pre W)) ⟨hsz, rfl, fun s _ => rfl, fun i d _ hf => (by cases hf), hT⟩ (spa_step E) ?_
  intro f a W hall hI
  have ha := hI.fin hall hsz spa_nodup rfl
  rw [ha]
  exact hend W (by have := hI.held; rwa [if_pos (hall 17 (by decide))] at this)
end Go.Proofs.YteobachhanjmfaaDoor

/- TapefmtSpoilt: region 17: a blob is read. Written by gen_rf.py. -/
namespace Go.Proofs.YteobachhanjmfaaDoor
open Go.RowKit
open Sm
set_option linter.unusedVariables false
set_option linter.unusedSimpArgs false

def spbTb (g len cap len2 cap2 k id p : Nat) (ad ad2 : Addr) (r : ByteArray) (e : Int) (Pre Post : World → Prop) (base : Array Value) : Tf where
  slots := [83, 84, 85, 86, 87, 88, 89, 90, 91, 92, 93, 82, 94, 95, 17, 18]
  size := 151
  base := base
  val := fun
    | 0 => .pointer (some ⟨g, 0, none⟩)
    | 1 => .slice (some ad2) len2 cap2
    | 2 => .int .i64 (k : Int)
    | 3 => .pointer (some (ad2.add k))
    | 4 => .int .i64 (p : Int)
    | 5 => .slice (some ad) len cap
    | 6 => .int .i64 (k : Int)
    | 7 => .pointer (some (ad.add (k * 3)))
    | 8 => .pointer (some (ad.add (k * 3)))
    | 9 => .int .u64 (id : Int)
    | 10 => .tuple #[.string r, .int .i64 e]
    | 11 => .tuple #[.string r, .int .i64 e]
    | 12 => .string r
    | 13 => .int .i64 e
    | 14 => .string r
    | 15 => .int .i64 e
    | _ => undef

structure spbEnv (g len cap len2 cap2 k id p : Nat) (ad ad2 : Addr) (r : ByteArray) (e : Int) (Pre Post : World → Prop) (base : Array Value) : Prop where
  b9 : base[9]?.getD undef = .pointer (some ⟨g, 0, none⟩)
  b10 : base[10]?.getD undef = .slice (some ad2) len2 cap2
  b16 : base[16]?.getD undef = .int .i64 (k : Int)
  b0 : base[0]?.getD undef = .slice (some ad) len cap
  kk : k < len
  kk2 : k < len2
  c : ∀ W, Pre W ∨ Post W → W.cell? (ad.add (k * 3)) = some (.int .u64 (id : Int)) ∧ W.cell? (ad2.add k) = some (.int .i64 (p : Int))
  rd : ∀ W, Pre W → Calls Tryd.prog 18 #[.pointer (some ⟨g, 0, none⟩), .int .i64 (p : Int), .int .u64 (id : Int)] W fun x w' => x = .returned (.tuple #[.string r, .int .i64 e]) ∧ Post w'

theorem spb_nodup : [83, 84, 85, 86, 87, 88, 89, 90, 91, 92, 93, 82, 94, 95, 17, 18].Nodup := by decide
set_option maxRecDepth 100000 in
theorem spb_0 {g len cap len2 cap2 k id p : Nat} {ad ad2 : Addr} {r : ByteArray} {e : Int} {Pre Post : World → Prop} {base : Array Value} {f : Nat → Bool} {a : Act} {W : World} {K : Act → World → Prop} {Q : Exit → Act → World → Prop} {ops : Array Oper} (E : spbEnv g len cap len2 cap2 k id p ad ad2 r e Pre Post base) (hI : (spbTb g len cap len2 cap2 k id p ad ad2 r e Pre Post base).Inv (fun f W => if f 10 = true then Post W else Pre W) f a W) (hf : f 0 = false) (pos : String) (hK : ∀ a' W', (spbTb g len cap len2 cap2 k id p ad ad2 r e Pre Post base).Inv (fun f W => if f 10 = true then Post W else Pre W) (hit f 0) a' W' → K a' W') : if Region.wanted { dst := some 83, op := Go.Op.move (Go.Operand.tmp 9), type := 23, pos := pos, after := #[], guard := none } (yielded ops a.tmps) = true then Oper.wp Tryd.prog { dst := some 83, op := Go.Op.move (Go.Operand.tmp 9), type := 23, pos := pos, after := #[], guard := none } a W K Q else K (a.put (some 83) undef) W := by
  have q : a.tmps[9]?.getD undef = .pointer (some ⟨g, 0, none⟩) := (hI.base 9 rfl).trans E.b9
  have R := Lib.hid (hI.step (i := 0) (d := 83) (v := .pointer (some ⟨g, 0, none⟩)) rfl spb_nodup (show 83 < 151 by decide) rfl (show (if hit f 0 10 = true then Post W else Pre W) by rw [hit_of f 0 10 (by decide)]; exact hI.held))
  clear hI E hf
  go_simp
  exact hK _ _ R.out

set_option maxRecDepth 100000 in
theorem spb_1 {g len cap len2 cap2 k id p : Nat} {ad ad2 : Addr} {r : ByteArray} {e : Int} {Pre Post : World → Prop} {base : Array Value} {f : Nat → Bool} {a : Act} {W : World} {K : Act → World → Prop} {Q : Exit → Act → World → Prop} {ops : Array Oper} (E : spbEnv g len cap len2 cap2 k id p ad ad2 r e Pre Post base) (hI : (spbTb g len cap len2 cap2 k id p ad ad2 r e Pre Post base).Inv (fun f W => if f 10 = true then Post W else Pre W) f a W) (hf : f 1 = false) (pos : String) (hK : ∀ a' W', (spbTb g len cap len2 cap2 k id p ad ad2 r e Pre Post base).Inv (fun f W => if f 10 = true then Post W else Pre W) (hit f 1) a' W' → K a' W') : if Region.wanted { dst := some 84, op := Go.Op.move (Go.Operand.tmp 10), type := 28, pos := pos, after := #[], guard := none } (yielded ops a.tmps) = true then Oper.wp Tryd.prog { dst := some 84, op := Go.Op.move (Go.Operand.tmp 10), type := 28, pos := pos, after := #[], guard := none } a W K Q else K (a.put (some 84) undef) W := by
  have q : a.tmps[10]?.getD undef = .slice (some ad2) len2 cap2 := (hI.base 10 rfl).trans E.b10
  have R := Lib.hid (hI.step (i := 1) (d := 84) (v := .slice (some ad2) len2 cap2) rfl spb_nodup (show 84 < 151 by decide) rfl (show (if hit f 1 10 = true then Post W else Pre W) by rw [hit_of f 1 10 (by decide)]; exact hI.held))
  clear hI E hf
  go_simp
  exact hK _ _ R.out

set_option maxRecDepth 100000 in
theorem spb_2 {g len cap len2 cap2 k id p : Nat} {ad ad2 : Addr} {r : ByteArray} {e : Int} {Pre Post : World → Prop} {base : Array Value} {f : Nat → Bool} {a : Act} {W : World} {K : Act → World → Prop} {Q : Exit → Act → World → Prop} {ops : Array Oper} (E : spbEnv g len cap len2 cap2 k id p ad ad2 r e Pre Post base) (hI : (spbTb g len cap len2 cap2 k id p ad ad2 r e Pre Post base).Inv (fun f W => if f 10 = true then Post W else Pre W) f a W) (hf : f 2 = false) (pos : String) (hK : ∀ a' W', (spbTb g len cap len2 cap2 k id p ad ad2 r e Pre Post base).Inv (fun f W => if f 10 = true then Post W else Pre W) (hit f 2) a' W' → K a' W') : if Region.wanted { dst := some 85, op := Go.Op.move (Go.Operand.tmp 16), type := 3, pos := pos, after := #[], guard := none } (yielded ops a.tmps) = true then Oper.wp Tryd.prog { dst := some 85, op := Go.Op.move (Go.Operand.tmp 16), type := 3, pos := pos, after := #[], guard := none } a W K Q else K (a.put (some 85) undef) W := by
  have q : a.tmps[16]?.getD undef = .int .i64 (k : Int) := (hI.base 16 rfl).trans E.b16
  have R := Lib.hid (hI.step (i := 2) (d := 85) (v := .int .i64 (k : Int)) rfl spb_nodup (show 85 < 151 by decide) rfl (show (if hit f 2 10 = true then Post W else Pre W) by rw [hit_of f 2 10 (by decide)]; exact hI.held))
  clear hI E hf
  go_simp
  exact hK _ _ R.out

set_option maxRecDepth 100000 in
theorem spb_3 {g len cap len2 cap2 k id p : Nat} {ad ad2 : Addr} {r : ByteArray} {e : Int} {Pre Post : World → Prop} {base : Array Value} {f : Nat → Bool} {a : Act} {W : World} {K : Act → World → Prop} {Q : Exit → Act → World → Prop} {ops : Array Oper} (E : spbEnv g len cap len2 cap2 k id p ad ad2 r e Pre Post base) (hI : (spbTb g len cap len2 cap2 k id p ad ad2 r e Pre Post base).Inv (fun f W => if f 10 = true then Post W else Pre W) f a W) (hf : f 3 = false) (h1 : f 1 = true) (h2 : f 2 = true) (pos : String) (hK : ∀ a' W', (spbTb g len cap len2 cap2 k id p ad ad2 r e Pre Post base).Inv (fun f W => if f 10 = true then Post W else Pre W) (hit f 3) a' W' → K a' W') : if Region.wanted { dst := some 86, op := Go.Op.indexAddr 28 (Go.Operand.tmp 84) (Go.Operand.tmp 85), type := 0, pos := pos, after := #[{ on := 1, ground := Go.Ground.data }, { on := 2, ground := Go.Ground.data }], guard := none } (yielded ops a.tmps) = true then Oper.wp Tryd.prog { dst := some 86, op := Go.Op.indexAddr 28 (Go.Operand.tmp 84) (Go.Operand.tmp 85), type := 0, pos := pos, after := #[{ on := 1, ground := Go.Ground.data }, { on := 2, ground := Go.Ground.data }], guard := none } a W K Q else K (a.put (some 86) undef) W := by
  have y0 : a.tmps[84]?.getD undef = .slice (some ad2) len2 cap2 := hI.val 1 84 rfl h1
  have y1 : a.tmps[85]?.getD undef = .int .i64 (k : Int) := hI.val 2 85 rfl h2
  have hk := E.kk2
  have i0 : (0 : Int) ≤ (k : Int) := by omega
  have i1 : (k : Int) < (len2 : Int) := by omega
  have R := Lib.hid (hI.step (i := 3) (d := 86) (v := .pointer (some (ad2.add k))) rfl spb_nodup (show 86 < 151 by decide) rfl (show (if hit f 3 10 = true then Post W else Pre W) by rw [hit_of f 3 10 (by decide)]; exact hI.held))
  clear hI E hf
  go_simp
  exact hK _ _ R.out

set_option maxRecDepth 100000 in
theorem spb_4 {g len cap len2 cap2 k id p : Nat} {ad ad2 : Addr} {r : ByteArray} {e : Int} {Pre Post : World → Prop} {base : Array Value} {f : Nat → Bool} {a : Act} {W : World} {K : Act → World → Prop} {Q : Exit → Act → World → Prop} {ops : Array Oper} (E : spbEnv g len cap len2 cap2 k id p ad ad2 r e Pre Post base) (hI : (spbTb g len cap len2 cap2 k id p ad ad2 r e Pre Post base).Inv (fun f W => if f 10 = true then Post W else Pre W) f a W) (hf : f 4 = false) (h3 : f 3 = true) (pos : String) (hK : ∀ a' W', (spbTb g len cap len2 cap2 k id p ad ad2 r e Pre Post base).Inv (fun f W => if f 10 = true then Post W else Pre W) (hit f 4) a' W' → K a' W') : if Region.wanted { dst := some 87, op := Go.Op.load 3 (Go.Operand.tmp 86), type := 3, pos := pos, after := #[{ on := 3, ground := Go.Ground.data }], guard := none } (yielded ops a.tmps) = true then Oper.wp Tryd.prog { dst := some 87, op := Go.Op.load 3 (Go.Operand.tmp 86), type := 3, pos := pos, after := #[{ on := 3, ground := Go.Ground.data }], guard := none } a W K Q else K (a.put (some 87) undef) W := by
  have q : a.tmps[86]?.getD undef = .pointer (some (ad2.add k)) := hI.val 3 86 rfl h3
  have c : W.cell? (ad2.add k) = some (.int .i64 (p : Int)) := (E.c W (by have h : (if f 10 = true then Post W else Pre W) := hI.held; by_cases h8 : f 10 = true; (rw [if_pos h8] at h; exact .inr h); (rw [if_neg h8] at h; exact .inl h))).2
  have R := Lib.hid (hI.step (i := 4) (d := 87) (v := .int .i64 (p : Int)) rfl spb_nodup (show 87 < 151 by decide) rfl (show (if hit f 4 10 = true then Post W else Pre W) by rw [hit_of f 4 10 (by decide)]; exact hI.held))
  clear hI E hf
  go_simp
  exact hK _ _ R.out

set_option maxRecDepth 100000 in
theorem spb_5 {g len cap len2 cap2 k id p : Nat} {ad ad2 : Addr} {r : ByteArray} {e : Int} {Pre Post : World → Prop} {base : Array Value} {f : Nat → Bool} {a : Act} {W : World} {K : Act → World → Prop} {Q : Exit → Act → World → Prop} {ops : Array Oper} (E : spbEnv g len cap len2 cap2 k id p ad ad2 r e Pre Post base) (hI : (spbTb g len cap len2 cap2 k id p ad ad2 r e Pre Post base).Inv (fun f W => if f 10 = true then Post W else Pre W) f a W) (hf : f 5 = false) (pos : String) (hK : ∀ a' W', (spbTb g len cap len2 cap2 k id p ad ad2 r e Pre Post base).Inv (fun f W => if f 10 = true then Post W else Pre W) (hit f 5) a' W' → K a' W') : if Region.wanted { dst := some 88, op := Go.Op.move (Go.Operand.tmp 0), type := 22, pos := pos, after := #[], guard := none } (yielded ops a.tmps) = true then Oper.wp Tryd.prog { dst := some 88, op := Go.Op.move (Go.Operand.tmp 0), type := 22, pos := pos, after := #[], guard := none } a W K Q else K (a.put (some 88) undef) W := by
  have q : a.tmps[0]?.getD undef = .slice (some ad) len cap := (hI.base 0 rfl).trans E.b0
  have R := Lib.hid (hI.step (i := 5) (d := 88) (v := .slice (some ad) len cap) rfl spb_nodup (show 88 < 151 by decide) rfl (show (if hit f 5 10 = true then Post W else Pre W) by rw [hit_of f 5 10 (by decide)]; exact hI.held))
  clear hI E hf
  go_simp
  exact hK _ _ R.out

set_option maxRecDepth 100000 in
theorem spb_6 {g len cap len2 cap2 k id p : Nat} {ad ad2 : Addr} {r : ByteArray} {e : Int} {Pre Post : World → Prop} {base : Array Value} {f : Nat → Bool} {a : Act} {W : World} {K : Act → World → Prop} {Q : Exit → Act → World → Prop} {ops : Array Oper} (E : spbEnv g len cap len2 cap2 k id p ad ad2 r e Pre Post base) (hI : (spbTb g len cap len2 cap2 k id p ad ad2 r e Pre Post base).Inv (fun f W => if f 10 = true then Post W else Pre W) f a W) (hf : f 6 = false) (pos : String) (hK : ∀ a' W', (spbTb g len cap len2 cap2 k id p ad ad2 r e Pre Post base).Inv (fun f W => if f 10 = true then Post W else Pre W) (hit f 6) a' W' → K a' W') : if Region.wanted { dst := some 89, op := Go.Op.move (Go.Operand.tmp 16), type := 3, pos := pos, after := #[], guard := none } (yielded ops a.tmps) = true then Oper.wp Tryd.prog { dst := some 89, op := Go.Op.move (Go.Operand.tmp 16), type := 3, pos := pos, after := #[], guard := none } a W K Q else K (a.put (some 89) undef) W := by
  have q : a.tmps[16]?.getD undef = .int .i64 (k : Int) := (hI.base 16 rfl).trans E.b16
  have R := Lib.hid (hI.step (i := 6) (d := 89) (v := .int .i64 (k : Int)) rfl spb_nodup (show 89 < 151 by decide) rfl (show (if hit f 6 10 = true then Post W else Pre W) by rw [hit_of f 6 10 (by decide)]; exact hI.held))
  clear hI E hf
  go_simp
  exact hK _ _ R.out

set_option maxRecDepth 100000 in
theorem spb_7 {g len cap len2 cap2 k id p : Nat} {ad ad2 : Addr} {r : ByteArray} {e : Int} {Pre Post : World → Prop} {base : Array Value} {f : Nat → Bool} {a : Act} {W : World} {K : Act → World → Prop} {Q : Exit → Act → World → Prop} {ops : Array Oper} (E : spbEnv g len cap len2 cap2 k id p ad ad2 r e Pre Post base) (hI : (spbTb g len cap len2 cap2 k id p ad ad2 r e Pre Post base).Inv (fun f W => if f 10 = true then Post W else Pre W) f a W) (hf : f 7 = false) (h5 : f 5 = true) (h6 : f 6 = true) (pos : String) (hK : ∀ a' W', (spbTb g len cap len2 cap2 k id p ad ad2 r e Pre Post base).Inv (fun f W => if f 10 = true then Post W else Pre W) (hit f 7) a' W' → K a' W') : if Region.wanted { dst := some 90, op := Go.Op.indexAddr 22 (Go.Operand.tmp 88) (Go.Operand.tmp 89), type := 0, pos := pos, after := #[{ on := 5, ground := Go.Ground.data }, { on := 6, ground := Go.Ground.data }], guard := none } (yielded ops a.tmps) = true then Oper.wp Tryd.prog { dst := some 90, op := Go.Op.indexAddr 22 (Go.Operand.tmp 88) (Go.Operand.tmp 89), type := 0, pos := pos, after := #[{ on := 5, ground := Go.Ground.data }, { on := 6, ground := Go.Ground.data }], guard := none } a W K Q else K (a.put (some 90) undef) W := by
  have y0 : a.tmps[88]?.getD undef = .slice (some ad) len cap := hI.val 5 88 rfl h5
  have y1 : a.tmps[89]?.getD undef = .int .i64 (k : Int) := hI.val 6 89 rfl h6
  have hk := E.kk
  have i0 : (0 : Int) ≤ (k : Int) := by omega
  have i1 : (k : Int) < (len : Int) := by omega
  have R := Lib.hid (hI.step (i := 7) (d := 90) (v := .pointer (some (ad.add (k * 3)))) rfl spb_nodup (show 90 < 151 by decide) rfl (show (if hit f 7 10 = true then Post W else Pre W) by rw [hit_of f 7 10 (by decide)]; exact hI.held))
  clear hI E hf
  go_simp
  exact hK _ _ R.out

set_option maxRecDepth 100000 in
theorem spb_8 {g len cap len2 cap2 k id p : Nat} {ad ad2 : Addr} {r : ByteArray} {e : Int} {Pre Post : World → Prop} {base : Array Value} {f : Nat → Bool} {a : Act} {W : World} {K : Act → World → Prop} {Q : Exit → Act → World → Prop} {ops : Array Oper} (E : spbEnv g len cap len2 cap2 k id p ad ad2 r e Pre Post base) (hI : (spbTb g len cap len2 cap2 k id p ad ad2 r e Pre Post base).Inv (fun f W => if f 10 = true then Post W else Pre W) f a W) (hf : f 8 = false) (h7 : f 7 = true) (pos : String) (hK : ∀ a' W', (spbTb g len cap len2 cap2 k id p ad ad2 r e Pre Post base).Inv (fun f W => if f 10 = true then Post W else Pre W) (hit f 8) a' W' → K a' W') : if Region.wanted { dst := some 91, op := Go.Op.fieldAddr 33 (Go.Operand.tmp 90) 0, type := 0, pos := pos, after := #[{ on := 7, ground := Go.Ground.data }], guard := none } (yielded ops a.tmps) = true then Oper.wp Tryd.prog { dst := some 91, op := Go.Op.fieldAddr 33 (Go.Operand.tmp 90) 0, type := 0, pos := pos, after := #[{ on := 7, ground := Go.Ground.data }], guard := none } a W K Q else K (a.put (some 91) undef) W := by
  have q : a.tmps[90]?.getD undef = .pointer (some (ad.add (k * 3))) := hI.val 7 90 rfl h7
  have R := Lib.hid (hI.step (i := 8) (d := 91) (v := .pointer (some (ad.add (k * 3)))) rfl spb_nodup (show 91 < 151 by decide) rfl (show (if hit f 8 10 = true then Post W else Pre W) by rw [hit_of f 8 10 (by decide)]; exact hI.held))
  clear hI E hf
  go_simp
  exact hK _ _ R.out

set_option maxRecDepth 100000 in
theorem spb_9 {g len cap len2 cap2 k id p : Nat} {ad ad2 : Addr} {r : ByteArray} {e : Int} {Pre Post : World → Prop} {base : Array Value} {f : Nat → Bool} {a : Act} {W : World} {K : Act → World → Prop} {Q : Exit → Act → World → Prop} {ops : Array Oper} (E : spbEnv g len cap len2 cap2 k id p ad ad2 r e Pre Post base) (hI : (spbTb g len cap len2 cap2 k id p ad ad2 r e Pre Post base).Inv (fun f W => if f 10 = true then Post W else Pre W) f a W) (hf : f 9 = false) (h8 : f 8 = true) (pos : String) (hK : ∀ a' W', (spbTb g len cap len2 cap2 k id p ad ad2 r e Pre Post base).Inv (fun f W => if f 10 = true then Post W else Pre W) (hit f 9) a' W' → K a' W') : if Region.wanted { dst := some 92, op := Go.Op.load 31 (Go.Operand.tmp 91), type := 31, pos := pos, after := #[{ on := 8, ground := Go.Ground.data }], guard := none } (yielded ops a.tmps) = true then Oper.wp Tryd.prog { dst := some 92, op := Go.Op.load 31 (Go.Operand.tmp 91), type := 31, pos := pos, after := #[{ on := 8, ground := Go.Ground.data }], guard := none } a W K Q else K (a.put (some 92) undef) W := by
  have q : a.tmps[91]?.getD undef = .pointer (some (ad.add (k * 3))) := hI.val 8 91 rfl h8
  have c : W.cell? (ad.add (k * 3)) = some (.int .u64 (id : Int)) := (E.c W (by have h : (if f 10 = true then Post W else Pre W) := hI.held; by_cases h8 : f 10 = true; (rw [if_pos h8] at h; exact .inr h); (rw [if_neg h8] at h; exact .inl h))).1
  have R := Lib.hid (hI.step (i := 9) (d := 92) (v := .int .u64 (id : Int)) rfl spb_nodup (show 92 < 151 by decide) rfl (show (if hit f 9 10 = true then Post W else Pre W) by rw [hit_of f 9 10 (by decide)]; exact hI.held))
  clear hI E hf
  go_simp
  exact hK _ _ R.out

set_option maxRecDepth 100000 in
theorem spb_10 {g len cap len2 cap2 k id p : Nat} {ad ad2 : Addr} {r : ByteArray} {e : Int} {Pre Post : World → Prop} {base : Array Value} {f : Nat → Bool} {a : Act} {W : World} {K : Act → World → Prop} {Q : Exit → Act → World → Prop} {ops : Array Oper} (E : spbEnv g len cap len2 cap2 k id p ad ad2 r e Pre Post base) (hI : (spbTb g len cap len2 cap2 k id p ad ad2 r e Pre Post base).Inv (fun f W => if f 10 = true then Post W else Pre W) f a W) (hf : f 10 = false) (h0 : f 0 = true) (h4 : f 4 = true) (h9 : f 9 = true) (pos : String) (hK : ∀ a' W', (spbTb g len cap len2 cap2 k id p ad ad2 r e Pre Post base).Inv (fun f W => if f 10 = true then Post W else Pre W) (hit f 10) a' W' → K a' W') : if Region.wanted { dst := some 93, op := Go.Op.call { callee := Go.Callee.value (Go.Operand.func 18), args := #[Go.Operand.tmp 83, Go.Operand.tmp 87, Go.Operand.tmp 92], argTypes := #[23, 3, 31] }, type := 39, pos := pos, after := #[{ on := 0, ground := Go.Ground.data }, { on := 4, ground := Go.Ground.data }, { on := 9, ground := Go.Ground.data }], guard := none } (yielded ops a.tmps) = true then Oper.wp Tryd.prog { dst := some 93, op := Go.Op.call { callee := Go.Callee.value (Go.Operand.func 18), args := #[Go.Operand.tmp 83, Go.Operand.tmp 87, Go.Operand.tmp 92], argTypes := #[23, 3, 31] }, type := 39, pos := pos, after := #[{ on := 0, ground := Go.Ground.data }, { on := 4, ground := Go.Ground.data }, { on := 9, ground := Go.Ground.data }], guard := none } a W K Q else K (a.put (some 93) undef) W := by
  have y0 : a.tmps[83]?.getD undef = .pointer (some ⟨g, 0, none⟩) := hI.val 0 83 rfl h0
  have y1 : a.tmps[87]?.getD undef = .int .i64 (p : Int) := hI.val 4 87 rfl h4
  have y2 : a.tmps[92]?.getD undef = .int .u64 (id : Int) := hI.val 9 92 rfl h9
  have hp : Pre W := by have := hI.held; simp only [hf] at this; simpa using this
  have hC := E.rd W hp
  have HR := Lib.hid (fun W1 (hb : Post W1) => hI.step (i := 10) (d := 93) (v := .tuple #[.string r, .int .i64 e]) rfl spb_nodup (show 93 < 151 by decide) rfl (show (if hit f 10 10 = true then Post W1 else Pre W1) by rw [hit_at, if_pos rfl]; exact hb))
  clear hI E hf hp
  go_simp
  refine hC.mono ?_
  rintro e W1 ⟨rfl, hb⟩
  exact hK _ _ (HR.out W1 hb)

set_option maxRecDepth 100000 in
theorem spb_11 {g len cap len2 cap2 k id p : Nat} {ad ad2 : Addr} {r : ByteArray} {e : Int} {Pre Post : World → Prop} {base : Array Value} {f : Nat → Bool} {a : Act} {W : World} {K : Act → World → Prop} {Q : Exit → Act → World → Prop} {ops : Array Oper} (E : spbEnv g len cap len2 cap2 k id p ad ad2 r e Pre Post base) (hI : (spbTb g len cap len2 cap2 k id p ad ad2 r e Pre Post base).Inv (fun f W => if f 10 = true then Post W else Pre W) f a W) (hf : f 11 = false) (h10 : f 10 = true) (pos : String) (hK : ∀ a' W', (spbTb g len cap len2 cap2 k id p ad ad2 r e Pre Post base).Inv (fun f W => if f 10 = true then Post W else Pre W) (hit f 11) a' W' → K a' W') : if Region.wanted { dst := some 82, op := Go.Op.move (Go.Operand.tmp 93), type := 39, pos := pos, after := #[{ on := 10, ground := Go.Ground.data }], guard := none } (yielded ops a.tmps) = true then Oper.wp Tryd.prog { dst := some 82, op := Go.Op.move (Go.Operand.tmp 93), type := 39, pos := pos, after := #[{ on := 10, ground := Go.Ground.data }], guard := none } a W K Q else K (a.put (some 82) undef) W := by
  have q : a.tmps[93]?.getD undef = .tuple #[.string r, .int .i64 e] := hI.val 10 93 rfl h10
  have R := Lib.hid (hI.step (i := 11) (d := 82) (v := .tuple #[.string r, .int .i64 e]) rfl spb_nodup (show 82 < 151 by decide) rfl (show (if hit f 11 10 = true then Post W else Pre W) by rw [hit_of f 11 10 (by decide)]; exact hI.held))
  clear hI E hf
  go_simp
  exact hK _ _ R.out

set_option maxRecDepth 100000 in
theorem spb_12 {g len cap len2 cap2 k id p : Nat} {ad ad2 : Addr} {r : ByteArray} {e : Int} {Pre Post : World → Prop} {base : Array Value} {f : Nat → Bool} {a : Act} {W : World} {K : Act → World → Prop} {Q : Exit → Act → World → Prop} {ops : Array Oper} (E : spbEnv g len cap len2 cap2 k id p ad ad2 r e Pre Post base) (hI : (spbTb g len cap len2 cap2 k id p ad ad2 r e Pre Post base).Inv (fun f W => if f 10 = true then Post W else Pre W) f a W) (hf : f 12 = false) (h11 : f 11 = true) (pos : String) (hK : ∀ a' W', (spbTb g len cap len2 cap2 k id p ad ad2 r e Pre Post base).Inv (fun f W => if f 10 = true then Post W else Pre W) (hit f 12) a' W' → K a' W') : if Region.wanted { dst := some 94, op := Go.Op.extract (Go.Operand.tmp 82) 0, type := 9, pos := pos, after := #[{ on := 11, ground := Go.Ground.data }], guard := none } (yielded ops a.tmps) = true then Oper.wp Tryd.prog { dst := some 94, op := Go.Op.extract (Go.Operand.tmp 82) 0, type := 9, pos := pos, after := #[{ on := 11, ground := Go.Ground.data }], guard := none } a W K Q else K (a.put (some 94) undef) W := by
  have q : a.tmps[82]?.getD undef = .tuple #[.string r, .int .i64 e] := hI.val 11 82 rfl h11
  have R := Lib.hid (hI.step (i := 12) (d := 94) (v := .string r) rfl spb_nodup (show 94 < 151 by decide) rfl (show (if hit f 12 10 = true then Post W else Pre W) by rw [hit_of f 12 10 (by decide)]; exact hI.held))
  clear hI E hf
  go_simp
  exact hK _ _ R.out

set_option maxRecDepth 100000 in
theorem spb_13 {g len cap len2 cap2 k id p : Nat} {ad ad2 : Addr} {r : ByteArray} {e : Int} {Pre Post : World → Prop} {base : Array Value} {f : Nat → Bool} {a : Act} {W : World} {K : Act → World → Prop} {Q : Exit → Act → World → Prop} {ops : Array Oper} (E : spbEnv g len cap len2 cap2 k id p ad ad2 r e Pre Post base) (hI : (spbTb g len cap len2 cap2 k id p ad ad2 r e Pre Post base).Inv (fun f W => if f 10 = true then Post W else Pre W) f a W) (hf : f 13 = false) (h11 : f 11 = true) (pos : String) (hK : ∀ a' W', (spbTb g len cap len2 cap2 k id p ad ad2 r e Pre Post base).Inv (fun f W => if f 10 = true then Post W else Pre W) (hit f 13) a' W' → K a' W') : if Region.wanted { dst := some 95, op := Go.Op.extract (Go.Operand.tmp 82) 1, type := 26, pos := pos, after := #[{ on := 11, ground := Go.Ground.data }, { on := 14, ground := Go.Ground.gcOnly Go.Departure.lateStores }], guard := none } (yielded ops a.tmps) = true then Oper.wp Tryd.prog { dst := some 95, op := Go.Op.extract (Go.Operand.tmp 82) 1, type := 26, pos := pos, after := #[{ on := 11, ground := Go.Ground.data }, { on := 14, ground := Go.Ground.gcOnly Go.Departure.lateStores }], guard := none } a W K Q else K (a.put (some 95) undef) W := by
  have q : a.tmps[82]?.getD undef = .tuple #[.string r, .int .i64 e] := hI.val 11 82 rfl h11
  have R := Lib.hid (hI.step (i := 13) (d := 95) (v := .int .i64 e) rfl spb_nodup (show 95 < 151 by decide) rfl (show (if hit f 13 10 = true then Post W else Pre W) by rw [hit_of f 13 10 (by decide)]; exact hI.held))
  clear hI E hf
  go_simp
  exact hK _ _ R.out

set_option maxRecDepth 100000 in
theorem spb_14 {g len cap len2 cap2 k id p : Nat} {ad ad2 : Addr} {r : ByteArray} {e : Int} {Pre Post : World → Prop} {base : Array Value} {f : Nat → Bool} {a : Act} {W : World} {K : Act → World → Prop} {Q : Exit → Act → World → Prop} {ops : Array Oper} (E : spbEnv g len cap len2 cap2 k id p ad ad2 r e Pre Post base) (hI : (spbTb g len cap len2 cap2 k id p ad ad2 r e Pre Post base).Inv (fun f W => if f 10 = true then Post W else Pre W) f a W) (hf : f 14 = false) (h0 : f 0 = true) (h1 : f 1 = true) (h2 : f 2 = true) (h3 : f 3 = true) (h4 : f 4 = true) (h5 : f 5 = true) (h6 : f 6 = true) (h7 : f 7 = true) (h8 : f 8 = true) (h9 : f 9 = true) (h10 : f 10 = true) (h11 : f 11 = true) (h12 : f 12 = true) (pos : String) (hK : ∀ a' W', (spbTb g len cap len2 cap2 k id p ad ad2 r e Pre Post base).Inv (fun f W => if f 10 = true then Post W else Pre W) (hit f 14) a' W' → K a' W') : if Region.wanted { dst := some 17, op := Go.Op.assign (Go.Operand.tmp 94), type := 9, pos := pos, after := #[{ on := 12, ground := Go.Ground.data }, { on := 10, ground := Go.Ground.chain }, { on := 0, ground := Go.Ground.phase }, { on := 1, ground := Go.Ground.phase }, { on := 2, ground := Go.Ground.phase }, { on := 3, ground := Go.Ground.phase }, { on := 4, ground := Go.Ground.phase }, { on := 5, ground := Go.Ground.phase }, { on := 6, ground := Go.Ground.phase }, { on := 7, ground := Go.Ground.phase }, { on := 8, ground := Go.Ground.phase }, { on := 9, ground := Go.Ground.phase }, { on := 10, ground := Go.Ground.phase }, { on := 11, ground := Go.Ground.phase }, { on := 12, ground := Go.Ground.phase }, { on := 13, ground := Go.Ground.textOnly Go.Departure.lateStores }], guard := none } (yielded ops a.tmps) = true then Oper.wp Tryd.prog { dst := some 17, op := Go.Op.assign (Go.Operand.tmp 94), type := 9, pos := pos, after := #[{ on := 12, ground := Go.Ground.data }, { on := 10, ground := Go.Ground.chain }, { on := 0, ground := Go.Ground.phase }, { on := 1, ground := Go.Ground.phase }, { on := 2, ground := Go.Ground.phase }, { on := 3, ground := Go.Ground.phase }, { on := 4, ground := Go.Ground.phase }, { on := 5, ground := Go.Ground.phase }, { on := 6, ground := Go.Ground.phase }, { on := 7, ground := Go.Ground.phase }, { on := 8, ground := Go.Ground.phase }, { on := 9, ground := Go.Ground.phase }, { on := 10, ground := Go.Ground.phase }, { on := 11, ground := Go.Ground.phase }, { on := 12, ground := Go.Ground.phase }, { on := 13, ground := Go.Ground.textOnly Go.Departure.lateStores }], guard := none } a W K Q else K (a.put (some 17) undef) W := by
  have q : a.tmps[94]?.getD undef = .string r := hI.val 12 94 rfl h12
  have R := Lib.hid (hI.step (i := 14) (d := 17) (v := .string r) rfl spb_nodup (show 17 < 151 by decide) rfl (show (if hit f 14 10 = true then Post W else Pre W) by rw [hit_of f 14 10 (by decide)]; exact hI.held))
  clear hI E hf
  go_simp
  exact hK _ _ R.out

set_option maxRecDepth 100000 in
theorem spb_15 {g len cap len2 cap2 k id p : Nat} {ad ad2 : Addr} {r : ByteArray} {e : Int} {Pre Post : World → Prop} {base : Array Value} {f : Nat → Bool} {a : Act} {W : World} {K : Act → World → Prop} {Q : Exit → Act → World → Prop} {ops : Array Oper} (E : spbEnv g len cap len2 cap2 k id p ad ad2 r e Pre Post base) (hI : (spbTb g len cap len2 cap2 k id p ad ad2 r e Pre Post base).Inv (fun f W => if f 10 = true then Post W else Pre W) f a W) (hf : f 15 = false) (h0 : f 0 = true) (h1 : f 1 = true) (h2 : f 2 = true) (h3 : f 3 = true) (h4 : f 4 = true) (h5 : f 5 = true) (h6 : f 6 = true) (h7 : f 7 = true) (h8 : f 8 = true) (h9 : f 9 = true) (h10 : f 10 = true) (h11 : f 11 = true) (h12 : f 12 = true) (h13 : f 13 = true) (h14 : f 14 = true) (pos : String) (hK : ∀ a' W', (spbTb g len cap len2 cap2 k id p ad ad2 r e Pre Post base).Inv (fun f W => if f 10 = true then Post W else Pre W) (hit f 15) a' W' → K a' W') : if Region.wanted { dst := some 18, op := Go.Op.assign (Go.Operand.tmp 95), type := 26, pos := pos, after := #[{ on := 13, ground := Go.Ground.data }, { on := 14, ground := Go.Ground.chain }, { on := 0, ground := Go.Ground.phase }, { on := 1, ground := Go.Ground.phase }, { on := 2, ground := Go.Ground.phase }, { on := 3, ground := Go.Ground.phase }, { on := 4, ground := Go.Ground.phase }, { on := 5, ground := Go.Ground.phase }, { on := 6, ground := Go.Ground.phase }, { on := 7, ground := Go.Ground.phase }, { on := 8, ground := Go.Ground.phase }, { on := 9, ground := Go.Ground.phase }, { on := 10, ground := Go.Ground.phase }, { on := 11, ground := Go.Ground.phase }, { on := 12, ground := Go.Ground.phase }, { on := 13, ground := Go.Ground.phase }, { on := 14, ground := Go.Ground.phase }], guard := none } (yielded ops a.tmps) = true then Oper.wp Tryd.prog { dst := some 18, op := Go.Op.assign (Go.Operand.tmp 95), type := 26, pos := pos, after := #[{ on := 13, ground := Go.Ground.data }, { on := 14, ground := Go.Ground.chain }, { on := 0, ground := Go.Ground.phase }, { on := 1, ground := Go.Ground.phase }, { on := 2, ground := Go.Ground.phase }, { on := 3, ground := Go.Ground.phase }, { on := 4, ground := Go.Ground.phase }, { on := 5, ground := Go.Ground.phase }, { on := 6, ground := Go.Ground.phase }, { on := 7, ground := Go.Ground.phase }, { on := 8, ground := Go.Ground.phase }, { on := 9, ground := Go.Ground.phase }, { on := 10, ground := Go.Ground.phase }, { on := 11, ground := Go.Ground.phase }, { on := 12, ground := Go.Ground.phase }, { on := 13, ground := Go.Ground.phase }, { on := 14, ground := Go.Ground.phase }], guard := none } a W K Q else K (a.put (some 18) undef) W := by
  have q : a.tmps[95]?.getD undef = .int .i64 e := hI.val 13 95 rfl h13
  have R := Lib.hid (hI.step (i := 15) (d := 18) (v := .int .i64 e) rfl spb_nodup (show 18 < 151 by decide) rfl (show (if hit f 15 10 = true then Post W else Pre W) by rw [hit_of f 15 10 (by decide)]; exact hI.held))
  clear hI E hf
  go_simp
  exact hK _ _ R.out

abbrev spbOps : Array Oper := #[{ dst := some 83, op := Go.Op.move (Go.Operand.tmp 9), type := 23, pos := "outright.go:102", after := #[], guard := none }, { dst := some 84, op := Go.Op.move (Go.Operand.tmp 10), type := 28, pos := "outright.go:102", after := #[], guard := none }, { dst := some 85, op := Go.Op.move (Go.Operand.tmp 16), type := 3, pos := "outright.go:102", after := #[], guard := none }, { dst := some 86, op := Go.Op.indexAddr 28 (Go.Operand.tmp 84) (Go.Operand.tmp 85), type := 0, pos := "outright.go:102", after := #[{ on := 1, ground := Go.Ground.data }, { on := 2, ground := Go.Ground.data }], guard := none }, { dst := some 87, op := Go.Op.load 3 (Go.Operand.tmp 86), type := 3, pos := "outright.go:102", after := #[{ on := 3, ground := Go.Ground.data }], guard := none }, { dst := some 88, op := Go.Op.move (Go.Operand.tmp 0), type := 22, pos := "outright.go:102", after := #[], guard := none }, { dst := some 89, op := Go.Op.move (Go.Operand.tmp 16), type := 3, pos := "outright.go:102", after := #[], guard := none }, { dst := some 90, op := Go.Op.indexAddr 22 (Go.Operand.tmp 88) (Go.Operand.tmp 89), type := 0, pos := "outright.go:102", after := #[{ on := 5, ground := Go.Ground.data }, { on := 6, ground := Go.Ground.data }], guard := none }, { dst := some 91, op := Go.Op.fieldAddr 33 (Go.Operand.tmp 90) 0, type := 0, pos := "outright.go:102", after := #[{ on := 7, ground := Go.Ground.data }], guard := none }, { dst := some 92, op := Go.Op.load 31 (Go.Operand.tmp 91), type := 31, pos := "outright.go:102", after := #[{ on := 8, ground := Go.Ground.data }], guard := none }, { dst := some 93, op := Go.Op.call { callee := Go.Callee.value (Go.Operand.func 18), args := #[Go.Operand.tmp 83, Go.Operand.tmp 87, Go.Operand.tmp 92], argTypes := #[23, 3, 31] }, type := 39, pos := "outright.go:102", after := #[{ on := 0, ground := Go.Ground.data }, { on := 4, ground := Go.Ground.data }, { on := 9, ground := Go.Ground.data }], guard := none }, { dst := some 82, op := Go.Op.move (Go.Operand.tmp 93), type := 39, pos := "outright.go:102", after := #[{ on := 10, ground := Go.Ground.data }], guard := none }, { dst := some 94, op := Go.Op.extract (Go.Operand.tmp 82) 0, type := 9, pos := "outright.go:102", after := #[{ on := 11, ground := Go.Ground.data }], guard := none }, { dst := some 95, op := Go.Op.extract (Go.Operand.tmp 82) 1, type := 26, pos := "outright.go:102", after := #[{ on := 11, ground := Go.Ground.data }, { on := 14, ground := Go.Ground.gcOnly Go.Departure.lateStores }], guard := none }, { dst := some 17, op := Go.Op.assign (Go.Operand.tmp 94), type := 9, pos := "outright.go:102", after := #[{ on := 12, ground := Go.Ground.data }, { on := 10, ground := Go.Ground.chain }, { on := 0, ground := Go.Ground.phase }, { on := 1, ground := Go.Ground.phase }, { on := 2, ground := Go.Ground.phase }, { on := 3, ground := Go.Ground.phase }, { on := 4, ground := Go.Ground.phase }, { on := 5, ground := Go.Ground.phase }, { on := 6, ground := Go.Ground.phase }, { on := 7, ground := Go.Ground.phase }, { on := 8, ground := Go.Ground.phase }, { on := 9, ground := Go.Ground.phase }, { on := 10, ground := Go.Ground.phase }, { on := 11, ground := Go.Ground.phase }, { on := 12, ground := Go.Ground.phase }, { on := 13, ground := Go.Ground.textOnly Go.Departure.lateStores }], guard := none }, { dst := some 18, op := Go.Op.assign (Go.Operand.tmp 95), type := 26, pos := "outright.go:102", after := #[{ on := 13, ground := Go.Ground.data }, { on := 14, ground := Go.Ground.chain }, { on := 0, ground := Go.Ground.phase }, { on := 1, ground := Go.Ground.phase }, { on := 2, ground := Go.Ground.phase }, { on := 3, ground := Go.Ground.phase }, { on := 4, ground := Go.Ground.phase }, { on := 5, ground := Go.Ground.phase }, { on := 6, ground := Go.Ground.phase }, { on := 7, ground := Go.Ground.phase }, { on := 8, ground := Go.Ground.phase }, { on := 9, ground := Go.Ground.phase }, { on := 10, ground := Go.Ground.phase }, { on := 11, ground := Go.Ground.phase }, { on := 12, ground := Go.Ground.phase }, { on := 13, ground := Go.Ground.phase }, { on := 14, ground := Go.Ground.phase }], guard := none }]
set_option maxRecDepth 100000 in
set_option maxHeartbeats 4000000 in
theorem spb_step {g len cap len2 cap2 k id p : Nat} {ad ad2 : Addr} {r : ByteArray} {e : Int} {Pre Post : World → Prop} {base : Array Value} {Q : Exit → Act → World → Prop} (E : spbEnv g len cap len2 cap2 k id p ad ad2 r e Pre Post base) :
    ∀ f a W i o, spbOps[i]? = some o → f i = false → (∀ e ∈ o.after, Region.binds .any e = true → f e.on = true) → (spbTb g len cap len2 cap2 k id p ad ad2 r e Pre Post base).Inv (fun f W => if f 10 = true then Post W else Pre W) f a W → wpOp Tryd.prog spbOps Q i (fun a' W' => (spbTb g len cap len2 cap2 k id p ad ad2 r e Pre Post base).Inv (fun f W => if f 10 = true then Post W else Pre W) (hit f i) a' W') a W := by
  intro f a W i o ho hf hed hI
  have hi : i < 16 := (Array.getElem?_eq_some_iff.1 ho).1
  have hc : i = 0 ∨ i = 1 ∨ i = 2 ∨ i = 3 ∨ i = 4 ∨ i = 5 ∨ i = 6 ∨ i = 7 ∨ i = 8 ∨ i = 9 ∨ i = 10 ∨ i = 11 ∨ i = 12 ∨ i = 13 ∨ i = 14 ∨ i = 15 := by omega
  rcases hc with rfl | rfl | rfl | rfl | rfl | rfl | rfl | rfl | rfl | rfl | rfl | rfl | rfl | rfl | rfl | rfl
  · cases ho
    exact wpOp_step (o := { dst := some 83, op := Go.Op.move (Go.Operand.tmp 9), type := 23, pos := "outright.go:102", after := #[], guard := none }) rfl fun K hK => spb_0 E hI hf "outright.go:102" (fun a' W' h => hK a' W' h)
  · cases ho
    exact wpOp_step (o := { dst := some 84, op := Go.Op.move (Go.Operand.tmp 10), type := 28, pos := "outright.go:102", after := #[], guard := none }) rfl fun K hK => spb_1 E hI hf "outright.go:102" (fun a' W' h => hK a' W' h)
  · cases ho
    exact wpOp_step (o := { dst := some 85, op := Go.Op.move (Go.Operand.tmp 16), type := 3, pos := "outright.go:102", after := #[], guard := none }) rfl fun K hK => spb_2 E hI hf "outright.go:102" (fun a' W' h => hK a' W' h)
  · cases ho
    exact wpOp_step (o := { dst := some 86, op := Go.Op.indexAddr 28 (Go.Operand.tmp 84) (Go.Operand.tmp 85), type := 0, pos := "outright.go:102", after := #[{ on := 1, ground := Go.Ground.data }, { on := 2, ground := Go.Ground.data }], guard := none }) rfl fun K hK => spb_3 E hI hf (hed ⟨1, Go.Ground.data⟩ (Array.mem_of_getElem? (i := 0) rfl) rfl) (hed ⟨2, Go.Ground.data⟩ (Array.mem_of_getElem? (i := 1) rfl) rfl) "outright.go:102" (fun a' W' h => hK a' W' h)
  · cases ho
    exact wpOp_step (o := { dst := some 87, op := Go.Op.load 3 (Go.Operand.tmp 86), type := 3, pos := "outright.go:102", after := #[{ on := 3, ground := Go.Ground.data }], guard := none }) rfl fun K hK => spb_4 E hI hf (hed ⟨3, Go.Ground.data⟩ (Array.mem_of_getElem? (i := 0) rfl) rfl) "outright.go:102" (fun a' W' h => hK a' W' h)
  · cases ho
    exact wpOp_step (o := { dst := some 88, op := Go.Op.move (Go.Operand.tmp 0), type := 22, pos := "outright.go:102", after := #[], guard := none }) rfl fun K hK => spb_5 E hI hf "outright.go:102" (fun a' W' h => hK a' W' h)
  · cases ho
    exact wpOp_step (o := { dst := some 89, op := Go.Op.move (Go.Operand.tmp 16), type := 3, pos := "outright.go:102", after := #[], guard := none }) rfl fun K hK => spb_6 E hI hf "outright.go:102" (fun a' W' h => hK a' W' h)
  · cases ho
    exact wpOp_step (o := { dst := some 90, op := Go.Op.indexAddr 22 (Go.Operand.tmp 88) (Go.Operand.tmp 89), type := 0, pos := "outright.go:102", after := #[{ on := 5, ground := Go.Ground.data }, { on := 6, ground := Go.Ground.data }], guard := none }) rfl fun K hK => spb_7 E hI hf (hed ⟨5, Go.Ground.data⟩ (Array.mem_of_getElem? (i := 0) rfl) rfl) (hed ⟨6, Go.Ground.data⟩ (Array.mem_of_getElem? (i := 1) rfl) rfl) "outright.go:102" (fun a' W' h => hK a' W' h)
  · cases ho
    exact wpOp_step (o := { dst := some 91, op := Go.Op.fieldAddr 33 (Go.Operand.tmp 90) 0, type := 0, pos := "outright.go:102", after := #[{ on := 7, ground := Go.Ground.data }], guard := none }) rfl fun K hK => spb_8 E hI hf (hed ⟨7, Go.Ground.data⟩ (Array.mem_of_getElem? (i := 0) rfl) rfl) "outright.go:102" (fun a' W' h => hK a' W' h)
  · cases ho
    exact wpOp_step (o := { dst := some 92, op := Go.Op.load 31 (Go.Operand.tmp 91), type := 31, pos := "outright.go:102", after := #[{ on := 8, ground := Go.Ground.data }], guard := none }) rfl fun K hK => spb_9 E hI hf (hed ⟨8, Go.Ground.data⟩ (Array.mem_of_getElem? (i := 0) rfl) rfl) "outright.go:102" (fun a' W' h => hK a' W' h)
  · cases ho
    exact wpOp_step (o := { dst := some 93, op := Go.Op.call { callee := Go.Callee.value (Go.Operand.func 18), args := #[Go.Operand.tmp 83, Go.Operand.tmp 87, Go.Operand.tmp 92], argTypes := #[23, 3, 31] }, type := 39, pos := "outright.go:102", after := #[{ on := 0, ground := Go.Ground.data }, { on := 4, ground := Go.Ground.data }, { on := 9, ground := Go.Ground.data }], guard := none }) rfl fun K hK => spb_10 E hI hf (hed ⟨0, Go.Ground.data⟩ (Array.mem_of_getElem? (i := 0) rfl) rfl) (hed ⟨4, Go.Ground.data⟩ (Array.mem_of_getElem? (i := 1) rfl) rfl) (hed ⟨9, Go.Ground.data⟩ (Array.mem_of_getElem? (i := 2) rfl) rfl) "outright.go:102" (fun a' W' h => hK a' W' h)
  · cases ho
    exact wpOp_step (o := { dst := some 82, op := Go.Op.move (Go.Operand.tmp 93), type := 39, pos := "outright.go:102", after := #[{ on := 10, ground := Go.Ground.data }], guard := none }) rfl fun K hK => spb_11 E hI hf (hed ⟨10, Go.Ground.data⟩ (Array.mem_of_getElem? (i := 0) rfl) rfl) "outright.go:102" (fun a' W' h => hK a' W' h)
  · cases ho
    exact wpOp_step (o := { dst := some 94, op := Go.Op.extract (Go.Operand.tmp 82) 0, type := 9, pos := "outright.go:102", after := #[{ on := 11, ground := Go.Ground.data }], guard := none }) rfl fun K hK => spb_12 E hI hf (hed ⟨11, Go.Ground.data⟩ (Array.mem_of_getElem? (i := 0) rfl) rfl) "outright.go:102" (fun a' W' h => hK a' W' h)
  · cases ho
    exact wpOp_step (o := { dst := some 95, op := Go.Op.extract (Go.Operand.tmp 82) 1, type := 26, pos := "outright.go:102", after := #[{ on := 11, ground := Go.Ground.data }, { on := 14, ground := Go.Ground.gcOnly Go.Departure.lateStores }], guard := none }) rfl fun K hK => spb_13 E hI hf (hed ⟨11, Go.Ground.data⟩ (Array.mem_of_getElem? (i := 0) rfl) rfl) "outright.go:102" (fun a' W' h => hK a' W' h)
  · cases ho
    exact wpOp_step (o := { dst := some 17, op := Go.Op.assign (Go.Operand.tmp 94), type := 9, pos := "outright.go:102", after := #[{ on := 12, ground := Go.Ground.data }, { on := 10, ground := Go.Ground.chain }, { on := 0, ground := Go.Ground.phase }, { on := 1, ground := Go.Ground.phase }, { on := 2, ground := Go.Ground.phase }, { on := 3, ground := Go.Ground.phase }, { on := 4, ground := Go.Ground.phase }, { on := 5, ground := Go.Ground.phase }, { on := 6, ground := Go.Ground.phase }, { on := 7, ground := Go.Ground.phase }, { on := 8, ground := Go.Ground.phase }, { on := 9, ground := Go.Ground.phase }, { on := 10, ground := Go.Ground.phase }, { on := 11, ground := Go.Ground.phase }, { on := 12, ground := Go.Ground.phase }, { on := 13, ground := Go.Ground.textOnly Go.Departure.lateStores }], guard := none }) rfl fun K hK => spb_14 E hI hf (hed ⟨0, Go.Ground.phase⟩ (Array.mem_of_getElem? (i := 2) rfl) rfl) (hed ⟨1, Go.Ground.phase⟩ (Array.mem_of_getElem? (i := 3) rfl) rfl) (hed ⟨2, Go.Ground.phase⟩ (Array.mem_of_getElem? (i := 4) rfl) rfl) (hed ⟨3, Go.Ground.phase⟩ (Array.mem_of_getElem? (i := 5) rfl) rfl) (hed ⟨4, Go.Ground.phase⟩ (Array.mem_of_getElem? (i := 6) rfl) rfl) (hed ⟨5, Go.Ground.phase⟩ (Array.mem_of_getElem? (i := 7) rfl) rfl) (hed ⟨6, Go.Ground.phase⟩ (Array.mem_of_getElem? (i := 8) rfl) rfl) (hed ⟨7, Go.Ground.phase⟩ (Array.mem_of_getElem? (i := 9) rfl) rfl) (hed ⟨8, Go.Ground.phase⟩ (Array.mem_of_getElem? (i := 10) rfl) rfl) (hed ⟨9, Go.Ground.phase⟩ (Array.mem_of_getElem? (i := 11) rfl) rfl) (hed ⟨10, Go.Ground.chain⟩ (Array.mem_of_getElem? (i := 1) rfl) rfl) (hed ⟨11, Go.Ground.phase⟩ (Array.mem_of_getElem? (i := 13) rfl) rfl) (hed ⟨12, Go.Ground.data⟩ (Array.mem_of_getElem? (i := 0) rfl) rfl) "outright.go:102" (fun a' W' h => hK a' W' h)
  · cases ho
    exact wpOp_step (o := { dst := some 18, op := Go.Op.assign (Go.Operand.tmp 95), type := 26, pos := "outright.go:102", after := #[{ on := 13, ground := Go.Ground.data }, { on := 14, ground := Go.Ground.chain }, { on := 0, ground := Go.Ground.phase }, { on := 1, ground := Go.Ground.phase }, { on := 2, ground := Go.Ground.phase }, { on := 3, ground := Go.Ground.phase }, { on := 4, ground := Go.Ground.phase }, { on := 5, ground := Go.Ground.phase }, { on := 6, ground := Go.Ground.phase }, { on := 7, ground := Go.Ground.phase }, { on := 8, ground := Go.Ground.phase }, { on := 9, ground := Go.Ground.phase }, { on := 10, ground := Go.Ground.phase }, { on := 11, ground := Go.Ground.phase }, { on := 12, ground := Go.Ground.phase }, { on := 13, ground := Go.Ground.phase }, { on := 14, ground := Go.Ground.phase }], guard := none }) rfl fun K hK => spb_15 E hI hf (hed ⟨0, Go.Ground.phase⟩ (Array.mem_of_getElem? (i := 2) rfl) rfl) (hed ⟨1, Go.Ground.phase⟩ (Array.mem_of_getElem? (i := 3) rfl) rfl) (hed ⟨2, Go.Ground.phase⟩ (Array.mem_of_getElem? (i := 4) rfl) rfl) (hed ⟨3, Go.Ground.phase⟩ (Array.mem_of_getElem? (i := 5) rfl) rfl) (hed ⟨4, Go.Ground.phase⟩ (Array.mem_of_getElem? (i := 6) rfl) rfl) (hed ⟨5, Go.Ground.phase⟩ (Array.mem_of_getElem? (i := 7) rfl) rfl) (hed ⟨6, Go.Ground.phase⟩ (Array.mem_of_getElem? (i := 8) rfl) rfl) (hed ⟨7, Go.Ground.phase⟩ (Array.mem_of_getElem? (i := 9) rfl) rfl) (hed ⟨8, Go.Ground.phase⟩ (Array.mem_of_getElem? (i := 10) rfl) rfl) (hed ⟨9, Go.Ground.phase⟩ (Array.mem_of_getElem? (i := 11) rfl) rfl) (hed ⟨10, Go.Ground.phase⟩ (Array.mem_of_getElem? (i := 12) rfl) rfl) (hed ⟨11, Go.Ground.phase⟩ (Array.mem_of_getElem? (i := 13) rfl) rfl) (hed ⟨12, Go.Ground.phase⟩ (Array.mem_of_getElem? (i := 14) rfl) rfl) (hed ⟨13, Go.Ground.data⟩ (Array.mem_of_getElem? (i := 0) rfl) rfl) (hed ⟨14, Go.Ground.chain⟩ (Array.mem_of_getElem? (i := 1) rfl) rfl) "outright.go:102" (fun a' W' h => hK a' W' h)

/-- THE REGION -/
theorem spb_region {g len cap len2 cap2 k id p : Nat} {ad ad2 : Addr} {r : ByteArray} {e : Int} {Pre Post : World → Prop} {tm : Array Value} {Q : Exit → Act → World → Prop} {w : World} (hsz : tm.size = 151) (E : spbEnv g len cap len2 cap2 k id p ad ad2 r e Pre Post tm) (hT : Pre w.drew)
    (hend : ∀ W, Post W → Q .normal ⟨((((((((((((((((tm.setIfInBounds 83 (.pointer (some ⟨g, 0, none⟩))).setIfInBounds 84 (.slice (some ad2) len2 cap2)).setIfInBounds 85 (.int .i64 (k : Int))).setIfInBounds 86 (.pointer (some (ad2.add k)))).setIfInBounds 87 (.int .i64 (p : Int))).setIfInBounds 88 (.slice (some ad) len cap)).setIfInBounds 89 (.int .i64 (k : Int))).setIfInBounds 90 (.pointer (some (ad.add (k * 3))))).setIfInBounds 91 (.pointer (some (ad.add (k * 3))))).setIfInBounds 92 (.int .u64 (id : Int))).setIfInBounds 93 (.tuple #[.string r, .int .i64 e])).setIfInBounds 82 (.tuple #[.string r, .int .i64 e])).setIfInBounds 94 (.string r)).setIfInBounds 95 (.int .i64 e)).setIfInBounds 17 (.string r)).setIfInBounds 18 (.int .i64 e)), []⟩ W) : (Code.region 17 spbOps true).wp Tryd.prog Q ⟨tm, []⟩ w := by
  refine wp_region_inv (by kernel_rfl) (by kernel_rfl) ((spbTb g len cap len2 cap2 k id p ad ad2 r e Pre Post tm).Inv (fun f W => if f 10 = true then Post W else Pre W)) ⟨hsz, rfl, fun s _ => rfl, fun i d _ hf => (by cases hf), hT⟩ (spb_step E) ?_
  intro f a W hall hI
  have ha := hI.fin hall hsz spb_nodup rfl
  rw [ha]
  exact hend W (by have := hI.held; rwa [if_pos (hall 10 (by decide))] at this)
end Go.Proofs.YteobachhanjmfaaDoor

/- TapefmtSpoilt: region 18: how many blocks a blob has. Written by gen_rf.py. -/
namespace Go.Proofs.YteobachhanjmfaaDoor
open Go.RowKit
open Sm
set_option linter.unusedVariables false
set_option linter.unusedSimpArgs false

def spcTb (len cap k pn : Nat) (ad : Addr) (s d : ByteArray) (n : Int) (Pre : World → Prop) (base : Array Value) : Tf where
  slots := [96, 97, 98, 99, 100, 101, 102, 103, 104, 105, 106, 107, 108, 19]
  size := 151
  base := base
  val := fun
    | 0 => .slice (some ad) len cap
    | 1 => .int .i64 (k : Int)
    | 2 => .pointer (some (ad.add (k * 3)))
    | 3 => .pointer (some ⟨(ad.add (k * 3)).block, (ad.add (k * 3)).off + 1, none⟩)
    | 4 => .string s
    | 5 => .slice (some ad) len cap
    | 6 => .int .i64 (k : Int)
    | 7 => .pointer (some (ad.add (k * 3)))
    | 8 => .pointer (some ⟨(ad.add (k * 3)).block, (ad.add (k * 3)).off + 2, none⟩)
    | 9 => .int .i64 n
    | 10 => .string d
    | 11 => .int .i64 (d.size : Int)
    | 12 => .int .i64 (pn : Nat)
    | 13 => .int .i64 (pn : Nat)
    | _ => undef

structure spcEnv (len cap k pn : Nat) (ad : Addr) (s d : ByteArray) (n : Int) (Pre : World → Prop) (base : Array Value) : Prop where
  b0 : base[0]?.getD undef = .slice (some ad) len cap
  b16 : base[16]?.getD undef = .int .i64 (k : Int)
  kk : k < len
  c : ∀ W, Pre W ∨ Pre W → W.cell? ⟨(ad.add (k * 3)).block, (ad.add (k * 3)).off + 1, none⟩ = some (.string s) ∧ W.cell? ⟨(ad.add (k * 3)).block, (ad.add (k * 3)).off + 2, none⟩ = some (.int .i64 n)
  lo : ∀ W, Calls Tryd.prog 15 #[.string s, .int .i64 n] W fun e w' => e = .returned (.string d) ∧ W = w'
  pt : ∀ W, Calls Tryd.prog 23 #[.int .i64 (d.size : Int)] W fun e w' => e = .returned (.int .i64 (pn : Nat)) ∧ W = w'

theorem spc_nodup : [96, 97, 98, 99, 100, 101, 102, 103, 104, 105, 106, 107, 108, 19].Nodup := by decide
set_option maxRecDepth 100000 in
theorem spc_0 {len cap k pn : Nat} {ad : Addr} {s d : ByteArray} {n : Int} {Pre : World → Prop} {base : Array Value} {f : Nat → Bool} {a : Act} {W : World} {K : Act → World → Prop} {Q : Exit → Act → World → Prop} {ops : Array Oper} (E : spcEnv len cap k pn ad s d n Pre base) (hI : (spcTb len cap k pn ad s d n Pre base).Inv (fun f W => Pre W) f a W) (hf : f 0 = false) (pos : String) (hK : ∀ a' W', (spcTb len cap k pn ad s d n Pre base).Inv (fun f W => Pre W) (hit f 0) a' W' → K a' W') : if Region.wanted { dst := some 96, op := Go.Op.move (Go.Operand.tmp 0), type := 22, pos := pos, after := #[], guard := none } (yielded ops a.tmps) = true then Oper.wp Tryd.prog { dst := some 96, op := Go.Op.move (Go.Operand.tmp 0), type := 22, pos := pos, after := #[], guard := none } a W K Q else K (a.put (some 96) undef) W := by
  have q : a.tmps[0]?.getD undef = .slice (some ad) len cap := (hI.base 0 rfl).trans E.b0
  have R := Lib.hid (hI.step (i := 0) (d := 96) (v := .slice (some ad) len cap) rfl spc_nodup (show 96 < 151 by decide) rfl hI.held)
  clear hI E hf
  go_simp
  exact hK _ _ R.out

set_option maxRecDepth 100000 in
theorem spc_1 {len cap k pn : Nat} {ad : Addr} {s d : ByteArray} {n : Int} {Pre : World → Prop} {base : Array Value} {f : Nat → Bool} {a : Act} {W : World} {K : Act → World → Prop} {Q : Exit → Act → World → Prop} {ops : Array Oper} (E : spcEnv len cap k pn ad s d n Pre base) (hI : (spcTb len cap k pn ad s d n Pre base).Inv (fun f W => Pre W) f a W) (hf : f 1 = false) (pos : String) (hK : ∀ a' W', (spcTb len cap k pn ad s d n Pre base).Inv (fun f W => Pre W) (hit f 1) a' W' → K a' W') : if Region.wanted { dst := some 97, op := Go.Op.move (Go.Operand.tmp 16), type := 3, pos := pos, after := #[], guard := none } (yielded ops a.tmps) = true then Oper.wp Tryd.prog { dst := some 97, op := Go.Op.move (Go.Operand.tmp 16), type := 3, pos := pos, after := #[], guard := none } a W K Q else K (a.put (some 97) undef) W := by
  have q : a.tmps[16]?.getD undef = .int .i64 (k : Int) := (hI.base 16 rfl).trans E.b16
  have R := Lib.hid (hI.step (i := 1) (d := 97) (v := .int .i64 (k : Int)) rfl spc_nodup (show 97 < 151 by decide) rfl hI.held)
  clear hI E hf
  go_simp
  exact hK _ _ R.out

set_option maxRecDepth 100000 in
theorem spc_2 {len cap k pn : Nat} {ad : Addr} {s d : ByteArray} {n : Int} {Pre : World → Prop} {base : Array Value} {f : Nat → Bool} {a : Act} {W : World} {K : Act → World → Prop} {Q : Exit → Act → World → Prop} {ops : Array Oper} (E : spcEnv len cap k pn ad s d n Pre base) (hI : (spcTb len cap k pn ad s d n Pre base).Inv (fun f W => Pre W) f a W) (hf : f 2 = false) (h0 : f 0 = true) (h1 : f 1 = true) (pos : String) (hK : ∀ a' W', (spcTb len cap k pn ad s d n Pre base).Inv (fun f W => Pre W) (hit f 2) a' W' → K a' W') : if Region.wanted { dst := some 98, op := Go.Op.indexAddr 22 (Go.Operand.tmp 96) (Go.Operand.tmp 97), type := 0, pos := pos, after := #[{ on := 0, ground := Go.Ground.data }, { on := 1, ground := Go.Ground.data }], guard := none } (yielded ops a.tmps) = true then Oper.wp Tryd.prog { dst := some 98, op := Go.Op.indexAddr 22 (Go.Operand.tmp 96) (Go.Operand.tmp 97), type := 0, pos := pos, after := #[{ on := 0, ground := Go.Ground.data }, { on := 1, ground := Go.Ground.data }], guard := none } a W K Q else K (a.put (some 98) undef) W := by
  have y0 : a.tmps[96]?.getD undef = .slice (some ad) len cap := hI.val 0 96 rfl h0
  have y1 : a.tmps[97]?.getD undef = .int .i64 (k : Int) := hI.val 1 97 rfl h1
  have hk := E.kk
  have i0 : (0 : Int) ≤ (k : Int) := by omega
  have i1 : (k : Int) < (len : Int) := by omega
  have R := Lib.hid (hI.step (i := 2) (d := 98) (v := .pointer (some (ad.add (k * 3)))) rfl spc_nodup (show 98 < 151 by decide) rfl hI.held)
  clear hI E hf
  go_simp
  exact hK _ _ R.out

set_option maxRecDepth 100000 in
theorem spc_3 {len cap k pn : Nat} {ad : Addr} {s d : ByteArray} {n : Int} {Pre : World → Prop} {base : Array Value} {f : Nat → Bool} {a : Act} {W : World} {K : Act → World → Prop} {Q : Exit → Act → World → Prop} {ops : Array Oper} (E : spcEnv len cap k pn ad s d n Pre base) (hI : (spcTb len cap k pn ad s d n Pre base).Inv (fun f W => Pre W) f a W) (hf : f 3 = false) (h2 : f 2 = true) (pos : String) (hK : ∀ a' W', (spcTb len cap k pn ad s d n Pre base).Inv (fun f W => Pre W) (hit f 3) a' W' → K a' W') : if Region.wanted { dst := some 99, op := Go.Op.fieldAddr 33 (Go.Operand.tmp 98) 1, type := 0, pos := pos, after := #[{ on := 2, ground := Go.Ground.data }], guard := none } (yielded ops a.tmps) = true then Oper.wp Tryd.prog { dst := some 99, op := Go.Op.fieldAddr 33 (Go.Operand.tmp 98) 1, type := 0, pos := pos, after := #[{ on := 2, ground := Go.Ground.data }], guard := none } a W K Q else K (a.put (some 99) undef) W := by
  have q : a.tmps[98]?.getD undef = .pointer (some (ad.add (k * 3))) := hI.val 2 98 rfl h2
  have R := Lib.hid (hI.step (i := 3) (d := 99) (v := .pointer (some ⟨(ad.add (k * 3)).block, (ad.add (k * 3)).off + 1, none⟩)) rfl spc_nodup (show 99 < 151 by decide) rfl hI.held)
  clear hI E hf
  go_simp
  exact hK _ _ R.out

set_option maxRecDepth 100000 in
theorem spc_4 {len cap k pn : Nat} {ad : Addr} {s d : ByteArray} {n : Int} {Pre : World → Prop} {base : Array Value} {f : Nat → Bool} {a : Act} {W : World} {K : Act → World → Prop} {Q : Exit → Act → World → Prop} {ops : Array Oper} (E : spcEnv len cap k pn ad s d n Pre base) (hI : (spcTb len cap k pn ad s d n Pre base).Inv (fun f W => Pre W) f a W) (hf : f 4 = false) (h3 : f 3 = true) (pos : String) (hK : ∀ a' W', (spcTb len cap k pn ad s d n Pre base).Inv (fun f W => Pre W) (hit f 4) a' W' → K a' W') : if Region.wanted { dst := some 100, op := Go.Op.load 9 (Go.Operand.tmp 99), type := 9, pos := pos, after := #[{ on := 3, ground := Go.Ground.data }], guard := none } (yielded ops a.tmps) = true then Oper.wp Tryd.prog { dst := some 100, op := Go.Op.load 9 (Go.Operand.tmp 99), type := 9, pos := pos, after := #[{ on := 3, ground := Go.Ground.data }], guard := none } a W K Q else K (a.put (some 100) undef) W := by
  have q : a.tmps[99]?.getD undef = .pointer (some ⟨(ad.add (k * 3)).block, (ad.add (k * 3)).off + 1, none⟩) := hI.val 3 99 rfl h3
  have c : W.cell? ⟨(ad.add (k * 3)).block, (ad.add (k * 3)).off + 1, none⟩ = some (.string s) := (E.c W (.inl hI.held)).1
  have R := Lib.hid (hI.step (i := 4) (d := 100) (v := .string s) rfl spc_nodup (show 100 < 151 by decide) rfl hI.held)
  clear hI E hf
  go_simp
  exact hK _ _ R.out

set_option maxRecDepth 100000 in
theorem spc_5 {len cap k pn : Nat} {ad : Addr} {s d : ByteArray} {n : Int} {Pre : World → Prop} {base : Array Value} {f : Nat → Bool} {a : Act} {W : World} {K : Act → World → Prop} {Q : Exit → Act → World → Prop} {ops : Array Oper} (E : spcEnv len cap k pn ad s d n Pre base) (hI : (spcTb len cap k pn ad s d n Pre base).Inv (fun f W => Pre W) f a W) (hf : f 5 = false) (pos : String) (hK : ∀ a' W', (spcTb len cap k pn ad s d n Pre base).Inv (fun f W => Pre W) (hit f 5) a' W' → K a' W') : if Region.wanted { dst := some 101, op := Go.Op.move (Go.Operand.tmp 0), type := 22, pos := pos, after := #[], guard := none } (yielded ops a.tmps) = true then Oper.wp Tryd.prog { dst := some 101, op := Go.Op.move (Go.Operand.tmp 0), type := 22, pos := pos, after := #[], guard := none } a W K Q else K (a.put (some 101) undef) W := by
  have q : a.tmps[0]?.getD undef = .slice (some ad) len cap := (hI.base 0 rfl).trans E.b0
  have R := Lib.hid (hI.step (i := 5) (d := 101) (v := .slice (some ad) len cap) rfl spc_nodup (show 101 < 151 by decide) rfl hI.held)
  clear hI E hf
  go_simp
  exact hK _ _ R.out

set_option maxRecDepth 100000 in
theorem spc_6 {len cap k pn : Nat} {ad : Addr} {s d : ByteArray} {n : Int} {Pre : World → Prop} {base : Array Value} {f : Nat → Bool} {a : Act} {W : World} {K : Act → World → Prop} {Q : Exit → Act → World → Prop} {ops : Array Oper} (E : spcEnv len cap k pn ad s d n Pre base) (hI : (spcTb len cap k pn ad s d n Pre base).Inv (fun f W => Pre W) f a W) (hf : f 6 = false) (pos : String) (hK : ∀ a' W', (spcTb len cap k pn ad s d n Pre base).Inv (fun f W => Pre W) (hit f 6) a' W' → K a' W') : if Region.wanted { dst := some 102, op := Go.Op.move (Go.Operand.tmp 16), type := 3, pos := pos, after := #[], guard := none } (yielded ops a.tmps) = true then Oper.wp Tryd.prog { dst := some 102, op := Go.Op.move (Go.Operand.tmp 16), type := 3, pos := pos, after := #[], guard := none } a W K Q else K (a.put (some 102) undef) W := by
  have q : a.tmps[16]?.getD undef = .int .i64 (k : Int) := (hI.base 16 rfl).trans E.b16
  have R := Lib.hid (hI.step (i := 6) (d := 102) (v := .int .i64 (k : Int)) rfl spc_nodup (show 102 < 151 by decide) rfl hI.held)
  clear hI E hf
  go_simp
  exact hK _ _ R.out

set_option maxRecDepth 100000 in
theorem spc_7 {len cap k pn : Nat} {ad : Addr} {s d : ByteArray} {n : Int} {Pre : World → Prop} {base : Array Value} {f : Nat → Bool} {a : Act} {W : World} {K : Act → World → Prop} {Q : Exit → Act → World → Prop} {ops : Array Oper} (E : spcEnv len cap k pn ad s d n Pre base) (hI : (spcTb len cap k pn ad s d n Pre base).Inv (fun f W => Pre W) f a W) (hf : f 7 = false) (h5 : f 5 = true) (h6 : f 6 = true) (pos : String) (hK : ∀ a' W', (spcTb len cap k pn ad s d n Pre base).Inv (fun f W => Pre W) (hit f 7) a' W' → K a' W') : if Region.wanted { dst := some 103, op := Go.Op.indexAddr 22 (Go.Operand.tmp 101) (Go.Operand.tmp 102), type := 0, pos := pos, after := #[{ on := 5, ground := Go.Ground.data }, { on := 6, ground := Go.Ground.data }], guard := none } (yielded ops a.tmps) = true then Oper.wp Tryd.prog { dst := some 103, op := Go.Op.indexAddr 22 (Go.Operand.tmp 101) (Go.Operand.tmp 102), type := 0, pos := pos, after := #[{ on := 5, ground := Go.Ground.data }, { on := 6, ground := Go.Ground.data }], guard := none } a W K Q else K (a.put (some 103) undef) W := by
  have y0 : a.tmps[101]?.getD undef = .slice (some ad) len cap := hI.val 5 101 rfl h5
  have y1 : a.tmps[102]?.getD undef = .int .i64 (k : Int) := hI.val 6 102 rfl h6
  have hk := E.kk
  have i0 : (0 : Int) ≤ (k : Int) := by omega
  have i1 : (k : Int) < (len : Int) := by omega
  have R := Lib.hid (hI.step (i := 7) (d := 103) (v := .pointer (some (ad.add (k * 3)))) rfl spc_nodup (show 103 < 151 by decide) rfl hI.held)
  clear hI E hf
  go_simp
  exact hK _ _ R.out

set_option maxRecDepth 100000 in
theorem spc_8 {len cap k pn : Nat} {ad : Addr} {s d : ByteArray} {n : Int} {Pre : World → Prop} {base : Array Value} {f : Nat → Bool} {a : Act} {W : World} {K : Act → World → Prop} {Q : Exit → Act → World → Prop} {ops : Array Oper} (E : spcEnv len cap k pn ad s d n Pre base) (hI : (spcTb len cap k pn ad s d n Pre base).Inv (fun f W => Pre W) f a W) (hf : f 8 = false) (h7 : f 7 = true) (pos : String) (hK : ∀ a' W', (spcTb len cap k pn ad s d n Pre base).Inv (fun f W => Pre W) (hit f 8) a' W' → K a' W') : if Region.wanted { dst := some 104, op := Go.Op.fieldAddr 33 (Go.Operand.tmp 103) 2, type := 0, pos := pos, after := #[{ on := 7, ground := Go.Ground.data }], guard := none } (yielded ops a.tmps) = true then Oper.wp Tryd.prog { dst := some 104, op := Go.Op.fieldAddr 33 (Go.Operand.tmp 103) 2, type := 0, pos := pos, after := #[{ on := 7, ground := Go.Ground.data }], guard := none } a W K Q else K (a.put (some 104) undef) W := by
  have q : a.tmps[103]?.getD undef = .pointer (some (ad.add (k * 3))) := hI.val 7 103 rfl h7
  have R := Lib.hid (hI.step (i := 8) (d := 104) (v := .pointer (some ⟨(ad.add (k * 3)).block, (ad.add (k * 3)).off + 2, none⟩)) rfl spc_nodup (show 104 < 151 by decide) rfl hI.held)
  clear hI E hf
  go_simp
  exact hK _ _ R.out

set_option maxRecDepth 100000 in
theorem spc_9 {len cap k pn : Nat} {ad : Addr} {s d : ByteArray} {n : Int} {Pre : World → Prop} {base : Array Value} {f : Nat → Bool} {a : Act} {W : World} {K : Act → World → Prop} {Q : Exit → Act → World → Prop} {ops : Array Oper} (E : spcEnv len cap k pn ad s d n Pre base) (hI : (spcTb len cap k pn ad s d n Pre base).Inv (fun f W => Pre W) f a W) (hf : f 9 = false) (h8 : f 8 = true) (pos : String) (hK : ∀ a' W', (spcTb len cap k pn ad s d n Pre base).Inv (fun f W => Pre W) (hit f 9) a' W' → K a' W') : if Region.wanted { dst := some 105, op := Go.Op.load 3 (Go.Operand.tmp 104), type := 3, pos := pos, after := #[{ on := 8, ground := Go.Ground.data }], guard := none } (yielded ops a.tmps) = true then Oper.wp Tryd.prog { dst := some 105, op := Go.Op.load 3 (Go.Operand.tmp 104), type := 3, pos := pos, after := #[{ on := 8, ground := Go.Ground.data }], guard := none } a W K Q else K (a.put (some 105) undef) W := by
  have q : a.tmps[104]?.getD undef = .pointer (some ⟨(ad.add (k * 3)).block, (ad.add (k * 3)).off + 2, none⟩) := hI.val 8 104 rfl h8
  have c : W.cell? ⟨(ad.add (k * 3)).block, (ad.add (k * 3)).off + 2, none⟩ = some (.int .i64 n) := (E.c W (.inl hI.held)).2
  have R := Lib.hid (hI.step (i := 9) (d := 105) (v := .int .i64 n) rfl spc_nodup (show 105 < 151 by decide) rfl hI.held)
  clear hI E hf
  go_simp
  exact hK _ _ R.out

set_option maxRecDepth 100000 in
theorem spc_10 {len cap k pn : Nat} {ad : Addr} {s d : ByteArray} {n : Int} {Pre : World → Prop} {base : Array Value} {f : Nat → Bool} {a : Act} {W : World} {K : Act → World → Prop} {Q : Exit → Act → World → Prop} {ops : Array Oper} (E : spcEnv len cap k pn ad s d n Pre base) (hI : (spcTb len cap k pn ad s d n Pre base).Inv (fun f W => Pre W) f a W) (hf : f 10 = false) (h4 : f 4 = true) (h9 : f 9 = true) (pos : String) (hK : ∀ a' W', (spcTb len cap k pn ad s d n Pre base).Inv (fun f W => Pre W) (hit f 10) a' W' → K a' W') : if Region.wanted { dst := some 106, op := Go.Op.call { callee := Go.Callee.value (Go.Operand.func 15), args := #[Go.Operand.tmp 100, Go.Operand.tmp 105], argTypes := #[9, 3] }, type := 9, pos := pos, after := #[{ on := 4, ground := Go.Ground.data }, { on := 9, ground := Go.Ground.data }], guard := none } (yielded ops a.tmps) = true then Oper.wp Tryd.prog { dst := some 106, op := Go.Op.call { callee := Go.Callee.value (Go.Operand.func 15), args := #[Go.Operand.tmp 100, Go.Operand.tmp 105], argTypes := #[9, 3] }, type := 9, pos := pos, after := #[{ on := 4, ground := Go.Ground.data }, { on := 9, ground := Go.Ground.data }], guard := none } a W K Q else K (a.put (some 106) undef) W := by
  have y0 : a.tmps[100]?.getD undef = .string s := hI.val 4 100 rfl h4
  have y1 : a.tmps[105]?.getD undef = .int .i64 n := hI.val 9 105 rfl h9
  have hC := E.lo W
  have HR := Lib.hid (hI.step (i := 10) (d := 106) (v := .string d) rfl spc_nodup (show 106 < 151 by decide) rfl hI.held)
  clear hI E hf
  go_simp
  refine hC.mono ?_
  rintro e W1 ⟨rfl, rfl⟩
  exact hK _ _ HR.out

set_option maxRecDepth 100000 in
theorem spc_11 {len cap k pn : Nat} {ad : Addr} {s d : ByteArray} {n : Int} {Pre : World → Prop} {base : Array Value} {f : Nat → Bool} {a : Act} {W : World} {K : Act → World → Prop} {Q : Exit → Act → World → Prop} {ops : Array Oper} (E : spcEnv len cap k pn ad s d n Pre base) (hI : (spcTb len cap k pn ad s d n Pre base).Inv (fun f W => Pre W) f a W) (hf : f 11 = false) (h10 : f 10 = true) (pos : String) (hK : ∀ a' W', (spcTb len cap k pn ad s d n Pre base).Inv (fun f W => Pre W) (hit f 11) a' W' → K a' W') : if Region.wanted { dst := some 107, op := Go.Op.call { callee := Go.Callee.builtin Go.Builtin.len, args := #[Go.Operand.tmp 106], argTypes := #[9] }, type := 3, pos := pos, after := #[{ on := 10, ground := Go.Ground.data }], guard := none } (yielded ops a.tmps) = true then Oper.wp Tryd.prog { dst := some 107, op := Go.Op.call { callee := Go.Callee.builtin Go.Builtin.len, args := #[Go.Operand.tmp 106], argTypes := #[9] }, type := 3, pos := pos, after := #[{ on := 10, ground := Go.Ground.data }], guard := none } a W K Q else K (a.put (some 107) undef) W := by
  have q : a.tmps[106]?.getD undef = .string d := hI.val 10 106 rfl h10
  have R := Lib.hid (hI.step (i := 11) (d := 107) (v := .int .i64 (d.size : Int)) rfl spc_nodup (show 107 < 151 by decide) rfl hI.held)
  clear hI E hf
  go_simp
  exact hK _ _ R.out

set_option maxRecDepth 100000 in
theorem spc_12 {len cap k pn : Nat} {ad : Addr} {s d : ByteArray} {n : Int} {Pre : World → Prop} {base : Array Value} {f : Nat → Bool} {a : Act} {W : World} {K : Act → World → Prop} {Q : Exit → Act → World → Prop} {ops : Array Oper} (E : spcEnv len cap k pn ad s d n Pre base) (hI : (spcTb len cap k pn ad s d n Pre base).Inv (fun f W => Pre W) f a W) (hf : f 12 = false) (h10 : f 10 = true) (h11 : f 11 = true) (pos : String) (hK : ∀ a' W', (spcTb len cap k pn ad s d n Pre base).Inv (fun f W => Pre W) (hit f 12) a' W' → K a' W') : if Region.wanted { dst := some 108, op := Go.Op.call { callee := Go.Callee.value (Go.Operand.func 23), args := #[Go.Operand.tmp 107], argTypes := #[3] }, type := 3, pos := pos, after := #[{ on := 11, ground := Go.Ground.data }, { on := 10, ground := Go.Ground.chain }], guard := none } (yielded ops a.tmps) = true then Oper.wp Tryd.prog { dst := some 108, op := Go.Op.call { callee := Go.Callee.value (Go.Operand.func 23), args := #[Go.Operand.tmp 107], argTypes := #[3] }, type := 3, pos := pos, after := #[{ on := 11, ground := Go.Ground.data }, { on := 10, ground := Go.Ground.chain }], guard := none } a W K Q else K (a.put (some 108) undef) W := by
  have y0 : a.tmps[107]?.getD undef = .int .i64 (d.size : Int) := hI.val 11 107 rfl h11
  have hC := E.pt W
  have HR := Lib.hid (hI.step (i := 12) (d := 108) (v := .int .i64 (pn : Nat)) rfl spc_nodup (show 108 < 151 by decide) rfl hI.held)
  clear hI E hf
  go_simp
  refine hC.mono ?_
  rintro e W1 ⟨rfl, rfl⟩
  exact hK _ _ HR.out

set_option maxRecDepth 100000 in
theorem spc_13 {len cap k pn : Nat} {ad : Addr} {s d : ByteArray} {n : Int} {Pre : World → Prop} {base : Array Value} {f : Nat → Bool} {a : Act} {W : World} {K : Act → World → Prop} {Q : Exit → Act → World → Prop} {ops : Array Oper} (E : spcEnv len cap k pn ad s d n Pre base) (hI : (spcTb len cap k pn ad s d n Pre base).Inv (fun f W => Pre W) f a W) (hf : f 13 = false) (h0 : f 0 = true) (h1 : f 1 = true) (h2 : f 2 = true) (h3 : f 3 = true) (h4 : f 4 = true) (h5 : f 5 = true) (h6 : f 6 = true) (h7 : f 7 = true) (h8 : f 8 = true) (h9 : f 9 = true) (h10 : f 10 = true) (h11 : f 11 = true) (h12 : f 12 = true) (pos : String) (hK : ∀ a' W', (spcTb len cap k pn ad s d n Pre base).Inv (fun f W => Pre W) (hit f 13) a' W' → K a' W') : if Region.wanted { dst := some 19, op := Go.Op.assign (Go.Operand.tmp 108), type := 3, pos := pos, after := #[{ on := 12, ground := Go.Ground.data }, { on := 12, ground := Go.Ground.chain }, { on := 0, ground := Go.Ground.phase }, { on := 1, ground := Go.Ground.phase }, { on := 2, ground := Go.Ground.phase }, { on := 3, ground := Go.Ground.phase }, { on := 4, ground := Go.Ground.phase }, { on := 5, ground := Go.Ground.phase }, { on := 6, ground := Go.Ground.phase }, { on := 7, ground := Go.Ground.phase }, { on := 8, ground := Go.Ground.phase }, { on := 9, ground := Go.Ground.phase }, { on := 10, ground := Go.Ground.phase }, { on := 11, ground := Go.Ground.phase }, { on := 12, ground := Go.Ground.phase }], guard := none } (yielded ops a.tmps) = true then Oper.wp Tryd.prog { dst := some 19, op := Go.Op.assign (Go.Operand.tmp 108), type := 3, pos := pos, after := #[{ on := 12, ground := Go.Ground.data }, { on := 12, ground := Go.Ground.chain }, { on := 0, ground := Go.Ground.phase }, { on := 1, ground := Go.Ground.phase }, { on := 2, ground := Go.Ground.phase }, { on := 3, ground := Go.Ground.phase }, { on := 4, ground := Go.Ground.phase }, { on := 5, ground := Go.Ground.phase }, { on := 6, ground := Go.Ground.phase }, { on := 7, ground := Go.Ground.phase }, { on := 8, ground := Go.Ground.phase }, { on := 9, ground := Go.Ground.phase }, { on := 10, ground := Go.Ground.phase }, { on := 11, ground := Go.Ground.phase }, { on := 12, ground := Go.Ground.phase }], guard := none } a W K Q else K (a.put (some 19) undef) W := by
  have q : a.tmps[108]?.getD undef = .int .i64 (pn : Nat) := hI.val 12 108 rfl h12
  have R := Lib.hid (hI.step (i := 13) (d := 19) (v := .int .i64 (pn : Nat)) rfl spc_nodup (show 19 < 151 by decide) rfl hI.held)
  clear hI E hf
  go_simp
  exact hK _ _ R.out

abbrev spcOps : Array Oper := #[{ dst := some 96, op := Go.Op.move (Go.Operand.tmp 0), type := 22, pos := "outright.go:103", after := #[], guard := none }, { dst := some 97, op := Go.Op.move (Go.Operand.tmp 16), type := 3, pos := "outright.go:103", after := #[], guard := none }, { dst := some 98, op := Go.Op.indexAddr 22 (Go.Operand.tmp 96) (Go.Operand.tmp 97), type := 0, pos := "outright.go:103", after := #[{ on := 0, ground := Go.Ground.data }, { on := 1, ground := Go.Ground.data }], guard := none }, { dst := some 99, op := Go.Op.fieldAddr 33 (Go.Operand.tmp 98) 1, type := 0, pos := "outright.go:103", after := #[{ on := 2, ground := Go.Ground.data }], guard := none }, { dst := some 100, op := Go.Op.load 9 (Go.Operand.tmp 99), type := 9, pos := "outright.go:103", after := #[{ on := 3, ground := Go.Ground.data }], guard := none }, { dst := some 101, op := Go.Op.move (Go.Operand.tmp 0), type := 22, pos := "outright.go:103", after := #[], guard := none }, { dst := some 102, op := Go.Op.move (Go.Operand.tmp 16), type := 3, pos := "outright.go:103", after := #[], guard := none }, { dst := some 103, op := Go.Op.indexAddr 22 (Go.Operand.tmp 101) (Go.Operand.tmp 102), type := 0, pos := "outright.go:103", after := #[{ on := 5, ground := Go.Ground.data }, { on := 6, ground := Go.Ground.data }], guard := none }, { dst := some 104, op := Go.Op.fieldAddr 33 (Go.Operand.tmp 103) 2, type := 0, pos := "outright.go:103", after := #[{ on := 7, ground := Go.Ground.data }], guard := none }, { dst := some 105, op := Go.Op.load 3 (Go.Operand.tmp 104), type := 3, pos := "outright.go:103", after := #[{ on := 8, ground := Go.Ground.data }], guard := none }, { dst := some 106, op := Go.Op.call { callee := Go.Callee.value (Go.Operand.func 15), args := #[Go.Operand.tmp 100, Go.Operand.tmp 105], argTypes := #[9, 3] }, type := 9, pos := "outright.go:103", after := #[{ on := 4, ground := Go.Ground.data }, { on := 9, ground := Go.Ground.data }], guard := none }, { dst := some 107, op := Go.Op.call { callee := Go.Callee.builtin Go.Builtin.len, args := #[Go.Operand.tmp 106], argTypes := #[9] }, type := 3, pos := "outright.go:103", after := #[{ on := 10, ground := Go.Ground.data }], guard := none }, { dst := some 108, op := Go.Op.call { callee := Go.Callee.value (Go.Operand.func 23), args := #[Go.Operand.tmp 107], argTypes := #[3] }, type := 3, pos := "outright.go:103", after := #[{ on := 11, ground := Go.Ground.data }, { on := 10, ground := Go.Ground.chain }], guard := none }, { dst := some 19, op := Go.Op.assign (Go.Operand.tmp 108), type := 3, pos := "outright.go:103", after := #[{ on := 12, ground := Go.Ground.data }, { on := 12, ground := Go.Ground.chain }, { on := 0, ground := Go.Ground.phase }, { on := 1, ground := Go.Ground.phase }, { on := 2, ground := Go.Ground.phase }, { on := 3, ground := Go.Ground.phase }, { on := 4, ground := Go.Ground.phase }, { on := 5, ground := Go.Ground.phase }, { on := 6, ground := Go.Ground.phase }, { on := 7, ground := Go.Ground.phase }, { on := 8, ground := Go.Ground.phase }, { on := 9, ground := Go.Ground.phase }, { on := 10, ground := Go.Ground.phase }, { on := 11, ground := Go.Ground.phase }, { on := 12, ground := Go.Ground.phase }], guard := none }]
set_option maxRecDepth 100000 in
set_option maxHeartbeats 4000000 in
theorem spc_step {len cap k pn : Nat} {ad : Addr} {s d : ByteArray} {n : Int} {Pre : World → Prop} {base : Array Value} {Q : Exit → Act → World → Prop} (E : spcEnv len cap k pn ad s d n Pre base) :
    ∀ f a W i o, spcOps[i]? = some o → f i = false → (∀ e ∈ o.after, Region.binds .any e = true → f e.on = true) → (spcTb len cap k pn ad s d n Pre base).Inv (fun f W => Pre W) f a W → wpOp Tryd.prog spcOps Q i (fun a' W' => (spcTb len cap k pn ad s d n Pre base).Inv (fun f W => Pre W) (hit f i) a' W') a W := by
  intro f a W i o ho hf hed hI
  have hi : i < 14 := (Array.getElem?_eq_some_iff.1 ho).1
  have hc : i = 0 ∨ i = 1 ∨ i = 2 ∨ i = 3 ∨ i = 4 ∨ i = 5 ∨ i = 6 ∨ i = 7 ∨ i = 8 ∨ i = 9 ∨ i = 10 ∨ i = 11 ∨ i = 12 ∨ i = 13 := by omega
  rcases hc with rfl | rfl | rfl | rfl | rfl | rfl | rfl | rfl | rfl | rfl | rfl | rfl | rfl | rfl
  · cases ho
    exact wpOp_step (o := { dst := some 96, op := Go.Op.move (Go.Operand.tmp 0), type := 22, pos := "outright.go:103", after := #[], guard := none }) rfl fun K hK => spc_0 E hI hf "outright.go:103" (fun a' W' h => hK a' W' h)
  · cases ho
    exact wpOp_step (o := { dst := some 97, op := Go.Op.move (Go.Operand.tmp 16), type := 3, pos := "outright.go:103", after := #[], guard := none }) rfl fun K hK => spc_1 E hI hf "outright.go:103" (fun a' W' h => hK a' W' h)
  · cases ho
    exact wpOp_step (o := { dst := some 98, op := Go.Op.indexAddr 22 (Go.Operand.tmp 96) (Go.Operand.tmp 97), type := 0, pos := "outright.go:103", after := #[{ on := 0, ground := Go.Ground.data }, { on := 1, ground := Go.Ground.data }], guard := none }) rfl fun K hK => spc_2 E hI hf (hed ⟨0, Go.Ground.data⟩ (Array.mem_of_getElem? (i := 0) rfl) rfl) (hed ⟨1, Go.Ground.data⟩ (Array.mem_of_getElem? (i := 1) rfl) rfl) "outright.go:103" (fun a' W' h => hK a' W' h)
  · cases ho
    exact wpOp_step (o := { dst := some 99, op := Go.Op.fieldAddr 33 (Go.Operand.tmp 98) 1, type := 0, pos := "outright.go:103", after := #[{ on := 2, ground := Go.Ground.data }], guard := none }) rfl fun K hK => spc_3 E hI hf (hed ⟨2, Go.Ground.data⟩ (Array.mem_of_getElem? (i := 0) rfl) rfl) "outright.go:103" (fun a' W' h => hK a' W' h)
  · cases ho
    exact wpOp_step (o := { dst := some 100, op := Go.Op.load 9 (Go.Operand.tmp 99), type := 9, pos := "outright.go:103", after := #[{ on := 3, ground := Go.Ground.data }], guard := none }) rfl fun K hK => spc_4 E hI hf (hed ⟨3, Go.Ground.data⟩ (Array.mem_of_getElem? (i := 0) rfl) rfl) "outright.go:103" (fun a' W' h => hK a' W' h)
  · cases ho
    exact wpOp_step (o := { dst := some 101, op := Go.Op.move (Go.Operand.tmp 0), type := 22, pos := "outright.go:103", after := #[], guard := none }) rfl fun K hK => spc_5 E hI hf "outright.go:103" (fun a' W' h => hK a' W' h)
  · cases ho
    exact wpOp_step (o := { dst := some 102, op := Go.Op.move (Go.Operand.tmp 16), type := 3, pos := "outright.go:103", after := #[], guard := none }) rfl fun K hK => spc_6 E hI hf "outright.go:103" (fun a' W' h => hK a' W' h)
  · cases ho
    exact wpOp_step (o := { dst := some 103, op := Go.Op.indexAddr 22 (Go.Operand.tmp 101) (Go.Operand.tmp 102), type := 0, pos := "outright.go:103", after := #[{ on := 5, ground := Go.Ground.data }, { on := 6, ground := Go.Ground.data }], guard := none }) rfl fun K hK => spc_7 E hI hf (hed ⟨5, Go.Ground.data⟩ (Array.mem_of_getElem? (i := 0) rfl) rfl) (hed ⟨6, Go.Ground.data⟩ (Array.mem_of_getElem? (i := 1) rfl) rfl) "outright.go:103" (fun a' W' h => hK a' W' h)
  · cases ho
    exact wpOp_step (o := { dst := some 104, op := Go.Op.fieldAddr 33 (Go.Operand.tmp 103) 2, type := 0, pos := "outright.go:103", after := #[{ on := 7, ground := Go.Ground.data }], guard := none }) rfl fun K hK => spc_8 E hI hf (hed ⟨7, Go.Ground.data⟩ (Array.mem_of_getElem? (i := 0) rfl) rfl) "outright.go:103" (fun a' W' h => hK a' W' h)
  · cases ho
    exact wpOp_step (o := { dst := some 105, op := Go.Op.load 3 (Go.Operand.tmp 104), type := 3, pos := "outright.go:103", after := #[{ on := 8, ground := Go.Ground.data }], guard := none }) rfl fun K hK => spc_9 E hI hf (hed ⟨8, Go.Ground.data⟩ (Array.mem_of_getElem? (i := 0) rfl) rfl) "outright.go:103" (fun a' W' h => hK a' W' h)
  · cases ho
    exact wpOp_step (o := { dst := some 106, op := Go.Op.call { callee := Go.Callee.value (Go.Operand.func 15), args := #[Go.Operand.tmp 100, Go.Operand.tmp 105], argTypes := #[9, 3] }, type := 9, pos := "outright.go:103", after := #[{ on := 4, ground := Go.Ground.data }, { on := 9, ground := Go.Ground.data }], guard := none }) rfl fun K hK => spc_10 E hI hf (hed ⟨4, Go.Ground.data⟩ (Array.mem_of_getElem? (i := 0) rfl) rfl) (hed ⟨9, Go.Ground.data⟩ (Array.mem_of_getElem? (i := 1) rfl) rfl) "outright.go:103" (fun a' W' h => hK a' W' h)
  · cases ho
    exact wpOp_step (o := { dst := some 107, op := Go.Op.call { callee := Go.Callee.builtin Go.Builtin.len, args := #[Go.Operand.tmp 106], argTypes := #[9] }, type := 3, pos := "outright.go:103", after := #[{ on := 10, ground := Go.Ground.data }], guard := none }) rfl fun K hK => spc_11 E hI hf (hed ⟨10, Go.Ground.data⟩ (Array.mem_of_getElem? (i := 0) rfl) rfl) "outright.go:103" (fun a' W' h => hK a' W' h)
  · cases ho
    exact wpOp_step (o := { dst := some 108, op := Go.Op.call { callee := Go.Callee.value (Go.Operand.func 23), args := #[Go.Operand.tmp 107], argTypes := #[3] }, type := 3, pos := "outright.go:103", after := #[{ on := 11, ground := Go.Ground.data }, { on := 10, ground := Go.Ground.chain }], guard := none }) rfl fun K hK => spc_12 E hI hf (hed ⟨10, Go.Ground.chain⟩ (Array.mem_of_getElem? (i := 1) rfl) rfl) (hed ⟨11, Go.Ground.data⟩ (Array.mem_of_getElem? (i := 0) rfl) rfl) "outright.go:103" (fun a' W' h => hK a' W' h)
  · cases ho
    exact wpOp_step (o := { dst := some 19, op := Go.Op.assign (Go.Operand.tmp 108), type := 3, pos := "outright.go:103", after := #[{ on := 12, ground := Go.Ground.data }, { on := 12, ground := Go.Ground.chain }, { on := 0, ground := Go.Ground.phase }, { on := 1, ground := Go.Ground.phase }, { on := 2, ground := Go.Ground.phase }, { on := 3, ground := Go.Ground.phase }, { on := 4, ground := Go.Ground.phase }, { on := 5, ground := Go.Ground.phase }, { on := 6, ground := Go.Ground.phase }, { on := 7, ground := Go.Ground.phase }, { on := 8, ground := Go.Ground.phase }, { on := 9, ground := Go.Ground.phase }, { on := 10, ground := Go.Ground.phase }, { on := 11, ground := Go.Ground.phase }, { on := 12, ground := Go.Ground.phase }], guard := none }) rfl fun K hK => spc_13 E hI hf (hed ⟨0, Go.Ground.phase⟩ (Array.mem_of_getElem? (i := 2) rfl) rfl) (hed ⟨1, Go.Ground.phase⟩ (Array.mem_of_getElem? (i := 3) rfl) rfl) (hed ⟨2, Go.Ground.phase⟩ (Array.mem_of_getElem? (i := 4) rfl) rfl) (hed ⟨3, Go.Ground.phase⟩ (Array.mem_of_getElem? (i := 5) rfl) rfl) (hed ⟨4, Go.Ground.phase⟩ (Array.mem_of_getElem? (i := 6) rfl) rfl) (hed ⟨5, Go.Ground.phase⟩ (Array.mem_of_getElem? (i := 7) rfl) rfl) (hed ⟨6, Go.Ground.phase⟩ (Array.mem_of_getElem? (i := 8) rfl) rfl) (hed ⟨7, Go.Ground.phase⟩ (Array.mem_of_getElem? (i := 9) rfl) rfl) (hed ⟨8, Go.Ground.phase⟩ (Array.mem_of_getElem? (i := 10) rfl) rfl) (hed ⟨9, Go.Ground.phase⟩ (Array.mem_of_getElem? (i := 11) rfl) rfl) (hed ⟨10, Go.Ground.phase⟩ (Array.mem_of_getElem? (i := 12) rfl) rfl) (hed ⟨11, Go.Ground.phase⟩ (Array.mem_of_getElem? (i := 13) rfl) rfl) (hed ⟨12, Go.Ground.data⟩ (Array.mem_of_getElem? (i := 0) rfl) rfl) "outright.go:103" (fun a' W' h => hK a' W' h)

/-- THE REGION -/
theorem spc_region {len cap k pn : Nat} {ad : Addr} {s d : ByteArray} {n : Int} {Pre : World → Prop} {tm : Array Value} {Q : Exit → Act → World → Prop} {w : World} (hsz : tm.size = 151) (E : spcEnv len cap k pn ad s d n Pre tm) (hT : Pre w.drew)
    (hend : ∀ W, Pre W → Q .normal ⟨((((((((((((((tm.setIfInBounds 96 (.slice (some ad) len cap)).setIfInBounds 97 (.int .i64 (k : Int))).setIfInBounds 98 (.pointer (some (ad.add (k * 3))))).setIfInBounds 99 (.pointer (some ⟨(ad.add (k * 3)).block, (ad.add (k * 3)).off + 1, none⟩))).setIfInBounds 100 (.string s)).setIfInBounds 101 (.slice (some ad) len cap)).setIfInBounds 102 (.int .i64 (k : Int))).setIfInBounds 103 (.pointer (some (ad.add (k * 3))))).setIfInBounds 104 (.pointer (some ⟨(ad.add (k * 3)).block, (ad.add (k * 3)).off + 2, none⟩))).setIfInBounds 105 (.int .i64 n)).setIfInBounds 106 (.string d)).setIfInBounds 107 (.int .i64 (d.size : Int))).setIfInBounds 108 (.int .i64 (pn : Nat))).setIfInBounds 19 (.int .i64 (pn : Nat))), []⟩ W) : (Code.region 18 spcOps true).wp Tryd.prog Q ⟨tm, []⟩ w := by
  refine wp_region_inv (by kernel_rfl) (by kernel_rfl) ((spcTb len cap k pn ad s d n Pre tm).Inv (fun f W => Pre W)) ⟨hsz, rfl, fun s _ => rfl, fun i d _ hf => (by cases hf), hT⟩ (spc_step E) ?_
  intro f a W hall hI
  have ha := hI.fin hall hsz spc_nodup rfl
  rw [ha]
  exact hend W hI.held
end Go.Proofs.YteobachhanjmfaaDoor

/- TapefmtSpoilt: region 22: what was read is what was written. Written by gen_rf.py. -/
namespace Go.Proofs.YteobachhanjmfaaDoor
open Go.RowKit
open Sm
set_option linter.unusedVariables false
set_option linter.unusedSimpArgs false

def spdTb (len cap k : Nat) (ad : Addr) (s d : ByteArray) (n : Int) (Pre : World → Prop) (base : Array Value) : Tf where
  slots := [134, 135, 136, 137, 138, 139, 140, 141, 142, 143, 144, 145, 146, 147, 148, 149, 150]
  size := 151
  base := base
  val := fun
    | 0 => .int .i64 0
    | 1 => .bool false
    | 2 => .bool false
    | 3 => .string d
    | 4 => .slice (some ad) len cap
    | 5 => .int .i64 (k : Int)
    | 6 => .pointer (some (ad.add (k * 3)))
    | 7 => .pointer (some ⟨(ad.add (k * 3)).block, (ad.add (k * 3)).off + 1, none⟩)
    | 8 => .string s
    | 9 => .slice (some ad) len cap
    | 10 => .int .i64 (k : Int)
    | 11 => .pointer (some (ad.add (k * 3)))
    | 12 => .pointer (some ⟨(ad.add (k * 3)).block, (ad.add (k * 3)).off + 2, none⟩)
    | 13 => .int .i64 n
    | 14 => .string d
    | 15 => .bool false
    | 16 => .bool false
    | _ => undef

structure spdEnv (len cap k : Nat) (ad : Addr) (s d : ByteArray) (n : Int) (Pre : World → Prop) (base : Array Value) : Prop where
  b18 : base[18]?.getD undef = .int .i64 0
  b17 : base[17]?.getD undef = .string d
  b0 : base[0]?.getD undef = .slice (some ad) len cap
  b16 : base[16]?.getD undef = .int .i64 (k : Int)
  kk : k < len
  c : ∀ W, Pre W ∨ Pre W → W.cell? ⟨(ad.add (k * 3)).block, (ad.add (k * 3)).off + 1, none⟩ = some (.string s) ∧ W.cell? ⟨(ad.add (k * 3)).block, (ad.add (k * 3)).off + 2, none⟩ = some (.int .i64 n)
  lo : ∀ W, Calls Tryd.prog 15 #[.string s, .int .i64 n] W fun e w' => e = .returned (.string d) ∧ W = w'

theorem spd_nodup : [134, 135, 136, 137, 138, 139, 140, 141, 142, 143, 144, 145, 146, 147, 148, 149, 150].Nodup := by decide
set_option maxRecDepth 100000 in
theorem spd_0 {len cap k : Nat} {ad : Addr} {s d : ByteArray} {n : Int} {Pre : World → Prop} {base : Array Value} {f : Nat → Bool} {a : Act} {W : World} {K : Act → World → Prop} {Q : Exit → Act → World → Prop} {ops : Array Oper} (E : spdEnv len cap k ad s d n Pre base) (hI : (spdTb len cap k ad s d n Pre base).Inv (fun f W => Pre W) f a W) (hf : f 0 = false) (pos : String) (hK : ∀ a' W', (spdTb len cap k ad s d n Pre base).Inv (fun f W => Pre W) (hit f 0) a' W' → K a' W') : if Region.wanted { dst := some 134, op := Go.Op.move (Go.Operand.tmp 18), type := 26, pos := pos, after := #[], guard := none } (yielded ops a.tmps) = true then Oper.wp Tryd.prog { dst := some 134, op := Go.Op.move (Go.Operand.tmp 18), type := 26, pos := pos, after := #[], guard := none } a W K Q else K (a.put (some 134) undef) W := by
  have q : a.tmps[18]?.getD undef = .int .i64 0 := (hI.base 18 rfl).trans E.b18
  have R := Lib.hid (hI.step (i := 0) (d := 134) (v := .int .i64 0) rfl spd_nodup (show 134 < 151 by decide) rfl hI.held)
  clear hI E hf
  go_simp
  exact hK _ _ R.out

set_option maxRecDepth 100000 in
theorem spd_1 {len cap k : Nat} {ad : Addr} {s d : ByteArray} {n : Int} {Pre : World → Prop} {base : Array Value} {f : Nat → Bool} {a : Act} {W : World} {K : Act → World → Prop} {Q : Exit → Act → World → Prop} {ops : Array Oper} (E : spdEnv len cap k ad s d n Pre base) (hI : (spdTb len cap k ad s d n Pre base).Inv (fun f W => Pre W) f a W) (hf : f 1 = false) (h0 : f 0 = true) (pos : String) (hK : ∀ a' W', (spdTb len cap k ad s d n Pre base).Inv (fun f W => Pre W) (hit f 1) a' W' → K a' W') : if Region.wanted { dst := some 135, op := Go.Op.binOp Go.BinOp.neq 26 (Go.Operand.tmp 134) (Go.Operand.const (Go.Value.int Go.IntKind.i64 0)) 26, type := 4, pos := pos, after := #[{ on := 0, ground := Go.Ground.data }], guard := none } (yielded ops a.tmps) = true then Oper.wp Tryd.prog { dst := some 135, op := Go.Op.binOp Go.BinOp.neq 26 (Go.Operand.tmp 134) (Go.Operand.const (Go.Value.int Go.IntKind.i64 0)) 26, type := 4, pos := pos, after := #[{ on := 0, ground := Go.Ground.data }], guard := none } a W K Q else K (a.put (some 135) undef) W := by
  have y0 : a.tmps[134]?.getD undef = .int .i64 0 := hI.val 0 134 rfl h0
  have R := Lib.hid (hI.step (i := 1) (d := 135) (v := .bool false) rfl spd_nodup (show 135 < 151 by decide) rfl hI.held)
  clear hI E hf
  go_simp
  exact hK _ _ R.out

set_option maxRecDepth 100000 in
theorem spd_2 {len cap k : Nat} {ad : Addr} {s d : ByteArray} {n : Int} {Pre : World → Prop} {base : Array Value} {f : Nat → Bool} {a : Act} {W : World} {K : Act → World → Prop} {Q : Exit → Act → World → Prop} {ops : Array Oper} (E : spdEnv len cap k ad s d n Pre base) (hI : (spdTb len cap k ad s d n Pre base).Inv (fun f W => Pre W) f a W) (hf : f 2 = false) (h1 : f 1 = true) (pos : String) (hK : ∀ a' W', (spdTb len cap k ad s d n Pre base).Inv (fun f W => Pre W) (hit f 2) a' W' → K a' W') : if Region.wanted { dst := some 136, op := Go.Op.move (Go.Operand.tmp 135), type := 4, pos := pos, after := #[{ on := 1, ground := Go.Ground.data }], guard := none } (yielded ops a.tmps) = true then Oper.wp Tryd.prog { dst := some 136, op := Go.Op.move (Go.Operand.tmp 135), type := 4, pos := pos, after := #[{ on := 1, ground := Go.Ground.data }], guard := none } a W K Q else K (a.put (some 136) undef) W := by
  have q : a.tmps[135]?.getD undef = .bool false := hI.val 1 135 rfl h1
  have R := Lib.hid (hI.step (i := 2) (d := 136) (v := .bool false) rfl spd_nodup (show 136 < 151 by decide) rfl hI.held)
  clear hI E hf
  go_simp
  exact hK _ _ R.out

set_option maxRecDepth 100000 in
theorem spd_3 {len cap k : Nat} {ad : Addr} {s d : ByteArray} {n : Int} {Pre : World → Prop} {base : Array Value} {f : Nat → Bool} {a : Act} {W : World} {K : Act → World → Prop} {Q : Exit → Act → World → Prop} {ops : Array Oper} (E : spdEnv len cap k ad s d n Pre base) (hI : (spdTb len cap k ad s d n Pre base).Inv (fun f W => Pre W) f a W) (hf : f 3 = false) (h2 : f 2 = true) (hgd : (ops[2]?).bind (·.dst) = some 136) (pos : String) (hK : ∀ a' W', (spdTb len cap k ad s d n Pre base).Inv (fun f W => Pre W) (hit f 3) a' W' → K a' W') : if Region.wanted { dst := some 137, op := Go.Op.move (Go.Operand.tmp 17), type := 9, pos := pos, after := #[{ on := 2, ground := Go.Ground.guard }], guard := some (2, false) } (yielded ops a.tmps) = true then Oper.wp Tryd.prog { dst := some 137, op := Go.Op.move (Go.Operand.tmp 17), type := 9, pos := pos, after := #[{ on := 2, ground := Go.Ground.guard }], guard := some (2, false) } a W K Q else K (a.put (some 137) undef) W := by
  have hy : yielded ops a.tmps 2 = some false := yielded_of hgd (by rw [hI.size]; show 136 < 151; decide) (hI.val 2 136 rfl h2)
  have hw : Region.wanted { dst := some 137, op := Go.Op.move (Go.Operand.tmp 17), type := 9, pos := pos, after := #[{ on := 2, ground := Go.Ground.guard }], guard := some (2, false) } (yielded ops a.tmps) = true := by
    show (yielded ops a.tmps 2 == some false) = true
    rw [hy]
    rfl
  rw [if_pos hw]
  clear hw hy
  have q : a.tmps[17]?.getD undef = .string d := (hI.base 17 rfl).trans E.b17
  have R := Lib.hid (hI.step (i := 3) (d := 137) (v := .string d) rfl spd_nodup (show 137 < 151 by decide) rfl hI.held)
  clear hI E hf
  go_simp
  exact hK _ _ R.out

set_option maxRecDepth 100000 in
theorem spd_4 {len cap k : Nat} {ad : Addr} {s d : ByteArray} {n : Int} {Pre : World → Prop} {base : Array Value} {f : Nat → Bool} {a : Act} {W : World} {K : Act → World → Prop} {Q : Exit → Act → World → Prop} {ops : Array Oper} (E : spdEnv len cap k ad s d n Pre base) (hI : (spdTb len cap k ad s d n Pre base).Inv (fun f W => Pre W) f a W) (hf : f 4 = false) (h2 : f 2 = true) (hgd : (ops[2]?).bind (·.dst) = some 136) (pos : String) (hK : ∀ a' W', (spdTb len cap k ad s d n Pre base).Inv (fun f W => Pre W) (hit f 4) a' W' → K a' W') : if Region.wanted { dst := some 138, op := Go.Op.move (Go.Operand.tmp 0), type := 22, pos := pos, after := #[{ on := 2, ground := Go.Ground.guard }], guard := some (2, false) } (yielded ops a.tmps) = true then Oper.wp Tryd.prog { dst := some 138, op := Go.Op.move (Go.Operand.tmp 0), type := 22, pos := pos, after := #[{ on := 2, ground := Go.Ground.guard }], guard := some (2, false) } a W K Q else K (a.put (some 138) undef) W := by
  have hy : yielded ops a.tmps 2 = some false := yielded_of hgd (by rw [hI.size]; show 136 < 151; decide) (hI.val 2 136 rfl h2)
  have hw : Region.wanted { dst := some 138, op := Go.Op.move (Go.Operand.tmp 0), type := 22, pos := pos, after := #[{ on := 2, ground := Go.Ground.guard }], guard := some (2, false) } (yielded ops a.tmps) = true := by
    show (yielded ops a.tmps 2 == some false) = true
    rw [hy]
    rfl
  rw [if_pos hw]
  clear hw hy
  have q : a.tmps[0]?.getD undef = .slice (some ad) len cap := (hI.base 0 rfl).trans E.b0
  have R := Lib.hid (hI.step (i := 4) (d := 138) (v := .slice (some ad) len cap) rfl spd_nodup (show 138 < 151 by decide) rfl hI.held)
  clear hI E hf
  go_simp
  exact hK _ _ R.out

set_option maxRecDepth 100000 in
theorem spd_5 {len cap k : Nat} {ad : Addr} {s d : ByteArray} {n : Int} {Pre : World → Prop} {base : Array Value} {f : Nat → Bool} {a : Act} {W : World} {K : Act → World → Prop} {Q : Exit → Act → World → Prop} {ops : Array Oper} (E : spdEnv len cap k ad s d n Pre base) (hI : (spdTb len cap k ad s d n Pre base).Inv (fun f W => Pre W) f a W) (hf : f 5 = false) (h2 : f 2 = true) (hgd : (ops[2]?).bind (·.dst) = some 136) (pos : String) (hK : ∀ a' W', (spdTb len cap k ad s d n Pre base).Inv (fun f W => Pre W) (hit f 5) a' W' → K a' W') : if Region.wanted { dst := some 139, op := Go.Op.move (Go.Operand.tmp 16), type := 3, pos := pos, after := #[{ on := 2, ground := Go.Ground.guard }], guard := some (2, false) } (yielded ops a.tmps) = true then Oper.wp Tryd.prog { dst := some 139, op := Go.Op.move (Go.Operand.tmp 16), type := 3, pos := pos, after := #[{ on := 2, ground := Go.Ground.guard }], guard := some (2, false) } a W K Q else K (a.put (some 139) undef) W := by
  have hy : yielded ops a.tmps 2 = some false := yielded_of hgd (by rw [hI.size]; show 136 < 151; decide) (hI.val 2 136 rfl h2)
  have hw : Region.wanted { dst := some 139, op := Go.Op.move (Go.Operand.tmp 16), type := 3, pos := pos, after := #[{ on := 2, ground := Go.Ground.guard }], guard := some (2, false) } (yielded ops a.tmps) = true := by
    show (yielded ops a.tmps 2 == some false) = true
    rw [hy]
    rfl
  rw [if_pos hw]
  clear hw hy
  have q : a.tmps[16]?.getD undef = .int .i64 (k : Int) := (hI.base 16 rfl).trans E.b16
  have R := Lib.hid (hI.step (i := 5) (d := 139) (v := .int .i64 (k : Int)) rfl spd_nodup (show 139 < 151 by decide) rfl hI.held)
  clear hI E hf
  go_simp
  exact hK _ _ R.out

set_option maxRecDepth 100000 in
theorem spd_6 {len cap k : Nat} {ad : Addr} {s d : ByteArray} {n : Int} {Pre : World → Prop} {base : Array Value} {f : Nat → Bool} {a : Act} {W : World} {K : Act → World → Prop} {Q : Exit → Act → World → Prop} {ops : Array Oper} (E : spdEnv len cap k ad s d n Pre base) (hI : (spdTb len cap k ad s d n Pre base).Inv (fun f W => Pre W) f a W) (hf : f 6 = false) (h2 : f 2 = true) (h4 : f 4 = true) (h5 : f 5 = true) (hgd : (ops[2]?).bind (·.dst) = some 136) (pos : String) (hK : ∀ a' W', (spdTb len cap k ad s d n Pre base).Inv (fun f W => Pre W) (hit f 6) a' W' → K a' W') : if Region.wanted { dst := some 140, op := Go.Op.indexAddr 22 (Go.Operand.tmp 138) (Go.Operand.tmp 139), type := 0, pos := pos, after := #[{ on := 4, ground := Go.Ground.data }, { on := 5, ground := Go.Ground.data }, { on := 2, ground := Go.Ground.guard }], guard := some (2, false) } (yielded ops a.tmps) = true then Oper.wp Tryd.prog { dst := some 140, op := Go.Op.indexAddr 22 (Go.Operand.tmp 138) (Go.Operand.tmp 139), type := 0, pos := pos, after := #[{ on := 4, ground := Go.Ground.data }, { on := 5, ground := Go.Ground.data }, { on := 2, ground := Go.Ground.guard }], guard := some (2, false) } a W K Q else K (a.put (some 140) undef) W := by
  have hy : yielded ops a.tmps 2 = some false := yielded_of hgd (by rw [hI.size]; show 136 < 151; decide) (hI.val 2 136 rfl h2)
  have hw : Region.wanted { dst := some 140, op := Go.Op.indexAddr 22 (Go.Operand.tmp 138) (Go.Operand.tmp 139), type := 0, pos := pos, after := #[{ on := 4, ground := Go.Ground.data }, { on := 5, ground := Go.Ground.data }, { on := 2, ground := Go.Ground.guard }], guard := some (2, false) } (yielded ops a.tmps) = true := by
    show (yielded ops a.tmps 2 == some false) = true
    rw [hy]
    rfl
  rw [if_pos hw]
  clear hw hy
  have y0 : a.tmps[138]?.getD undef = .slice (some ad) len cap := hI.val 4 138 rfl h4
  have y1 : a.tmps[139]?.getD undef = .int .i64 (k : Int) := hI.val 5 139 rfl h5
  have hk := E.kk
  have i0 : (0 : Int) ≤ (k : Int) := by omega
  have i1 : (k : Int) < (len : Int) := by omega
  have R := Lib.hid (hI.step (i := 6) (d := 140) (v := .pointer (some (ad.add (k * 3)))) rfl spd_nodup (show 140 < 151 by decide) rfl hI.held)
  clear hI E hf
  go_simp
  exact hK _ _ R.out

set_option maxRecDepth 100000 in
theorem spd_7 {len cap k : Nat} {ad : Addr} {s d : ByteArray} {n : Int} {Pre : World → Prop} {base : Array Value} {f : Nat → Bool} {a : Act} {W : World} {K : Act → World → Prop} {Q : Exit → Act → World → Prop} {ops : Array Oper} (E : spdEnv len cap k ad s d n Pre base) (hI : (spdTb len cap k ad s d n Pre base).Inv (fun f W => Pre W) f a W) (hf : f 7 = false) (h2 : f 2 = true) (h6 : f 6 = true) (hgd : (ops[2]?).bind (·.dst) = some 136) (pos : String) (hK : ∀ a' W', (spdTb len cap k ad s d n Pre base).Inv (fun f W => Pre W) (hit f 7) a' W' → K a' W') : if Region.wanted { dst := some 141, op := Go.Op.fieldAddr 33 (Go.Operand.tmp 140) 1, type := 0, pos := pos, after := #[{ on := 6, ground := Go.Ground.data }, { on := 2, ground := Go.Ground.guard }], guard := some (2, false) } (yielded ops a.tmps) = true then Oper.wp Tryd.prog { dst := some 141, op := Go.Op.fieldAddr 33 (Go.Operand.tmp 140) 1, type := 0, pos := pos, after := #[{ on := 6, ground := Go.Ground.data }, { on := 2, ground := Go.Ground.guard }], guard := some (2, false) } a W K Q else K (a.put (some 141) undef) W := by
  have hy : yielded ops a.tmps 2 = some false := yielded_of hgd (by rw [hI.size]; show 136 < 151; decide) (hI.val 2 136 rfl h2)
  have hw : Region.wanted { dst := some 141, op := Go.Op.fieldAddr 33 (Go.Operand.tmp 140) 1, type := 0, pos := pos, after := #[{ on := 6, ground := Go.Ground.data }, { on := 2, ground := Go.Ground.guard }], guard := some (2, false) } (yielded ops a.tmps) = true := by
    show (yielded ops a.tmps 2 == some false) = true
    rw [hy]
    rfl
  rw [if_pos hw]
  clear hw hy
  have q : a.tmps[140]?.getD undef = .pointer (some (ad.add (k * 3))) := hI.val 6 140 rfl h6
  have R := Lib.hid (hI.step (i := 7) (d := 141) (v := .pointer (some ⟨(ad.add (k * 3)).block, (ad.add (k * 3)).off + 1, none⟩)) rfl spd_nodup (show 141 < 151 by decide) rfl hI.held)
  clear hI E hf
  go_simp
  exact hK _ _ R.out

set_option maxRecDepth 100000 in
theorem spd_8 {len cap k : Nat} {ad : Addr} {s d : ByteArray} {n : Int} {Pre : World → Prop} {base : Array Value} {f : Nat → Bool} {a : Act} {W : World} {K : Act → World → Prop} {Q : Exit → Act → World → Prop} {ops : Array Oper} (E : spdEnv len cap k ad s d n Pre base) (hI : (spdTb len cap k ad s d n Pre base).Inv (fun f W => Pre W) f a W) (hf : f 8 = false) (h2 : f 2 = true) (h7 : f 7 = true) (hgd : (ops[2]?).bind (·.dst) = some 136) (pos : String) (hK : ∀ a' W', (spdTb len cap k ad s d n Pre base).Inv (fun f W => Pre W) (hit f 8) a' W' → K a' W') : if Region.wanted { dst := some 142, op := Go.Op.load 9 (Go.Operand.tmp 141), type := 9, pos := pos, after := #[{ on := 7, ground := Go.Ground.data }, { on := 2, ground := Go.Ground.guard }], guard := some (2, false) } (yielded ops a.tmps) = true then Oper.wp Tryd.prog { dst := some 142, op := Go.Op.load 9 (Go.Operand.tmp 141), type := 9, pos := pos, after := #[{ on := 7, ground := Go.Ground.data }, { on := 2, ground := Go.Ground.guard }], guard := some (2, false) } a W K Q else K (a.put (some 142) undef) W := by
  have hy : yielded ops a.tmps 2 = some false := yielded_of hgd (by rw [hI.size]; show 136 < 151; decide) (hI.val 2 136 rfl h2)
  have hw : Region.wanted { dst := some 142, op := Go.Op.load 9 (Go.Operand.tmp 141), type := 9, pos := pos, after := #[{ on := 7, ground := Go.Ground.data }, { on := 2, ground := Go.Ground.guard }], guard := some (2, false) } (yielded ops a.tmps) = true := by
    show (yielded ops a.tmps 2 == some false) = true
    rw [hy]
    rfl
  rw [if_pos hw]
  clear hw hy
  have q : a.tmps[141]?.getD undef = .pointer (some ⟨(ad.add (k * 3)).block, (ad.add (k * 3)).off + 1, none⟩) := hI.val 7 141 rfl h7
  have c : W.cell? ⟨(ad.add (k * 3)).block, (ad.add (k * 3)).off + 1, none⟩ = some (.string s) := (E.c W (.inl hI.held)).1
  have R := Lib.hid (hI.step (i := 8) (d := 142) (v := .string s) rfl spd_nodup (show 142 < 151 by decide) rfl hI.held)
  clear hI E hf
  go_simp
  exact hK _ _ R.out

set_option maxRecDepth 100000 in
theorem spd_9 {len cap k : Nat} {ad : Addr} {s d : ByteArray} {n : Int} {Pre : World → Prop} {base : Array Value} {f : Nat → Bool} {a : Act} {W : World} {K : Act → World → Prop} {Q : Exit → Act → World → Prop} {ops : Array Oper} (E : spdEnv len cap k ad s d n Pre base) (hI : (spdTb len cap k ad s d n Pre base).Inv (fun f W => Pre W) f a W) (hf : f 9 = false) (h2 : f 2 = true) (hgd : (ops[2]?).bind (·.dst) = some 136) (pos : String) (hK : ∀ a' W', (spdTb len cap k ad s d n Pre base).Inv (fun f W => Pre W) (hit f 9) a' W' → K a' W') : if Region.wanted { dst := some 143, op := Go.Op.move (Go.Operand.tmp 0), type := 22, pos := pos, after := #[{ on := 2, ground := Go.Ground.guard }], guard := some (2, false) } (yielded ops a.tmps) = true then Oper.wp Tryd.prog { dst := some 143, op := Go.Op.move (Go.Operand.tmp 0), type := 22, pos := pos, after := #[{ on := 2, ground := Go.Ground.guard }], guard := some (2, false) } a W K Q else K (a.put (some 143) undef) W := by
  have hy : yielded ops a.tmps 2 = some false := yielded_of hgd (by rw [hI.size]; show 136 < 151; decide) (hI.val 2 136 rfl h2)
  have hw : Region.wanted { dst := some 143, op := Go.Op.move (Go.Operand.tmp 0), type := 22, pos := pos, after := #[{ on := 2, ground := Go.Ground.guard }], guard := some (2, false) } (yielded ops a.tmps) = true := by
    show (yielded ops a.tmps 2 == some false) = true
    rw [hy]
    rfl
  rw [if_pos hw]
  clear hw hy
  have q : a.tmps[0]?.getD undef = .slice (some ad) len cap := (hI.base 0 rfl).trans E.b0
  have R := Lib.hid (hI.step (i := 9) (d := 143) (v := .slice (some ad) len cap) rfl spd_nodup (show 143 < 151 by decide) rfl hI.held)
  clear hI E hf
  go_simp
  exact hK _ _ R.out

set_option maxRecDepth 100000 in
theorem spd_10 {len cap k : Nat} {ad : Addr} {s d : ByteArray} {n : Int} {Pre : World → Prop} {base : Array Value} {f : Nat → Bool} {a : Act} {W : World} {K : Act → World → Prop} {Q : Exit → Act → World → Prop} {ops : Array Oper} (E : spdEnv len cap k ad s d n Pre base) (hI : (spdTb len cap k ad s d n Pre base).Inv (fun f W => Pre W) f a W) (hf : f 10 = false) (h2 : f 2 = true) (hgd : (ops[2]?).bind (·.dst) = some 136) (pos : String) (hK : ∀ a' W', (spdTb len cap k ad s d n Pre base).Inv (fun f W => Pre W) (hit f 10) a' W' → K a' W') : if Region.wanted { dst := some 144, op := Go.Op.move (Go.Operand.tmp 16), type := 3, pos := pos, after := #[{ on := 2, ground := Go.Ground.guard }], guard := some (2, false) } (yielded ops a.tmps) = true then Oper.wp Tryd.prog { dst := some 144, op := Go.Op.move (Go.Operand.tmp 16), type := 3, pos := pos, after := #[{ on := 2, ground := Go.Ground.guard }], guard := some (2, false) } a W K Q else K (a.put (some 144) undef) W := by
  have hy : yielded ops a.tmps 2 = some false := yielded_of hgd (by rw [hI.size]; show 136 < 151; decide) (hI.val 2 136 rfl h2)
  have hw : Region.wanted { dst := some 144, op := Go.Op.move (Go.Operand.tmp 16), type := 3, pos := pos, after := #[{ on := 2, ground := Go.Ground.guard }], guard := some (2, false) } (yielded ops a.tmps) = true := by
    show (yielded ops a.tmps 2 == some false) = true
    rw [hy]
    rfl
  rw [if_pos hw]
  clear hw hy
  have q : a.tmps[16]?.getD undef = .int .i64 (k : Int) := (hI.base 16 rfl).trans E.b16
  have R := Lib.hid (hI.step (i := 10) (d := 144) (v := .int .i64 (k : Int)) rfl spd_nodup (show 144 < 151 by decide) rfl hI.held)
  clear hI E hf
  go_simp
  exact hK _ _ R.out

set_option maxRecDepth 100000 in
theorem spd_11 {len cap k : Nat} {ad : Addr} {s d : ByteArray} {n : Int} {Pre : World → Prop} {base : Array Value} {f : Nat → Bool} {a : Act} {W : World} {K : Act → World → Prop} {Q : Exit → Act → World → Prop} {ops : Array Oper} (E : spdEnv len cap k ad s d n Pre base) (hI : (spdTb len cap k ad s d n Pre base).Inv (fun f W => Pre W) f a W) (hf : f 11 = false) (h2 : f 2 = true) (h9 : f 9 = true) (h10 : f 10 = true) (hgd : (ops[2]?).bind (·.dst) = some 136) (pos : String) (hK : ∀ a' W', (spdTb len cap k ad s d n Pre base).Inv (fun f W => Pre W) (hit f 11) a' W' → K a' W') : if Region.wanted { dst := some 145, op := Go.Op.indexAddr 22 (Go.Operand.tmp 143) (Go.Operand.tmp 144), type := 0, pos := pos, after := #[{ on := 9, ground := Go.Ground.data }, { on := 10, ground := Go.Ground.data }, { on := 2, ground := Go.Ground.guard }], guard := some (2, false) } (yielded ops a.tmps) = true then Oper.wp Tryd.prog { dst := some 145, op := Go.Op.indexAddr 22 (Go.Operand.tmp 143) (Go.Operand.tmp 144), type := 0, pos := pos, after := #[{ on := 9, ground := Go.Ground.data }, { on := 10, ground := Go.Ground.data }, { on := 2, ground := Go.Ground.guard }], guard := some (2, false) } a W K Q else K (a.put (some 145) undef) W := by
  have hy : yielded ops a.tmps 2 = some false := yielded_of hgd (by rw [hI.size]; show 136 < 151; decide) (hI.val 2 136 rfl h2)
  have hw : Region.wanted { dst := some 145, op := Go.Op.indexAddr 22 (Go.Operand.tmp 143) (Go.Operand.tmp 144), type := 0, pos := pos, after := #[{ on := 9, ground := Go.Ground.data }, { on := 10, ground := Go.Ground.data }, { on := 2, ground := Go.Ground.guard }], guard := some (2, false) } (yielded ops a.tmps) = true := by
    show (yielded ops a.tmps 2 == some false) = true
    rw [hy]
    rfl
  rw [if_pos hw]
  clear hw hy
  have y0 : a.tmps[143]?.getD undef = .slice (some ad) len cap := hI.val 9 143 rfl h9
  have y1 : a.tmps[144]?.getD undef = .int .i64 (k : Int) := hI.val 10 144 rfl h10
  have hk := E.kk
  have i0 : (0 : Int) ≤ (k : Int) := by omega
  have i1 : (k : Int) < (len : Int) := by omega
  have R := Lib.hid (hI.step (i := 11) (d := 145) (v := .pointer (some (ad.add (k * 3)))) rfl spd_nodup (show 145 < 151 by decide) rfl hI.held)
  clear hI E hf
  go_simp
  exact hK _ _ R.out

set_option maxRecDepth 100000 in
theorem spd_12 {len cap k : Nat} {ad : Addr} {s d : ByteArray} {n : Int} {Pre : World → Prop} {base : Array Value} {f : Nat → Bool} {a : Act} {W : World} {K : Act → World → Prop} {Q : Exit → Act → World → Prop} {ops : Array Oper} (E : spdEnv len cap k ad s d n Pre base) (hI : (spdTb len cap k ad s d n Pre base).Inv (fun f W => Pre W) f a W) (hf : f 12 = false) (h2 : f 2 = true) (h11 : f 11 = true) (hgd : (ops[2]?).bind (·.dst) = some 136) (pos : String) (hK : ∀ a' W', (spdTb len cap k ad s d n Pre base).Inv (fun f W => Pre W) (hit f 12) a' W' → K a' W') : if Region.wanted { dst := some 146, op := Go.Op.fieldAddr 33 (Go.Operand.tmp 145) 2, type := 0, pos := pos, after := #[{ on := 11, ground := Go.Ground.data }, { on := 2, ground := Go.Ground.guard }], guard := some (2, false) } (yielded ops a.tmps) = true then Oper.wp Tryd.prog { dst := some 146, op := Go.Op.fieldAddr 33 (Go.Operand.tmp 145) 2, type := 0, pos := pos, after := #[{ on := 11, ground := Go.Ground.data }, { on := 2, ground := Go.Ground.guard }], guard := some (2, false) } a W K Q else K (a.put (some 146) undef) W := by
  have hy : yielded ops a.tmps 2 = some false := yielded_of hgd (by rw [hI.size]; show 136 < 151; decide) (hI.val 2 136 rfl h2)
  have hw : Region.wanted { dst := some 146, op := Go.Op.fieldAddr 33 (Go.Operand.tmp 145) 2, type := 0, pos := pos, after := #[{ on := 11, ground := Go.Ground.data }, { on := 2, ground := Go.Ground.guard }], guard := some (2, false) } (yielded ops a.tmps) = true := by
    show (yielded ops a.tmps 2 == some false) = true
    rw [hy]
    rfl
  rw [if_pos hw]
  clear hw hy
  have q : a.tmps[145]?.getD undef = .pointer (some (ad.add (k * 3))) := hI.val 11 145 rfl h11
  have R := Lib.hid (hI.step (i := 12) (d := 146) (v := .pointer (some ⟨(ad.add (k * 3)).block, (ad.add (k * 3)).off + 2, none⟩)) rfl spd_nodup (show 146 < 151 by decide) rfl hI.held)
  clear hI E hf
  go_simp
  exact hK _ _ R.out

set_option maxRecDepth 100000 in
theorem spd_13 {len cap k : Nat} {ad : Addr} {s d : ByteArray} {n : Int} {Pre : World → Prop} {base : Array Value} {f : Nat → Bool} {a : Act} {W : World} {K : Act → World → Prop} {Q : Exit → Act → World → Prop} {ops : Array Oper} (E : spdEnv len cap k ad s d n Pre base) (hI : (spdTb len cap k ad s d n Pre base).Inv (fun f W => Pre W) f a W) (hf : f 13 = false) (h2 : f 2 = true) (h12 : f 12 = true) (hgd : (ops[2]?).bind (·.dst) = some 136) (pos : String) (hK : ∀ a' W', (spdTb len cap k ad s d n Pre base).Inv (fun f W => Pre W) (hit f 13) a' W' → K a' W') : if Region.wanted { dst := some 147, op := Go.Op.load 3 (Go.Operand.tmp 146), type := 3, pos := pos, after := #[{ on := 12, ground := Go.Ground.data }, { on := 2, ground := Go.Ground.guard }], guard := some (2, false) } (yielded ops a.tmps) = true then Oper.wp Tryd.prog { dst := some 147, op := Go.Op.load 3 (Go.Operand.tmp 146), type := 3, pos := pos, after := #[{ on := 12, ground := Go.Ground.data }, { on := 2, ground := Go.Ground.guard }], guard := some (2, false) } a W K Q else K (a.put (some 147) undef) W := by
  have hy : yielded ops a.tmps 2 = some false := yielded_of hgd (by rw [hI.size]; show 136 < 151; decide) (hI.val 2 136 rfl h2)
  have hw : Region.wanted { dst := some 147, op := Go.Op.load 3 (Go.Operand.tmp 146), type := 3, pos := pos, after := #[{ on := 12, ground := Go.Ground.data }, { on := 2, ground := Go.Ground.guard }], guard := some (2, false) } (yielded ops a.tmps) = true := by
    show (yielded ops a.tmps 2 == some false) = true
    rw [hy]
    rfl
  rw [if_pos hw]
  clear hw hy
  have q : a.tmps[146]?.getD undef = .pointer (some ⟨(ad.add (k * 3)).block, (ad.add (k * 3)).off + 2, none⟩) := hI.val 12 146 rfl h12
  have c : W.cell? ⟨(ad.add (k * 3)).block, (ad.add (k * 3)).off + 2, none⟩ = some (.int .i64 n) := (E.c W (.inl hI.held)).2
  have R := Lib.hid (hI.step (i := 13) (d := 147) (v := .int .i64 n) rfl spd_nodup (show 147 < 151 by decide) rfl hI.held)
  clear hI E hf
  go_simp
  exact hK _ _ R.out

set_option maxRecDepth 100000 in
theorem spd_14 {len cap k : Nat} {ad : Addr} {s d : ByteArray} {n : Int} {Pre : World → Prop} {base : Array Value} {f : Nat → Bool} {a : Act} {W : World} {K : Act → World → Prop} {Q : Exit → Act → World → Prop} {ops : Array Oper} (E : spdEnv len cap k ad s d n Pre base) (hI : (spdTb len cap k ad s d n Pre base).Inv (fun f W => Pre W) f a W) (hf : f 14 = false) (h2 : f 2 = true) (h8 : f 8 = true) (h13 : f 13 = true) (hgd : (ops[2]?).bind (·.dst) = some 136) (pos : String) (hK : ∀ a' W', (spdTb len cap k ad s d n Pre base).Inv (fun f W => Pre W) (hit f 14) a' W' → K a' W') : if Region.wanted { dst := some 148, op := Go.Op.call { callee := Go.Callee.value (Go.Operand.func 15), args := #[Go.Operand.tmp 142, Go.Operand.tmp 147], argTypes := #[9, 3] }, type := 9, pos := pos, after := #[{ on := 8, ground := Go.Ground.data }, { on := 13, ground := Go.Ground.data }, { on := 2, ground := Go.Ground.chain }, { on := 2, ground := Go.Ground.guard }], guard := some (2, false) } (yielded ops a.tmps) = true then Oper.wp Tryd.prog { dst := some 148, op := Go.Op.call { callee := Go.Callee.value (Go.Operand.func 15), args := #[Go.Operand.tmp 142, Go.Operand.tmp 147], argTypes := #[9, 3] }, type := 9, pos := pos, after := #[{ on := 8, ground := Go.Ground.data }, { on := 13, ground := Go.Ground.data }, { on := 2, ground := Go.Ground.chain }, { on := 2, ground := Go.Ground.guard }], guard := some (2, false) } a W K Q else K (a.put (some 148) undef) W := by
  have hy : yielded ops a.tmps 2 = some false := yielded_of hgd (by rw [hI.size]; show 136 < 151; decide) (hI.val 2 136 rfl h2)
  have hw : Region.wanted { dst := some 148, op := Go.Op.call { callee := Go.Callee.value (Go.Operand.func 15), args := #[Go.Operand.tmp 142, Go.Operand.tmp 147], argTypes := #[9, 3] }, type := 9, pos := pos, after := #[{ on := 8, ground := Go.Ground.data }, { on := 13, ground := Go.Ground.data }, { on := 2, ground := Go.Ground.chain }, { on := 2, ground := Go.Ground.guard }], guard := some (2, false) } (yielded ops a.tmps) = true := by
    show (yielded ops a.tmps 2 == some false) = true
    rw [hy]
    rfl
  rw [if_pos hw]
  clear hw hy
  have y0 : a.tmps[142]?.getD undef = .string s := hI.val 8 142 rfl h8
  have y1 : a.tmps[147]?.getD undef = .int .i64 n := hI.val 13 147 rfl h13
  have hC := E.lo W
  have HR := Lib.hid (hI.step (i := 14) (d := 148) (v := .string d) rfl spd_nodup (show 148 < 151 by decide) rfl hI.held)
  clear hI E hf
  go_simp
  refine hC.mono ?_
  rintro e W1 ⟨rfl, rfl⟩
  exact hK _ _ HR.out

set_option maxRecDepth 100000 in
theorem spd_15 {len cap k : Nat} {ad : Addr} {s d : ByteArray} {n : Int} {Pre : World → Prop} {base : Array Value} {f : Nat → Bool} {a : Act} {W : World} {K : Act → World → Prop} {Q : Exit → Act → World → Prop} {ops : Array Oper} (E : spdEnv len cap k ad s d n Pre base) (hI : (spdTb len cap k ad s d n Pre base).Inv (fun f W => Pre W) f a W) (hf : f 15 = false) (h2 : f 2 = true) (h3 : f 3 = true) (h14 : f 14 = true) (hgd : (ops[2]?).bind (·.dst) = some 136) (pos : String) (hK : ∀ a' W', (spdTb len cap k ad s d n Pre base).Inv (fun f W => Pre W) (hit f 15) a' W' → K a' W') : if Region.wanted { dst := some 149, op := Go.Op.binOp Go.BinOp.neq 9 (Go.Operand.tmp 137) (Go.Operand.tmp 148) 9, type := 4, pos := pos, after := #[{ on := 3, ground := Go.Ground.data }, { on := 14, ground := Go.Ground.data }, { on := 2, ground := Go.Ground.guard }], guard := some (2, false) } (yielded ops a.tmps) = true then Oper.wp Tryd.prog { dst := some 149, op := Go.Op.binOp Go.BinOp.neq 9 (Go.Operand.tmp 137) (Go.Operand.tmp 148) 9, type := 4, pos := pos, after := #[{ on := 3, ground := Go.Ground.data }, { on := 14, ground := Go.Ground.data }, { on := 2, ground := Go.Ground.guard }], guard := some (2, false) } a W K Q else K (a.put (some 149) undef) W := by
  have hy : yielded ops a.tmps 2 = some false := yielded_of hgd (by rw [hI.size]; show 136 < 151; decide) (hI.val 2 136 rfl h2)
  have hw : Region.wanted { dst := some 149, op := Go.Op.binOp Go.BinOp.neq 9 (Go.Operand.tmp 137) (Go.Operand.tmp 148) 9, type := 4, pos := pos, after := #[{ on := 3, ground := Go.Ground.data }, { on := 14, ground := Go.Ground.data }, { on := 2, ground := Go.Ground.guard }], guard := some (2, false) } (yielded ops a.tmps) = true := by
    show (yielded ops a.tmps 2 == some false) = true
    rw [hy]
    rfl
  rw [if_pos hw]
  clear hw hy
  have y0 : a.tmps[137]?.getD undef = .string d := hI.val 3 137 rfl h3
  have y1 : a.tmps[148]?.getD undef = .string d := hI.val 14 148 rfl h14
  have hz : (!d.toList == d.toList) = false := by simp
  have R := Lib.hid (hI.step (i := 15) (d := 149) (v := .bool false) rfl spd_nodup (show 149 < 151 by decide) rfl hI.held)
  clear hI E hf
  go_simp
  exact hK _ _ R.out

set_option maxRecDepth 100000 in
theorem spd_16 {len cap k : Nat} {ad : Addr} {s d : ByteArray} {n : Int} {Pre : World → Prop} {base : Array Value} {f : Nat → Bool} {a : Act} {W : World} {K : Act → World → Prop} {Q : Exit → Act → World → Prop} {ops : Array Oper} (E : spdEnv len cap k ad s d n Pre base) (hI : (spdTb len cap k ad s d n Pre base).Inv (fun f W => Pre W) f a W) (hf : f 16 = false) (h2 : f 2 = true) (h15 : f 15 = true) (pos : String) (hK : ∀ a' W', (spdTb len cap k ad s d n Pre base).Inv (fun f W => Pre W) (hit f 16) a' W' → K a' W') : if Region.wanted { dst := some 150, op := Go.Op.pick (Go.Operand.tmp 136) (Go.Operand.const (Go.Value.bool true)) (Go.Operand.tmp 149), type := 4, pos := pos, after := #[{ on := 2, ground := Go.Ground.data }, { on := 15, ground := Go.Ground.data }], guard := none } (yielded ops a.tmps) = true then Oper.wp Tryd.prog { dst := some 150, op := Go.Op.pick (Go.Operand.tmp 136) (Go.Operand.const (Go.Value.bool true)) (Go.Operand.tmp 149), type := 4, pos := pos, after := #[{ on := 2, ground := Go.Ground.data }, { on := 15, ground := Go.Ground.data }], guard := none } a W K Q else K (a.put (some 150) undef) W := by
  have y0 : a.tmps[136]?.getD undef = .bool false := hI.val 2 136 rfl h2
  have y2 : a.tmps[149]?.getD undef = .bool false := hI.val 15 149 rfl h15
  have R := Lib.hid (hI.step (i := 16) (d := 150) (v := .bool false) rfl spd_nodup (show 150 < 151 by decide) rfl hI.held)
  clear hI E hf
  go_simp
  exact hK _ _ R.out

abbrev spdOps : Array Oper := #[{ dst := some 134, op := Go.Op.move (Go.Operand.tmp 18), type := 26, pos := "outright.go:108", after := #[], guard := none }, { dst := some 135, op := Go.Op.binOp Go.BinOp.neq 26 (Go.Operand.tmp 134) (Go.Operand.const (Go.Value.int Go.IntKind.i64 0)) 26, type := 4, pos := "outright.go:108", after := #[{ on := 0, ground := Go.Ground.data }], guard := none }, { dst := some 136, op := Go.Op.move (Go.Operand.tmp 135), type := 4, pos := "outright.go:108", after := #[{ on := 1, ground := Go.Ground.data }], guard := none }, { dst := some 137, op := Go.Op.move (Go.Operand.tmp 17), type := 9, pos := "outright.go:108", after := #[{ on := 2, ground := Go.Ground.guard }], guard := some (2, false) }, { dst := some 138, op := Go.Op.move (Go.Operand.tmp 0), type := 22, pos := "outright.go:108", after := #[{ on := 2, ground := Go.Ground.guard }], guard := some (2, false) }, { dst := some 139, op := Go.Op.move (Go.Operand.tmp 16), type := 3, pos := "outright.go:108", after := #[{ on := 2, ground := Go.Ground.guard }], guard := some (2, false) }, { dst := some 140, op := Go.Op.indexAddr 22 (Go.Operand.tmp 138) (Go.Operand.tmp 139), type := 0, pos := "outright.go:108", after := #[{ on := 4, ground := Go.Ground.data }, { on := 5, ground := Go.Ground.data }, { on := 2, ground := Go.Ground.guard }], guard := some (2, false) }, { dst := some 141, op := Go.Op.fieldAddr 33 (Go.Operand.tmp 140) 1, type := 0, pos := "outright.go:108", after := #[{ on := 6, ground := Go.Ground.data }, { on := 2, ground := Go.Ground.guard }], guard := some (2, false) }, { dst := some 142, op := Go.Op.load 9 (Go.Operand.tmp 141), type := 9, pos := "outright.go:108", after := #[{ on := 7, ground := Go.Ground.data }, { on := 2, ground := Go.Ground.guard }], guard := some (2, false) }, { dst := some 143, op := Go.Op.move (Go.Operand.tmp 0), type := 22, pos := "outright.go:108", after := #[{ on := 2, ground := Go.Ground.guard }], guard := some (2, false) }, { dst := some 144, op := Go.Op.move (Go.Operand.tmp 16), type := 3, pos := "outright.go:108", after := #[{ on := 2, ground := Go.Ground.guard }], guard := some (2, false) }, { dst := some 145, op := Go.Op.indexAddr 22 (Go.Operand.tmp 143) (Go.Operand.tmp 144), type := 0, pos := "outright.go:108", after := #[{ on := 9, ground := Go.Ground.data }, { on := 10, ground := Go.Ground.data }, { on := 2, ground := Go.Ground.guard }], guard := some (2, false) }, { dst := some 146, op := Go.Op.fieldAddr 33 (Go.Operand.tmp 145) 2, type := 0, pos := "outright.go:108", after := #[{ on := 11, ground := Go.Ground.data }, { on := 2, ground := Go.Ground.guard }], guard := some (2, false) }, { dst := some 147, op := Go.Op.load 3 (Go.Operand.tmp 146), type := 3, pos := "outright.go:108", after := #[{ on := 12, ground := Go.Ground.data }, { on := 2, ground := Go.Ground.guard }], guard := some (2, false) }, { dst := some 148, op := Go.Op.call { callee := Go.Callee.value (Go.Operand.func 15), args := #[Go.Operand.tmp 142, Go.Operand.tmp 147], argTypes := #[9, 3] }, type := 9, pos := "outright.go:108", after := #[{ on := 8, ground := Go.Ground.data }, { on := 13, ground := Go.Ground.data }, { on := 2, ground := Go.Ground.chain }, { on := 2, ground := Go.Ground.guard }], guard := some (2, false) }, { dst := some 149, op := Go.Op.binOp Go.BinOp.neq 9 (Go.Operand.tmp 137) (Go.Operand.tmp 148) 9, type := 4, pos := "outright.go:108", after := #[{ on := 3, ground := Go.Ground.data }, { on := 14, ground := Go.Ground.data }, { on := 2, ground := Go.Ground.guard }], guard := some (2, false) }, { dst := some 150, op := Go.Op.pick (Go.Operand.tmp 136) (Go.Operand.const (Go.Value.bool true)) (Go.Operand.tmp 149), type := 4, pos := "outright.go:108", after := #[{ on := 2, ground := Go.Ground.data }, { on := 15, ground := Go.Ground.data }], guard := none }]
set_option maxRecDepth 100000 in
set_option maxHeartbeats 4000000 in
theorem spd_step {len cap k : Nat} {ad : Addr} {s d : ByteArray} {n : Int} {Pre : World → Prop} {base : Array Value} {Q : Exit → Act → World → Prop} (E : spdEnv len cap k ad s d n Pre base) :
    ∀ f a W i o, spdOps[i]? = some o → f i = false → (∀ e ∈ o.after, Region.binds .any e = true → f e.on = true) → (spdTb len cap k ad s d n Pre base).Inv (fun f W => Pre W) f a W → wpOp Tryd.prog spdOps Q i (fun a' W' => (spdTb len cap k ad s d n Pre base).Inv (fun f W => Pre W) (hit f i) a' W') a W := by
  intro f a W i o ho hf hed hI
  have hi : i < 17 := (Array.getElem?_eq_some_iff.1 ho).1
  have hc : i = 0 ∨ i = 1 ∨ i = 2 ∨ i = 3 ∨ i = 4 ∨ i = 5 ∨ i = 6 ∨ i = 7 ∨ i = 8 ∨ i = 9 ∨ i = 10 ∨ i = 11 ∨ i = 12 ∨ i = 13 ∨ i = 14 ∨ i = 15 ∨ i = 16 := by omega
  rcases hc with rfl | rfl | rfl | rfl | rfl | rfl | rfl | rfl | rfl | rfl | rfl | rfl | rfl | rfl | rfl | rfl | rfl
  · cases ho
    exact wpOp_step (o := { dst := some 134, op := Go.Op.move (Go.Operand.tmp 18), type := 26, pos := "outright.go:108", after := #[], guard := none }) rfl fun K hK => spd_0 E hI hf "outright.go:108" (fun a' W' h => hK a' W' h)
  · cases ho
    exact wpOp_step (o := { dst := some 135, op := Go.Op.binOp Go.BinOp.neq 26 (Go.Operand.tmp 134) (Go.Operand.const (Go.Value.int Go.IntKind.i64 0)) 26, type := 4, pos := "outright.go:108", after := #[{ on := 0, ground := Go.Ground.data }], guard := none }) rfl fun K hK => spd_1 E hI hf (hed ⟨0, Go.Ground.data⟩ (Array.mem_of_getElem? (i := 0) rfl) rfl) "outright.go:108" (fun a' W' h => hK a' W' h)
  · cases ho
    exact wpOp_step (o := { dst := some 136, op := Go.Op.move (Go.Operand.tmp 135), type := 4, pos := "outright.go:108", after := #[{ on := 1, ground := Go.Ground.data }], guard := none }) rfl fun K hK => spd_2 E hI hf (hed ⟨1, Go.Ground.data⟩ (Array.mem_of_getElem? (i := 0) rfl) rfl) "outright.go:108" (fun a' W' h => hK a' W' h)
  · cases ho
    exact wpOp_step (o := { dst := some 137, op := Go.Op.move (Go.Operand.tmp 17), type := 9, pos := "outright.go:108", after := #[{ on := 2, ground := Go.Ground.guard }], guard := some (2, false) }) rfl fun K hK => spd_3 E hI hf (hed ⟨2, Go.Ground.guard⟩ (Array.mem_of_getElem? (i := 0) rfl) rfl) rfl "outright.go:108" (fun a' W' h => hK a' W' h)
  · cases ho
    exact wpOp_step (o := { dst := some 138, op := Go.Op.move (Go.Operand.tmp 0), type := 22, pos := "outright.go:108", after := #[{ on := 2, ground := Go.Ground.guard }], guard := some (2, false) }) rfl fun K hK => spd_4 E hI hf (hed ⟨2, Go.Ground.guard⟩ (Array.mem_of_getElem? (i := 0) rfl) rfl) rfl "outright.go:108" (fun a' W' h => hK a' W' h)
  · cases ho
    exact wpOp_step (o := { dst := some 139, op := Go.Op.move (Go.Operand.tmp 16), type := 3, pos := "outright.go:108", after := #[{ on := 2, ground := Go.Ground.guard }], guard := some (2, false) }) rfl fun K hK => spd_5 E hI hf (hed ⟨2, Go.Ground.guard⟩ (Array.mem_of_getElem? (i := 0) rfl) rfl) rfl "outright.go:108" (fun a' W' h => hK a' W' h)
  · cases ho
    exact wpOp_step (o := { dst := some 140, op := Go.Op.indexAddr 22 (Go.Operand.tmp 138) (Go.Operand.tmp 139), type := 0, pos := "outright.go:108", after := #[{ on := 4, ground := Go.Ground.data }, { on := 5, ground := Go.Ground.data }, { on := 2, ground := Go.Ground.guard }], guard := some (2, false) }) rfl fun K hK => spd_6 E hI hf (hed ⟨2, Go.Ground.guard⟩ (Array.mem_of_getElem? (i := 2) rfl) rfl) (hed ⟨4, Go.Ground.data⟩ (Array.mem_of_getElem? (i := 0) rfl) rfl) (hed ⟨5, Go.Ground.data⟩ (Array.mem_of_getElem? (i := 1) rfl) rfl) rfl "outright.go:108" (fun a' W' h => hK a' W' h)
  · cases ho
    exact wpOp_step (o := { dst := some 141, op := Go.Op.fieldAddr 33 (Go.Operand.tmp 140) 1, type := 0, pos := "outright.go:108", after := #[{ on := 6, ground := Go.Ground.data }, { on := 2, ground := Go.Ground.guard }], guard := some (2, false) }) rfl fun K hK => spd_7 E hI hf (hed ⟨2, Go.Ground.guard⟩ (Array.mem_of_getElem? (i := 1) rfl) rfl) (hed ⟨6, Go.Ground.data⟩ (Array.mem_of_getElem? (i := 0) rfl) rfl) rfl "outright.go:108" (fun a' W' h => hK a' W' h)
  · cases ho
    exact wpOp_step (o := { dst := some 142, op := Go.Op.load 9 (Go.Operand.tmp 141), type := 9, pos := "outright.go:108", after := #[{ on := 7, ground := Go.Ground.data }, { on := 2, ground := Go.Ground.guard }], guard := some (2, false) }) rfl fun K hK => spd_8 E hI hf (hed ⟨2, Go.Ground.guard⟩ (Array.mem_of_getElem? (i := 1) rfl) rfl) (hed ⟨7, Go.Ground.data⟩ (Array.mem_of_getElem? (i := 0) rfl) rfl) rfl "outright.go:108" (fun a' W' h => hK a' W' h)
  · cases ho
    exact wpOp_step (o := { dst := some 143, op := Go.Op.move (Go.Operand.tmp 0), type := 22, pos := "outright.go:108", after := #[{ on := 2, ground := Go.Ground.guard }], guard := some (2, false) }) rfl fun K hK => spd_9 E hI hf (hed ⟨2, Go.Ground.guard⟩ (Array.mem_of_getElem? (i := 0) rfl) rfl) rfl "outright.go:108" (fun a' W' h => hK a' W' h)
  · cases ho
    exact wpOp_step (o := { dst := some 144, op := Go.Op.move (Go.Operand.tmp 16), type := 3, pos := "outright.go:108", after := #[{ on := 2, ground := Go.Ground.guard }], guard := some (2, false) }) rfl fun K hK => spd_10 E hI hf (hed ⟨2, Go.Ground.guard⟩ (Array.mem_of_getElem? (i := 0) rfl) rfl) rfl "outright.go:108" (fun a' W' h => hK a' W' h)
  · cases ho
    exact wpOp_step (o := { dst := some 145, op := Go.Op.indexAddr 22 (Go.Operand.tmp 143) (Go.Operand.tmp 144), type := 0, pos := "outright.go:108", after := #[{ on := 9, ground := Go.Ground.data }, { on := 10, ground := Go.Ground.data }, { on := 2, ground := Go.Ground.guard }], guard := some (2, false) }) rfl fun K hK => spd_11 E hI hf (hed ⟨2, Go.Ground.guard⟩ (Array.mem_of_getElem? (i := 2) rfl) rfl) (hed ⟨9, Go.Ground.data⟩ (Array.mem_of_getElem? (i := 0) rfl) rfl) (hed ⟨10, Go.Ground.data⟩ (Array.mem_of_getElem? (i := 1) rfl) rfl) rfl "outright.go:108" (fun a' W' h => hK a' W' h)
  · cases ho
    exact wpOp_step (o := { dst := some 146, op := Go.Op.fieldAddr 33 (Go.Operand.tmp 145) 2, type := 0, pos := "outright.go:108", after := #[{ on := 11, ground := Go.Ground.data }, { on := 2, ground := Go.Ground.guard }], guard := some (2, false) }) rfl fun K hK => spd_12 E hI hf (hed ⟨2, Go.Ground.guard⟩ (Array.mem_of_getElem? (i := 1) rfl) rfl) (hed ⟨11, Go.Ground.data⟩ (Array.mem_of_getElem? (i := 0) rfl) rfl) rfl "outright.go:108" (fun a' W' h => hK a' W' h)
  · cases ho
    exact wpOp_step (o := { dst := some 147, op := Go.Op.load 3 (Go.Operand.tmp 146), type := 3, pos := "outright.go:108", after := #[{ on := 12, ground := Go.Ground.data }, { on := 2, ground := Go.Ground.guard }], guard := some (2, false) }) rfl fun K hK => spd_13 E hI hf (hed ⟨2, Go.Ground.guard⟩ (Array.mem_of_getElem? (i := 1) rfl) rfl) (hed ⟨12, Go.Ground.data⟩ (Array.mem_of_getElem? (i := 0) rfl) rfl) rfl "outright.go:108" (fun a' W' h => hK a' W' h)
  · cases ho
    exact wpOp_step (o := { dst := some 148, op := Go.Op.call { callee := Go.Callee.value (Go.Operand.func 15), args := #[Go.Operand.tmp 142, Go.Operand.tmp 147], argTypes := #[9, 3] }, type := 9, pos := "outright.go:108", after := #[{ on := 8, ground := Go.Ground.data }, { on := 13, ground := Go.Ground.data }, { on := 2, ground := Go.Ground.chain }, { on := 2, ground := Go.Ground.guard }], guard := some (2, false) }) rfl fun K hK => spd_14 E hI hf (hed ⟨2, Go.Ground.chain⟩ (Array.mem_of_getElem? (i := 2) rfl) rfl) (hed ⟨8, Go.Ground.data⟩ (Array.mem_of_getElem? (i := 0) rfl) rfl) (hed ⟨13, Go.Ground.data⟩ (Array.mem_of_getElem? (i := 1) rfl) rfl) rfl "outright.go:108" (fun a' W' h => hK a' W' h)
  · cases ho
    exact wpOp_step (o := { dst := some 149, op := Go.Op.binOp Go.BinOp.neq 9 (Go.Operand.tmp 137) (Go.Operand.tmp 148) 9, type := 4, pos := "outright.go:108", after := #[{ on := 3, ground := Go.Ground.data }, { on := 14, ground := Go.Ground.data }, { on := 2, ground := Go.Ground.guard }], guard := some (2, false) }) rfl fun K hK => spd_15 E hI hf (hed ⟨2, Go.Ground.guard⟩ (Array.mem_of_getElem? (i := 2) rfl) rfl) (hed ⟨3, Go.Ground.data⟩ (Array.mem_of_getElem? (i := 0) rfl) rfl) (hed ⟨14, Go.Ground.data⟩ (Array.mem_of_getElem? (i := 1) rfl) rfl) rfl "outright.go:108" (fun a' W' h => hK a' W' h)
  · cases ho
    exact wpOp_step (o := { dst := some 150, op := Go.Op.pick (Go.Operand.tmp 136) (Go.Operand.const (Go.Value.bool true)) (Go.Operand.tmp 149), type := 4, pos := "outright.go:108", after := #[{ on := 2, ground := Go.Ground.data }, { on := 15, ground := Go.Ground.data }], guard := none }) rfl fun K hK => spd_16 E hI hf (hed ⟨2, Go.Ground.data⟩ (Array.mem_of_getElem? (i := 0) rfl) rfl) (hed ⟨15, Go.Ground.data⟩ (Array.mem_of_getElem? (i := 1) rfl) rfl) "outright.go:108" (fun a' W' h => hK a' W' h)

/-- THE REGION -/
theorem spd_region {len cap k : Nat} {ad : Addr} {s d : ByteArray} {n : Int} {Pre : World → Prop} {tm : Array Value} {Q : Exit → Act → World → Prop} {w : World} (hsz : tm.size = 151) (E : spdEnv len cap k ad s d n Pre tm) (hT : Pre w.drew)
    (hend : ∀ W, Pre W → Q .normal ⟨(((((((((((((((((tm.setIfInBounds 134 (.int .i64 0)).setIfInBounds 135 (.bool false)).setIfInBounds 136 (.bool false)).setIfInBounds 137 (.string d)).setIfInBounds 138 (.slice (some ad) len cap)).setIfInBounds 139 (.int .i64 (k : Int))).setIfInBounds 140 (.pointer (some (ad.add (k * 3))))).setIfInBounds 141 (.pointer (some ⟨(ad.add (k * 3)).block, (ad.add (k * 3)).off + 1, none⟩))).setIfInBounds 142 (.string s)).setIfInBounds 143 (.slice (some ad) len cap)).setIfInBounds 144 (.int .i64 (k : Int))).setIfInBounds 145 (.pointer (some (ad.add (k * 3))))).setIfInBounds 146 (.pointer (some ⟨(ad.add (k * 3)).block, (ad.add (k * 3)).off + 2, none⟩))).setIfInBounds 147 (.int .i64 n)).setIfInBounds 148 (.string d)).setIfInBounds 149 (.bool false)).setIfInBounds 150 (.bool false)), []⟩ W) : (Code.region 22 spdOps true).wp Tryd.prog Q ⟨tm, []⟩ w := by
  refine wp_region_inv (by kernel_rfl) (by kernel_rfl) ((spdTb len cap k ad s d n Pre tm).Inv (fun f W => Pre W)) ⟨hsz, rfl, fun s _ => rfl, fun i d _ hf => (by cases hf), hT⟩ (spd_step E) ?_
  intro f a W hall hI
  have ha := hI.fin hall hsz spd_nodup rfl
  rw [ha]
  exact hend W hI.held
end Go.Proofs.YteobachhanjmfaaDoor
