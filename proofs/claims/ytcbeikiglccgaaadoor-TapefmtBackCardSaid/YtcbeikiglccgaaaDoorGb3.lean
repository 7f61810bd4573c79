/- Bkc: merged (a claim holds few files). -/
import Derived.Test.YtcbeikiglccgaaaDoorGb2
import Derived.Test.YtcbeikiglccgaaaDoorGb1
import Derived.Test.YtcbeikiglccgaaaDoorOb
/- TapefmtBack: region 20: what was read is what was written. Written by gen_rf.py. -/
namespace Go.Proofs.YtcbeikiglccgaaaDoor
open Go.RowKit
open Sm
set_option linter.unusedVariables false
set_option linter.unusedSimpArgs false

def bkcTb (len cap len2 cap2 len3 cap3 k id p : Nat) (ad ad2 ad3 : Addr) (s d : ByteArray) (n : Int) (Pre : World → Prop) (base : Array Value) : Tf where
  slots := [109, 110, 111, 112, 113, 114, 115, 116, 117, 118, 119, 120, 121, 122, 123, 124, 125, 126, 127, 128, 129, 130, 131, 132, 133, 134, 135, 136, 137, 138, 139, 140, 141, 142, 143, 144, 145, 146, 147, 148, 149, 150, 151, 152, 153, 154, 155, 156, 157, 158, 159, 160]
  size := 178
  base := base
  val := fun
    | 0 => .int .i64 0
    | 1 => .bool false
    | 2 => .bool false
    | 3 => .string d
    | 4 => .slice (some ad) len cap
    | 5 => .int .i64 (k : Int)
    | 6 => .pointer (some (ad.add (k * 3)))
    | 7 => .pointer (some ⟨(ad.add (k * 3)).block, (ad.add (k * 3)).off + 1, none⟩)
    | 8 => .string s
    | 9 => .slice (some ad) len cap
    | 10 => .int .i64 (k : Int)
    | 11 => .pointer (some (ad.add (k * 3)))
    | 12 => .pointer (some ⟨(ad.add (k * 3)).block, (ad.add (k * 3)).off + 2, none⟩)
    | 13 => .int .i64 n
    | 14 => .string d
    | 15 => .bool false
    | 16 => .bool false
    | 17 => .bool false
    | 18 => .slice (some ad3) len3 cap3
    | 19 => .int .i64 (k : Int)
    | 20 => .pointer (some (ad3.add (k * 3)))
    | 21 => .pointer (some (ad3.add (k * 3)))
    | 22 => .int .u64 (id : Int)
    | 23 => .slice (some ad) len cap
    | 24 => .int .i64 (k : Int)
    | 25 => .pointer (some (ad.add (k * 3)))
    | 26 => .pointer (some (ad.add (k * 3)))
    | 27 => .int .u64 (id : Int)
    | 28 => .bool false
    | 29 => .bool false
    | 30 => .bool false
    | 31 => .slice (some ad3) len3 cap3
    | 32 => .int .i64 (k : Int)
    | 33 => .pointer (some (ad3.add (k * 3)))
    | 34 => .pointer (some ⟨(ad3.add (k * 3)).block, (ad3.add (k * 3)).off + 1, none⟩)
    | 35 => .int .i64 (p : Int)
    | 36 => .slice (some ad2) len2 cap2
    | 37 => .int .i64 (k : Int)
    | 38 => .pointer (some (ad2.add k))
    | 39 => .int .i64 (p : Int)
    | 40 => .bool false
    | 41 => .bool false
    | 42 => .bool false
    | 43 => .slice (some ad3) len3 cap3
    | 44 => .int .i64 (k : Int)
    | 45 => .pointer (some (ad3.add (k * 3)))
    | 46 => .pointer (some ⟨(ad3.add (k * 3)).block, (ad3.add (k * 3)).off + 2, none⟩)
    | 47 => .int .i64 (d.size : Int)
    | 48 => .string d
    | 49 => .int .i64 (d.size : Int)
    | 50 => .bool false
    | 51 => .bool false
    | _ => undef

structure bkcEnv (len cap len2 cap2 len3 cap3 k id p : Nat) (ad ad2 ad3 : Addr) (s d : ByteArray) (n : Int) (Pre : World → Prop) (base : Array Value) : Prop where
  b14 : base[14]?.getD undef = .int .i64 0
  b13 : base[13]?.getD undef = .string d
  b0 : base[0]?.getD undef = .slice (some ad) len cap
  b12 : base[12]?.getD undef = .int .i64 (k : Int)
  b9 : base[9]?.getD undef = .slice (some ad3) len3 cap3
  b4 : base[4]?.getD undef = .slice (some ad2) len2 cap2
  kk : k < len
  kk2 : k < len2
  kk3 : k < len3
  c : ∀ W, Pre W ∨ Pre W → W.cell? (ad.add (k * 3)) = some (.int .u64 (id : Int)) ∧ W.cell? ⟨(ad.add (k * 3)).block, (ad.add (k * 3)).off + 1, none⟩ = some (.string s) ∧ W.cell? ⟨(ad.add (k * 3)).block, (ad.add (k * 3)).off + 2, none⟩ = some (.int .i64 n) ∧ W.cell? (ad2.add k) = some (.int .i64 (p : Int)) ∧ W.cell? (ad3.add (k * 3)) = some (.int .u64 (id : Int)) ∧ W.cell? ⟨(ad3.add (k * 3)).block, (ad3.add (k * 3)).off + 1, none⟩ = some (.int .i64 (p : Int)) ∧ W.cell? ⟨(ad3.add (k * 3)).block, (ad3.add (k * 3)).off + 2, none⟩ = some (.int .i64 (d.size : Int))
  lo : ∀ W, Calls Tryd.prog 15 #[.string s, .int .i64 n] W fun e w' => e = .returned (.string d) ∧ W = w'

theorem bkc_nodup : [109, 110, 111, 112, 113, 114, 115, 116, 117, 118, 119, 120, 121, 122, 123, 124, 125, 126, 127, 128, 129, 130, 131, 132, 133, 134, 135, 136, 137, 138, 139, 140, 141, 142, 143, 144, 145, 146, 147, 148, 149, 150, 151, 152, 153, 154, 155, 156, 157, 158, 159, 160].Nodup := by decide
set_option maxRecDepth 100000 in
theorem bkc_0 {len cap len2 cap2 len3 cap3 k id p : Nat} {ad ad2 ad3 : Addr} {s d : ByteArray} {n : Int} {Pre : World → Prop} {base : Array Value} {f : Nat → Bool} {a : Act} {W : World} {K : Act → World → Prop} {Q : Exit → Act → World → Prop} {ops : Array Oper} (E : bkcEnv len cap len2 cap2 len3 cap3 k id p ad ad2 ad3 s d n Pre base) (hI : (bkcTb len cap len2 cap2 len3 cap3 k id p ad ad2 ad3 s d n Pre base).Inv (fun f W => Pre W) f a W) (hf : f 0 = false) (pos : String) (hK : ∀ a' W', (bkcTb len cap len2 cap2 len3 cap3 k id p ad ad2 ad3 s d n Pre base).Inv (fun f W => Pre W) (hit f 0) a' W' → K a' W') : if Region.wanted { dst := some 109, op := Go.Op.move (Go.Operand.tmp 14), type := 26, pos := pos, after := #[], guard := none } (yielded ops a.tmps) = true then Oper.wp Tryd.prog { dst := some 109, op := Go.Op.move (Go.Operand.tmp 14), type := 26, pos := pos, after := #[], guard := none } a W K Q else K (a.put (some 109) undef) W := by
  have q : a.tmps[14]?.getD undef = .int .i64 0 := (hI.base 14 rfl).trans E.b14
  have R := Lib.hid (hI.step (i := 0) (d := 109) (v := .int .i64 0) rfl bkc_nodup (show 109 < 178 by decide) rfl hI.held)
  clear hI E hf
  go_simp
  exact hK _ _ R.out

set_option maxRecDepth 100000 in
theorem bkc_1 {len cap len2 cap2 len3 cap3 k id p : Nat} {ad ad2 ad3 : Addr} {s d : ByteArray} {n : Int} {Pre : World → Prop} {base : Array Value} {f : Nat → Bool} {a : Act} {W : World} {K : Act → World → Prop} {Q : Exit → Act → World → Prop} {ops : Array Oper} (E : bkcEnv len cap len2 cap2 len3 cap3 k id p ad ad2 ad3 s d n Pre base) (hI : (bkcTb len cap len2 cap2 len3 cap3 k id p ad ad2 ad3 s d n Pre base).Inv (fun f W => Pre W) f a W) (hf : f 1 = false) (h0 : f 0 = true) (pos : String) (hK : ∀ a' W', (bkcTb len cap len2 cap2 len3 cap3 k id p ad ad2 ad3 s d n Pre base).Inv (fun f W => Pre W) (hit f 1) a' W' → K a' W') : if Region.wanted { dst := some 110, op := Go.Op.binOp Go.BinOp.neq 26 (Go.Operand.tmp 109) (Go.Operand.const (Go.Value.int Go.IntKind.i64 0)) 26, type := 4, pos := pos, after := #[{ on := 0, ground := Go.Ground.data }], guard := none } (yielded ops a.tmps) = true then Oper.wp Tryd.prog { dst := some 110, op := Go.Op.binOp Go.BinOp.neq 26 (Go.Operand.tmp 109) (Go.Operand.const (Go.Value.int Go.IntKind.i64 0)) 26, type := 4, pos := pos, after := #[{ on := 0, ground := Go.Ground.data }], guard := none } a W K Q else K (a.put (some 110) undef) W := by
  have y0 : a.tmps[109]?.getD undef = .int .i64 0 := hI.val 0 109 rfl h0
  have R := Lib.hid (hI.step (i := 1) (d := 110) (v := .bool false) rfl bkc_nodup (show 110 < 178 by decide) rfl hI.held)
  clear hI E hf
  go_simp
  exact hK _ _ R.out

set_option maxRecDepth 100000 in
theorem bkc_2 {len cap len2 cap2 len3 cap3 k id p : Nat} {ad ad2 ad3 : Addr} {s d : ByteArray} {n : Int} {Pre : World → Prop} {base : Array Value} {f : Nat → Bool} {a : Act} {W : World} {K : Act → World → Prop} {Q : Exit → Act → World → Prop} {ops : Array Oper} (E : bkcEnv len cap len2 cap2 len3 cap3 k id p ad ad2 ad3 s d n Pre base) (hI : (bkcTb len cap len2 cap2 len3 cap3 k id p ad ad2 ad3 s d n Pre base).Inv (fun f W => Pre W) f a W) (hf : f 2 = false) (h1 : f 1 = true) (pos : String) (hK : ∀ a' W', (bkcTb len cap len2 cap2 len3 cap3 k id p ad ad2 ad3 s d n Pre base).Inv (fun f W => Pre W) (hit f 2) a' W' → K a' W') : if Region.wanted { dst := some 111, op := Go.Op.move (Go.Operand.tmp 110), type := 4, pos := pos, after := #[{ on := 1, ground := Go.Ground.data }], guard := none } (yielded ops a.tmps) = true then Oper.wp Tryd.prog { dst := some 111, op := Go.Op.move (Go.Operand.tmp 110), type := 4, pos := pos, after := #[{ on := 1, ground := Go.Ground.data }], guard := none } a W K Q else K (a.put (some 111) undef) W := by
  have q : a.tmps[110]?.getD undef = .bool false := hI.val 1 110 rfl h1
  have R := Lib.hid (hI.step (i := 2) (d := 111) (v := .bool false) rfl bkc_nodup (show 111 < 178 by decide) rfl hI.held)
  clear hI E hf
  go_simp
  exact hK _ _ R.out

set_option maxRecDepth 100000 in
theorem bkc_3 {len cap len2 cap2 len3 cap3 k id p : Nat} {ad ad2 ad3 : Addr} {s d : ByteArray} {n : Int} {Pre : World → Prop} {base : Array Value} {f : Nat → Bool} {a : Act} {W : World} {K : Act → World → Prop} {Q : Exit → Act → World → Prop} {ops : Array Oper} (E : bkcEnv len cap len2 cap2 len3 cap3 k id p ad ad2 ad3 s d n Pre base) (hI : (bkcTb len cap len2 cap2 len3 cap3 k id p ad ad2 ad3 s d n Pre base).Inv (fun f W => Pre W) f a W) (hf : f 3 = false) (h2 : f 2 = true) (hgd : (ops[2]?).bind (·.dst) = some 111) (pos : String) (hK : ∀ a' W', (bkcTb len cap len2 cap2 len3 cap3 k id p ad ad2 ad3 s d n Pre base).Inv (fun f W => Pre W) (hit f 3) a' W' → K a' W') : if Region.wanted { dst := some 112, op := Go.Op.move (Go.Operand.tmp 13), type := 9, pos := pos, after := #[{ on := 2, ground := Go.Ground.guard }], guard := some (2, false) } (yielded ops a.tmps) = true then Oper.wp Tryd.prog { dst := some 112, op := Go.Op.move (Go.Operand.tmp 13), type := 9, pos := pos, after := #[{ on := 2, ground := Go.Ground.guard }], guard := some (2, false) } a W K Q else K (a.put (some 112) undef) W := by
  have hy : yielded ops a.tmps 2 = some false := yielded_of hgd (by rw [hI.size]; show 111 < 178; decide) (hI.val 2 111 rfl h2)
  have hw : Region.wanted { dst := some 112, op := Go.Op.move (Go.Operand.tmp 13), type := 9, pos := pos, after := #[{ on := 2, ground := Go.Ground.guard }], guard := some (2, false) } (yielded ops a.tmps) = true := by
    show (yielded ops a.tmps 2 == some false) = true
    rw [hy]
    rfl
  rw [if_pos hw]
  clear hw hy
  have q : a.tmps[13]?.getD undef = .string d := (hI.base 13 rfl).trans E.b13
  have R := Lib.hid (hI.step (i := 3) (d := 112) (v := .string d) rfl bkc_nodup (show 112 < 178 by decide) rfl hI.held)
  clear hI E hf
  go_simp
  exact hK _ _ R.out

set_option maxRecDepth 100000 in
theorem bkc_4 {len cap len2 cap2 len3 cap3 k id p : Nat} {ad ad2 ad3 : Addr} {s d : ByteArray} {n : Int} {Pre : World → Prop} {base : Array Value} {f : Nat → Bool} {a : Act} {W : World} {K : Act → World → Prop} {Q : Exit → Act → World → Prop} {ops : Array Oper} (E : bkcEnv len cap len2 cap2 len3 cap3 k id p ad ad2 ad3 s d n Pre base) (hI : (bkcTb len cap len2 cap2 len3 cap3 k id p ad ad2 ad3 s d n Pre base).Inv (fun f W => Pre W) f a W) (hf : f 4 = false) (h2 : f 2 = true) (hgd : (ops[2]?).bind (·.dst) = some 111) (pos : String) (hK : ∀ a' W', (bkcTb len cap len2 cap2 len3 cap3 k id p ad ad2 ad3 s d n Pre base).Inv (fun f W => Pre W) (hit f 4) a' W' → K a' W') : if Region.wanted { dst := some 113, op := Go.Op.move (Go.Operand.tmp 0), type := 22, pos := pos, after := #[{ on := 2, ground := Go.Ground.guard }], guard := some (2, false) } (yielded ops a.tmps) = true then Oper.wp Tryd.prog { dst := some 113, op := Go.Op.move (Go.Operand.tmp 0), type := 22, pos := pos, after := #[{ on := 2, ground := Go.Ground.guard }], guard := some (2, false) } a W K Q else K (a.put (some 113) undef) W := by
  have hy : yielded ops a.tmps 2 = some false := yielded_of hgd (by rw [hI.size]; show 111 < 178; decide) (hI.val 2 111 rfl h2)
  have hw : Region.wanted { dst := some 113, op := Go.Op.move (Go.Operand.tmp 0), type := 22, pos := pos, after := #[{ on := 2, ground := Go.Ground.guard }], guard := some (2, false) } (yielded ops a.tmps) = true := by
    show (yielded ops a.tmps 2 == some false) = true
    rw [hy]
    rfl
  rw [if_pos hw]
  clear hw hy
  have q : a.tmps[0]?.getD undef = .slice (some ad) len cap := (hI.base 0 rfl).trans E.b0
  have R := Lib.hid (hI.step (i := 4) (d := 113) (v := .slice (some ad) len cap) rfl bkc_nodup (show 113 < 178 by decide) rfl hI.held)
  clear hI E hf
  go_simp
  exact hK _ _ R.out

set_option maxRecDepth 100000 in
theorem bkc_5 {len cap len2 cap2 len3 cap3 k id p : Nat} {ad ad2 ad3 : Addr} {s d : ByteArray} {n : Int} {Pre : World → Prop} {base : Array Value} {f : Nat → Bool} {a : Act} {W : World} {K : Act → World → Prop} {Q : Exit → Act → World → Prop} {ops : Array Oper} (E : bkcEnv len cap len2 cap2 len3 cap3 k id p ad ad2 ad3 s d n Pre base) (hI : (bkcTb len cap len2 cap2 len3 cap3 k id p ad ad2 ad3 s d n Pre base).Inv (fun f W => Pre W) f a W) (hf : f 5 = false) (h2 : f 2 = true) (hgd : (ops[2]?).bind (·.dst) = some 111) (pos : String) (hK : ∀ a' W', (bkcTb len cap len2 cap2 len3 cap3 k id p ad ad2 ad3 s d n Pre base).Inv (fun f W => Pre W) (hit f 5) a' W' → K a' W') : if Region.wanted { dst := some 114, op := Go.Op.move (Go.Operand.tmp 12), type := 3, pos := pos, after := #[{ on := 2, ground := Go.Ground.guard }], guard := some (2, false) } (yielded ops a.tmps) = true then Oper.wp Tryd.prog { dst := some 114, op := Go.Op.move (Go.Operand.tmp 12), type := 3, pos := pos, after := #[{ on := 2, ground := Go.Ground.guard }], guard := some (2, false) } a W K Q else K (a.put (some 114) undef) W := by
  have hy : yielded ops a.tmps 2 = some false := yielded_of hgd (by rw [hI.size]; show 111 < 178; decide) (hI.val 2 111 rfl h2)
  have hw : Region.wanted { dst := some 114, op := Go.Op.move (Go.Operand.tmp 12), type := 3, pos := pos, after := #[{ on := 2, ground := Go.Ground.guard }], guard := some (2, false) } (yielded ops a.tmps) = true := by
    show (yielded ops a.tmps 2 == some false) = true
    rw [hy]
    rfl
  rw [if_pos hw]
  clear hw hy
  have q : a.tmps[12]?.getD undef = .int .i64 (k : Int) := (hI.base 12 rfl).trans E.b12
  have R := Lib.hid (hI.step (i := 5) (d := 114) (v := .int .i64 (k : Int)) rfl bkc_nodup (show 114 < 178 by decide) rfl hI.held)
  clear hI E hf
  go_simp
  exact hK _ _ R.out

set_option maxRecDepth 100000 in
theorem bkc_6 {len cap len2 cap2 len3 cap3 k id p : Nat} {ad ad2 ad3 : Addr} {s d : ByteArray} {n : Int} {Pre : World → Prop} {base : Array Value} {f : Nat → Bool} {a : Act} {W : World} {K : Act → World → Prop} {Q : Exit → Act → World → Prop} {ops : Array Oper} (E : bkcEnv len cap len2 cap2 len3 cap3 k id p ad ad2 ad3 s d n Pre base) (hI : (bkcTb len cap len2 cap2 len3 cap3 k id p ad ad2 ad3 s d n Pre base).Inv (fun f W => Pre W) f a W) (hf : f 6 = false) (h2 : f 2 = true) (h4 : f 4 = true) (h5 : f 5 = true) (hgd : (ops[2]?).bind (·.dst) = some 111) (pos : String) (hK : ∀ a' W', (bkcTb len cap len2 cap2 len3 cap3 k id p ad ad2 ad3 s d n Pre base).Inv (fun f W => Pre W) (hit f 6) a' W' → K a' W') : if Region.wanted { dst := some 115, op := Go.Op.indexAddr 22 (Go.Operand.tmp 113) (Go.Operand.tmp 114), type := 0, pos := pos, after := #[{ on := 4, ground := Go.Ground.data }, { on := 5, ground := Go.Ground.data }, { on := 2, ground := Go.Ground.guard }], guard := some (2, false) } (yielded ops a.tmps) = true then Oper.wp Tryd.prog { dst := some 115, op := Go.Op.indexAddr 22 (Go.Operand.tmp 113) (Go.Operand.tmp 114), type := 0, pos := pos, after := #[{ on := 4, ground := Go.Ground.data }, { on := 5, ground := Go.Ground.data }, { on := 2, ground := Go.Ground.guard }], guard := some (2, false) } a W K Q else K (a.put (some 115) undef) W := by
  have hy : yielded ops a.tmps 2 = some false := yielded_of hgd (by rw [hI.size]; show 111 < 178; decide) (hI.val 2 111 rfl h2)
  have hw : Region.wanted { dst := some 115, op := Go.Op.indexAddr 22 (Go.Operand.tmp 113) (Go.Operand.tmp 114), type := 0, pos := pos, after := #[{ on := 4, ground := Go.Ground.data }, { on := 5, ground := Go.Ground.data }, { on := 2, ground := Go.Ground.guard }], guard := some (2, false) } (yielded ops a.tmps) = true := by
    show (yielded ops a.tmps 2 == some false) = true
    rw [hy]
    rfl
  rw [if_pos hw]
  clear hw hy
  have y0 : a.tmps[113]?.getD undef = .slice (some ad) len cap := hI.val 4 113 rfl h4
  have y1 : a.tmps[114]?.getD undef = .int .i64 (k : Int) := hI.val 5 114 rfl h5
  have hk := E.kk
  have i0 : (0 : Int) ≤ (k : Int) := by omega
  have i1 : (k : Int) < (len : Int) := by omega
  have R := Lib.hid (hI.step (i := 6) (d := 115) (v := .pointer (some (ad.add (k * 3)))) rfl bkc_nodup (show 115 < 178 by decide) rfl hI.held)
  clear hI E hf
  go_simp
  exact hK _ _ R.out

set_option maxRecDepth 100000 in
theorem bkc_7 {len cap len2 cap2 len3 cap3 k id p : Nat} {ad ad2 ad3 : Addr} {s d : ByteArray} {n : Int} {Pre : World → Prop} {base : Array Value} {f : Nat → Bool} {a : Act} {W : World} {K : Act → World → Prop} {Q : Exit → Act → World → Prop} {ops : Array Oper} (E : bkcEnv len cap len2 cap2 len3 cap3 k id p ad ad2 ad3 s d n Pre base) (hI : (bkcTb len cap len2 cap2 len3 cap3 k id p ad ad2 ad3 s d n Pre base).Inv (fun f W => Pre W) f a W) (hf : f 7 = false) (h2 : f 2 = true) (h6 : f 6 = true) (hgd : (ops[2]?).bind (·.dst) = some 111) (pos : String) (hK : ∀ a' W', (bkcTb len cap len2 cap2 len3 cap3 k id p ad ad2 ad3 s d n Pre base).Inv (fun f W => Pre W) (hit f 7) a' W' → K a' W') : if Region.wanted { dst := some 116, op := Go.Op.fieldAddr 33 (Go.Operand.tmp 115) 1, type := 0, pos := pos, after := #[{ on := 6, ground := Go.Ground.data }, { on := 2, ground := Go.Ground.guard }], guard := some (2, false) } (yielded ops a.tmps) = true then Oper.wp Tryd.prog { dst := some 116, op := Go.Op.fieldAddr 33 (Go.Operand.tmp 115) 1, type := 0, pos := pos, after := #[{ on := 6, ground := Go.Ground.data }, { on := 2, ground := Go.Ground.guard }], guard := some (2, false) } a W K Q else K (a.put (some 116) undef) W := by
  have hy : yielded ops a.tmps 2 = some false := yielded_of hgd (by rw [hI.size]; show 111 < 178; decide) (hI.val 2 111 rfl h2)
  have hw : Region.wanted { dst := some 116, op := Go.Op.fieldAddr 33 (Go.Operand.tmp 115) 1, type := 0, pos := pos, after := #[{ on := 6, ground := Go.Ground.data }, { on := 2, ground := Go.Ground.guard }], guard := some (2, false) } (yielded ops a.tmps) = true := by
    show (yielded ops a.tmps 2 == some false) = true
    rw [hy]
    rfl
  rw [if_pos hw]
  clear hw hy
  have q : a.tmps[115]?.getD undef = .pointer (some (ad.add (k * 3))) := hI.val 6 115 rfl h6
  have R := Lib.hid (hI.step (i := 7) (d := 116) (v := .pointer (some ⟨(ad.add (k * 3)).block, (ad.add (k * 3)).off + 1, none⟩)) rfl bkc_nodup (show 116 < 178 by decide) rfl hI.held)
  clear hI E hf
  go_simp
  exact hK _ _ R.out

set_option maxRecDepth 100000 in
theorem bkc_8 {len cap len2 cap2 len3 cap3 k id p : Nat} {ad ad2 ad3 : Addr} {s d : ByteArray} {n : Int} {Pre : World → Prop} {base : Array Value} {f : Nat → Bool} {a : Act} {W : World} {K : Act → World → Prop} {Q : Exit → Act → World → Prop} {ops : Array Oper} (E : bkcEnv len cap len2 cap2 len3 cap3 k id p ad ad2 ad3 s d n Pre base) (hI : (bkcTb len cap len2 cap2 len3 cap3 k id p ad ad2 ad3 s d n Pre base).Inv (fun f W => Pre W) f a W) (hf : f 8 = false) (h2 : f 2 = true) (h7 : f 7 = true) (hgd : (ops[2]?).bind (·.dst) = some 111) (pos : String) (hK : ∀ a' W', (bkcTb len cap len2 cap2 len3 cap3 k id p ad ad2 ad3 s d n Pre base).Inv (fun f W => Pre W) (hit f 8) a' W' → K a' W') : if Region.wanted { dst := some 117, op := Go.Op.load 9 (Go.Operand.tmp 116), type := 9, pos := pos, after := #[{ on := 7, ground := Go.Ground.data }, { on := 2, ground := Go.Ground.guard }], guard := some (2, false) } (yielded ops a.tmps) = true then Oper.wp Tryd.prog { dst := some 117, op := Go.Op.load 9 (Go.Operand.tmp 116), type := 9, pos := pos, after := #[{ on := 7, ground := Go.Ground.data }, { on := 2, ground := Go.Ground.guard }], guard := some (2, false) } a W K Q else K (a.put (some 117) undef) W := by
  have hy : yielded ops a.tmps 2 = some false := yielded_of hgd (by rw [hI.size]; show 111 < 178; decide) (hI.val 2 111 rfl h2)
  have hw : Region.wanted { dst := some 117, op := Go.Op.load 9 (Go.Operand.tmp 116), type := 9, pos := pos, after := #[{ on := 7, ground := Go.Ground.data }, { on := 2, ground := Go.Ground.guard }], guard := some (2, false) } (yielded ops a.tmps) = true := by
    show (yielded ops a.tmps 2 == some false) = true
    rw [hy]
    rfl
  rw [if_pos hw]
  clear hw hy
  have q : a.tmps[116]?.getD undef = .pointer (some ⟨(ad.add (k * 3)).block, (ad.add (k * 3)).off + 1, none⟩) := hI.val 7 116 rfl h7
  have c : W.cell? ⟨(ad.add (k * 3)).block, (ad.add (k * 3)).off + 1, none⟩ = some (.string s) := (E.c W (.inl hI.held)).2.1
  have R := Lib.hid (hI.step (i := 8) (d := 117) (v := .string s) rfl bkc_nodup (show 117 < 178 by decide) rfl hI.held)
  clear hI E hf
  go_simp
  exact hK _ _ R.out

set_option maxRecDepth 100000 in
theorem bkc_9 {len cap len2 cap2 len3 cap3 k id p : Nat} {ad ad2 ad3 : Addr} {s d : ByteArray} {n : Int} {Pre : World → Prop} {base : Array Value} {f : Nat → Bool} {a : Act} {W : World} {K : Act → World → Prop} {Q : Exit → Act → World → Prop} {ops : Array Oper} (E : bkcEnv len cap len2 cap2 len3 cap3 k id p ad ad2 ad3 s d n Pre base) (hI : (bkcTb len cap len2 cap2 len3 cap3 k id p ad ad2 ad3 s d n Pre base).Inv (fun f W => Pre W) f a W) (hf : f 9 = false) (h2 : f 2 = true) (hgd : (ops[2]?).bind (·.dst) = some 111) (pos : String) (hK : ∀ a' W', (bkcTb len cap len2 cap2 len3 cap3 k id p ad ad2 ad3 s d n Pre base).Inv (fun f W => Pre W) (hit f 9) a' W' → K a' W') : if Region.wanted { dst := some 118, op := Go.Op.move (Go.Operand.tmp 0), type := 22, pos := pos, after := #[{ on := 2, ground := Go.Ground.guard }], guard := some (2, false) } (yielded ops a.tmps) = true then Oper.wp Tryd.prog { dst := some 118, op := Go.Op.move (Go.Operand.tmp 0), type := 22, pos := pos, after := #[{ on := 2, ground := Go.Ground.guard }], guard := some (2, false) } a W K Q else K (a.put (some 118) undef) W := by
  have hy : yielded ops a.tmps 2 = some false := yielded_of hgd (by rw [hI.size]; show 111 < 178; decide) (hI.val 2 111 rfl h2)
  have hw : Region.wanted { dst := some 118, op := Go.Op.move (Go.Operand.tmp 0), type := 22, pos := pos, after := #[{ on := 2, ground := Go.Ground.guard }], guard := some (2, false) } (yielded ops a.tmps) = true := by
    show (yielded ops a.tmps 2 == some false) = true
    rw [hy]
    rfl
  rw [if_pos hw]
  clear hw hy
  have q : a.tmps[0]?.getD undef = .slice (some ad) len cap := (hI.base 0 rfl).trans E.b0
  have R := Lib.hid (hI.step (i := 9) (d := 118) (v := .slice (some ad) len cap) rfl bkc_nodup (show 118 < 178 by decide) rfl hI.held)
  clear hI E hf
  go_simp
  exact hK _ _ R.out

set_option maxRecDepth 100000 in
theorem bkc_10 {len cap len2 cap2 len3 cap3 k id p : Nat} {ad ad2 ad3 : Addr} {s d : ByteArray} {n : Int} {Pre : World → Prop} {base : Array Value} {f : Nat → Bool} {a : Act} {W : World} {K : Act → World → Prop} {Q : Exit → Act → World → Prop} {ops : Array Oper} (E : bkcEnv len cap len2 cap2 len3 cap3 k id p ad ad2 ad3 s d n Pre base) (hI : (bkcTb len cap len2 cap2 len3 cap3 k id p ad ad2 ad3 s d n Pre base).Inv (fun f W => Pre W) f a W) (hf : f 10 = false) (h2 : f 2 = true) (hgd : (ops[2]?).bind (·.dst) = some 111) (pos : String) (hK : ∀ a' W', (bkcTb len cap len2 cap2 len3 cap3 k id p ad ad2 ad3 s d n Pre base).Inv (fun f W => Pre W) (hit f 10) a' W' → K a' W') : if Region.wanted { dst := some 119, op := Go.Op.move (Go.Operand.tmp 12), type := 3, pos := pos, after := #[{ on := 2, ground := Go.Ground.guard }], guard := some (2, false) } (yielded ops a.tmps) = true then Oper.wp Tryd.prog { dst := some 119, op := Go.Op.move (Go.Operand.tmp 12), type := 3, pos := pos, after := #[{ on := 2, ground := Go.Ground.guard }], guard := some (2, false) } a W K Q else K (a.put (some 119) undef) W := by
  have hy : yielded ops a.tmps 2 = some false := yielded_of hgd (by rw [hI.size]; show 111 < 178; decide) (hI.val 2 111 rfl h2)
  have hw : Region.wanted { dst := some 119, op := Go.Op.move (Go.Operand.tmp 12), type := 3, pos := pos, after := #[{ on := 2, ground := Go.Ground.guard }], guard := some (2, false) } (yielded ops a.tmps) = true := by
    show (yielded ops a.tmps 2 == some false) = true
    rw [hy]
    rfl
  rw [if_pos hw]
  clear hw hy
  have q : a.tmps[12]?.getD undef = .int .i64 (k : Int) := (hI.base 12 rfl).trans E.b12
  have R := Lib.hid (hI.step (i := 10) (d := 119) (v := .int .i64 (k : Int)) rfl bkc_nodup (show 119 < 178 by decide) rfl hI.held)
  clear hI E hf
  go_simp
  exact hK _ _ R.out

set_option maxRecDepth 100000 in
theorem bkc_11 {len cap len2 cap2 len3 cap3 k id p : Nat} {ad ad2 ad3 : Addr} {s d : ByteArray} {n : Int} {Pre : World → Prop} {base : Array Value} {f : Nat → Bool} {a : Act} {W : World} {K : Act → World → Prop} {Q : Exit → Act → World → Prop} {ops : Array Oper} (E : bkcEnv len cap len2 cap2 len3 cap3 k id p ad ad2 ad3 s d n Pre base) (hI : (bkcTb len cap len2 cap2 len3 cap3 k id p ad ad2 ad3 s d n Pre base).Inv (fun f W => Pre W) f a W) (hf : f 11 = false) (h2 : f 2 = true) (h9 : f 9 = true) (h10 : f 10 = true) (hgd : (ops[2]?).bind (·.dst) = some 111) (pos : String) (hK : ∀ a' W', (bkcTb len cap len2 cap2 len3 cap3 k id p ad ad2 ad3 s d n Pre base).Inv (fun f W => Pre W) (hit f 11) a' W' → K a' W') : if Region.wanted { dst := some 120, op := Go.Op.indexAddr 22 (Go.Operand.tmp 118) (Go.Operand.tmp 119), type := 0, pos := pos, after := #[{ on := 9, ground := Go.Ground.data }, { on := 10, ground := Go.Ground.data }, { on := 2, ground := Go.Ground.guard }], guard := some (2, false) } (yielded ops a.tmps) = true then Oper.wp Tryd.prog { dst := some 120, op := Go.Op.indexAddr 22 (Go.Operand.tmp 118) (Go.Operand.tmp 119), type := 0, pos := pos, after := #[{ on := 9, ground := Go.Ground.data }, { on := 10, ground := Go.Ground.data }, { on := 2, ground := Go.Ground.guard }], guard := some (2, false) } a W K Q else K (a.put (some 120) undef) W := by
  have hy : yielded ops a.tmps 2 = some false := yielded_of hgd (by rw [hI.size]; show 111 < 178; decide) (hI.val 2 111 rfl h2)
  have hw : Region.wanted { dst := some 120, op := Go.Op.indexAddr 22 (Go.Operand.tmp 118) (Go.Operand.tmp 119), type := 0, pos := pos, after := #[{ on := 9, ground := Go.Ground.data }, { on := 10, ground := Go.Ground.data }, { on := 2, ground := Go.Ground.guard }], guard := some (2, false) } (yielded ops a.tmps) = true := by
    show (yielded ops a.tmps 2 == some false) = true
    rw [hy]
    rfl
  rw [if_pos hw]
  clear hw hy
  have y0 : a.tmps[118]?.getD undef = .slice (some ad) len cap := hI.val 9 118 rfl h9
  have y1 : a.tmps[119]?.getD undef = .int .i64 (k : Int) := hI.val 10 119 rfl h10
  have hk := E.kk
  have i0 : (0 : Int) ≤ (k : Int) := by omega
  have i1 : (k : Int) < (len : Int) := by omega
  have R := Lib.hid (hI.step (i := 11) (d := 120) (v := .pointer (some (ad.add (k * 3)))) rfl bkc_nodup (show 120 < 178 by decide) rfl hI.held)
  clear hI E hf
  go_simp
  exact hK _ _ R.out

set_option maxRecDepth 100000 in
theorem bkc_12 {len cap len2 cap2 len3 cap3 k id p : Nat} {ad ad2 ad3 : Addr} {s d : ByteArray} {n : Int} {Pre : World → Prop} {base : Array Value} {f : Nat → Bool} {a : Act} {W : World} {K : Act → World → Prop} {Q : Exit → Act → World → Prop} {ops : Array Oper} (E : bkcEnv len cap len2 cap2 len3 cap3 k id p ad ad2 ad3 s d n Pre base) (hI : (bkcTb len cap len2 cap2 len3 cap3 k id p ad ad2 ad3 s d n Pre base).Inv (fun f W => Pre W) f a W) (hf : f 12 = false) (h2 : f 2 = true) (h11 : f 11 = true) (hgd : (ops[2]?).bind (·.dst) = some 111) (pos : String) (hK : ∀ a' W', (bkcTb len cap len2 cap2 len3 cap3 k id p ad ad2 ad3 s d n Pre base).Inv (fun f W => Pre W) (hit f 12) a' W' → K a' W') : if Region.wanted { dst := some 121, op := Go.Op.fieldAddr 33 (Go.Operand.tmp 120) 2, type := 0, pos := pos, after := #[{ on := 11, ground := Go.Ground.data }, { on := 2, ground := Go.Ground.guard }], guard := some (2, false) } (yielded ops a.tmps) = true then Oper.wp Tryd.prog { dst := some 121, op := Go.Op.fieldAddr 33 (Go.Operand.tmp 120) 2, type := 0, pos := pos, after := #[{ on := 11, ground := Go.Ground.data }, { on := 2, ground := Go.Ground.guard }], guard := some (2, false) } a W K Q else K (a.put (some 121) undef) W := by
  have hy : yielded ops a.tmps 2 = some false := yielded_of hgd (by rw [hI.size]; show 111 < 178; decide) (hI.val 2 111 rfl h2)
  have hw : Region.wanted { dst := some 121, op := Go.Op.fieldAddr 33 (Go.Operand.tmp 120) 2, type := 0, pos := pos, after := #[{ on := 11, ground := Go.Ground.data }, { on := 2, ground := Go.Ground.guard }], guard := some (2, false) } (yielded ops a.tmps) = true := by
    show (yielded ops a.tmps 2 == some false) = true
    rw [hy]
    rfl
  rw [if_pos hw]
  clear hw hy
  have q : a.tmps[120]?.getD undef = .pointer (some (ad.add (k * 3))) := hI.val 11 120 rfl h11
  have R := Lib.hid (hI.step (i := 12) (d := 121) (v := .pointer (some ⟨(ad.add (k * 3)).block, (ad.add (k * 3)).off + 2, none⟩)) rfl bkc_nodup (show 121 < 178 by decide) rfl hI.held)
  clear hI E hf
  go_simp
  exact hK _ _ R.out

set_option maxRecDepth 100000 in
theorem bkc_13 {len cap len2 cap2 len3 cap3 k id p : Nat} {ad ad2 ad3 : Addr} {s d : ByteArray} {n : Int} {Pre : World → Prop} {base : Array Value} {f : Nat → Bool} {a : Act} {W : World} {K : Act → World → Prop} {Q : Exit → Act → World → Prop} {ops : Array Oper} (E : bkcEnv len cap len2 cap2 len3 cap3 k id p ad ad2 ad3 s d n Pre base) (hI : (bkcTb len cap len2 cap2 len3 cap3 k id p ad ad2 ad3 s d n Pre base).Inv (fun f W => Pre W) f a W) (hf : f 13 = false) (h2 : f 2 = true) (h12 : f 12 = true) (hgd : (ops[2]?).bind (·.dst) = some 111) (pos : String) (hK : ∀ a' W', (bkcTb len cap len2 cap2 len3 cap3 k id p ad ad2 ad3 s d n Pre base).Inv (fun f W => Pre W) (hit f 13) a' W' → K a' W') : if Region.wanted { dst := some 122, op := Go.Op.load 3 (Go.Operand.tmp 121), type := 3, pos := pos, after := #[{ on := 12, ground := Go.Ground.data }, { on := 2, ground := Go.Ground.guard }], guard := some (2, false) } (yielded ops a.tmps) = true then Oper.wp Tryd.prog { dst := some 122, op := Go.Op.load 3 (Go.Operand.tmp 121), type := 3, pos := pos, after := #[{ on := 12, ground := Go.Ground.data }, { on := 2, ground := Go.Ground.guard }], guard := some (2, false) } a W K Q else K (a.put (some 122) undef) W := by
  have hy : yielded ops a.tmps 2 = some false := yielded_of hgd (by rw [hI.size]; show 111 < 178; decide) (hI.val 2 111 rfl h2)
  have hw : Region.wanted { dst := some 122, op := Go.Op.load 3 (Go.Operand.tmp 121), type := 3, pos := pos, after := #[{ on := 12, ground := Go.Ground.data }, { on := 2, ground := Go.Ground.guard }], guard := some (2, false) } (yielded ops a.tmps) = true := by
    show (yielded ops a.tmps 2 == some false) = true
    rw [hy]
    rfl
  rw [if_pos hw]
  clear hw hy
  have q : a.tmps[121]?.getD undef = .pointer (some ⟨(ad.add (k * 3)).block, (ad.add (k * 3)).off + 2, none⟩) := hI.val 12 121 rfl h12
  have c : W.cell? ⟨(ad.add (k * 3)).block, (ad.add (k * 3)).off + 2, none⟩ = some (.int .i64 n) := (E.c W (.inl hI.held)).2.2.1
  have R := Lib.hid (hI.step (i := 13) (d := 122) (v := .int .i64 n) rfl bkc_nodup (show 122 < 178 by decide) rfl hI.held)
  clear hI E hf
  go_simp
  exact hK _ _ R.out

set_option maxRecDepth 100000 in
theorem bkc_14 {len cap len2 cap2 len3 cap3 k id p : Nat} {ad ad2 ad3 : Addr} {s d : ByteArray} {n : Int} {Pre : World → Prop} {base : Array Value} {f : Nat → Bool} {a : Act} {W : World} {K : Act → World → Prop} {Q : Exit → Act → World → Prop} {ops : Array Oper} (E : bkcEnv len cap len2 cap2 len3 cap3 k id p ad ad2 ad3 s d n Pre base) (hI : (bkcTb len cap len2 cap2 len3 cap3 k id p ad ad2 ad3 s d n Pre base).Inv (fun f W => Pre W) f a W) (hf : f 14 = false) (h2 : f 2 = true) (h8 : f 8 = true) (h13 : f 13 = true) (hgd : (ops[2]?).bind (·.dst) = some 111) (pos : String) (hK : ∀ a' W', (bkcTb len cap len2 cap2 len3 cap3 k id p ad ad2 ad3 s d n Pre base).Inv (fun f W => Pre W) (hit f 14) a' W' → K a' W') : if Region.wanted { dst := some 123, op := Go.Op.call { callee := Go.Callee.value (Go.Operand.func 15), args := #[Go.Operand.tmp 117, Go.Operand.tmp 122], argTypes := #[9, 3] }, type := 9, pos := pos, after := #[{ on := 8, ground := Go.Ground.data }, { on := 13, ground := Go.Ground.data }, { on := 2, ground := Go.Ground.chain }, { on := 2, ground := Go.Ground.guard }], guard := some (2, false) } (yielded ops a.tmps) = true then Oper.wp Tryd.prog { dst := some 123, op := Go.Op.call { callee := Go.Callee.value (Go.Operand.func 15), args := #[Go.Operand.tmp 117, Go.Operand.tmp 122], argTypes := #[9, 3] }, type := 9, pos := pos, after := #[{ on := 8, ground := Go.Ground.data }, { on := 13, ground := Go.Ground.data }, { on := 2, ground := Go.Ground.chain }, { on := 2, ground := Go.Ground.guard }], guard := some (2, false) } a W K Q else K (a.put (some 123) undef) W := by
  have hy : yielded ops a.tmps 2 = some false := yielded_of hgd (by rw [hI.size]; show 111 < 178; decide) (hI.val 2 111 rfl h2)
  have hw : Region.wanted { dst := some 123, op := Go.Op.call { callee := Go.Callee.value (Go.Operand.func 15), args := #[Go.Operand.tmp 117, Go.Operand.tmp 122], argTypes := #[9, 3] }, type := 9, pos := pos, after := #[{ on := 8, ground := Go.Ground.data }, { on := 13, ground := Go.Ground.data }, { on := 2, ground := Go.Ground.chain }, { on := 2, ground := Go.Ground.guard }], guard := some (2, false) } (yielded ops a.tmps) = true := by
    show (yielded ops a.tmps 2 == some false) = true
    rw [hy]
    rfl
  rw [if_pos hw]
  clear hw hy
  have y0 : a.tmps[117]?.getD undef = .string s := hI.val 8 117 rfl h8
  have y1 : a.tmps[122]?.getD undef = .int .i64 n := hI.val 13 122 rfl h13
  have hC := E.lo W
  have HR := Lib.hid (hI.step (i := 14) (d := 123) (v := .string d) rfl bkc_nodup (show 123 < 178 by decide) rfl hI.held)
  clear hI E hf
  go_simp
  refine hC.mono ?_
  rintro e W1 ⟨rfl, rfl⟩
  exact hK _ _ HR.out

set_option maxRecDepth 100000 in
theorem bkc_15 {len cap len2 cap2 len3 cap3 k id p : Nat} {ad ad2 ad3 : Addr} {s d : ByteArray} {n : Int} {Pre : World → Prop} {base : Array Value} {f : Nat → Bool} {a : Act} {W : World} {K : Act → World → Prop} {Q : Exit → Act → World → Prop} {ops : Array Oper} (E : bkcEnv len cap len2 cap2 len3 cap3 k id p ad ad2 ad3 s d n Pre base) (hI : (bkcTb len cap len2 cap2 len3 cap3 k id p ad ad2 ad3 s d n Pre base).Inv (fun f W => Pre W) f a W) (hf : f 15 = false) (h2 : f 2 = true) (h3 : f 3 = true) (h14 : f 14 = true) (hgd : (ops[2]?).bind (·.dst) = some 111) (pos : String) (hK : ∀ a' W', (bkcTb len cap len2 cap2 len3 cap3 k id p ad ad2 ad3 s d n Pre base).Inv (fun f W => Pre W) (hit f 15) a' W' → K a' W') : if Region.wanted { dst := some 124, op := Go.Op.binOp Go.BinOp.neq 9 (Go.Operand.tmp 112) (Go.Operand.tmp 123) 9, type := 4, pos := pos, after := #[{ on := 3, ground := Go.Ground.data }, { on := 14, ground := Go.Ground.data }, { on := 2, ground := Go.Ground.guard }], guard := some (2, false) } (yielded ops a.tmps) = true then Oper.wp Tryd.prog { dst := some 124, op := Go.Op.binOp Go.BinOp.neq 9 (Go.Operand.tmp 112) (Go.Operand.tmp 123) 9, type := 4, pos := pos, after := #[{ on := 3, ground := Go.Ground.data }, { on := 14, ground := Go.Ground.data }, { on := 2, ground := Go.Ground.guard }], guard := some (2, false) } a W K Q else K (a.put (some 124) undef) W := by
  have hy : yielded ops a.tmps 2 = some false := yielded_of hgd (by rw [hI.size]; show 111 < 178; decide) (hI.val 2 111 rfl h2)
  have hw : Region.wanted { dst := some 124, op := Go.Op.binOp Go.BinOp.neq 9 (Go.Operand.tmp 112) (Go.Operand.tmp 123) 9, type := 4, pos := pos, after := #[{ on := 3, ground := Go.Ground.data }, { on := 14, ground := Go.Ground.data }, { on := 2, ground := Go.Ground.guard }], guard := some (2, false) } (yielded ops a.tmps) = true := by
    show (yielded ops a.tmps 2 == some false) = true
    rw [hy]
    rfl
  rw [if_pos hw]
  clear hw hy
  have y0 : a.tmps[112]?.getD undef = .string d := hI.val 3 112 rfl h3
  have y1 : a.tmps[123]?.getD undef = .string d := hI.val 14 123 rfl h14
  have hz : (!d.toList == d.toList) = false := by simp
  have R := Lib.hid (hI.step (i := 15) (d := 124) (v := .bool false) rfl bkc_nodup (show 124 < 178 by decide) rfl hI.held)
  clear hI E hf
  go_simp
  exact hK _ _ R.out

set_option maxRecDepth 100000 in
theorem bkc_16 {len cap len2 cap2 len3 cap3 k id p : Nat} {ad ad2 ad3 : Addr} {s d : ByteArray} {n : Int} {Pre : World → Prop} {base : Array Value} {f : Nat → Bool} {a : Act} {W : World} {K : Act → World → Prop} {Q : Exit → Act → World → Prop} {ops : Array Oper} (E : bkcEnv len cap len2 cap2 len3 cap3 k id p ad ad2 ad3 s d n Pre base) (hI : (bkcTb len cap len2 cap2 len3 cap3 k id p ad ad2 ad3 s d n Pre base).Inv (fun f W => Pre W) f a W) (hf : f 16 = false) (h2 : f 2 = true) (h15 : f 15 = true) (pos : String) (hK : ∀ a' W', (bkcTb len cap len2 cap2 len3 cap3 k id p ad ad2 ad3 s d n Pre base).Inv (fun f W => Pre W) (hit f 16) a' W' → K a' W') : if Region.wanted { dst := some 125, op := Go.Op.pick (Go.Operand.tmp 111) (Go.Operand.const (Go.Value.bool true)) (Go.Operand.tmp 124), type := 4, pos := pos, after := #[{ on := 2, ground := Go.Ground.data }, { on := 15, ground := Go.Ground.data }], guard := none } (yielded ops a.tmps) = true then Oper.wp Tryd.prog { dst := some 125, op := Go.Op.pick (Go.Operand.tmp 111) (Go.Operand.const (Go.Value.bool true)) (Go.Operand.tmp 124), type := 4, pos := pos, after := #[{ on := 2, ground := Go.Ground.data }, { on := 15, ground := Go.Ground.data }], guard := none } a W K Q else K (a.put (some 125) undef) W := by
  have y0 : a.tmps[111]?.getD undef = .bool false := hI.val 2 111 rfl h2
  have y2 : a.tmps[124]?.getD undef = .bool false := hI.val 15 124 rfl h15
  have R := Lib.hid (hI.step (i := 16) (d := 125) (v := .bool false) rfl bkc_nodup (show 125 < 178 by decide) rfl hI.held)
  clear hI E hf
  go_simp
  exact hK _ _ R.out

set_option maxRecDepth 100000 in
theorem bkc_17 {len cap len2 cap2 len3 cap3 k id p : Nat} {ad ad2 ad3 : Addr} {s d : ByteArray} {n : Int} {Pre : World → Prop} {base : Array Value} {f : Nat → Bool} {a : Act} {W : World} {K : Act → World → Prop} {Q : Exit → Act → World → Prop} {ops : Array Oper} (E : bkcEnv len cap len2 cap2 len3 cap3 k id p ad ad2 ad3 s d n Pre base) (hI : (bkcTb len cap len2 cap2 len3 cap3 k id p ad ad2 ad3 s d n Pre base).Inv (fun f W => Pre W) f a W) (hf : f 17 = false) (h14 : f 14 = true) (h16 : f 16 = true) (pos : String) (hK : ∀ a' W', (bkcTb len cap len2 cap2 len3 cap3 k id p ad ad2 ad3 s d n Pre base).Inv (fun f W => Pre W) (hit f 17) a' W' → K a' W') : if Region.wanted { dst := some 126, op := Go.Op.move (Go.Operand.tmp 125), type := 4, pos := pos, after := #[{ on := 16, ground := Go.Ground.data }, { on := 14, ground := Go.Ground.chain }], guard := none } (yielded ops a.tmps) = true then Oper.wp Tryd.prog { dst := some 126, op := Go.Op.move (Go.Operand.tmp 125), type := 4, pos := pos, after := #[{ on := 16, ground := Go.Ground.data }, { on := 14, ground := Go.Ground.chain }], guard := none } a W K Q else K (a.put (some 126) undef) W := by
  have q : a.tmps[125]?.getD undef = .bool false := hI.val 16 125 rfl h16
  have R := Lib.hid (hI.step (i := 17) (d := 126) (v := .bool false) rfl bkc_nodup (show 126 < 178 by decide) rfl hI.held)
  clear hI E hf
  go_simp
  exact hK _ _ R.out

set_option maxRecDepth 100000 in
theorem bkc_18 {len cap len2 cap2 len3 cap3 k id p : Nat} {ad ad2 ad3 : Addr} {s d : ByteArray} {n : Int} {Pre : World → Prop} {base : Array Value} {f : Nat → Bool} {a : Act} {W : World} {K : Act → World → Prop} {Q : Exit → Act → World → Prop} {ops : Array Oper} (E : bkcEnv len cap len2 cap2 len3 cap3 k id p ad ad2 ad3 s d n Pre base) (hI : (bkcTb len cap len2 cap2 len3 cap3 k id p ad ad2 ad3 s d n Pre base).Inv (fun f W => Pre W) f a W) (hf : f 18 = false) (h17 : f 17 = true) (hgd : (ops[17]?).bind (·.dst) = some 126) (pos : String) (hK : ∀ a' W', (bkcTb len cap len2 cap2 len3 cap3 k id p ad ad2 ad3 s d n Pre base).Inv (fun f W => Pre W) (hit f 18) a' W' → K a' W') : if Region.wanted { dst := some 127, op := Go.Op.move (Go.Operand.tmp 9), type := 35, pos := pos, after := #[{ on := 17, ground := Go.Ground.guard }], guard := some (17, false) } (yielded ops a.tmps) = true then Oper.wp Tryd.prog { dst := some 127, op := Go.Op.move (Go.Operand.tmp 9), type := 35, pos := pos, after := #[{ on := 17, ground := Go.Ground.guard }], guard := some (17, false) } a W K Q else K (a.put (some 127) undef) W := by
  have hy : yielded ops a.tmps 17 = some false := yielded_of hgd (by rw [hI.size]; show 126 < 178; decide) (hI.val 17 126 rfl h17)
  have hw : Region.wanted { dst := some 127, op := Go.Op.move (Go.Operand.tmp 9), type := 35, pos := pos, after := #[{ on := 17, ground := Go.Ground.guard }], guard := some (17, false) } (yielded ops a.tmps) = true := by
    show (yielded ops a.tmps 17 == some false) = true
    rw [hy]
    rfl
  rw [if_pos hw]
  clear hw hy
  have q : a.tmps[9]?.getD undef = .slice (some ad3) len3 cap3 := (hI.base 9 rfl).trans E.b9
  have R := Lib.hid (hI.step (i := 18) (d := 127) (v := .slice (some ad3) len3 cap3) rfl bkc_nodup (show 127 < 178 by decide) rfl hI.held)
  clear hI E hf
  go_simp
  exact hK _ _ R.out

set_option maxRecDepth 100000 in
theorem bkc_19 {len cap len2 cap2 len3 cap3 k id p : Nat} {ad ad2 ad3 : Addr} {s d : ByteArray} {n : Int} {Pre : World → Prop} {base : Array Value} {f : Nat → Bool} {a : Act} {W : World} {K : Act → World → Prop} {Q : Exit → Act → World → Prop} {ops : Array Oper} (E : bkcEnv len cap len2 cap2 len3 cap3 k id p ad ad2 ad3 s d n Pre base) (hI : (bkcTb len cap len2 cap2 len3 cap3 k id p ad ad2 ad3 s d n Pre base).Inv (fun f W => Pre W) f a W) (hf : f 19 = false) (h17 : f 17 = true) (hgd : (ops[17]?).bind (·.dst) = some 126) (pos : String) (hK : ∀ a' W', (bkcTb len cap len2 cap2 len3 cap3 k id p ad ad2 ad3 s d n Pre base).Inv (fun f W => Pre W) (hit f 19) a' W' → K a' W') : if Region.wanted { dst := some 128, op := Go.Op.move (Go.Operand.tmp 12), type := 3, pos := pos, after := #[{ on := 17, ground := Go.Ground.guard }], guard := some (17, false) } (yielded ops a.tmps) = true then Oper.wp Tryd.prog { dst := some 128, op := Go.Op.move (Go.Operand.tmp 12), type := 3, pos := pos, after := #[{ on := 17, ground := Go.Ground.guard }], guard := some (17, false) } a W K Q else K (a.put (some 128) undef) W := by
  have hy : yielded ops a.tmps 17 = some false := yielded_of hgd (by rw [hI.size]; show 126 < 178; decide) (hI.val 17 126 rfl h17)
  have hw : Region.wanted { dst := some 128, op := Go.Op.move (Go.Operand.tmp 12), type := 3, pos := pos, after := #[{ on := 17, ground := Go.Ground.guard }], guard := some (17, false) } (yielded ops a.tmps) = true := by
    show (yielded ops a.tmps 17 == some false) = true
    rw [hy]
    rfl
  rw [if_pos hw]
  clear hw hy
  have q : a.tmps[12]?.getD undef = .int .i64 (k : Int) := (hI.base 12 rfl).trans E.b12
  have R := Lib.hid (hI.step (i := 19) (d := 128) (v := .int .i64 (k : Int)) rfl bkc_nodup (show 128 < 178 by decide) rfl hI.held)
  clear hI E hf
  go_simp
  exact hK _ _ R.out

set_option maxRecDepth 100000 in
theorem bkc_20 {len cap len2 cap2 len3 cap3 k id p : Nat} {ad ad2 ad3 : Addr} {s d : ByteArray} {n : Int} {Pre : World → Prop} {base : Array Value} {f : Nat → Bool} {a : Act} {W : World} {K : Act → World → Prop} {Q : Exit → Act → World → Prop} {ops : Array Oper} (E : bkcEnv len cap len2 cap2 len3 cap3 k id p ad ad2 ad3 s d n Pre base) (hI : (bkcTb len cap len2 cap2 len3 cap3 k id p ad ad2 ad3 s d n Pre base).Inv (fun f W => Pre W) f a W) (hf : f 20 = false) (h17 : f 17 = true) (h18 : f 18 = true) (h19 : f 19 = true) (hgd : (ops[17]?).bind (·.dst) = some 126) (pos : String) (hK : ∀ a' W', (bkcTb len cap len2 cap2 len3 cap3 k id p ad ad2 ad3 s d n Pre base).Inv (fun f W => Pre W) (hit f 20) a' W' → K a' W') : if Region.wanted { dst := some 129, op := Go.Op.indexAddr 35 (Go.Operand.tmp 127) (Go.Operand.tmp 128), type := 0, pos := pos, after := #[{ on := 18, ground := Go.Ground.data }, { on := 19, ground := Go.Ground.data }, { on := 17, ground := Go.Ground.guard }], guard := some (17, false) } (yielded ops a.tmps) = true then Oper.wp Tryd.prog { dst := some 129, op := Go.Op.indexAddr 35 (Go.Operand.tmp 127) (Go.Operand.tmp 128), type := 0, pos := pos, after := #[{ on := 18, ground := Go.Ground.data }, { on := 19, ground := Go.Ground.data }, { on := 17, ground := Go.Ground.guard }], guard := some (17, false) } a W K Q else K (a.put (some 129) undef) W := by
  have hy : yielded ops a.tmps 17 = some false := yielded_of hgd (by rw [hI.size]; show 126 < 178; decide) (hI.val 17 126 rfl h17)
  have hw : Region.wanted { dst := some 129, op := Go.Op.indexAddr 35 (Go.Operand.tmp 127) (Go.Operand.tmp 128), type := 0, pos := pos, after := #[{ on := 18, ground := Go.Ground.data }, { on := 19, ground := Go.Ground.data }, { on := 17, ground := Go.Ground.guard }], guard := some (17, false) } (yielded ops a.tmps) = true := by
    show (yielded ops a.tmps 17 == some false) = true
    rw [hy]
    rfl
  rw [if_pos hw]
  clear hw hy
  have y0 : a.tmps[127]?.getD undef = .slice (some ad3) len3 cap3 := hI.val 18 127 rfl h18
  have y1 : a.tmps[128]?.getD undef = .int .i64 (k : Int) := hI.val 19 128 rfl h19
  have hk := E.kk3
  have i0 : (0 : Int) ≤ (k : Int) := by omega
  have i1 : (k : Int) < (len3 : Int) := by omega
  have R := Lib.hid (hI.step (i := 20) (d := 129) (v := .pointer (some (ad3.add (k * 3)))) rfl bkc_nodup (show 129 < 178 by decide) rfl hI.held)
  clear hI E hf
  go_simp
  exact hK _ _ R.out

set_option maxRecDepth 100000 in
theorem bkc_21 {len cap len2 cap2 len3 cap3 k id p : Nat} {ad ad2 ad3 : Addr} {s d : ByteArray} {n : Int} {Pre : World → Prop} {base : Array Value} {f : Nat → Bool} {a : Act} {W : World} {K : Act → World → Prop} {Q : Exit → Act → World → Prop} {ops : Array Oper} (E : bkcEnv len cap len2 cap2 len3 cap3 k id p ad ad2 ad3 s d n Pre base) (hI : (bkcTb len cap len2 cap2 len3 cap3 k id p ad ad2 ad3 s d n Pre base).Inv (fun f W => Pre W) f a W) (hf : f 21 = false) (h17 : f 17 = true) (h20 : f 20 = true) (hgd : (ops[17]?).bind (·.dst) = some 126) (pos : String) (hK : ∀ a' W', (bkcTb len cap len2 cap2 len3 cap3 k id p ad ad2 ad3 s d n Pre base).Inv (fun f W => Pre W) (hit f 21) a' W' → K a' W') : if Region.wanted { dst := some 130, op := Go.Op.fieldAddr 42 (Go.Operand.tmp 129) 0, type := 0, pos := pos, after := #[{ on := 20, ground := Go.Ground.data }, { on := 17, ground := Go.Ground.guard }], guard := some (17, false) } (yielded ops a.tmps) = true then Oper.wp Tryd.prog { dst := some 130, op := Go.Op.fieldAddr 42 (Go.Operand.tmp 129) 0, type := 0, pos := pos, after := #[{ on := 20, ground := Go.Ground.data }, { on := 17, ground := Go.Ground.guard }], guard := some (17, false) } a W K Q else K (a.put (some 130) undef) W := by
  have hy : yielded ops a.tmps 17 = some false := yielded_of hgd (by rw [hI.size]; show 126 < 178; decide) (hI.val 17 126 rfl h17)
  have hw : Region.wanted { dst := some 130, op := Go.Op.fieldAddr 42 (Go.Operand.tmp 129) 0, type := 0, pos := pos, after := #[{ on := 20, ground := Go.Ground.data }, { on := 17, ground := Go.Ground.guard }], guard := some (17, false) } (yielded ops a.tmps) = true := by
    show (yielded ops a.tmps 17 == some false) = true
    rw [hy]
    rfl
  rw [if_pos hw]
  clear hw hy
  have q : a.tmps[129]?.getD undef = .pointer (some (ad3.add (k * 3))) := hI.val 20 129 rfl h20
  have R := Lib.hid (hI.step (i := 21) (d := 130) (v := .pointer (some (ad3.add (k * 3)))) rfl bkc_nodup (show 130 < 178 by decide) rfl hI.held)
  clear hI E hf
  go_simp
  exact hK _ _ R.out

set_option maxRecDepth 100000 in
theorem bkc_22 {len cap len2 cap2 len3 cap3 k id p : Nat} {ad ad2 ad3 : Addr} {s d : ByteArray} {n : Int} {Pre : World → Prop} {base : Array Value} {f : Nat → Bool} {a : Act} {W : World} {K : Act → World → Prop} {Q : Exit → Act → World → Prop} {ops : Array Oper} (E : bkcEnv len cap len2 cap2 len3 cap3 k id p ad ad2 ad3 s d n Pre base) (hI : (bkcTb len cap len2 cap2 len3 cap3 k id p ad ad2 ad3 s d n Pre base).Inv (fun f W => Pre W) f a W) (hf : f 22 = false) (h17 : f 17 = true) (h21 : f 21 = true) (hgd : (ops[17]?).bind (·.dst) = some 126) (pos : String) (hK : ∀ a' W', (bkcTb len cap len2 cap2 len3 cap3 k id p ad ad2 ad3 s d n Pre base).Inv (fun f W => Pre W) (hit f 22) a' W' → K a' W') : if Region.wanted { dst := some 131, op := Go.Op.load 31 (Go.Operand.tmp 130), type := 31, pos := pos, after := #[{ on := 21, ground := Go.Ground.data }, { on := 17, ground := Go.Ground.guard }], guard := some (17, false) } (yielded ops a.tmps) = true then Oper.wp Tryd.prog { dst := some 131, op := Go.Op.load 31 (Go.Operand.tmp 130), type := 31, pos := pos, after := #[{ on := 21, ground := Go.Ground.data }, { on := 17, ground := Go.Ground.guard }], guard := some (17, false) } a W K Q else K (a.put (some 131) undef) W := by
  have hy : yielded ops a.tmps 17 = some false := yielded_of hgd (by rw [hI.size]; show 126 < 178; decide) (hI.val 17 126 rfl h17)
  have hw : Region.wanted { dst := some 131, op := Go.Op.load 31 (Go.Operand.tmp 130), type := 31, pos := pos, after := #[{ on := 21, ground := Go.Ground.data }, { on := 17, ground := Go.Ground.guard }], guard := some (17, false) } (yielded ops a.tmps) = true := by
    show (yielded ops a.tmps 17 == some false) = true
    rw [hy]
    rfl
  rw [if_pos hw]
  clear hw hy
  have q : a.tmps[130]?.getD undef = .pointer (some (ad3.add (k * 3))) := hI.val 21 130 rfl h21
  have c : W.cell? (ad3.add (k * 3)) = some (.int .u64 (id : Int)) := (E.c W (.inl hI.held)).2.2.2.2.1
  have R := Lib.hid (hI.step (i := 22) (d := 131) (v := .int .u64 (id : Int)) rfl bkc_nodup (show 131 < 178 by decide) rfl hI.held)
  clear hI E hf
  go_simp
  exact hK _ _ R.out

set_option maxRecDepth 100000 in
theorem bkc_23 {len cap len2 cap2 len3 cap3 k id p : Nat} {ad ad2 ad3 : Addr} {s d : ByteArray} {n : Int} {Pre : World → Prop} {base : Array Value} {f : Nat → Bool} {a : Act} {W : World} {K : Act → World → Prop} {Q : Exit → Act → World → Prop} {ops : Array Oper} (E : bkcEnv len cap len2 cap2 len3 cap3 k id p ad ad2 ad3 s d n Pre base) (hI : (bkcTb len cap len2 cap2 len3 cap3 k id p ad ad2 ad3 s d n Pre base).Inv (fun f W => Pre W) f a W) (hf : f 23 = false) (h17 : f 17 = true) (hgd : (ops[17]?).bind (·.dst) = some 126) (pos : String) (hK : ∀ a' W', (bkcTb len cap len2 cap2 len3 cap3 k id p ad ad2 ad3 s d n Pre base).Inv (fun f W => Pre W) (hit f 23) a' W' → K a' W') : if Region.wanted { dst := some 132, op := Go.Op.move (Go.Operand.tmp 0), type := 22, pos := pos, after := #[{ on := 17, ground := Go.Ground.guard }], guard := some (17, false) } (yielded ops a.tmps) = true then Oper.wp Tryd.prog { dst := some 132, op := Go.Op.move (Go.Operand.tmp 0), type := 22, pos := pos, after := #[{ on := 17, ground := Go.Ground.guard }], guard := some (17, false) } a W K Q else K (a.put (some 132) undef) W := by
  have hy : yielded ops a.tmps 17 = some false := yielded_of hgd (by rw [hI.size]; show 126 < 178; decide) (hI.val 17 126 rfl h17)
  have hw : Region.wanted { dst := some 132, op := Go.Op.move (Go.Operand.tmp 0), type := 22, pos := pos, after := #[{ on := 17, ground := Go.Ground.guard }], guard := some (17, false) } (yielded ops a.tmps) = true := by
    show (yielded ops a.tmps 17 == some false) = true
    rw [hy]
    rfl
  rw [if_pos hw]
  clear hw hy
  have q : a.tmps[0]?.getD undef = .slice (some ad) len cap := (hI.base 0 rfl).trans E.b0
  have R := Lib.hid (hI.step (i := 23) (d := 132) (v := .slice (some ad) len cap) rfl bkc_nodup (show 132 < 178 by decide) rfl hI.held)
  clear hI E hf
  go_simp
  exact hK _ _ R.out

set_option maxRecDepth 100000 in
theorem bkc_24 {len cap len2 cap2 len3 cap3 k id p : Nat} {ad ad2 ad3 : Addr} {s d : ByteArray} {n : Int} {Pre : World → Prop} {base : Array Value} {f : Nat → Bool} {a : Act} {W : World} {K : Act → World → Prop} {Q : Exit → Act → World → Prop} {ops : Array Oper} (E : bkcEnv len cap len2 cap2 len3 cap3 k id p ad ad2 ad3 s d n Pre base) (hI : (bkcTb len cap len2 cap2 len3 cap3 k id p ad ad2 ad3 s d n Pre base).Inv (fun f W => Pre W) f a W) (hf : f 24 = false) (h17 : f 17 = true) (hgd : (ops[17]?).bind (·.dst) = some 126) (pos : String) (hK : ∀ a' W', (bkcTb len cap len2 cap2 len3 cap3 k id p ad ad2 ad3 s d n Pre base).Inv (fun f W => Pre W) (hit f 24) a' W' → K a' W') : if Region.wanted { dst := some 133, op := Go.Op.move (Go.Operand.tmp 12), type := 3, pos := pos, after := #[{ on := 17, ground := Go.Ground.guard }], guard := some (17, false) } (yielded ops a.tmps) = true then Oper.wp Tryd.prog { dst := some 133, op := Go.Op.move (Go.Operand.tmp 12), type := 3, pos := pos, after := #[{ on := 17, ground := Go.Ground.guard }], guard := some (17, false) } a W K Q else K (a.put (some 133) undef) W := by
  have hy : yielded ops a.tmps 17 = some false := yielded_of hgd (by rw [hI.size]; show 126 < 178; decide) (hI.val 17 126 rfl h17)
  have hw : Region.wanted { dst := some 133, op := Go.Op.move (Go.Operand.tmp 12), type := 3, pos := pos, after := #[{ on := 17, ground := Go.Ground.guard }], guard := some (17, false) } (yielded ops a.tmps) = true := by
    show (yielded ops a.tmps 17 == some false) = true
    rw [hy]
    rfl
  rw [if_pos hw]
  clear hw hy
  have q : a.tmps[12]?.getD undef = .int .i64 (k : Int) := (hI.base 12 rfl).trans E.b12
  have R := Lib.hid (hI.step (i := 24) (d := 133) (v := .int .i64 (k : Int)) rfl bkc_nodup (show 133 < 178 by decide) rfl hI.held)
  clear hI E hf
  go_simp
  exact hK _ _ R.out

set_option maxRecDepth 100000 in
theorem bkc_25 {len cap len2 cap2 len3 cap3 k id p : Nat} {ad ad2 ad3 : Addr} {s d : ByteArray} {n : Int} {Pre : World → Prop} {base : Array Value} {f : Nat → Bool} {a : Act} {W : World} {K : Act → World → Prop} {Q : Exit → Act → World → Prop} {ops : Array Oper} (E : bkcEnv len cap len2 cap2 len3 cap3 k id p ad ad2 ad3 s d n Pre base) (hI : (bkcTb len cap len2 cap2 len3 cap3 k id p ad ad2 ad3 s d n Pre base).Inv (fun f W => Pre W) f a W) (hf : f 25 = false) (h17 : f 17 = true) (h23 : f 23 = true) (h24 : f 24 = true) (hgd : (ops[17]?).bind (·.dst) = some 126) (pos : String) (hK : ∀ a' W', (bkcTb len cap len2 cap2 len3 cap3 k id p ad ad2 ad3 s d n Pre base).Inv (fun f W => Pre W) (hit f 25) a' W' → K a' W') : if Region.wanted { dst := some 134, op := Go.Op.indexAddr 22 (Go.Operand.tmp 132) (Go.Operand.tmp 133), type := 0, pos := pos, after := #[{ on := 23, ground := Go.Ground.data }, { on := 24, ground := Go.Ground.data }, { on := 17, ground := Go.Ground.guard }], guard := some (17, false) } (yielded ops a.tmps) = true then Oper.wp Tryd.prog { dst := some 134, op := Go.Op.indexAddr 22 (Go.Operand.tmp 132) (Go.Operand.tmp 133), type := 0, pos := pos, after := #[{ on := 23, ground := Go.Ground.data }, { on := 24, ground := Go.Ground.data }, { on := 17, ground := Go.Ground.guard }], guard := some (17, false) } a W K Q else K (a.put (some 134) undef) W := by
  have hy : yielded ops a.tmps 17 = some false := yielded_of hgd (by rw [hI.size]; show 126 < 178; decide) (hI.val 17 126 rfl h17)
  have hw : Region.wanted { dst := some 134, op := Go.Op.indexAddr 22 (Go.Operand.tmp 132) (Go.Operand.tmp 133), type := 0, pos := pos, after := #[{ on := 23, ground := Go.Ground.data }, { on := 24, ground := Go.Ground.data }, { on := 17, ground := Go.Ground.guard }], guard := some (17, false) } (yielded ops a.tmps) = true := by
    show (yielded ops a.tmps 17 == some false) = true
    rw [hy]
    rfl
  rw [if_pos hw]
  clear hw hy
  have y0 : a.tmps[132]?.getD undef = .slice (some ad) len cap := hI.val 23 132 rfl h23
  have y1 : a.tmps[133]?.getD undef = .int .i64 (k : Int) := hI.val 24 133 rfl h24
  have hk := E.kk
  have i0 : (0 : Int) ≤ (k : Int) := by omega
  have i1 : (k : Int) < (len : Int) := by omega
  have R := Lib.hid (hI.step (i := 25) (d := 134) (v := .pointer (some (ad.add (k * 3)))) rfl bkc_nodup (show 134 < 178 by decide) rfl hI.held)
  clear hI E hf
  go_simp
  exact hK _ _ R.out

set_option maxRecDepth 100000 in
theorem bkc_26 {len cap len2 cap2 len3 cap3 k id p : Nat} {ad ad2 ad3 : Addr} {s d : ByteArray} {n : Int} {Pre : World → Prop} {base : Array Value} {f : Nat → Bool} {a : Act} {W : World} {K : Act → World → Prop} {Q : Exit → Act → World → Prop} {ops : Array Oper} (E : bkcEnv len cap len2 cap2 len3 cap3 k id p ad ad2 ad3 s d n Pre base) (hI : (bkcTb len cap len2 cap2 len3 cap3 k id p ad ad2 ad3 s d n Pre base).Inv (fun f W => Pre W) f a W) (hf : f 26 = false) (h17 : f 17 = true) (h25 : f 25 = true) (hgd : (ops[17]?).bind (·.dst) = some 126) (pos : String) (hK : ∀ a' W', (bkcTb len cap len2 cap2 len3 cap3 k id p ad ad2 ad3 s d n Pre base).Inv (fun f W => Pre W) (hit f 26) a' W' → K a' W') : if Region.wanted { dst := some 135, op := Go.Op.fieldAddr 33 (Go.Operand.tmp 134) 0, type := 0, pos := pos, after := #[{ on := 25, ground := Go.Ground.data }, { on := 17, ground := Go.Ground.guard }], guard := some (17, false) } (yielded ops a.tmps) = true then Oper.wp Tryd.prog { dst := some 135, op := Go.Op.fieldAddr 33 (Go.Operand.tmp 134) 0, type := 0, pos := pos, after := #[{ on := 25, ground := Go.Ground.data }, { on := 17, ground := Go.Ground.guard }], guard := some (17, false) } a W K Q else K (a.put (some 135) undef) W := by
  have hy : yielded ops a.tmps 17 = some false := yielded_of hgd (by rw [hI.size]; show 126 < 178; decide) (hI.val 17 126 rfl h17)
  have hw : Region.wanted { dst := some 135, op := Go.Op.fieldAddr 33 (Go.Operand.tmp 134) 0, type := 0, pos := pos, after := #[{ on := 25, ground := Go.Ground.data }, { on := 17, ground := Go.Ground.guard }], guard := some (17, false) } (yielded ops a.tmps) = true := by
    show (yielded ops a.tmps 17 == some false) = true
    rw [hy]
    rfl
  rw [if_pos hw]
  clear hw hy
  have q : a.tmps[134]?.getD undef = .pointer (some (ad.add (k * 3))) := hI.val 25 134 rfl h25
  have R := Lib.hid (hI.step (i := 26) (d := 135) (v := .pointer (some (ad.add (k * 3)))) rfl bkc_nodup (show 135 < 178 by decide) rfl hI.held)
  clear hI E hf
  go_simp
  exact hK _ _ R.out

set_option maxRecDepth 100000 in
theorem bkc_27 {len cap len2 cap2 len3 cap3 k id p : Nat} {ad ad2 ad3 : Addr} {s d : ByteArray} {n : Int} {Pre : World → Prop} {base : Array Value} {f : Nat → Bool} {a : Act} {W : World} {K : Act → World → Prop} {Q : Exit → Act → World → Prop} {ops : Array Oper} (E : bkcEnv len cap len2 cap2 len3 cap3 k id p ad ad2 ad3 s d n Pre base) (hI : (bkcTb len cap len2 cap2 len3 cap3 k id p ad ad2 ad3 s d n Pre base).Inv (fun f W => Pre W) f a W) (hf : f 27 = false) (h17 : f 17 = true) (h26 : f 26 = true) (hgd : (ops[17]?).bind (·.dst) = some 126) (pos : String) (hK : ∀ a' W', (bkcTb len cap len2 cap2 len3 cap3 k id p ad ad2 ad3 s d n Pre base).Inv (fun f W => Pre W) (hit f 27) a' W' → K a' W') : if Region.wanted { dst := some 136, op := Go.Op.load 31 (Go.Operand.tmp 135), type := 31, pos := pos, after := #[{ on := 26, ground := Go.Ground.data }, { on := 17, ground := Go.Ground.guard }], guard := some (17, false) } (yielded ops a.tmps) = true then Oper.wp Tryd.prog { dst := some 136, op := Go.Op.load 31 (Go.Operand.tmp 135), type := 31, pos := pos, after := #[{ on := 26, ground := Go.Ground.data }, { on := 17, ground := Go.Ground.guard }], guard := some (17, false) } a W K Q else K (a.put (some 136) undef) W := by
  have hy : yielded ops a.tmps 17 = some false := yielded_of hgd (by rw [hI.size]; show 126 < 178; decide) (hI.val 17 126 rfl h17)
  have hw : Region.wanted { dst := some 136, op := Go.Op.load 31 (Go.Operand.tmp 135), type := 31, pos := pos, after := #[{ on := 26, ground := Go.Ground.data }, { on := 17, ground := Go.Ground.guard }], guard := some (17, false) } (yielded ops a.tmps) = true := by
    show (yielded ops a.tmps 17 == some false) = true
    rw [hy]
    rfl
  rw [if_pos hw]
  clear hw hy
  have q : a.tmps[135]?.getD undef = .pointer (some (ad.add (k * 3))) := hI.val 26 135 rfl h26
  have c : W.cell? (ad.add (k * 3)) = some (.int .u64 (id : Int)) := (E.c W (.inl hI.held)).1
  have R := Lib.hid (hI.step (i := 27) (d := 136) (v := .int .u64 (id : Int)) rfl bkc_nodup (show 136 < 178 by decide) rfl hI.held)
  clear hI E hf
  go_simp
  exact hK _ _ R.out

set_option maxRecDepth 100000 in
theorem bkc_28 {len cap len2 cap2 len3 cap3 k id p : Nat} {ad ad2 ad3 : Addr} {s d : ByteArray} {n : Int} {Pre : World → Prop} {base : Array Value} {f : Nat → Bool} {a : Act} {W : World} {K : Act → World → Prop} {Q : Exit → Act → World → Prop} {ops : Array Oper} (E : bkcEnv len cap len2 cap2 len3 cap3 k id p ad ad2 ad3 s d n Pre base) (hI : (bkcTb len cap len2 cap2 len3 cap3 k id p ad ad2 ad3 s d n Pre base).Inv (fun f W => Pre W) f a W) (hf : f 28 = false) (h17 : f 17 = true) (h22 : f 22 = true) (h27 : f 27 = true) (hgd : (ops[17]?).bind (·.dst) = some 126) (pos : String) (hK : ∀ a' W', (bkcTb len cap len2 cap2 len3 cap3 k id p ad ad2 ad3 s d n Pre base).Inv (fun f W => Pre W) (hit f 28) a' W' → K a' W') : if Region.wanted { dst := some 137, op := Go.Op.binOp Go.BinOp.neq 31 (Go.Operand.tmp 131) (Go.Operand.tmp 136) 31, type := 4, pos := pos, after := #[{ on := 22, ground := Go.Ground.data }, { on := 27, ground := Go.Ground.data }, { on := 17, ground := Go.Ground.guard }], guard := some (17, false) } (yielded ops a.tmps) = true then Oper.wp Tryd.prog { dst := some 137, op := Go.Op.binOp Go.BinOp.neq 31 (Go.Operand.tmp 131) (Go.Operand.tmp 136) 31, type := 4, pos := pos, after := #[{ on := 22, ground := Go.Ground.data }, { on := 27, ground := Go.Ground.data }, { on := 17, ground := Go.Ground.guard }], guard := some (17, false) } a W K Q else K (a.put (some 137) undef) W := by
  have hy : yielded ops a.tmps 17 = some false := yielded_of hgd (by rw [hI.size]; show 126 < 178; decide) (hI.val 17 126 rfl h17)
  have hw : Region.wanted { dst := some 137, op := Go.Op.binOp Go.BinOp.neq 31 (Go.Operand.tmp 131) (Go.Operand.tmp 136) 31, type := 4, pos := pos, after := #[{ on := 22, ground := Go.Ground.data }, { on := 27, ground := Go.Ground.data }, { on := 17, ground := Go.Ground.guard }], guard := some (17, false) } (yielded ops a.tmps) = true := by
    show (yielded ops a.tmps 17 == some false) = true
    rw [hy]
    rfl
  rw [if_pos hw]
  clear hw hy
  have y0 : a.tmps[131]?.getD undef = .int .u64 (id : Int) := hI.val 22 131 rfl h22
  have y1 : a.tmps[136]?.getD undef = .int .u64 (id : Int) := hI.val 27 136 rfl h27
  have R := Lib.hid (hI.step (i := 28) (d := 137) (v := .bool false) rfl bkc_nodup (show 137 < 178 by decide) rfl hI.held)
  clear hI E hf
  go_simp
  exact hK _ _ R.out

set_option maxRecDepth 100000 in
theorem bkc_29 {len cap len2 cap2 len3 cap3 k id p : Nat} {ad ad2 ad3 : Addr} {s d : ByteArray} {n : Int} {Pre : World → Prop} {base : Array Value} {f : Nat → Bool} {a : Act} {W : World} {K : Act → World → Prop} {Q : Exit → Act → World → Prop} {ops : Array Oper} (E : bkcEnv len cap len2 cap2 len3 cap3 k id p ad ad2 ad3 s d n Pre base) (hI : (bkcTb len cap len2 cap2 len3 cap3 k id p ad ad2 ad3 s d n Pre base).Inv (fun f W => Pre W) f a W) (hf : f 29 = false) (h17 : f 17 = true) (h28 : f 28 = true) (pos : String) (hK : ∀ a' W', (bkcTb len cap len2 cap2 len3 cap3 k id p ad ad2 ad3 s d n Pre base).Inv (fun f W => Pre W) (hit f 29) a' W' → K a' W') : if Region.wanted { dst := some 138, op := Go.Op.pick (Go.Operand.tmp 126) (Go.Operand.const (Go.Value.bool true)) (Go.Operand.tmp 137), type := 4, pos := pos, after := #[{ on := 17, ground := Go.Ground.data }, { on := 28, ground := Go.Ground.data }], guard := none } (yielded ops a.tmps) = true then Oper.wp Tryd.prog { dst := some 138, op := Go.Op.pick (Go.Operand.tmp 126) (Go.Operand.const (Go.Value.bool true)) (Go.Operand.tmp 137), type := 4, pos := pos, after := #[{ on := 17, ground := Go.Ground.data }, { on := 28, ground := Go.Ground.data }], guard := none } a W K Q else K (a.put (some 138) undef) W := by
  have y0 : a.tmps[126]?.getD undef = .bool false := hI.val 17 126 rfl h17
  have y2 : a.tmps[137]?.getD undef = .bool false := hI.val 28 137 rfl h28
  have R := Lib.hid (hI.step (i := 29) (d := 138) (v := .bool false) rfl bkc_nodup (show 138 < 178 by decide) rfl hI.held)
  clear hI E hf
  go_simp
  exact hK _ _ R.out

set_option maxRecDepth 100000 in
theorem bkc_30 {len cap len2 cap2 len3 cap3 k id p : Nat} {ad ad2 ad3 : Addr} {s d : ByteArray} {n : Int} {Pre : World → Prop} {base : Array Value} {f : Nat → Bool} {a : Act} {W : World} {K : Act → World → Prop} {Q : Exit → Act → World → Prop} {ops : Array Oper} (E : bkcEnv len cap len2 cap2 len3 cap3 k id p ad ad2 ad3 s d n Pre base) (hI : (bkcTb len cap len2 cap2 len3 cap3 k id p ad ad2 ad3 s d n Pre base).Inv (fun f W => Pre W) f a W) (hf : f 30 = false) (h17 : f 17 = true) (h29 : f 29 = true) (pos : String) (hK : ∀ a' W', (bkcTb len cap len2 cap2 len3 cap3 k id p ad ad2 ad3 s d n Pre base).Inv (fun f W => Pre W) (hit f 30) a' W' → K a' W') : if Region.wanted { dst := some 139, op := Go.Op.move (Go.Operand.tmp 138), type := 4, pos := pos, after := #[{ on := 29, ground := Go.Ground.data }, { on := 17, ground := Go.Ground.chain }], guard := none } (yielded ops a.tmps) = true then Oper.wp Tryd.prog { dst := some 139, op := Go.Op.move (Go.Operand.tmp 138), type := 4, pos := pos, after := #[{ on := 29, ground := Go.Ground.data }, { on := 17, ground := Go.Ground.chain }], guard := none } a W K Q else K (a.put (some 139) undef) W := by
  have q : a.tmps[138]?.getD undef = .bool false := hI.val 29 138 rfl h29
  have R := Lib.hid (hI.step (i := 30) (d := 139) (v := .bool false) rfl bkc_nodup (show 139 < 178 by decide) rfl hI.held)
  clear hI E hf
  go_simp
  exact hK _ _ R.out

set_option maxRecDepth 100000 in
theorem bkc_31 {len cap len2 cap2 len3 cap3 k id p : Nat} {ad ad2 ad3 : Addr} {s d : ByteArray} {n : Int} {Pre : World → Prop} {base : Array Value} {f : Nat → Bool} {a : Act} {W : World} {K : Act → World → Prop} {Q : Exit → Act → World → Prop} {ops : Array Oper} (E : bkcEnv len cap len2 cap2 len3 cap3 k id p ad ad2 ad3 s d n Pre base) (hI : (bkcTb len cap len2 cap2 len3 cap3 k id p ad ad2 ad3 s d n Pre base).Inv (fun f W => Pre W) f a W) (hf : f 31 = false) (h30 : f 30 = true) (hgd : (ops[30]?).bind (·.dst) = some 139) (pos : String) (hK : ∀ a' W', (bkcTb len cap len2 cap2 len3 cap3 k id p ad ad2 ad3 s d n Pre base).Inv (fun f W => Pre W) (hit f 31) a' W' → K a' W') : if Region.wanted { dst := some 140, op := Go.Op.move (Go.Operand.tmp 9), type := 35, pos := pos, after := #[{ on := 30, ground := Go.Ground.guard }], guard := some (30, false) } (yielded ops a.tmps) = true then Oper.wp Tryd.prog { dst := some 140, op := Go.Op.move (Go.Operand.tmp 9), type := 35, pos := pos, after := #[{ on := 30, ground := Go.Ground.guard }], guard := some (30, false) } a W K Q else K (a.put (some 140) undef) W := by
  have hy : yielded ops a.tmps 30 = some false := yielded_of hgd (by rw [hI.size]; show 139 < 178; decide) (hI.val 30 139 rfl h30)
  have hw : Region.wanted { dst := some 140, op := Go.Op.move (Go.Operand.tmp 9), type := 35, pos := pos, after := #[{ on := 30, ground := Go.Ground.guard }], guard := some (30, false) } (yielded ops a.tmps) = true := by
    show (yielded ops a.tmps 30 == some false) = true
    rw [hy]
    rfl
  rw [if_pos hw]
  clear hw hy
  have q : a.tmps[9]?.getD undef = .slice (some ad3) len3 cap3 := (hI.base 9 rfl).trans E.b9
  have R := Lib.hid (hI.step (i := 31) (d := 140) (v := .slice (some ad3) len3 cap3) rfl bkc_nodup (show 140 < 178 by decide) rfl hI.held)
  clear hI E hf
  go_simp
  exact hK _ _ R.out

set_option maxRecDepth 100000 in
theorem bkc_32 {len cap len2 cap2 len3 cap3 k id p : Nat} {ad ad2 ad3 : Addr} {s d : ByteArray} {n : Int} {Pre : World → Prop} {base : Array Value} {f : Nat → Bool} {a : Act} {W : World} {K : Act → World → Prop} {Q : Exit → Act → World → Prop} {ops : Array Oper} (E : bkcEnv len cap len2 cap2 len3 cap3 k id p ad ad2 ad3 s d n Pre base) (hI : (bkcTb len cap len2 cap2 len3 cap3 k id p ad ad2 ad3 s d n Pre base).Inv (fun f W => Pre W) f a W) (hf : f 32 = false) (h30 : f 30 = true) (hgd : (ops[30]?).bind (·.dst) = some 139) (pos : String) (hK : ∀ a' W', (bkcTb len cap len2 cap2 len3 cap3 k id p ad ad2 ad3 s d n Pre base).Inv (fun f W => Pre W) (hit f 32) a' W' → K a' W') : if Region.wanted { dst := some 141, op := Go.Op.move (Go.Operand.tmp 12), type := 3, pos := pos, after := #[{ on := 30, ground := Go.Ground.guard }], guard := some (30, false) } (yielded ops a.tmps) = true then Oper.wp Tryd.prog { dst := some 141, op := Go.Op.move (Go.Operand.tmp 12), type := 3, pos := pos, after := #[{ on := 30, ground := Go.Ground.guard }], guard := some (30, false) } a W K Q else K (a.put (some 141) undef) W := by
  have hy : yielded ops a.tmps 30 = some false := yielded_of hgd (by rw [hI.size]; show 139 < 178; decide) (hI.val 30 139 rfl h30)
  have hw : Region.wanted { dst := some 141, op := Go.Op.move (Go.Operand.tmp 12), type := 3, pos := pos, after := #[{ on := 30, ground := Go.Ground.guard }], guard := some (30, false) } (yielded ops a.tmps) = true := by
    show (yielded ops a.tmps 30 == some false) = true
    rw [hy]
    rfl
  rw [if_pos hw]
  clear hw hy
  have q : a.tmps[12]?.getD undef = .int .i64 (k : Int) := (hI.base 12 rfl).trans E.b12
  have R := Lib.hid (hI.step (i := 32) (d := 141) (v := .int .i64 (k : Int)) rfl bkc_nodup (show 141 < 178 by decide) rfl hI.held)
  clear hI E hf
  go_simp
  exact hK _ _ R.out

set_option maxRecDepth 100000 in
theorem bkc_33 {len cap len2 cap2 len3 cap3 k id p : Nat} {ad ad2 ad3 : Addr} {s d : ByteArray} {n : Int} {Pre : World → Prop} {base : Array Value} {f : Nat → Bool} {a : Act} {W : World} {K : Act → World → Prop} {Q : Exit → Act → World → Prop} {ops : Array Oper} (E : bkcEnv len cap len2 cap2 len3 cap3 k id p ad ad2 ad3 s d n Pre base) (hI : (bkcTb len cap len2 cap2 len3 cap3 k id p ad ad2 ad3 s d n Pre base).Inv (fun f W => Pre W) f a W) (hf : f 33 = false) (h30 : f 30 = true) (h31 : f 31 = true) (h32 : f 32 = true) (hgd : (ops[30]?).bind (·.dst) = some 139) (pos : String) (hK : ∀ a' W', (bkcTb len cap len2 cap2 len3 cap3 k id p ad ad2 ad3 s d n Pre base).Inv (fun f W => Pre W) (hit f 33) a' W' → K a' W') : if Region.wanted { dst := some 142, op := Go.Op.indexAddr 35 (Go.Operand.tmp 140) (Go.Operand.tmp 141), type := 0, pos := pos, after := #[{ on := 31, ground := Go.Ground.data }, { on := 32, ground := Go.Ground.data }, { on := 30, ground := Go.Ground.guard }], guard := some (30, false) } (yielded ops a.tmps) = true then Oper.wp Tryd.prog { dst := some 142, op := Go.Op.indexAddr 35 (Go.Operand.tmp 140) (Go.Operand.tmp 141), type := 0, pos := pos, after := #[{ on := 31, ground := Go.Ground.data }, { on := 32, ground := Go.Ground.data }, { on := 30, ground := Go.Ground.guard }], guard := some (30, false) } a W K Q else K (a.put (some 142) undef) W := by
  have hy : yielded ops a.tmps 30 = some false := yielded_of hgd (by rw [hI.size]; show 139 < 178; decide) (hI.val 30 139 rfl h30)
  have hw : Region.wanted { dst := some 142, op := Go.Op.indexAddr 35 (Go.Operand.tmp 140) (Go.Operand.tmp 141), type := 0, pos := pos, after := #[{ on := 31, ground := Go.Ground.data }, { on := 32, ground := Go.Ground.data }, { on := 30, ground := Go.Ground.guard }], guard := some (30, false) } (yielded ops a.tmps) = true := by
    show (yielded ops a.tmps 30 == some false) = true
    rw [hy]
    rfl
  rw [if_pos hw]
  clear hw hy
  have y0 : a.tmps[140]?.getD undef = .slice (some ad3) len3 cap3 := hI.val 31 140 rfl h31
  have y1 : a.tmps[141]?.getD undef = .int .i64 (k : Int) := hI.val 32 141 rfl h32
  have hk := E.kk3
  have i0 : (0 : Int) ≤ (k : Int) := by omega
  have i1 : (k : Int) < (len3 : Int) := by omega
  have R := Lib.hid (hI.step (i := 33) (d := 142) (v := .pointer (some (ad3.add (k * 3)))) rfl bkc_nodup (show 142 < 178 by decide) rfl hI.held)
  clear hI E hf
  go_simp
  exact hK _ _ R.out

set_option maxRecDepth 100000 in
theorem bkc_34 {len cap len2 cap2 len3 cap3 k id p : Nat} {ad ad2 ad3 : Addr} {s d : ByteArray} {n : Int} {Pre : World → Prop} {base : Array Value} {f : Nat → Bool} {a : Act} {W : World} {K : Act → World → Prop} {Q : Exit → Act → World → Prop} {ops : Array Oper} (E : bkcEnv len cap len2 cap2 len3 cap3 k id p ad ad2 ad3 s d n Pre base) (hI : (bkcTb len cap len2 cap2 len3 cap3 k id p ad ad2 ad3 s d n Pre base).Inv (fun f W => Pre W) f a W) (hf : f 34 = false) (h30 : f 30 = true) (h33 : f 33 = true) (hgd : (ops[30]?).bind (·.dst) = some 139) (pos : String) (hK : ∀ a' W', (bkcTb len cap len2 cap2 len3 cap3 k id p ad ad2 ad3 s d n Pre base).Inv (fun f W => Pre W) (hit f 34) a' W' → K a' W') : if Region.wanted { dst := some 143, op := Go.Op.fieldAddr 42 (Go.Operand.tmp 142) 1, type := 0, pos := pos, after := #[{ on := 33, ground := Go.Ground.data }, { on := 30, ground := Go.Ground.guard }], guard := some (30, false) } (yielded ops a.tmps) = true then Oper.wp Tryd.prog { dst := some 143, op := Go.Op.fieldAddr 42 (Go.Operand.tmp 142) 1, type := 0, pos := pos, after := #[{ on := 33, ground := Go.Ground.data }, { on := 30, ground := Go.Ground.guard }], guard := some (30, false) } a W K Q else K (a.put (some 143) undef) W := by
  have hy : yielded ops a.tmps 30 = some false := yielded_of hgd (by rw [hI.size]; show 139 < 178; decide) (hI.val 30 139 rfl h30)
  have hw : Region.wanted { dst := some 143, op := Go.Op.fieldAddr 42 (Go.Operand.tmp 142) 1, type := 0, pos := pos, after := #[{ on := 33, ground := Go.Ground.data }, { on := 30, ground := Go.Ground.guard }], guard := some (30, false) } (yielded ops a.tmps) = true := by
    show (yielded ops a.tmps 30 == some false) = true
    rw [hy]
    rfl
  rw [if_pos hw]
  clear hw hy
  have q : a.tmps[142]?.getD undef = .pointer (some (ad3.add (k * 3))) := hI.val 33 142 rfl h33
  have R := Lib.hid (hI.step (i := 34) (d := 143) (v := .pointer (some ⟨(ad3.add (k * 3)).block, (ad3.add (k * 3)).off + 1, none⟩)) rfl bkc_nodup (show 143 < 178 by decide) rfl hI.held)
  clear hI E hf
  go_simp
  exact hK _ _ R.out

set_option maxRecDepth 100000 in
theorem bkc_35 {len cap len2 cap2 len3 cap3 k id p : Nat} {ad ad2 ad3 : Addr} {s d : ByteArray} {n : Int} {Pre : World → Prop} {base : Array Value} {f : Nat → Bool} {a : Act} {W : World} {K : Act → World → Prop} {Q : Exit → Act → World → Prop} {ops : Array Oper} (E : bkcEnv len cap len2 cap2 len3 cap3 k id p ad ad2 ad3 s d n Pre base) (hI : (bkcTb len cap len2 cap2 len3 cap3 k id p ad ad2 ad3 s d n Pre base).Inv (fun f W => Pre W) f a W) (hf : f 35 = false) (h30 : f 30 = true) (h34 : f 34 = true) (hgd : (ops[30]?).bind (·.dst) = some 139) (pos : String) (hK : ∀ a' W', (bkcTb len cap len2 cap2 len3 cap3 k id p ad ad2 ad3 s d n Pre base).Inv (fun f W => Pre W) (hit f 35) a' W' → K a' W') : if Region.wanted { dst := some 144, op := Go.Op.load 3 (Go.Operand.tmp 143), type := 3, pos := pos, after := #[{ on := 34, ground := Go.Ground.data }, { on := 30, ground := Go.Ground.guard }], guard := some (30, false) } (yielded ops a.tmps) = true then Oper.wp Tryd.prog { dst := some 144, op := Go.Op.load 3 (Go.Operand.tmp 143), type := 3, pos := pos, after := #[{ on := 34, ground := Go.Ground.data }, { on := 30, ground := Go.Ground.guard }], guard := some (30, false) } a W K Q else K (a.put (some 144) undef) W := by
  have hy : yielded ops a.tmps 30 = some false := yielded_of hgd (by rw [hI.size]; show 139 < 178; decide) (hI.val 30 139 rfl h30)
  have hw : Region.wanted { dst := some 144, op := Go.Op.load 3 (Go.Operand.tmp 143), type := 3, pos := pos, after := #[{ on := 34, ground := Go.Ground.data }, { on := 30, ground := Go.Ground.guard }], guard := some (30, false) } (yielded ops a.tmps) = true := by
    show (yielded ops a.tmps 30 == some false) = true
    rw [hy]
    rfl
  rw [if_pos hw]
  clear hw hy
  have q : a.tmps[143]?.getD undef = .pointer (some ⟨(ad3.add (k * 3)).block, (ad3.add (k * 3)).off + 1, none⟩) := hI.val 34 143 rfl h34
  have c : W.cell? ⟨(ad3.add (k * 3)).block, (ad3.add (k * 3)).off + 1, none⟩ = some (.int .i64 (p : Int)) := (E.c W (.inl hI.held)).2.2.2.2.2.1
  have R := Lib.hid (hI.step (i := 35) (d := 144) (v := .int .i64 (p : Int)) rfl bkc_nodup (show 144 < 178 by decide) rfl hI.held)
  clear hI E hf
  go_simp
  exact hK _ _ R.out

set_option maxRecDepth 100000 in
theorem bkc_36 {len cap len2 cap2 len3 cap3 k id p : Nat} {ad ad2 ad3 : Addr} {s d : ByteArray} {n : Int} {Pre : World → Prop} {base : Array Value} {f : Nat → Bool} {a : Act} {W : World} {K : Act → World → Prop} {Q : Exit → Act → World → Prop} {ops : Array Oper} (E : bkcEnv len cap len2 cap2 len3 cap3 k id p ad ad2 ad3 s d n Pre base) (hI : (bkcTb len cap len2 cap2 len3 cap3 k id p ad ad2 ad3 s d n Pre base).Inv (fun f W => Pre W) f a W) (hf : f 36 = false) (h30 : f 30 = true) (hgd : (ops[30]?).bind (·.dst) = some 139) (pos : String) (hK : ∀ a' W', (bkcTb len cap len2 cap2 len3 cap3 k id p ad ad2 ad3 s d n Pre base).Inv (fun f W => Pre W) (hit f 36) a' W' → K a' W') : if Region.wanted { dst := some 145, op := Go.Op.move (Go.Operand.tmp 4), type := 28, pos := pos, after := #[{ on := 30, ground := Go.Ground.guard }], guard := some (30, false) } (yielded ops a.tmps) = true then Oper.wp Tryd.prog { dst := some 145, op := Go.Op.move (Go.Operand.tmp 4), type := 28, pos := pos, after := #[{ on := 30, ground := Go.Ground.guard }], guard := some (30, false) } a W K Q else K (a.put (some 145) undef) W := by
  have hy : yielded ops a.tmps 30 = some false := yielded_of hgd (by rw [hI.size]; show 139 < 178; decide) (hI.val 30 139 rfl h30)
  have hw : Region.wanted { dst := some 145, op := Go.Op.move (Go.Operand.tmp 4), type := 28, pos := pos, after := #[{ on := 30, ground := Go.Ground.guard }], guard := some (30, false) } (yielded ops a.tmps) = true := by
    show (yielded ops a.tmps 30 == some false) = true
    rw [hy]
    rfl
  rw [if_pos hw]
  clear hw hy
  have q : a.tmps[4]?.getD undef = .slice (some ad2) len2 cap2 := (hI.base 4 rfl).trans E.b4
  have R := Lib.hid (hI.step (i := 36) (d := 145) (v := .slice (some ad2) len2 cap2) rfl bkc_nodup (show 145 < 178 by decide) rfl hI.held)
  clear hI E hf
  go_simp
  exact hK _ _ R.out

set_option maxRecDepth 100000 in
theorem bkc_37 {len cap len2 cap2 len3 cap3 k id p : Nat} {ad ad2 ad3 : Addr} {s d : ByteArray} {n : Int} {Pre : World → Prop} {base : Array Value} {f : Nat → Bool} {a : Act} {W : World} {K : Act → World → Prop} {Q : Exit → Act → World → Prop} {ops : Array Oper} (E : bkcEnv len cap len2 cap2 len3 cap3 k id p ad ad2 ad3 s d n Pre base) (hI : (bkcTb len cap len2 cap2 len3 cap3 k id p ad ad2 ad3 s d n Pre base).Inv (fun f W => Pre W) f a W) (hf : f 37 = false) (h30 : f 30 = true) (hgd : (ops[30]?).bind (·.dst) = some 139) (pos : String) (hK : ∀ a' W', (bkcTb len cap len2 cap2 len3 cap3 k id p ad ad2 ad3 s d n Pre base).Inv (fun f W => Pre W) (hit f 37) a' W' → K a' W') : if Region.wanted { dst := some 146, op := Go.Op.move (Go.Operand.tmp 12), type := 3, pos := pos, after := #[{ on := 30, ground := Go.Ground.guard }], guard := some (30, false) } (yielded ops a.tmps) = true then Oper.wp Tryd.prog { dst := some 146, op := Go.Op.move (Go.Operand.tmp 12), type := 3, pos := pos, after := #[{ on := 30, ground := Go.Ground.guard }], guard := some (30, false) } a W K Q else K (a.put (some 146) undef) W := by
  have hy : yielded ops a.tmps 30 = some false := yielded_of hgd (by rw [hI.size]; show 139 < 178; decide) (hI.val 30 139 rfl h30)
  have hw : Region.wanted { dst := some 146, op := Go.Op.move (Go.Operand.tmp 12), type := 3, pos := pos, after := #[{ on := 30, ground := Go.Ground.guard }], guard := some (30, false) } (yielded ops a.tmps) = true := by
    show (yielded ops a.tmps 30 == some false) = true
    rw [hy]
    rfl
  rw [if_pos hw]
  clear hw hy
  have q : a.tmps[12]?.getD undef = .int .i64 (k : Int) := (hI.base 12 rfl).trans E.b12
  have R := Lib.hid (hI.step (i := 37) (d := 146) (v := .int .i64 (k : Int)) rfl bkc_nodup (show 146 < 178 by decide) rfl hI.held)
  clear hI E hf
  go_simp
  exact hK _ _ R.out

set_option maxRecDepth 100000 in
theorem bkc_38 {len cap len2 cap2 len3 cap3 k id p : Nat} {ad ad2 ad3 : Addr} {s d : ByteArray} {n : Int} {Pre : World → Prop} {base : Array Value} {f : Nat → Bool} {a : Act} {W : World} {K : Act → World → Prop} {Q : Exit → Act → World → Prop} {ops : Array Oper} (E : bkcEnv len cap len2 cap2 len3 cap3 k id p ad ad2 ad3 s d n Pre base) (hI : (bkcTb len cap len2 cap2 len3 cap3 k id p ad ad2 ad3 s d n Pre base).Inv (fun f W => Pre W) f a W) (hf : f 38 = false) (h30 : f 30 = true) (h36 : f 36 = true) (h37 : f 37 = true) (hgd : (ops[30]?).bind (·.dst) = some 139) (pos : String) (hK : ∀ a' W', (bkcTb len cap len2 cap2 len3 cap3 k id p ad ad2 ad3 s d n Pre base).Inv (fun f W => Pre W) (hit f 38) a' W' → K a' W') : if Region.wanted { dst := some 147, op := Go.Op.indexAddr 28 (Go.Operand.tmp 145) (Go.Operand.tmp 146), type := 0, pos := pos, after := #[{ on := 36, ground := Go.Ground.data }, { on := 37, ground := Go.Ground.data }, { on := 30, ground := Go.Ground.guard }], guard := some (30, false) } (yielded ops a.tmps) = true then Oper.wp Tryd.prog { dst := some 147, op := Go.Op.indexAddr 28 (Go.Operand.tmp 145) (Go.Operand.tmp 146), type := 0, pos := pos, after := #[{ on := 36, ground := Go.Ground.data }, { on := 37, ground := Go.Ground.data }, { on := 30, ground := Go.Ground.guard }], guard := some (30, false) } a W K Q else K (a.put (some 147) undef) W := by
  have hy : yielded ops a.tmps 30 = some false := yielded_of hgd (by rw [hI.size]; show 139 < 178; decide) (hI.val 30 139 rfl h30)
  have hw : Region.wanted { dst := some 147, op := Go.Op.indexAddr 28 (Go.Operand.tmp 145) (Go.Operand.tmp 146), type := 0, pos := pos, after := #[{ on := 36, ground := Go.Ground.data }, { on := 37, ground := Go.Ground.data }, { on := 30, ground := Go.Ground.guard }], guard := some (30, false) } (yielded ops a.tmps) = true := by
    show (yielded ops a.tmps 30 == some false) = true
    rw [hy]
    rfl
  rw [if_pos hw]
  clear hw hy
  have y0 : a.tmps[145]?.getD undef = .slice (some ad2) len2 cap2 := hI.val 36 145 rfl h36
  have y1 : a.tmps[146]?.getD undef = .int .i64 (k : Int) := hI.val 37 146 rfl h37
  have hk := E.kk2
  have i0 : (0 : Int) ≤ (k : Int) := by omega
  have i1 : (k : Int) < (len2 : Int) := by omega
  have R := Lib.hid (hI.step (i := 38) (d := 147) (v := .pointer (some (ad2.add k))) rfl bkc_nodup (show 147 < 178 by decide) rfl hI.held)
  clear hI E hf
  go_simp
  exact hK _ _ R.out

set_option maxRecDepth 100000 in
theorem bkc_39 {len cap len2 cap2 len3 cap3 k id p : Nat} {ad ad2 ad3 : Addr} {s d : ByteArray} {n : Int} {Pre : World → Prop} {base : Array Value} {f : Nat → Bool} {a : Act} {W : World} {K : Act → World → Prop} {Q : Exit → Act → World → Prop} {ops : Array Oper} (E : bkcEnv len cap len2 cap2 len3 cap3 k id p ad ad2 ad3 s d n Pre base) (hI : (bkcTb len cap len2 cap2 len3 cap3 k id p ad ad2 ad3 s d n Pre base).Inv (fun f W => Pre W) f a W) (hf : f 39 = false) (h30 : f 30 = true) (h38 : f 38 = true) (hgd : (ops[30]?).bind (·.dst) = some 139) (pos : String) (hK : ∀ a' W', (bkcTb len cap len2 cap2 len3 cap3 k id p ad ad2 ad3 s d n Pre base).Inv (fun f W => Pre W) (hit f 39) a' W' → K a' W') : if Region.wanted { dst := some 148, op := Go.Op.load 3 (Go.Operand.tmp 147), type := 3, pos := pos, after := #[{ on := 38, ground := Go.Ground.data }, { on := 30, ground := Go.Ground.guard }], guard := some (30, false) } (yielded ops a.tmps) = true then Oper.wp Tryd.prog { dst := some 148, op := Go.Op.load 3 (Go.Operand.tmp 147), type := 3, pos := pos, after := #[{ on := 38, ground := Go.Ground.data }, { on := 30, ground := Go.Ground.guard }], guard := some (30, false) } a W K Q else K (a.put (some 148) undef) W := by
  have hy : yielded ops a.tmps 30 = some false := yielded_of hgd (by rw [hI.size]; show 139 < 178; decide) (hI.val 30 139 rfl h30)
  have hw : Region.wanted { dst := some 148, op := Go.Op.load 3 (Go.Operand.tmp 147), type := 3, pos := pos, after := #[{ on := 38, ground := Go.Ground.data }, { on := 30, ground := Go.Ground.guard }], guard := some (30, false) } (yielded ops a.tmps) = true := by
    show (yielded ops a.tmps 30 == some false) = true
    rw [hy]
    rfl
  rw [if_pos hw]
  clear hw hy
  have q : a.tmps[147]?.getD undef = .pointer (some (ad2.add k)) := hI.val 38 147 rfl h38
  have c : W.cell? (ad2.add k) = some (.int .i64 (p : Int)) := (E.c W (.inl hI.held)).2.2.2.1
  have R := Lib.hid (hI.step (i := 39) (d := 148) (v := .int .i64 (p : Int)) rfl bkc_nodup (show 148 < 178 by decide) rfl hI.held)
  clear hI E hf
  go_simp
  exact hK _ _ R.out

set_option maxRecDepth 100000 in
theorem bkc_40 {len cap len2 cap2 len3 cap3 k id p : Nat} {ad ad2 ad3 : Addr} {s d : ByteArray} {n : Int} {Pre : World → Prop} {base : Array Value} {f : Nat → Bool} {a : Act} {W : World} {K : Act → World → Prop} {Q : Exit → Act → World → Prop} {ops : Array Oper} (E : bkcEnv len cap len2 cap2 len3 cap3 k id p ad ad2 ad3 s d n Pre base) (hI : (bkcTb len cap len2 cap2 len3 cap3 k id p ad ad2 ad3 s d n Pre base).Inv (fun f W => Pre W) f a W) (hf : f 40 = false) (h30 : f 30 = true) (h35 : f 35 = true) (h39 : f 39 = true) (hgd : (ops[30]?).bind (·.dst) = some 139) (pos : String) (hK : ∀ a' W', (bkcTb len cap len2 cap2 len3 cap3 k id p ad ad2 ad3 s d n Pre base).Inv (fun f W => Pre W) (hit f 40) a' W' → K a' W') : if Region.wanted { dst := some 149, op := Go.Op.binOp Go.BinOp.neq 3 (Go.Operand.tmp 144) (Go.Operand.tmp 148) 3, type := 4, pos := pos, after := #[{ on := 35, ground := Go.Ground.data }, { on := 39, ground := Go.Ground.data }, { on := 30, ground := Go.Ground.guard }], guard := some (30, false) } (yielded ops a.tmps) = true then Oper.wp Tryd.prog { dst := some 149, op := Go.Op.binOp Go.BinOp.neq 3 (Go.Operand.tmp 144) (Go.Operand.tmp 148) 3, type := 4, pos := pos, after := #[{ on := 35, ground := Go.Ground.data }, { on := 39, ground := Go.Ground.data }, { on := 30, ground := Go.Ground.guard }], guard := some (30, false) } a W K Q else K (a.put (some 149) undef) W := by
  have hy : yielded ops a.tmps 30 = some false := yielded_of hgd (by rw [hI.size]; show 139 < 178; decide) (hI.val 30 139 rfl h30)
  have hw : Region.wanted { dst := some 149, op := Go.Op.binOp Go.BinOp.neq 3 (Go.Operand.tmp 144) (Go.Operand.tmp 148) 3, type := 4, pos := pos, after := #[{ on := 35, ground := Go.Ground.data }, { on := 39, ground := Go.Ground.data }, { on := 30, ground := Go.Ground.guard }], guard := some (30, false) } (yielded ops a.tmps) = true := by
    show (yielded ops a.tmps 30 == some false) = true
    rw [hy]
    rfl
  rw [if_pos hw]
  clear hw hy
  have y0 : a.tmps[144]?.getD undef = .int .i64 (p : Int) := hI.val 35 144 rfl h35
  have y1 : a.tmps[148]?.getD undef = .int .i64 (p : Int) := hI.val 39 148 rfl h39
  have R := Lib.hid (hI.step (i := 40) (d := 149) (v := .bool false) rfl bkc_nodup (show 149 < 178 by decide) rfl hI.held)
  clear hI E hf
  go_simp
  exact hK _ _ R.out

set_option maxRecDepth 100000 in
theorem bkc_41 {len cap len2 cap2 len3 cap3 k id p : Nat} {ad ad2 ad3 : Addr} {s d : ByteArray} {n : Int} {Pre : World → Prop} {base : Array Value} {f : Nat → Bool} {a : Act} {W : World} {K : Act → World → Prop} {Q : Exit → Act → World → Prop} {ops : Array Oper} (E : bkcEnv len cap len2 cap2 len3 cap3 k id p ad ad2 ad3 s d n Pre base) (hI : (bkcTb len cap len2 cap2 len3 cap3 k id p ad ad2 ad3 s d n Pre base).Inv (fun f W => Pre W) f a W) (hf : f 41 = false) (h30 : f 30 = true) (h40 : f 40 = true) (pos : String) (hK : ∀ a' W', (bkcTb len cap len2 cap2 len3 cap3 k id p ad ad2 ad3 s d n Pre base).Inv (fun f W => Pre W) (hit f 41) a' W' → K a' W') : if Region.wanted { dst := some 150, op := Go.Op.pick (Go.Operand.tmp 139) (Go.Operand.const (Go.Value.bool true)) (Go.Operand.tmp 149), type := 4, pos := pos, after := #[{ on := 30, ground := Go.Ground.data }, { on := 40, ground := Go.Ground.data }], guard := none } (yielded ops a.tmps) = true then Oper.wp Tryd.prog { dst := some 150, op := Go.Op.pick (Go.Operand.tmp 139) (Go.Operand.const (Go.Value.bool true)) (Go.Operand.tmp 149), type := 4, pos := pos, after := #[{ on := 30, ground := Go.Ground.data }, { on := 40, ground := Go.Ground.data }], guard := none } a W K Q else K (a.put (some 150) undef) W := by
  have y0 : a.tmps[139]?.getD undef = .bool false := hI.val 30 139 rfl h30
  have y2 : a.tmps[149]?.getD undef = .bool false := hI.val 40 149 rfl h40
  have R := Lib.hid (hI.step (i := 41) (d := 150) (v := .bool false) rfl bkc_nodup (show 150 < 178 by decide) rfl hI.held)
  clear hI E hf
  go_simp
  exact hK _ _ R.out

set_option maxRecDepth 100000 in
theorem bkc_42 {len cap len2 cap2 len3 cap3 k id p : Nat} {ad ad2 ad3 : Addr} {s d : ByteArray} {n : Int} {Pre : World → Prop} {base : Array Value} {f : Nat → Bool} {a : Act} {W : World} {K : Act → World → Prop} {Q : Exit → Act → World → Prop} {ops : Array Oper} (E : bkcEnv len cap len2 cap2 len3 cap3 k id p ad ad2 ad3 s d n Pre base) (hI : (bkcTb len cap len2 cap2 len3 cap3 k id p ad ad2 ad3 s d n Pre base).Inv (fun f W => Pre W) f a W) (hf : f 42 = false) (h30 : f 30 = true) (h41 : f 41 = true) (pos : String) (hK : ∀ a' W', (bkcTb len cap len2 cap2 len3 cap3 k id p ad ad2 ad3 s d n Pre base).Inv (fun f W => Pre W) (hit f 42) a' W' → K a' W') : if Region.wanted { dst := some 151, op := Go.Op.move (Go.Operand.tmp 150), type := 4, pos := pos, after := #[{ on := 41, ground := Go.Ground.data }, { on := 30, ground := Go.Ground.chain }], guard := none } (yielded ops a.tmps) = true then Oper.wp Tryd.prog { dst := some 151, op := Go.Op.move (Go.Operand.tmp 150), type := 4, pos := pos, after := #[{ on := 41, ground := Go.Ground.data }, { on := 30, ground := Go.Ground.chain }], guard := none } a W K Q else K (a.put (some 151) undef) W := by
  have q : a.tmps[150]?.getD undef = .bool false := hI.val 41 150 rfl h41
  have R := Lib.hid (hI.step (i := 42) (d := 151) (v := .bool false) rfl bkc_nodup (show 151 < 178 by decide) rfl hI.held)
  clear hI E hf
  go_simp
  exact hK _ _ R.out

set_option maxRecDepth 100000 in
theorem bkc_43 {len cap len2 cap2 len3 cap3 k id p : Nat} {ad ad2 ad3 : Addr} {s d : ByteArray} {n : Int} {Pre : World → Prop} {base : Array Value} {f : Nat → Bool} {a : Act} {W : World} {K : Act → World → Prop} {Q : Exit → Act → World → Prop} {ops : Array Oper} (E : bkcEnv len cap len2 cap2 len3 cap3 k id p ad ad2 ad3 s d n Pre base) (hI : (bkcTb len cap len2 cap2 len3 cap3 k id p ad ad2 ad3 s d n Pre base).Inv (fun f W => Pre W) f a W) (hf : f 43 = false) (h42 : f 42 = true) (hgd : (ops[42]?).bind (·.dst) = some 151) (pos : String) (hK : ∀ a' W', (bkcTb len cap len2 cap2 len3 cap3 k id p ad ad2 ad3 s d n Pre base).Inv (fun f W => Pre W) (hit f 43) a' W' → K a' W') : if Region.wanted { dst := some 152, op := Go.Op.move (Go.Operand.tmp 9), type := 35, pos := pos, after := #[{ on := 42, ground := Go.Ground.guard }], guard := some (42, false) } (yielded ops a.tmps) = true then Oper.wp Tryd.prog { dst := some 152, op := Go.Op.move (Go.Operand.tmp 9), type := 35, pos := pos, after := #[{ on := 42, ground := Go.Ground.guard }], guard := some (42, false) } a W K Q else K (a.put (some 152) undef) W := by
  have hy : yielded ops a.tmps 42 = some false := yielded_of hgd (by rw [hI.size]; show 151 < 178; decide) (hI.val 42 151 rfl h42)
  have hw : Region.wanted { dst := some 152, op := Go.Op.move (Go.Operand.tmp 9), type := 35, pos := pos, after := #[{ on := 42, ground := Go.Ground.guard }], guard := some (42, false) } (yielded ops a.tmps) = true := by
    show (yielded ops a.tmps 42 == some false) = true
    rw [hy]
    rfl
  rw [if_pos hw]
  clear hw hy
  have q : a.tmps[9]?.getD undef = .slice (some ad3) len3 cap3 := (hI.base 9 rfl).trans E.b9
  have R := Lib.hid (hI.step (i := 43) (d := 152) (v := .slice (some ad3) len3 cap3) rfl bkc_nodup (show 152 < 178 by decide) rfl hI.held)
  clear hI E hf
  go_simp
  exact hK _ _ R.out

set_option maxRecDepth 100000 in
theorem bkc_44 {len cap len2 cap2 len3 cap3 k id p : Nat} {ad ad2 ad3 : Addr} {s d : ByteArray} {n : Int} {Pre : World → Prop} {base : Array Value} {f : Nat → Bool} {a : Act} {W : World} {K : Act → World → Prop} {Q : Exit → Act → World → Prop} {ops : Array Oper} (E : bkcEnv len cap len2 cap2 len3 cap3 k id p ad ad2 ad3 s d n Pre base) (hI : (bkcTb len cap len2 cap2 len3 cap3 k id p ad ad2 ad3 s d n Pre base).Inv (fun f W => Pre W) f a W) (hf : f 44 = false) (h42 : f 42 = true) (hgd : (ops[42]?).bind (·.dst) = some 151) (pos : String) (hK : ∀ a' W', (bkcTb len cap len2 cap2 len3 cap3 k id p ad ad2 ad3 s d n Pre base).Inv (fun f W => Pre W) (hit f 44) a' W' → K a' W') : if Region.wanted { dst := some 153, op := Go.Op.move (Go.Operand.tmp 12), type := 3, pos := pos, after := #[{ on := 42, ground := Go.Ground.guard }], guard := some (42, false) } (yielded ops a.tmps) = true then Oper.wp Tryd.prog { dst := some 153, op := Go.Op.move (Go.Operand.tmp 12), type := 3, pos := pos, after := #[{ on := 42, ground := Go.Ground.guard }], guard := some (42, false) } a W K Q else K (a.put (some 153) undef) W := by
  have hy : yielded ops a.tmps 42 = some false := yielded_of hgd (by rw [hI.size]; show 151 < 178; decide) (hI.val 42 151 rfl h42)
  have hw : Region.wanted { dst := some 153, op := Go.Op.move (Go.Operand.tmp 12), type := 3, pos := pos, after := #[{ on := 42, ground := Go.Ground.guard }], guard := some (42, false) } (yielded ops a.tmps) = true := by
    show (yielded ops a.tmps 42 == some false) = true
    rw [hy]
    rfl
  rw [if_pos hw]
  clear hw hy
  have q : a.tmps[12]?.getD undef = .int .i64 (k : Int) := (hI.base 12 rfl).trans E.b12
  have R := Lib.hid (hI.step (i := 44) (d := 153) (v := .int .i64 (k : Int)) rfl bkc_nodup (show 153 < 178 by decide) rfl hI.held)
  clear hI E hf
  go_simp
  exact hK _ _ R.out

set_option maxRecDepth 100000 in
theorem bkc_45 {len cap len2 cap2 len3 cap3 k id p : Nat} {ad ad2 ad3 : Addr} {s d : ByteArray} {n : Int} {Pre : World → Prop} {base : Array Value} {f : Nat → Bool} {a : Act} {W : World} {K : Act → World → Prop} {Q : Exit → Act → World → Prop} {ops : Array Oper} (E : bkcEnv len cap len2 cap2 len3 cap3 k id p ad ad2 ad3 s d n Pre base) (hI : (bkcTb len cap len2 cap2 len3 cap3 k id p ad ad2 ad3 s d n Pre base).Inv (fun f W => Pre W) f a W) (hf : f 45 = false) (h42 : f 42 = true) (h43 : f 43 = true) (h44 : f 44 = true) (hgd : (ops[42]?).bind (·.dst) = some 151) (pos : String) (hK : ∀ a' W', (bkcTb len cap len2 cap2 len3 cap3 k id p ad ad2 ad3 s d n Pre base).Inv (fun f W => Pre W) (hit f 45) a' W' → K a' W') : if Region.wanted { dst := some 154, op := Go.Op.indexAddr 35 (Go.Operand.tmp 152) (Go.Operand.tmp 153), type := 0, pos := pos, after := #[{ on := 43, ground := Go.Ground.data }, { on := 44, ground := Go.Ground.data }, { on := 42, ground := Go.Ground.guard }], guard := some (42, false) } (yielded ops a.tmps) = true then Oper.wp Tryd.prog { dst := some 154, op := Go.Op.indexAddr 35 (Go.Operand.tmp 152) (Go.Operand.tmp 153), type := 0, pos := pos, after := #[{ on := 43, ground := Go.Ground.data }, { on := 44, ground := Go.Ground.data }, { on := 42, ground := Go.Ground.guard }], guard := some (42, false) } a W K Q else K (a.put (some 154) undef) W := by
  have hy : yielded ops a.tmps 42 = some false := yielded_of hgd (by rw [hI.size]; show 151 < 178; decide) (hI.val 42 151 rfl h42)
  have hw : Region.wanted { dst := some 154, op := Go.Op.indexAddr 35 (Go.Operand.tmp 152) (Go.Operand.tmp 153), type := 0, pos := pos, after := #[{ on := 43, ground := Go.Ground.data }, { on := 44, ground := Go.Ground.data }, { on := 42, ground := Go.Ground.guard }], guard := some (42, false) } (yielded ops a.tmps) = true := by
    show (yielded ops a.tmps 42 == some false) = true
    rw [hy]
    rfl
  rw [if_pos hw]
  clear hw hy
  have y0 : a.tmps[152]?.getD undef = .slice (some ad3) len3 cap3 := hI.val 43 152 rfl h43
  have y1 : a.tmps[153]?.getD undef = .int .i64 (k : Int) := hI.val 44 153 rfl h44
  have hk := E.kk3
  have i0 : (0 : Int) ≤ (k : Int) := by omega
  have i1 : (k : Int) < (len3 : Int) := by omega
  have R := Lib.hid (hI.step (i := 45) (d := 154) (v := .pointer (some (ad3.add (k * 3)))) rfl bkc_nodup (show 154 < 178 by decide) rfl hI.held)
  clear hI E hf
  go_simp
  exact hK _ _ R.out

set_option maxRecDepth 100000 in
theorem bkc_46 {len cap len2 cap2 len3 cap3 k id p : Nat} {ad ad2 ad3 : Addr} {s d : ByteArray} {n : Int} {Pre : World → Prop} {base : Array Value} {f : Nat → Bool} {a : Act} {W : World} {K : Act → World → Prop} {Q : Exit → Act → World → Prop} {ops : Array Oper} (E : bkcEnv len cap len2 cap2 len3 cap3 k id p ad ad2 ad3 s d n Pre base) (hI : (bkcTb len cap len2 cap2 len3 cap3 k id p ad ad2 ad3 s d n Pre base).Inv (fun f W => Pre W) f a W) (hf : f 46 = false) (h42 : f 42 = true) (h45 : f 45 = true) (hgd : (ops[42]?).bind (·.dst) = some 151) (pos : String) (hK : ∀ a' W', (bkcTb len cap len2 cap2 len3 cap3 k id p ad ad2 ad3 s d n Pre base).Inv (fun f W => Pre W) (hit f 46) a' W' → K a' W') : if Region.wanted { dst := some 155, op := Go.Op.fieldAddr 42 (Go.Operand.tmp 154) 2, type := 0, pos := pos, after := #[{ on := 45, ground := Go.Ground.data }, { on := 42, ground := Go.Ground.guard }], guard := some (42, false) } (yielded ops a.tmps) = true then Oper.wp Tryd.prog { dst := some 155, op := Go.Op.fieldAddr 42 (Go.Operand.tmp 154) 2, type := 0, pos := pos, after := #[{ on := 45, ground := Go.Ground.data }, { on := 42, ground := Go.Ground.guard }], guard := some (42, false) } a W K Q else K (a.put (some 155) undef) W := by
  have hy : yielded ops a.tmps 42 = some false := yielded_of hgd (by rw [hI.size]; show 151 < 178; decide) (hI.val 42 151 rfl h42)
  have hw : Region.wanted { dst := some 155, op := Go.Op.fieldAddr 42 (Go.Operand.tmp 154) 2, type := 0, pos := pos, after := #[{ on := 45, ground := Go.Ground.data }, { on := 42, ground := Go.Ground.guard }], guard := some (42, false) } (yielded ops a.tmps) = true := by
    show (yielded ops a.tmps 42 == some false) = true
    rw [hy]
    rfl
  rw [if_pos hw]
  clear hw hy
  have q : a.tmps[154]?.getD undef = .pointer (some (ad3.add (k * 3))) := hI.val 45 154 rfl h45
  have R := Lib.hid (hI.step (i := 46) (d := 155) (v := .pointer (some ⟨(ad3.add (k * 3)).block, (ad3.add (k * 3)).off + 2, none⟩)) rfl bkc_nodup (show 155 < 178 by decide) rfl hI.held)
  clear hI E hf
  go_simp
  exact hK _ _ R.out

set_option maxRecDepth 100000 in
theorem bkc_47 {len cap len2 cap2 len3 cap3 k id p : Nat} {ad ad2 ad3 : Addr} {s d : ByteArray} {n : Int} {Pre : World → Prop} {base : Array Value} {f : Nat → Bool} {a : Act} {W : World} {K : Act → World → Prop} {Q : Exit → Act → World → Prop} {ops : Array Oper} (E : bkcEnv len cap len2 cap2 len3 cap3 k id p ad ad2 ad3 s d n Pre base) (hI : (bkcTb len cap len2 cap2 len3 cap3 k id p ad ad2 ad3 s d n Pre base).Inv (fun f W => Pre W) f a W) (hf : f 47 = false) (h42 : f 42 = true) (h46 : f 46 = true) (hgd : (ops[42]?).bind (·.dst) = some 151) (pos : String) (hK : ∀ a' W', (bkcTb len cap len2 cap2 len3 cap3 k id p ad ad2 ad3 s d n Pre base).Inv (fun f W => Pre W) (hit f 47) a' W' → K a' W') : if Region.wanted { dst := some 156, op := Go.Op.load 3 (Go.Operand.tmp 155), type := 3, pos := pos, after := #[{ on := 46, ground := Go.Ground.data }, { on := 42, ground := Go.Ground.guard }], guard := some (42, false) } (yielded ops a.tmps) = true then Oper.wp Tryd.prog { dst := some 156, op := Go.Op.load 3 (Go.Operand.tmp 155), type := 3, pos := pos, after := #[{ on := 46, ground := Go.Ground.data }, { on := 42, ground := Go.Ground.guard }], guard := some (42, false) } a W K Q else K (a.put (some 156) undef) W := by
  have hy : yielded ops a.tmps 42 = some false := yielded_of hgd (by rw [hI.size]; show 151 < 178; decide) (hI.val 42 151 rfl h42)
  have hw : Region.wanted { dst := some 156, op := Go.Op.load 3 (Go.Operand.tmp 155), type := 3, pos := pos, after := #[{ on := 46, ground := Go.Ground.data }, { on := 42, ground := Go.Ground.guard }], guard := some (42, false) } (yielded ops a.tmps) = true := by
    show (yielded ops a.tmps 42 == some false) = true
    rw [hy]
    rfl
  rw [if_pos hw]
  clear hw hy
  have q : a.tmps[155]?.getD undef = .pointer (some ⟨(ad3.add (k * 3)).block, (ad3.add (k * 3)).off + 2, none⟩) := hI.val 46 155 rfl h46
  have c : W.cell? ⟨(ad3.add (k * 3)).block, (ad3.add (k * 3)).off + 2, none⟩ = some (.int .i64 (d.size : Int)) := (E.c W (.inl hI.held)).2.2.2.2.2.2
  have R := Lib.hid (hI.step (i := 47) (d := 156) (v := .int .i64 (d.size : Int)) rfl bkc_nodup (show 156 < 178 by decide) rfl hI.held)
  clear hI E hf
  go_simp
  exact hK _ _ R.out

set_option maxRecDepth 100000 in
theorem bkc_48 {len cap len2 cap2 len3 cap3 k id p : Nat} {ad ad2 ad3 : Addr} {s d : ByteArray} {n : Int} {Pre : World → Prop} {base : Array Value} {f : Nat → Bool} {a : Act} {W : World} {K : Act → World → Prop} {Q : Exit → Act → World → Prop} {ops : Array Oper} (E : bkcEnv len cap len2 cap2 len3 cap3 k id p ad ad2 ad3 s d n Pre base) (hI : (bkcTb len cap len2 cap2 len3 cap3 k id p ad ad2 ad3 s d n Pre base).Inv (fun f W => Pre W) f a W) (hf : f 48 = false) (h42 : f 42 = true) (hgd : (ops[42]?).bind (·.dst) = some 151) (pos : String) (hK : ∀ a' W', (bkcTb len cap len2 cap2 len3 cap3 k id p ad ad2 ad3 s d n Pre base).Inv (fun f W => Pre W) (hit f 48) a' W' → K a' W') : if Region.wanted { dst := some 157, op := Go.Op.move (Go.Operand.tmp 13), type := 9, pos := pos, after := #[{ on := 42, ground := Go.Ground.guard }], guard := some (42, false) } (yielded ops a.tmps) = true then Oper.wp Tryd.prog { dst := some 157, op := Go.Op.move (Go.Operand.tmp 13), type := 9, pos := pos, after := #[{ on := 42, ground := Go.Ground.guard }], guard := some (42, false) } a W K Q else K (a.put (some 157) undef) W := by
  have hy : yielded ops a.tmps 42 = some false := yielded_of hgd (by rw [hI.size]; show 151 < 178; decide) (hI.val 42 151 rfl h42)
  have hw : Region.wanted { dst := some 157, op := Go.Op.move (Go.Operand.tmp 13), type := 9, pos := pos, after := #[{ on := 42, ground := Go.Ground.guard }], guard := some (42, false) } (yielded ops a.tmps) = true := by
    show (yielded ops a.tmps 42 == some false) = true
    rw [hy]
    rfl
  rw [if_pos hw]
  clear hw hy
  have q : a.tmps[13]?.getD undef = .string d := (hI.base 13 rfl).trans E.b13
  have R := Lib.hid (hI.step (i := 48) (d := 157) (v := .string d) rfl bkc_nodup (show 157 < 178 by decide) rfl hI.held)
  clear hI E hf
  go_simp
  exact hK _ _ R.out

set_option maxRecDepth 100000 in
theorem bkc_49 {len cap len2 cap2 len3 cap3 k id p : Nat} {ad ad2 ad3 : Addr} {s d : ByteArray} {n : Int} {Pre : World → Prop} {base : Array Value} {f : Nat → Bool} {a : Act} {W : World} {K : Act → World → Prop} {Q : Exit → Act → World → Prop} {ops : Array Oper} (E : bkcEnv len cap len2 cap2 len3 cap3 k id p ad ad2 ad3 s d n Pre base) (hI : (bkcTb len cap len2 cap2 len3 cap3 k id p ad ad2 ad3 s d n Pre base).Inv (fun f W => Pre W) f a W) (hf : f 49 = false) (h42 : f 42 = true) (h48 : f 48 = true) (hgd : (ops[42]?).bind (·.dst) = some 151) (pos : String) (hK : ∀ a' W', (bkcTb len cap len2 cap2 len3 cap3 k id p ad ad2 ad3 s d n Pre base).Inv (fun f W => Pre W) (hit f 49) a' W' → K a' W') : if Region.wanted { dst := some 158, op := Go.Op.call { callee := Go.Callee.builtin Go.Builtin.len, args := #[Go.Operand.tmp 157], argTypes := #[9] }, type := 3, pos := pos, after := #[{ on := 48, ground := Go.Ground.data }, { on := 42, ground := Go.Ground.guard }], guard := some (42, false) } (yielded ops a.tmps) = true then Oper.wp Tryd.prog { dst := some 158, op := Go.Op.call { callee := Go.Callee.builtin Go.Builtin.len, args := #[Go.Operand.tmp 157], argTypes := #[9] }, type := 3, pos := pos, after := #[{ on := 48, ground := Go.Ground.data }, { on := 42, ground := Go.Ground.guard }], guard := some (42, false) } a W K Q else K (a.put (some 158) undef) W := by
  have hy : yielded ops a.tmps 42 = some false := yielded_of hgd (by rw [hI.size]; show 151 < 178; decide) (hI.val 42 151 rfl h42)
  have hw : Region.wanted { dst := some 158, op := Go.Op.call { callee := Go.Callee.builtin Go.Builtin.len, args := #[Go.Operand.tmp 157], argTypes := #[9] }, type := 3, pos := pos, after := #[{ on := 48, ground := Go.Ground.data }, { on := 42, ground := Go.Ground.guard }], guard := some (42, false) } (yielded ops a.tmps) = true := by
    show (yielded ops a.tmps 42 == some false) = true
    rw [hy]
    rfl
  rw [if_pos hw]
  clear hw hy
  have q : a.tmps[157]?.getD undef = .string d := hI.val 48 157 rfl h48
  have R := Lib.hid (hI.step (i := 49) (d := 158) (v := .int .i64 (d.size : Int)) rfl bkc_nodup (show 158 < 178 by decide) rfl hI.held)
  clear hI E hf
  go_simp
  exact hK _ _ R.out

set_option maxRecDepth 100000 in
theorem bkc_50 {len cap len2 cap2 len3 cap3 k id p : Nat} {ad ad2 ad3 : Addr} {s d : ByteArray} {n : Int} {Pre : World → Prop} {base : Array Value} {f : Nat → Bool} {a : Act} {W : World} {K : Act → World → Prop} {Q : Exit → Act → World → Prop} {ops : Array Oper} (E : bkcEnv len cap len2 cap2 len3 cap3 k id p ad ad2 ad3 s d n Pre base) (hI : (bkcTb len cap len2 cap2 len3 cap3 k id p ad ad2 ad3 s d n Pre base).Inv (fun f W => Pre W) f a W) (hf : f 50 = false) (h42 : f 42 = true) (h47 : f 47 = true) (h49 : f 49 = true) (hgd : (ops[42]?).bind (·.dst) = some 151) (pos : String) (hK : ∀ a' W', (bkcTb len cap len2 cap2 len3 cap3 k id p ad ad2 ad3 s d n Pre base).Inv (fun f W => Pre W) (hit f 50) a' W' → K a' W') : if Region.wanted { dst := some 159, op := Go.Op.binOp Go.BinOp.neq 3 (Go.Operand.tmp 156) (Go.Operand.tmp 158) 3, type := 4, pos := pos, after := #[{ on := 47, ground := Go.Ground.data }, { on := 49, ground := Go.Ground.data }, { on := 42, ground := Go.Ground.guard }], guard := some (42, false) } (yielded ops a.tmps) = true then Oper.wp Tryd.prog { dst := some 159, op := Go.Op.binOp Go.BinOp.neq 3 (Go.Operand.tmp 156) (Go.Operand.tmp 158) 3, type := 4, pos := pos, after := #[{ on := 47, ground := Go.Ground.data }, { on := 49, ground := Go.Ground.data }, { on := 42, ground := Go.Ground.guard }], guard := some (42, false) } a W K Q else K (a.put (some 159) undef) W := by
  have hy : yielded ops a.tmps 42 = some false := yielded_of hgd (by rw [hI.size]; show 151 < 178; decide) (hI.val 42 151 rfl h42)
  have hw : Region.wanted { dst := some 159, op := Go.Op.binOp Go.BinOp.neq 3 (Go.Operand.tmp 156) (Go.Operand.tmp 158) 3, type := 4, pos := pos, after := #[{ on := 47, ground := Go.Ground.data }, { on := 49, ground := Go.Ground.data }, { on := 42, ground := Go.Ground.guard }], guard := some (42, false) } (yielded ops a.tmps) = true := by
    show (yielded ops a.tmps 42 == some false) = true
    rw [hy]
    rfl
  rw [if_pos hw]
  clear hw hy
  have y0 : a.tmps[156]?.getD undef = .int .i64 (d.size : Int) := hI.val 47 156 rfl h47
  have y1 : a.tmps[158]?.getD undef = .int .i64 (d.size : Int) := hI.val 49 158 rfl h49
  have R := Lib.hid (hI.step (i := 50) (d := 159) (v := .bool false) rfl bkc_nodup (show 159 < 178 by decide) rfl hI.held)
  clear hI E hf
  go_simp
  exact hK _ _ R.out

set_option maxRecDepth 100000 in
theorem bkc_51 {len cap len2 cap2 len3 cap3 k id p : Nat} {ad ad2 ad3 : Addr} {s d : ByteArray} {n : Int} {Pre : World → Prop} {base : Array Value} {f : Nat → Bool} {a : Act} {W : World} {K : Act → World → Prop} {Q : Exit → Act → World → Prop} {ops : Array Oper} (E : bkcEnv len cap len2 cap2 len3 cap3 k id p ad ad2 ad3 s d n Pre base) (hI : (bkcTb len cap len2 cap2 len3 cap3 k id p ad ad2 ad3 s d n Pre base).Inv (fun f W => Pre W) f a W) (hf : f 51 = false) (h42 : f 42 = true) (h50 : f 50 = true) (pos : String) (hK : ∀ a' W', (bkcTb len cap len2 cap2 len3 cap3 k id p ad ad2 ad3 s d n Pre base).Inv (fun f W => Pre W) (hit f 51) a' W' → K a' W') : if Region.wanted { dst := some 160, op := Go.Op.pick (Go.Operand.tmp 151) (Go.Operand.const (Go.Value.bool true)) (Go.Operand.tmp 159), type := 4, pos := pos, after := #[{ on := 42, ground := Go.Ground.data }, { on := 50, ground := Go.Ground.data }], guard := none } (yielded ops a.tmps) = true then Oper.wp Tryd.prog { dst := some 160, op := Go.Op.pick (Go.Operand.tmp 151) (Go.Operand.const (Go.Value.bool true)) (Go.Operand.tmp 159), type := 4, pos := pos, after := #[{ on := 42, ground := Go.Ground.data }, { on := 50, ground := Go.Ground.data }], guard := none } a W K Q else K (a.put (some 160) undef) W := by
  have y0 : a.tmps[151]?.getD undef = .bool false := hI.val 42 151 rfl h42
  have y2 : a.tmps[159]?.getD undef = .bool false := hI.val 50 159 rfl h50
  have R := Lib.hid (hI.step (i := 51) (d := 160) (v := .bool false) rfl bkc_nodup (show 160 < 178 by decide) rfl hI.held)
  clear hI E hf
  go_simp
  exact hK _ _ R.out

abbrev bkcOps : Array Oper := #[{ dst := some 109, op := Go.Op.move (Go.Operand.tmp 14), type := 26, pos := "outright.go:37", after := #[], guard := none }, { dst := some 110, op := Go.Op.binOp Go.BinOp.neq 26 (Go.Operand.tmp 109) (Go.Operand.const (Go.Value.int Go.IntKind.i64 0)) 26, type := 4, pos := "outright.go:37", after := #[{ on := 0, ground := Go.Ground.data }], guard := none }, { dst := some 111, op := Go.Op.move (Go.Operand.tmp 110), type := 4, pos := "outright.go:37", after := #[{ on := 1, ground := Go.Ground.data }], guard := none }, { dst := some 112, op := Go.Op.move (Go.Operand.tmp 13), type := 9, pos := "outright.go:37", after := #[{ on := 2, ground := Go.Ground.guard }], guard := some (2, false) }, { dst := some 113, op := Go.Op.move (Go.Operand.tmp 0), type := 22, pos := "outright.go:37", after := #[{ on := 2, ground := Go.Ground.guard }], guard := some (2, false) }, { dst := some 114, op := Go.Op.move (Go.Operand.tmp 12), type := 3, pos := "outright.go:37", after := #[{ on := 2, ground := Go.Ground.guard }], guard := some (2, false) }, { dst := some 115, op := Go.Op.indexAddr 22 (Go.Operand.tmp 113) (Go.Operand.tmp 114), type := 0, pos := "outright.go:37", after := #[{ on := 4, ground := Go.Ground.data }, { on := 5, ground := Go.Ground.data }, { on := 2, ground := Go.Ground.guard }], guard := some (2, false) }, { dst := some 116, op := Go.Op.fieldAddr 33 (Go.Operand.tmp 115) 1, type := 0, pos := "outright.go:37", after := #[{ on := 6, ground := Go.Ground.data }, { on := 2, ground := Go.Ground.guard }], guard := some (2, false) }, { dst := some 117, op := Go.Op.load 9 (Go.Operand.tmp 116), type := 9, pos := "outright.go:37", after := #[{ on := 7, ground := Go.Ground.data }, { on := 2, ground := Go.Ground.guard }], guard := some (2, false) }, { dst := some 118, op := Go.Op.move (Go.Operand.tmp 0), type := 22, pos := "outright.go:37", after := #[{ on := 2, ground := Go.Ground.guard }], guard := some (2, false) }, { dst := some 119, op := Go.Op.move (Go.Operand.tmp 12), type := 3, pos := "outright.go:37", after := #[{ on := 2, ground := Go.Ground.guard }], guard := some (2, false) }, { dst := some 120, op := Go.Op.indexAddr 22 (Go.Operand.tmp 118) (Go.Operand.tmp 119), type := 0, pos := "outright.go:37", after := #[{ on := 9, ground := Go.Ground.data }, { on := 10, ground := Go.Ground.data }, { on := 2, ground := Go.Ground.guard }], guard := some (2, false) }, { dst := some 121, op := Go.Op.fieldAddr 33 (Go.Operand.tmp 120) 2, type := 0, pos := "outright.go:37", after := #[{ on := 11, ground := Go.Ground.data }, { on := 2, ground := Go.Ground.guard }], guard := some (2, false) }, { dst := some 122, op := Go.Op.load 3 (Go.Operand.tmp 121), type := 3, pos := "outright.go:37", after := #[{ on := 12, ground := Go.Ground.data }, { on := 2, ground := Go.Ground.guard }], guard := some (2, false) }, { dst := some 123, op := Go.Op.call { callee := Go.Callee.value (Go.Operand.func 15), args := #[Go.Operand.tmp 117, Go.Operand.tmp 122], argTypes := #[9, 3] }, type := 9, pos := "outright.go:37", after := #[{ on := 8, ground := Go.Ground.data }, { on := 13, ground := Go.Ground.data }, { on := 2, ground := Go.Ground.chain }, { on := 2, ground := Go.Ground.guard }], guard := some (2, false) }, { dst := some 124, op := Go.Op.binOp Go.BinOp.neq 9 (Go.Operand.tmp 112) (Go.Operand.tmp 123) 9, type := 4, pos := "outright.go:37", after := #[{ on := 3, ground := Go.Ground.data }, { on := 14, ground := Go.Ground.data }, { on := 2, ground := Go.Ground.guard }], guard := some (2, false) }, { dst := some 125, op := Go.Op.pick (Go.Operand.tmp 111) (Go.Operand.const (Go.Value.bool true)) (Go.Operand.tmp 124), type := 4, pos := "outright.go:37", after := #[{ on := 2, ground := Go.Ground.data }, { on := 15, ground := Go.Ground.data }], guard := none }, { dst := some 126, op := Go.Op.move (Go.Operand.tmp 125), type := 4, pos := "outright.go:37", after := #[{ on := 16, ground := Go.Ground.data }, { on := 14, ground := Go.Ground.chain }], guard := none }, { dst := some 127, op := Go.Op.move (Go.Operand.tmp 9), type := 35, pos := "outright.go:37", after := #[{ on := 17, ground := Go.Ground.guard }], guard := some (17, false) }, { dst := some 128, op := Go.Op.move (Go.Operand.tmp 12), type := 3, pos := "outright.go:37", after := #[{ on := 17, ground := Go.Ground.guard }], guard := some (17, false) }, { dst := some 129, op := Go.Op.indexAddr 35 (Go.Operand.tmp 127) (Go.Operand.tmp 128), type := 0, pos := "outright.go:37", after := #[{ on := 18, ground := Go.Ground.data }, { on := 19, ground := Go.Ground.data }, { on := 17, ground := Go.Ground.guard }], guard := some (17, false) }, { dst := some 130, op := Go.Op.fieldAddr 42 (Go.Operand.tmp 129) 0, type := 0, pos := "outright.go:37", after := #[{ on := 20, ground := Go.Ground.data }, { on := 17, ground := Go.Ground.guard }], guard := some (17, false) }, { dst := some 131, op := Go.Op.load 31 (Go.Operand.tmp 130), type := 31, pos := "outright.go:37", after := #[{ on := 21, ground := Go.Ground.data }, { on := 17, ground := Go.Ground.guard }], guard := some (17, false) }, { dst := some 132, op := Go.Op.move (Go.Operand.tmp 0), type := 22, pos := "outright.go:37", after := #[{ on := 17, ground := Go.Ground.guard }], guard := some (17, false) }, { dst := some 133, op := Go.Op.move (Go.Operand.tmp 12), type := 3, pos := "outright.go:37", after := #[{ on := 17, ground := Go.Ground.guard }], guard := some (17, false) }, { dst := some 134, op := Go.Op.indexAddr 22 (Go.Operand.tmp 132) (Go.Operand.tmp 133), type := 0, pos := "outright.go:37", after := #[{ on := 23, ground := Go.Ground.data }, { on := 24, ground := Go.Ground.data }, { on := 17, ground := Go.Ground.guard }], guard := some (17, false) }, { dst := some 135, op := Go.Op.fieldAddr 33 (Go.Operand.tmp 134) 0, type := 0, pos := "outright.go:37", after := #[{ on := 25, ground := Go.Ground.data }, { on := 17, ground := Go.Ground.guard }], guard := some (17, false) }, { dst := some 136, op := Go.Op.load 31 (Go.Operand.tmp 135), type := 31, pos := "outright.go:37", after := #[{ on := 26, ground := Go.Ground.data }, { on := 17, ground := Go.Ground.guard }], guard := some (17, false) }, { dst := some 137, op := Go.Op.binOp Go.BinOp.neq 31 (Go.Operand.tmp 131) (Go.Operand.tmp 136) 31, type := 4, pos := "outright.go:37", after := #[{ on := 22, ground := Go.Ground.data }, { on := 27, ground := Go.Ground.data }, { on := 17, ground := Go.Ground.guard }], guard := some (17, false) }, { dst := some 138, op := Go.Op.pick (Go.Operand.tmp 126) (Go.Operand.const (Go.Value.bool true)) (Go.Operand.tmp 137), type := 4, pos := "outright.go:37", after := #[{ on := 17, ground := Go.Ground.data }, { on := 28, ground := Go.Ground.data }], guard := none }, { dst := some 139, op := Go.Op.move (Go.Operand.tmp 138), type := 4, pos := "outright.go:37", after := #[{ on := 29, ground := Go.Ground.data }, { on := 17, ground := Go.Ground.chain }], guard := none }, { dst := some 140, op := Go.Op.move (Go.Operand.tmp 9), type := 35, pos := "outright.go:37", after := #[{ on := 30, ground := Go.Ground.guard }], guard := some (30, false) }, { dst := some 141, op := Go.Op.move (Go.Operand.tmp 12), type := 3, pos := "outright.go:37", after := #[{ on := 30, ground := Go.Ground.guard }], guard := some (30, false) }, { dst := some 142, op := Go.Op.indexAddr 35 (Go.Operand.tmp 140) (Go.Operand.tmp 141), type := 0, pos := "outright.go:37", after := #[{ on := 31, ground := Go.Ground.data }, { on := 32, ground := Go.Ground.data }, { on := 30, ground := Go.Ground.guard }], guard := some (30, false) }, { dst := some 143, op := Go.Op.fieldAddr 42 (Go.Operand.tmp 142) 1, type := 0, pos := "outright.go:37", after := #[{ on := 33, ground := Go.Ground.data }, { on := 30, ground := Go.Ground.guard }], guard := some (30, false) }, { dst := some 144, op := Go.Op.load 3 (Go.Operand.tmp 143), type := 3, pos := "outright.go:37", after := #[{ on := 34, ground := Go.Ground.data }, { on := 30, ground := Go.Ground.guard }], guard := some (30, false) }, { dst := some 145, op := Go.Op.move (Go.Operand.tmp 4), type := 28, pos := "outright.go:37", after := #[{ on := 30, ground := Go.Ground.guard }], guard := some (30, false) }, { dst := some 146, op := Go.Op.move (Go.Operand.tmp 12), type := 3, pos := "outright.go:37", after := #[{ on := 30, ground := Go.Ground.guard }], guard := some (30, false) }, { dst := some 147, op := Go.Op.indexAddr 28 (Go.Operand.tmp 145) (Go.Operand.tmp 146), type := 0, pos := "outright.go:37", after := #[{ on := 36, ground := Go.Ground.data }, { on := 37, ground := Go.Ground.data }, { on := 30, ground := Go.Ground.guard }], guard := some (30, false) }, { dst := some 148, op := Go.Op.load 3 (Go.Operand.tmp 147), type := 3, pos := "outright.go:37", after := #[{ on := 38, ground := Go.Ground.data }, { on := 30, ground := Go.Ground.guard }], guard := some (30, false) }, { dst := some 149, op := Go.Op.binOp Go.BinOp.neq 3 (Go.Operand.tmp 144) (Go.Operand.tmp 148) 3, type := 4, pos := "outright.go:37", after := #[{ on := 35, ground := Go.Ground.data }, { on := 39, ground := Go.Ground.data }, { on := 30, ground := Go.Ground.guard }], guard := some (30, false) }, { dst := some 150, op := Go.Op.pick (Go.Operand.tmp 139) (Go.Operand.const (Go.Value.bool true)) (Go.Operand.tmp 149), type := 4, pos := "outright.go:37", after := #[{ on := 30, ground := Go.Ground.data }, { on := 40, ground := Go.Ground.data }], guard := none }, { dst := some 151, op := Go.Op.move (Go.Operand.tmp 150), type := 4, pos := "outright.go:37", after := #[{ on := 41, ground := Go.Ground.data }, { on := 30, ground := Go.Ground.chain }], guard := none }, { dst := some 152, op := Go.Op.move (Go.Operand.tmp 9), type := 35, pos := "outright.go:37", after := #[{ on := 42, ground := Go.Ground.guard }], guard := some (42, false) }, { dst := some 153, op := Go.Op.move (Go.Operand.tmp 12), type := 3, pos := "outright.go:37", after := #[{ on := 42, ground := Go.Ground.guard }], guard := some (42, false) }, { dst := some 154, op := Go.Op.indexAddr 35 (Go.Operand.tmp 152) (Go.Operand.tmp 153), type := 0, pos := "outright.go:37", after := #[{ on := 43, ground := Go.Ground.data }, { on := 44, ground := Go.Ground.data }, { on := 42, ground := Go.Ground.guard }], guard := some (42, false) }, { dst := some 155, op := Go.Op.fieldAddr 42 (Go.Operand.tmp 154) 2, type := 0, pos := "outright.go:37", after := #[{ on := 45, ground := Go.Ground.data }, { on := 42, ground := Go.Ground.guard }], guard := some (42, false) }, { dst := some 156, op := Go.Op.load 3 (Go.Operand.tmp 155), type := 3, pos := "outright.go:37", after := #[{ on := 46, ground := Go.Ground.data }, { on := 42, ground := Go.Ground.guard }], guard := some (42, false) }, { dst := some 157, op := Go.Op.move (Go.Operand.tmp 13), type := 9, pos := "outright.go:37", after := #[{ on := 42, ground := Go.Ground.guard }], guard := some (42, false) }, { dst := some 158, op := Go.Op.call { callee := Go.Callee.builtin Go.Builtin.len, args := #[Go.Operand.tmp 157], argTypes := #[9] }, type := 3, pos := "outright.go:37", after := #[{ on := 48, ground := Go.Ground.data }, { on := 42, ground := Go.Ground.guard }], guard := some (42, false) }, { dst := some 159, op := Go.Op.binOp Go.BinOp.neq 3 (Go.Operand.tmp 156) (Go.Operand.tmp 158) 3, type := 4, pos := "outright.go:37", after := #[{ on := 47, ground := Go.Ground.data }, { on := 49, ground := Go.Ground.data }, { on := 42, ground := Go.Ground.guard }], guard := some (42, false) }, { dst := some 160, op := Go.Op.pick (Go.Operand.tmp 151) (Go.Operand.const (Go.Value.bool true)) (Go.Operand.tmp 159), type := 4, pos := "outright.go:37", after := #[{ on := 42, ground := Go.Ground.data }, { on := 50, ground := Go.Ground.data }], guard := none }]
set_option maxRecDepth 100000 in
set_option maxHeartbeats 4000000 in
theorem bkc_step {len cap len2 cap2 len3 cap3 k id p : Nat} {ad ad2 ad3 : Addr} {s d : ByteArray} {n : Int} {Pre : World → Prop} {base : Array Value} {Q : Exit → Act → World → Prop} (E : bkcEnv len cap len2 cap2 len3 cap3 k id p ad ad2 ad3 s d n Pre base) :
    ∀ f a W i o, bkcOps[i]? = some o → f i = false → (∀ e ∈ o.after, Region.binds .any e = true → f e.on = true) → (bkcTb len cap len2 cap2 len3 cap3 k id p ad ad2 ad3 s d n Pre base).Inv (fun f W => Pre W) f a W → wpOp Tryd.prog bkcOps Q i (fun a' W' => (bkcTb len cap len2 cap2 len3 cap3 k id p ad ad2 ad3 s d n Pre base).Inv (fun f W => Pre W) (hit f i) a' W') a W := by
  intro f a W i o ho hf hed hI
  have hi : i < 52 := (Array.getElem?_eq_some_iff.1 ho).1
  have hc : i = 0 ∨ i = 1 ∨ i = 2 ∨ i = 3 ∨ i = 4 ∨ i = 5 ∨ i = 6 ∨ i = 7 ∨ i = 8 ∨ i = 9 ∨ i = 10 ∨ i = 11 ∨ i = 12 ∨ i = 13 ∨ i = 14 ∨ i = 15 ∨ i = 16 ∨ i = 17 ∨ i = 18 ∨ i = 19 ∨ i = 20 ∨ i = 21 ∨ i = 22 ∨ i = 23 ∨ i = 24 ∨ i = 25 ∨ i = 26 ∨ i = 27 ∨ i = 28 ∨ i = 29 ∨ i = 30 ∨ i = 31 ∨ i = 32 ∨ i = 33 ∨ i = 34 ∨ i = 35 ∨ i = 36 ∨ i = 37 ∨ i = 38 ∨ i = 39 ∨ i = 40 ∨ i = 41 ∨ i = 42 ∨ i = 43 ∨ i = 44 ∨ i = 45 ∨ i = 46 ∨ i = 47 ∨ i = 48 ∨ i = 49 ∨ i = 50 ∨ i = 51 := by omega
  rcases hc with rfl | rfl | rfl | rfl | rfl | rfl | rfl | rfl | rfl | rfl | rfl | rfl | rfl | rfl | rfl | rfl | rfl | rfl | rfl | rfl | rfl | rfl | rfl | rfl | rfl | rfl | rfl | rfl | rfl | rfl | rfl | rfl | rfl | rfl | rfl | rfl | rfl | rfl | rfl | rfl | rfl | rfl | rfl | rfl | rfl | rfl | rfl | rfl | rfl | rfl | rfl | rfl
  · cases ho
    exact wpOp_step (o := { dst := some 109, op := Go.Op.move (Go.Operand.tmp 14), type := 26, pos := "outright.go:37", after := #[], guard := none }) rfl fun K hK => bkc_0 E hI hf "outright.go:37" (fun a' W' h => hK a' W' h)
  · cases ho
    exact wpOp_step (o := { dst := some 110, op := Go.Op.binOp Go.BinOp.neq 26 (Go.Operand.tmp 109) (Go.Operand.const (Go.Value.int Go.IntKind.i64 0)) 26, type := 4, pos := "outright.go:37", after := #[{ on := 0, ground := Go.Ground.data }], guard := none }) rfl fun K hK => bkc_1 E hI hf (hed ⟨0, Go.Ground.data⟩ (Array.mem_of_getElem? (i := 0) rfl) rfl) "outright.go:37" (fun a' W' h => hK a' W' h)
  · cases ho
    exact wpOp_step (o := { dst := some 111, op := Go.Op.move (Go.Operand.tmp 110), type := 4, pos := "outright.go:37", after := #[{ on := 1, ground := Go.Ground.data }], guard := none }) rfl fun K hK => bkc_2 E hI hf (hed ⟨1, Go.Ground.data⟩ (Array.mem_of_getElem? (i := 0) rfl) rfl) "outright.go:37" (fun a' W' h => hK a' W' h)
  · cases ho
    exact wpOp_step (o := { dst := some 112, op := Go.Op.move (Go.Operand.tmp 13), type := 9, pos := "outright.go:37", after := #[{ on := 2, ground := Go.Ground.guard }], guard := some (2, false) }) rfl fun K hK => bkc_3 E hI hf (hed ⟨2, Go.Ground.guard⟩ (Array.mem_of_getElem? (i := 0) rfl) rfl) rfl "outright.go:37" (fun a' W' h => hK a' W' h)
  · cases ho
    exact wpOp_step (o := { dst := some 113, op := Go.Op.move (Go.Operand.tmp 0), type := 22, pos := "outright.go:37", after := #[{ on := 2, ground := Go.Ground.guard }], guard := some (2, false) }) rfl fun K hK => bkc_4 E hI hf (hed ⟨2, Go.Ground.guard⟩ (Array.mem_of_getElem? (i := 0) rfl) rfl) rfl "outright.go:37" (fun a' W' h => hK a' W' h)
  · cases ho
    exact wpOp_step (o := { dst := some 114, op := Go.Op.move (Go.Operand.tmp 12), type := 3, pos := "outright.go:37", after := #[{ on := 2, ground := Go.Ground.guard }], guard := some (2, false) }) rfl fun K hK => bkc_5 E hI hf (hed ⟨2, Go.Ground.guard⟩ (Array.mem_of_getElem? (i := 0) rfl) rfl) rfl "outright.go:37" (fun a' W' h => hK a' W' h)
  · cases ho
    exact wpOp_step (o := { dst := some 115, op := Go.Op.indexAddr 22 (Go.Operand.tmp 113) (Go.Operand.tmp 114), type := 0, pos := "outright.go:37", after := #[{ on := 4, ground := Go.Ground.data }, { on := 5, ground := Go.Ground.data }, { on := 2, ground := Go.Ground.guard }], guard := some (2, false) }) rfl fun K hK => bkc_6 E hI hf (hed ⟨2, Go.Ground.guard⟩ (Array.mem_of_getElem? (i := 2) rfl) rfl) (hed ⟨4, Go.Ground.data⟩ (Array.mem_of_getElem? (i := 0) rfl) rfl) (hed ⟨5, Go.Ground.data⟩ (Array.mem_of_getElem? (i := 1) rfl) rfl) rfl "outright.go:37" (fun a' W' h => hK a' W' h)
  · cases ho
    exact wpOp_step (o := { dst := some 116, op := Go.Op.fieldAddr 33 (Go.Operand.tmp 115) 1, type := 0, pos := "outright.go:37", after := #[{ on := 6, ground := Go.Ground.data }, { on := 2, ground := Go.Ground.guard }], guard := some (2, false) }) rfl fun K hK => bkc_7 E hI hf (hed ⟨2, Go.Ground.guard⟩ (Array.mem_of_getElem? (i := 1) rfl) rfl) (hed ⟨6, Go.Ground.data⟩ (Array.mem_of_getElem? (i := 0) rfl) rfl) rfl "outright.go:37" (fun a' W' h => hK a' W' h)
  · cases ho
    exact wpOp_step (o := { dst := some 117, op := Go.Op.load 9 (Go.Operand.tmp 116), type := 9, pos := "outright.go:37", after := #[{ on := 7, ground := Go.Ground.data }, { on := 2, ground := Go.Ground.guard }], guard := some (2, false) }) rfl fun K hK => bkc_8 E hI hf (hed ⟨2, Go.Ground.guard⟩ (Array.mem_of_getElem? (i := 1) rfl) rfl) (hed ⟨7, Go.Ground.data⟩ (Array.mem_of_getElem? (i := 0) rfl) rfl) rfl "outright.go:37" (fun a' W' h => hK a' W' h)
  · cases ho
    exact wpOp_step (o := { dst := some 118, op := Go.Op.move (Go.Operand.tmp 0), type := 22, pos := "outright.go:37", after := #[{ on := 2, ground := Go.Ground.guard }], guard := some (2, false) }) rfl fun K hK => bkc_9 E hI hf (hed ⟨2, Go.Ground.guard⟩ (Array.mem_of_getElem? (i := 0) rfl) rfl) rfl "outright.go:37" (fun a' W' h => hK a' W' h)
  · cases ho
    exact wpOp_step (o := { dst := some 119, op := Go.Op.move (Go.Operand.tmp 12), type := 3, pos := "outright.go:37", after := #[{ on := 2, ground := Go.Ground.guard }], guard := some (2, false) }) rfl fun K hK => bkc_10 E hI hf (hed ⟨2, Go.Ground.guard⟩ (Array.mem_of_getElem? (i := 0) rfl) rfl) rfl "outright.go:37" (fun a' W' h => hK a' W' h)
  · cases ho
    exact wpOp_step (o := { dst := some 120, op := Go.Op.indexAddr 22 (Go.Operand.tmp 118) (Go.Operand.tmp 119), type := 0, pos := "outright.go:37", after := #[{ on := 9, ground := Go.Ground.data }, { on := 10, ground := Go.Ground.data }, { on := 2, ground := Go.Ground.guard }], guard := some (2, false) }) rfl fun K hK => bkc_11 E hI hf (hed ⟨2, Go.Ground.guard⟩ (Array.mem_of_getElem? (i := 2) rfl) rfl) (hed ⟨9, Go.Ground.data⟩ (Array.mem_of_getElem? (i := 0) rfl) rfl) (hed ⟨10, Go.Ground.data⟩ (Array.mem_of_getElem? (i := 1) rfl) rfl) rfl "outright.go:37" (fun a' W' h => hK a' W' h)
  · cases ho
    exact wpOp_step (o := { dst := some 121, op := Go.Op.fieldAddr 33 (Go.Operand.tmp 120) 2, type := 0, pos := "outright.go:37", after := #[{ on := 11, ground := Go.Ground.data }, { on := 2, ground := Go.Ground.guard }], guard := some (2, false) }) rfl fun K hK => bkc_12 E hI hf (hed ⟨2, Go.Ground.guard⟩ (Array.mem_of_getElem? (i := 1) rfl) rfl) (hed ⟨11, Go.Ground.data⟩ (Array.mem_of_getElem? (i := 0) rfl) rfl) rfl "outright.go:37" (fun a' W' h => hK a' W' h)
  · cases ho
    exact wpOp_step (o := { dst := some 122, op := Go.Op.load 3 (Go.Operand.tmp 121), type := 3, pos := "outright.go:37", after := #[{ on := 12, ground := Go.Ground.data }, { on := 2, ground := Go.Ground.guard }], guard := some (2, false) }) rfl fun K hK => bkc_13 E hI hf (hed ⟨2, Go.Ground.guard⟩ (Array.mem_of_getElem? (i := 1) rfl) rfl) (hed ⟨12, Go.Ground.data⟩ (Array.mem_of_getElem? (i := 0) rfl) rfl) rfl "outright.go:37" (fun a' W' h => hK a' W' h)
  · cases ho
    exact wpOp_step (o := { dst := some 123, op := Go.Op.call { callee := Go.Callee.value (Go.Operand.func 15), args := #[Go.Operand.tmp 117, Go.Operand.tmp 122], argTypes := #[9, 3] }, type := 9, pos := "outright.go:37", after := #[{ on := 8, ground := Go.Ground.data }, { on := 13, ground := Go.Ground.data }, { on := 2, ground := Go.Ground.chain }, { on := 2, ground := Go.Ground.guard }], guard := some (2, false) }) rfl fun K hK => bkc_14 E hI hf (hed ⟨2, Go.Ground.chain⟩ (Array.mem_of_getElem? (i := 2) rfl) rfl) (hed ⟨8, Go.Ground.data⟩ (Array.mem_of_getElem? (i := 0) rfl) rfl) (hed ⟨13, Go.Ground.data⟩ (Array.mem_of_getElem? (i := 1) rfl) rfl) rfl "outright.go:37" (fun a' W' h => hK a' W' h)
  · cases ho
    exact wpOp_step (o := { dst := some 124, op := Go.Op.binOp Go.BinOp.neq 9 (Go.Operand.tmp 112) (Go.Operand.tmp 123) 9, type := 4, pos := "outright.go:37", after := #[{ on := 3, ground := Go.Ground.data }, { on := 14, ground := Go.Ground.data }, { on := 2, ground := Go.Ground.guard }], guard := some (2, false) }) rfl fun K hK => bkc_15 E hI hf (hed ⟨2, Go.Ground.guard⟩ (Array.mem_of_getElem? (i := 2) rfl) rfl) (hed ⟨3, Go.Ground.data⟩ (Array.mem_of_getElem? (i := 0) rfl) rfl) (hed ⟨14, Go.Ground.data⟩ (Array.mem_of_getElem? (i := 1) rfl) rfl) rfl "outright.go:37" (fun a' W' h => hK a' W' h)
  · cases ho
    exact wpOp_step (o := { dst := some 125, op := Go.Op.pick (Go.Operand.tmp 111) (Go.Operand.const (Go.Value.bool true)) (Go.Operand.tmp 124), type := 4, pos := "outright.go:37", after := #[{ on := 2, ground := Go.Ground.data }, { on := 15, ground := Go.Ground.data }], guard := none }) rfl fun K hK => bkc_16 E hI hf (hed ⟨2, Go.Ground.data⟩ (Array.mem_of_getElem? (i := 0) rfl) rfl) (hed ⟨15, Go.Ground.data⟩ (Array.mem_of_getElem? (i := 1) rfl) rfl) "outright.go:37" (fun a' W' h => hK a' W' h)
  · cases ho
    exact wpOp_step (o := { dst := some 126, op := Go.Op.move (Go.Operand.tmp 125), type := 4, pos := "outright.go:37", after := #[{ on := 16, ground := Go.Ground.data }, { on := 14, ground := Go.Ground.chain }], guard := none }) rfl fun K hK => bkc_17 E hI hf (hed ⟨14, Go.Ground.chain⟩ (Array.mem_of_getElem? (i := 1) rfl) rfl) (hed ⟨16, Go.Ground.data⟩ (Array.mem_of_getElem? (i := 0) rfl) rfl) "outright.go:37" (fun a' W' h => hK a' W' h)
  · cases ho
    exact wpOp_step (o := { dst := some 127, op := Go.Op.move (Go.Operand.tmp 9), type := 35, pos := "outright.go:37", after := #[{ on := 17, ground := Go.Ground.guard }], guard := some (17, false) }) rfl fun K hK => bkc_18 E hI hf (hed ⟨17, Go.Ground.guard⟩ (Array.mem_of_getElem? (i := 0) rfl) rfl) rfl "outright.go:37" (fun a' W' h => hK a' W' h)
  · cases ho
    exact wpOp_step (o := { dst := some 128, op := Go.Op.move (Go.Operand.tmp 12), type := 3, pos := "outright.go:37", after := #[{ on := 17, ground := Go.Ground.guard }], guard := some (17, false) }) rfl fun K hK => bkc_19 E hI hf (hed ⟨17, Go.Ground.guard⟩ (Array.mem_of_getElem? (i := 0) rfl) rfl) rfl "outright.go:37" (fun a' W' h => hK a' W' h)
  · cases ho
    exact wpOp_step (o := { dst := some 129, op := Go.Op.indexAddr 35 (Go.Operand.tmp 127) (Go.Operand.tmp 128), type := 0, pos := "outright.go:37", after := #[{ on := 18, ground := Go.Ground.data }, { on := 19, ground := Go.Ground.data }, { on := 17, ground := Go.Ground.guard }], guard := some (17, false) }) rfl fun K hK => bkc_20 E hI hf (hed ⟨17, Go.Ground.guard⟩ (Array.mem_of_getElem? (i := 2) rfl) rfl) (hed ⟨18, Go.Ground.data⟩ (Array.mem_of_getElem? (i := 0) rfl) rfl) (hed ⟨19, Go.Ground.data⟩ (Array.mem_of_getElem? (i := 1) rfl) rfl) rfl "outright.go:37" (fun a' W' h => hK a' W' h)
  · cases ho
    exact wpOp_step (o := { dst := some 130, op := Go.Op.fieldAddr 42 (Go.Operand.tmp 129) 0, type := 0, pos := "outright.go:37", after := #[{ on := 20, ground := Go.Ground.data }, { on := 17, ground := Go.Ground.guard }], guard := some (17, false) }) rfl fun K hK => bkc_21 E hI hf (hed ⟨17, Go.Ground.guard⟩ (Array.mem_of_getElem? (i := 1) rfl) rfl) (hed ⟨20, Go.Ground.data⟩ (Array.mem_of_getElem? (i := 0) rfl) rfl) rfl "outright.go:37" (fun a' W' h => hK a' W' h)
  · cases ho
    exact wpOp_step (o := { dst := some 131, op := Go.Op.load 31 (Go.Operand.tmp 130), type := 31, pos := "outright.go:37", after := #[{ on := 21, ground := Go.Ground.data }, { on := 17, ground := Go.Ground.guard }], guard := some (17, false) }) rfl fun K hK => bkc_22 E hI hf (hed ⟨17, Go.Ground.guard⟩ (Array.mem_of_getElem? (i := 1) rfl) rfl) (hed ⟨21, Go.Ground.data⟩ (Array.mem_of_getElem? (i := 0) rfl) rfl) rfl "outright.go:37" (fun a' W' h => hK a' W' h)
  · cases ho
    exact wpOp_step (o := { dst := some 132, op := Go.Op.move (Go.Operand.tmp 0), type := 22, pos := "outright.go:37", after := #[{ on := 17, ground := Go.Ground.guard }], guard := some (17, false) }) rfl fun K hK => bkc_23 E hI hf (hed ⟨17, Go.Ground.guard⟩ (Array.mem_of_getElem? (i := 0) rfl) rfl) rfl "outright.go:37" (fun a' W' h => hK a' W' h)
  · cases ho
    exact wpOp_step (o := { dst := some 133, op := Go.Op.move (Go.Operand.tmp 12), type := 3, pos := "outright.go:37", after := #[{ on := 17, ground := Go.Ground.guard }], guard := some (17, false) }) rfl fun K hK => bkc_24 E hI hf (hed ⟨17, Go.Ground.guard⟩ (Array.mem_of_getElem? (i := 0) rfl) rfl) rfl "outright.go:37" (fun a' W' h => hK a' W' h)
  · cases ho
    exact wpOp_step (o := { dst := some 134, op := Go.Op.indexAddr 22 (Go.Operand.tmp 132) (Go.Operand.tmp 133), type := 0, pos := "outright.go:37", after := #[{ on := 23, ground := Go.Ground.data }, { on := 24, ground := Go.Ground.data }, { on := 17, ground := Go.Ground.guard }], guard := some (17, false) }) rfl fun K hK => bkc_25 E hI hf (hed ⟨17, Go.Ground.guard⟩ (Array.mem_of_getElem? (i := 2) rfl) rfl) (hed ⟨23, Go.Ground.data⟩ (Array.mem_of_getElem? (i := 0) rfl) rfl) (hed ⟨24, Go.Ground.data⟩ (Array.mem_of_getElem? (i := 1) rfl) rfl) rfl "outright.go:37" (fun a' W' h => hK a' W' h)
  · cases ho
    exact wpOp_step (o := { dst := some 135, op := Go.Op.fieldAddr 33 (Go.Operand.tmp 134) 0, type := 0, pos := "outright.go:37", after := #[{ on := 25, ground := Go.Ground.data }, { on := 17, ground := Go.Ground.guard }], guard := some (17, false) }) rfl fun K hK => bkc_26 E hI hf (hed ⟨17, Go.Ground.guard⟩ (Array.mem_of_getElem? (i := 1) rfl) rfl) (hed ⟨25, Go.Ground.data⟩ (Array.mem_of_getElem? (i := 0) rfl) rfl) rfl "outright.go:37" (fun a' W' h => hK a' W' h)
  · cases ho
    exact wpOp_step (o := { dst := some 136, op := Go.Op.load 31 (Go.Operand.tmp 135), type := 31, pos := "outright.go:37", after := #[{ on := 26, ground := Go.Ground.data }, { on := 17, ground := Go.Ground.guard }], guard := some (17, false) }) rfl fun K hK => bkc_27 E hI hf (hed ⟨17, Go.Ground.guard⟩ (Array.mem_of_getElem? (i := 1) rfl) rfl) (hed ⟨26, Go.Ground.data⟩ (Array.mem_of_getElem? (i := 0) rfl) rfl) rfl "outright.go:37" (fun a' W' h => hK a' W' h)
  · cases ho
    exact wpOp_step (o := { dst := some 137, op := Go.Op.binOp Go.BinOp.neq 31 (Go.Operand.tmp 131) (Go.Operand.tmp 136) 31, type := 4, pos := "outright.go:37", after := #[{ on := 22, ground := Go.Ground.data }, { on := 27, ground := Go.Ground.data }, { on := 17, ground := Go.Ground.guard }], guard := some (17, false) }) rfl fun K hK => bkc_28 E hI hf (hed ⟨17, Go.Ground.guard⟩ (Array.mem_of_getElem? (i := 2) rfl) rfl) (hed ⟨22, Go.Ground.data⟩ (Array.mem_of_getElem? (i := 0) rfl) rfl) (hed ⟨27, Go.Ground.data⟩ (Array.mem_of_getElem? (i := 1) rfl) rfl) rfl "outright.go:37" (fun a' W' h => hK a' W' h)
  · cases ho
    exact wpOp_step (o := { dst := some 138, op := Go.Op.pick (Go.Operand.tmp 126) (Go.Operand.const (Go.Value.bool true)) (Go.Operand.tmp 137), type := 4, pos := "outright.go:37", after := #[{ on := 17, ground := Go.Ground.data }, { on := 28, ground := Go.Ground.data }], guard := none }) rfl fun K hK => bkc_29 E hI hf (hed ⟨17, Go.Ground.data⟩ (Array.mem_of_getElem? (i := 0) rfl) rfl) (hed ⟨28, Go.Ground.data⟩ (Array.mem_of_getElem? (i := 1) rfl) rfl) "outright.go:37" (fun a' W' h => hK a' W' h)
  · cases ho
    exact wpOp_step (o := { dst := some 139, op := Go.Op.move (Go.Operand.tmp 138), type := 4, pos := "outright.go:37", after := #[{ on := 29, ground := Go.Ground.data }, { on := 17, ground := Go.Ground.chain }], guard := none }) rfl fun K hK => bkc_30 E hI hf (hed ⟨17, Go.Ground.chain⟩ (Array.mem_of_getElem? (i := 1) rfl) rfl) (hed ⟨29, Go.Ground.data⟩ (Array.mem_of_getElem? (i := 0) rfl) rfl) "outright.go:37" (fun a' W' h => hK a' W' h)
  · cases ho
    exact wpOp_step (o := { dst := some 140, op := Go.Op.move (Go.Operand.tmp 9), type := 35, pos := "outright.go:37", after := #[{ on := 30, ground := Go.Ground.guard }], guard := some (30, false) }) rfl fun K hK => bkc_31 E hI hf (hed ⟨30, Go.Ground.guard⟩ (Array.mem_of_getElem? (i := 0) rfl) rfl) rfl "outright.go:37" (fun a' W' h => hK a' W' h)
  · cases ho
    exact wpOp_step (o := { dst := some 141, op := Go.Op.move (Go.Operand.tmp 12), type := 3, pos := "outright.go:37", after := #[{ on := 30, ground := Go.Ground.guard }], guard := some (30, false) }) rfl fun K hK => bkc_32 E hI hf (hed ⟨30, Go.Ground.guard⟩ (Array.mem_of_getElem? (i := 0) rfl) rfl) rfl "outright.go:37" (fun a' W' h => hK a' W' h)
  · cases ho
    exact wpOp_step (o := { dst := some 142, op := Go.Op.indexAddr 35 (Go.Operand.tmp 140) (Go.Operand.tmp 141), type := 0, pos := "outright.go:37", after := #[{ on := 31, ground := Go.Ground.data }, { on := 32, ground := Go.Ground.data }, { on := 30, ground := Go.Ground.guard }], guard := some (30, false) }) rfl fun K hK => bkc_33 E hI hf (hed ⟨30, Go.Ground.guard⟩ (Array.mem_of_getElem? (i := 2) rfl) rfl) (hed ⟨31, Go.Ground.data⟩ (Array.mem_of_getElem? (i := 0) rfl) rfl) (hed ⟨32, Go.Ground.data⟩ (Array.mem_of_getElem? (i := 1) rfl) rfl) rfl "outright.go:37" (fun a' W' h => hK a' W' h)
  · cases ho
    exact wpOp_step (o := { dst := some 143, op := Go.Op.fieldAddr 42 (Go.Operand.tmp 142) 1, type := 0, pos := "outright.go:37", after := #[{ on := 33, ground := Go.Ground.data }, { on := 30, ground := Go.Ground.guard }], guard := some (30, false) }) rfl fun K hK => bkc_34 E hI hf (hed ⟨30, Go.Ground.guard⟩ (Array.mem_of_getElem? (i := 1) rfl) rfl) (hed ⟨33, Go.Ground.data⟩ (Array.mem_of_getElem? (i := 0) rfl) rfl) rfl "outright.go:37" (fun a' W' h => hK a' W' h)
  · cases ho
    exact wpOp_step (o := { dst := some 144, op := Go.Op.load 3 (Go.Operand.tmp 143), type := 3, pos := "outright.go:37", after := #[{ on := 34, ground := Go.Ground.data }, { on := 30, ground := Go.Ground.guard }], guard := some (30, false) }) rfl fun K hK => bkc_35 E hI hf (hed ⟨30, Go.Ground.guard⟩ (Array.mem_of_getElem? (i := 1) rfl) rfl) (hed ⟨34, Go.Ground.data⟩ (Array.mem_of_getElem? (i := 0) rfl) rfl) rfl "outright.go:37" (fun a' W' h => hK a' W' h)
  · cases ho
    exact wpOp_step (o := { dst := some 145, op := Go.Op.move (Go.Operand.tmp 4), type := 28, pos := "outright.go:37", after := #[{ on := 30, ground := Go.Ground.guard }], guard := some (30, false) }) rfl fun K hK => bkc_36 E hI hf (hed ⟨30, Go.Ground.guard⟩ (Array.mem_of_getElem? (i := 0) rfl) rfl) rfl "outright.go:37" (fun a' W' h => hK a' W' h)
  · cases ho
    exact wpOp_step (o := { dst := some 146, op := Go.Op.move (Go.Operand.tmp 12), type := 3, pos := "outright.go:37", after := #[{ on := 30, ground := Go.Ground.guard }], guard := some (30, false) }) rfl fun K hK => bkc_37 E hI hf (hed ⟨30, Go.Ground.guard⟩ (Array.mem_of_getElem? (i := 0) rfl) rfl) rfl "outright.go:37" (fun a' W' h => hK a' W' h)
  · cases ho
    exact wpOp_step (o := { dst := some 147, op := Go.Op.indexAddr 28 (Go.Operand.tmp 145) (Go.Operand.tmp 146), type := 0, pos := "outright.go:37", after := #[{ on := 36, ground := Go.Ground.data }, { on := 37, ground := Go.Ground.data }, { on := 30, ground := Go.Ground.guard }], guard := some (30, false) }) rfl fun K hK => bkc_38 E hI hf (hed ⟨30, Go.Ground.guard⟩ (Array.mem_of_getElem? (i := 2) rfl) rfl) (hed ⟨36, Go.Ground.data⟩ (Array.mem_of_getElem? (i := 0) rfl) rfl) (hed ⟨37, Go.Ground.data⟩ (Array.mem_of_getElem? (i := 1) rfl) rfl) rfl "outright.go:37" (fun a' W' h => hK a' W' h)
  · cases ho
    exact wpOp_step (o := { dst := some 148, op := Go.Op.load 3 (Go.Operand.tmp 147), type := 3, pos := "outright.go:37", after := #[{ on := 38, ground := Go.Ground.data }, { on := 30, ground := Go.Ground.guard }], guard := some (30, false) }) rfl fun K hK => bkc_39 E hI hf (hed ⟨30, Go.Ground.guard⟩ (Array.mem_of_getElem? (i := 1) rfl) rfl) (hed ⟨38, Go.Ground.data⟩ (Array.mem_of_getElem? (i := 0) rfl) rfl) rfl "outright.go:37" (fun a' W' h => hK a' W' h)
  · cases ho
    exact wpOp_step (o := { dst := some 149, op := Go.Op.binOp Go.BinOp.neq 3 (Go.Operand.tmp 144) (Go.Operand.tmp 148) 3, type := 4, pos := "outright.go:37", after := #[{ on := 35, ground := Go.Ground.data }, { on := 39, ground := Go.Ground.data }, { on := 30, ground := Go.Ground.guard }], guard := some (30, false) }) rfl fun K hK => bkc_40 E hI hf (hed ⟨30, Go.Ground.guard⟩ (Array.mem_of_getElem? (i := 2) rfl) rfl) (hed ⟨35, Go.Ground.data⟩ (Array.mem_of_getElem? (i := 0) rfl) rfl) (hed ⟨39, Go.Ground.data⟩ (Array.mem_of_getElem? (i := 1) rfl) rfl) rfl "outright.go:37" (fun a' W' h => hK a' W' h)
  · cases ho
    exact wpOp_step (o := { dst := some 150, op := Go.Op.pick (Go.Operand.tmp 139) (Go.Operand.const (Go.Value.bool true)) (Go.Operand.tmp 149), type := 4, pos := "outright.go:37", after := #[{ on := 30, ground := Go.Ground.data }, { on := 40, ground := Go.Ground.data }], guard := none }) rfl fun K hK => bkc_41 E hI hf (hed ⟨30, Go.Ground.data⟩ (Array.mem_of_getElem? (i := 0) rfl) rfl) (hed ⟨40, Go.Ground.data⟩ (Array.mem_of_getElem? (i := 1) rfl) rfl) "outright.go:37" (fun a' W' h => hK a' W' h)
  · cases ho
    exact wpOp_step (o := { dst := some 151, op := Go.Op.move (Go.Operand.tmp 150), type := 4, pos := "outright.go:37", after := #[{ on := 41, ground := Go.Ground.data }, { on := 30, ground := Go.Ground.chain }], guard := none }) rfl fun K hK => bkc_42 E hI hf (hed ⟨30, Go.Ground.chain⟩ (Array.mem_of_getElem? (i := 1) rfl) rfl) (hed ⟨41, Go.Ground.data⟩ (Array.mem_of_getElem? (i := 0) rfl) rfl) "outright.go:37" (fun a' W' h => hK a' W' h)
  · cases ho
    exact wpOp_step (o := { dst := some 152, op := Go.Op.move (Go.Operand.tmp 9), type := 35, pos := "outright.go:37", after := #[{ on := 42, ground := Go.Ground.guard }], guard := some (42, false) }) rfl fun K hK => bkc_43 E hI hf (hed ⟨42, Go.Ground.guard⟩ (Array.mem_of_getElem? (i := 0) rfl) rfl) rfl "outright.go:37" (fun a' W' h => hK a' W' h)
  · cases ho
    exact wpOp_step (o := { dst := some 153, op := Go.Op.move (Go.Operand.tmp 12), type := 3, pos := "outright.go:37", after := #[{ on := 42, ground := Go.Ground.guard }], guard := some (42, false) }) rfl fun K hK => bkc_44 E hI hf (hed ⟨42, Go.Ground.guard⟩ (Array.mem_of_getElem? (i := 0) rfl) rfl) rfl "outright.go:37" (fun a' W' h => hK a' W' h)
  · cases ho
    exact wpOp_step (o := { dst := some 154, op := Go.Op.indexAddr 35 (Go.Operand.tmp 152) (Go.Operand.tmp 153), type := 0, pos := "outright.go:37", after := #[{ on := 43, ground := Go.Ground.data }, { on := 44, ground := Go.Ground.data }, { on := 42, ground := Go.Ground.guard }], guard := some (42, false) }) rfl fun K hK => bkc_45 E hI hf (hed ⟨42, Go.Ground.guard⟩ (Array.mem_of_getElem? (i := 2) rfl) rfl) (hed ⟨43, Go.Ground.data⟩ (Array.mem_of_getElem? (i := 0) rfl) rfl) (hed ⟨44, Go.Ground.data⟩ (Array.mem_of_getElem? (i := 1) rfl) rfl) rfl "outright.go:37" (fun a' W' h => hK a' W' h)
  · cases ho
    exact wpOp_step (o := { dst := some 155, op := Go.Op.fieldAddr 42 (Go.Operand.tmp 154) 2, type := 0, pos := "outright.go:37", after := #[{ on := 45, ground := Go.Ground.data }, { on := 42, ground := Go.Ground.guard }], guard := some (42, false) }) rfl fun K hK => bkc_46 E hI hf (hed ⟨42, Go.Ground.guard⟩ (Array.mem_of_getElem? (i := 1) rfl) rfl) (hed ⟨45, Go.Ground.data⟩ (Array.mem_of_getElem? (i := 0) rfl) rfl) rfl "outright.go:37" (fun a' W' h => hK a' W' h)
  · cases ho
    exact wpOp_step (o := { dst := some 156, op := Go.Op.load 3 (Go.Operand.tmp 155), type := 3, pos := "outright.go:37", after := #[{ on := 46, ground := Go.Ground.data }, { on := 42, ground := Go.Ground.guard }], guard := some (42, false) }) rfl fun K hK => bkc_47 E hI hf (hed ⟨42, Go.Ground.guard⟩ (Array.mem_of_getElem? (i := 1) rfl) rfl) (hed ⟨46, Go.Ground.data⟩ (Array.mem_of_getElem? (i := 0) rfl) rfl) rfl "outright.go:37" (fun a' W' h => hK a' W' h)
  · cases ho
    exact wpOp_step (o := { dst := some 157, op := Go.Op.move (Go.Operand.tmp 13), type := 9, pos := "outright.go:37", after := #[{ on := 42, ground := Go.Ground.guard }], guard := some (42, false) }) rfl fun K hK => bkc_48 E hI hf (hed ⟨42, Go.Ground.guard⟩ (Array.mem_of_getElem? (i := 0) rfl) rfl) rfl "outright.go:37" (fun a' W' h => hK a' W' h)
  · cases ho
    exact wpOp_step (o := { dst := some 158, op := Go.Op.call { callee := Go.Callee.builtin Go.Builtin.len, args := #[Go.Operand.tmp 157], argTypes := #[9] }, type := 3, pos := "outright.go:37", after := #[{ on := 48, ground := Go.Ground.data }, { on := 42, ground := Go.Ground.guard }], guard := some (42, false) }) rfl fun K hK => bkc_49 E hI hf (hed ⟨42, Go.Ground.guard⟩ (Array.mem_of_getElem? (i := 1) rfl) rfl) (hed ⟨48, Go.Ground.data⟩ (Array.mem_of_getElem? (i := 0) rfl) rfl) rfl "outright.go:37" (fun a' W' h => hK a' W' h)
  · cases ho
    exact wpOp_step (o := { dst := some 159, op := Go.Op.binOp Go.BinOp.neq 3 (Go.Operand.tmp 156) (Go.Operand.tmp 158) 3, type := 4, pos := "outright.go:37", after := #[{ on := 47, ground := Go.Ground.data }, { on := 49, ground := Go.Ground.data }, { on := 42, ground := Go.Ground.guard }], guard := some (42, false) }) rfl fun K hK => bkc_50 E hI hf (hed ⟨42, Go.Ground.guard⟩ (Array.mem_of_getElem? (i := 2) rfl) rfl) (hed ⟨47, Go.Ground.data⟩ (Array.mem_of_getElem? (i := 0) rfl) rfl) (hed ⟨49, Go.Ground.data⟩ (Array.mem_of_getElem? (i := 1) rfl) rfl) rfl "outright.go:37" (fun a' W' h => hK a' W' h)
  · cases ho
    exact wpOp_step (o := { dst := some 160, op := Go.Op.pick (Go.Operand.tmp 151) (Go.Operand.const (Go.Value.bool true)) (Go.Operand.tmp 159), type := 4, pos := "outright.go:37", after := #[{ on := 42, ground := Go.Ground.data }, { on := 50, ground := Go.Ground.data }], guard := none }) rfl fun K hK => bkc_51 E hI hf (hed ⟨42, Go.Ground.data⟩ (Array.mem_of_getElem? (i := 0) rfl) rfl) (hed ⟨50, Go.Ground.data⟩ (Array.mem_of_getElem? (i := 1) rfl) rfl) "outright.go:37" (fun a' W' h => hK a' W' h)

/-- THE REGION -/
theorem bkc_region {len cap len2 cap2 len3 cap3 k id p : Nat} {ad ad2 ad3 : Addr} {s d : ByteArray} {n : Int} {Pre : World → Prop} {tm : Array Value} {Q : Exit → Act → World → Prop} {w : World} (hsz : tm.size = 178) (E : bkcEnv len cap len2 cap2 len3 cap3 k id p ad ad2 ad3 s d n Pre tm) (hT : Pre w.drew)
    (hend : ∀ W, Pre W → Q .normal ⟨((((((((((((((((((((((((((((((((((((((((((((((((((((tm.setIfInBounds 109 (.int .i64 0)).setIfInBounds 110 (.bool false)).setIfInBounds 111 (.bool false)).setIfInBounds 112 (.string d)).setIfInBounds 113 (.slice (some ad) len cap)).setIfInBounds 114 (.int .i64 (k : Int))).setIfInBounds 115 (.pointer (some (ad.add (k * 3))))).setIfInBounds 116 (.pointer (some ⟨(ad.add (k * 3)).block, (ad.add (k * 3)).off + 1, none⟩))).setIfInBounds 117 (.string s)).setIfInBounds 118 (.slice (some ad) len cap)).setIfInBounds 119 (.int .i64 (k : Int))).setIfInBounds 120 (.pointer (some (ad.add (k * 3))))).setIfInBounds 121 (.pointer (some ⟨(ad.add (k * 3)).block, (ad.add (k * 3)).off + 2, none⟩))).setIfInBounds 122 (.int .i64 n)).setIfInBounds 123 (.string d)).setIfInBounds 124 (.bool false)).setIfInBounds 125 (.bool false)).setIfInBounds 126 (.bool false)).setIfInBounds 127 (.slice (some ad3) len3 cap3)).setIfInBounds 128 (.int .i64 (k : Int))).setIfInBounds 129 (.pointer (some (ad3.add (k * 3))))).setIfInBounds 130 (.pointer (some (ad3.add (k * 3))))).setIfInBounds 131 (.int .u64 (id : Int))).setIfInBounds 132 (.slice (some ad) len cap)).setIfInBounds 133 (.int .i64 (k : Int))).setIfInBounds 134 (.pointer (some (ad.add (k * 3))))).setIfInBounds 135 (.pointer (some (ad.add (k * 3))))).setIfInBounds 136 (.int .u64 (id : Int))).setIfInBounds 137 (.bool false)).setIfInBounds 138 (.bool false)).setIfInBounds 139 (.bool false)).setIfInBounds 140 (.slice (some ad3) len3 cap3)).setIfInBounds 141 (.int .i64 (k : Int))).setIfInBounds 142 (.pointer (some (ad3.add (k * 3))))).setIfInBounds 143 (.pointer (some ⟨(ad3.add (k * 3)).block, (ad3.add (k * 3)).off + 1, none⟩))).setIfInBounds 144 (.int .i64 (p : Int))).setIfInBounds 145 (.slice (some ad2) len2 cap2)).setIfInBounds 146 (.int .i64 (k : Int))).setIfInBounds 147 (.pointer (some (ad2.add k)))).setIfInBounds 148 (.int .i64 (p : Int))).setIfInBounds 149 (.bool false)).setIfInBounds 150 (.bool false)).setIfInBounds 151 (.bool false)).setIfInBounds 152 (.slice (some ad3) len3 cap3)).setIfInBounds 153 (.int .i64 (k : Int))).setIfInBounds 154 (.pointer (some (ad3.add (k * 3))))).setIfInBounds 155 (.pointer (some ⟨(ad3.add (k * 3)).block, (ad3.add (k * 3)).off + 2, none⟩))).setIfInBounds 156 (.int .i64 (d.size : Int))).setIfInBounds 157 (.string d)).setIfInBounds 158 (.int .i64 (d.size : Int))).setIfInBounds 159 (.bool false)).setIfInBounds 160 (.bool false)), []⟩ W) : (Code.region 20 bkcOps true).wp Tryd.prog Q ⟨tm, []⟩ w := by
  refine wp_region_inv (by kernel_rfl) (by kernel_rfl) ((bkcTb len cap len2 cap2 len3 cap3 k id p ad ad2 ad3 s d n Pre tm).Inv (fun f W => Pre W)) ⟨hsz, rfl, fun s _ => rfl, fun i d _ hf => (by cases hf), hT⟩ (bkc_step E) ?_
  intro f a W hall hI
  have ha := hI.fin hall hsz bkc_nodup rfl
  rw [ha]
  exact hend W hI.held
end Go.Proofs.YtcbeikiglccgaaaDoor
