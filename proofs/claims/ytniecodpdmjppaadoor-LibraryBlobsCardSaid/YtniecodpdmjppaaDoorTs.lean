/- tapefmt.Spell: its walk. -/
import Derived.Test.YtniecodpdmjppaaDoorTm
import Derived.Test.YtniecodpdmjppaaDoorRc
import Derived.Test.YtniecodpdmjppaaDoorEy
namespace Go.Proofs.YtniecodpdmjppaaDoor
open Go.RowKit
open Wm (num)
open Sm
set_option linter.unusedVariables false

abbrev Pc.cells (p : Pc) : Array Value := #[.string p.lab, .int .i64 (p.blk : Int), .int .u64 (p.id : Int), .int .i64 (p.part : Int), .int .i64 (p.parts : Int), .int .i64 (p.size : Int), .int .u32 (p.sum : Int), .string p.data]
def Pc.val (p : Pc) : Value := .agg p.cells

def spTb (p : Pc) (pb g : Nat) (base : Array Value) : Tb where
  s0 := 4
  n := 29
  size := 36
  base := base
  val := fun
    | 0 => some (.pointer (some ⟨pb, 0, none⟩))
    | 1 => some (.string p.lab)
    | 3 => some (.pointer (some ⟨g, 0, none⟩))
    | 4 => some (.pointer (some ⟨pb, 1, none⟩))
    | 5 => some (.int .i64 (p.blk : Int))
    | 7 => some (.pointer (some ⟨g, 0, none⟩))
    | 8 => some (.pointer (some ⟨pb, 2, none⟩))
    | 9 => some (.int .u64 (p.id : Int))
    | 11 => some (.pointer (some ⟨g, 0, none⟩))
    | 12 => some (.pointer (some ⟨pb, 3, none⟩))
    | 13 => some (.int .i64 (p.part : Int))
    | 14 => some (.pointer (some ⟨pb, 4, none⟩))
    | 15 => some (.int .i64 (p.parts : Int))
    | 16 => some (.pointer (some ⟨pb, 5, none⟩))
    | 17 => some (.int .i64 (p.size : Int))
    | 19 => some (.pointer (some ⟨g, 0, none⟩))
    | 20 => some (.pointer (some ⟨pb, 6, none⟩))
    | 21 => some (.int .u32 (p.sum : Int))
    | 22 => some (.int .u64 (p.sum : Int))
    | 24 => some (.pointer (some ⟨g, 0, none⟩))
    | 25 => some (.pointer (some ⟨pb, 7, none⟩))
    | 26 => some (.string p.data)
    | 28 => some (.pointer (some ⟨g, 0, none⟩))
    | _ => none
  bt := fun
    | 2 => some (9, #[.string p.lab], 3)
    | 6 => some (3, #[.int .i64 (p.blk : Int)], 7)
    | 10 => some (30, #[.int .u64 (p.id : Int)], 11)
    | 18 => some (3, #[.int .i64 (p.part : Int), .int .i64 (p.parts : Int), .int .i64 (p.size : Int)], 19)
    | 23 => some (30, #[.int .u64 (p.sum : Int)], 24)
    | 27 => some (9, #[.string p.data], 28)
    | _ => none
  cc := [3, 7, 11, 19, 24, 28]
  es := fun
    | 0 => texts [p.lab]
    | 1 => nums [(p.blk : Int)]
    | 2 => unums [p.id]
    | 3 => nums [(p.part : Int), (p.parts : Int), (p.size : Int)]
    | 4 => unums [p.sum]
    | 5 => texts [p.data]
    | _ => []
  g := g

structure SpHeld (w0 : World) (pb : Nat) (p : Pc) (W : World) : Prop where
  low : Below w0.heap.size w0 W
  at_ : At W pb 78 p.cells
theorem SpHeld.alloc {w0 W : World} {pb : Nat} {p : Pc} (h : SpHeld w0 pb p W) (o : Obj) : SpHeld w0 pb p (W.alloc o) := ⟨h.low.alloc h.low.size o, h.at_.alloc o⟩
theorem SpHeld.grown {w0 W W' : World} {pb g : Nat} {p : Pc} (h : SpHeld w0 pb p W) (hg : W.grownBy W' (some g)) (hne : pb ≠ g) (hlow : w0.heap.size ≤ g) : SpHeld w0 pb p W' := ⟨below_of_grownBy h.low hg h.low.size hlow, h.at_.grown hg (by simpa using hne)⟩

theorem spTb_enc (p : Pc) (pb g : Nat) (base : Array Value) : (spTb p pb g base).bs 6 = p.enc := by
  show (((((([] ++ texts [p.lab]) ++ nums [(p.blk : Int)]) ++ unums [p.id]) ++ nums [(p.part : Int), (p.parts : Int), (p.size : Int)]) ++ unums [p.sum]) ++ texts [p.data]) = p.enc
  simp [texts, nums, unums, Pc.enc]
theorem spTb_len {p : Pc} (h : p.ok) (pb g : Nat) (base : Array Value) (k : Nat) (hk : k ≤ 6 := by decide) : ((spTb p pb g base).bs k).length ≤ 1000 := by
  have h1 := enc_max h
  have h2 : ∀ j, j + k = 6 → ((spTb p pb g base).bs k).length ≤ ((spTb p pb g base).bs 6).length := by
    intro j
    induction j generalizing k with
    | zero => intro e; rw [show k = 6 by omega]; exact Nat.le_refl _
    | succ j ih =>
      intro e
      have := ih (k + 1) (by omega) (by omega)
      have e1 : (spTb p pb g base).bs (k + 1) = (spTb p pb g base).bs k ++ (spTb p pb g base).es k := rfl
      rw [e1, List.length_append] at this
      omega
  have h3 := h2 (6 - k) (by omega)
  rw [spTb_enc] at h3
  omega
theorem spTb_ne {p : Pc} {pb g : Nat} {base : Array Value} : ∀ b t cs c, (spTb p pb g base).bt b = some (t, cs, c) → t ≠ 104 := by
  intro b t cs c h
  unfold spTb at h
  simp only at h
  split at h <;> first | (cases h; decide) | cases h
set_option maxRecDepth 100000 in
theorem sp_0 {p : Pc} {w0 : World} {pb g : Nat} {base : Array Value} {f : Nat → Bool} {a : Act} {W : World} {K : Act → World → Prop} {Q : Exit → Act → World → Prop} {ops : Array Oper} (hb1 : base[1]?.getD undef = .pointer (some ⟨pb, 0, none⟩)) (hb3 : base[3]?.getD undef = .pointer (some ⟨g, 0, none⟩)) (hp : p.ok) (hpg : pb ≠ g) (hlow : w0.heap.size ≤ g) (hI : (spTb p pb g base).Inv (SpHeld w0 pb p) f a W) (pos : String) (hnf : f 0 = false) (hK : ∀ a' W', (spTb p pb g base).Inv (SpHeld w0 pb p) (hit f 0) a' W' → K a' W') : if Region.wanted { dst := some 4, op := Go.Op.fieldAddr 78 (Go.Operand.tmp 1) 0, type := 0, pos := pos, after := #[], guard := none } (yielded ops a.tmps) = true then Oper.wp Tryd.prog { dst := some 4, op := Go.Op.fieldAddr 78 (Go.Operand.tmp 1) 0, type := 0, pos := pos, after := #[], guard := none } a W K Q else K (a.put (some 4) undef) W := by
  have q : a.tmps[1]?.getD undef = .pointer (some ⟨pb, 0, none⟩) := (hI.base 1 (.inl (show 1 < 4 by decide))).trans hb1
  have R := Lib.hid (hI.pureStep (i := 0) (show (_ : Nat) < 29 by decide) (show 4 + 29 ≤ 36 by decide) rfl rfl (show _ ∉ [3, 7, 11, 19, 24, 28] by decide))
  clear hI
  go_simp
  exact hK _ _ R.out

set_option maxRecDepth 100000 in
theorem sp_1 {p : Pc} {w0 : World} {pb g : Nat} {base : Array Value} {f : Nat → Bool} {a : Act} {W : World} {K : Act → World → Prop} {Q : Exit → Act → World → Prop} {ops : Array Oper} (hb1 : base[1]?.getD undef = .pointer (some ⟨pb, 0, none⟩)) (hb3 : base[3]?.getD undef = .pointer (some ⟨g, 0, none⟩)) (hp : p.ok) (hpg : pb ≠ g) (hlow : w0.heap.size ≤ g) (hI : (spTb p pb g base).Inv (SpHeld w0 pb p) f a W) (h0 : f 0 = true) (pos : String) (hnf : f 1 = false) (hK : ∀ a' W', (spTb p pb g base).Inv (SpHeld w0 pb p) (hit f 1) a' W' → K a' W') : if Region.wanted { dst := some 5, op := Go.Op.load 9 (Go.Operand.tmp 4), type := 9, pos := pos, after := #[{ on := 0, ground := Go.Ground.data }], guard := none } (yielded ops a.tmps) = true then Oper.wp Tryd.prog { dst := some 5, op := Go.Op.load 9 (Go.Operand.tmp 4), type := 9, pos := pos, after := #[{ on := 0, ground := Go.Ground.data }], guard := none } a W K Q else K (a.put (some 5) undef) W := by
  have q : a.tmps[4]?.getD undef = .pointer (some ⟨pb, 0, none⟩) := hI.val 0 _ rfl h0
  have c : W.cell? ⟨pb, 0, none⟩ = some (.string p.lab) := hI.held.at_.cell 0
  have R := Lib.hid (hI.pureStep (i := 1) (show (_ : Nat) < 29 by decide) (show 4 + 29 ≤ 36 by decide) rfl rfl (show _ ∉ [3, 7, 11, 19, 24, 28] by decide))
  clear hI
  go_simp
  exact hK _ _ R.out

set_option maxRecDepth 100000 in
theorem sp_2 {p : Pc} {w0 : World} {pb g : Nat} {base : Array Value} {f : Nat → Bool} {a : Act} {W : World} {K : Act → World → Prop} {Q : Exit → Act → World → Prop} {ops : Array Oper} (hb1 : base[1]?.getD undef = .pointer (some ⟨pb, 0, none⟩)) (hb3 : base[3]?.getD undef = .pointer (some ⟨g, 0, none⟩)) (hp : p.ok) (hpg : pb ≠ g) (hlow : w0.heap.size ≤ g) (hI : (spTb p pb g base).Inv (SpHeld w0 pb p) f a W) (h1 : f 1 = true) (pos : String) (hnf : f 2 = false) (hK : ∀ a' W', (spTb p pb g base).Inv (SpHeld w0 pb p) (hit f 2) a' W' → K a' W') : if Region.wanted { dst := some 6, op := Go.Op.buildSlice 114 1 #[(0, Go.Operand.tmp 5)], type := 114, pos := pos, after := #[{ on := 1, ground := Go.Ground.data }], guard := none } (yielded ops a.tmps) = true then Oper.wp Tryd.prog { dst := some 6, op := Go.Op.buildSlice 114 1 #[(0, Go.Operand.tmp 5)], type := 114, pos := pos, after := #[{ on := 1, ground := Go.Ground.data }], guard := none } a W K Q else K (a.put (some 6) undef) W := by
  have q1 : a.tmps[5]?.getD undef = .string p.lab := hI.val 1 _ rfl h1
  have R := Lib.hid (hI.buildStep (i := 2) (k := 1) (show (_ : Nat) < 29 by decide) (show 4 + 29 ≤ 36 by decide) rfl rfl (show _ ∉ [3, 7, 11, 19, 24, 28] by decide) rfl (hI.held.alloc _))
  clear hI
  go_simp
  exact hK _ _ R.out

set_option maxRecDepth 100000 in
theorem sp_3 {p : Pc} {w0 : World} {pb g : Nat} {base : Array Value} {f : Nat → Bool} {a : Act} {W : World} {K : Act → World → Prop} {Q : Exit → Act → World → Prop} {ops : Array Oper} (hb1 : base[1]?.getD undef = .pointer (some ⟨pb, 0, none⟩)) (hb3 : base[3]?.getD undef = .pointer (some ⟨g, 0, none⟩)) (hp : p.ok) (hpg : pb ≠ g) (hlow : w0.heap.size ≤ g) (hI : (spTb p pb g base).Inv (SpHeld w0 pb p) f a W) (h2 : f 2 = true) (pos : String) (hnf : f 3 = false) (hK : ∀ a' W', (spTb p pb g base).Inv (SpHeld w0 pb p) (hit f 3) a' W' → K a' W') : if Region.wanted { dst := some 7, op := Go.Op.call { callee := Go.Callee.value (Go.Operand.func 58), args := #[Go.Operand.tmp 3, Go.Operand.tmp 6], argTypes := #[104, 114] }, type := 105, pos := pos, after := #[{ on := 2, ground := Go.Ground.data }], guard := none } (yielded ops a.tmps) = true then Oper.wp Tryd.prog { dst := some 7, op := Go.Op.call { callee := Go.Callee.value (Go.Operand.func 58), args := #[Go.Operand.tmp 3, Go.Operand.tmp 6], argTypes := #[104, 114] }, type := 105, pos := pos, after := #[{ on := 2, ground := Go.Ground.data }], guard := none } a W K Q else K (a.put (some 7) undef) W := by
  have q : a.tmps[3]?.getD undef = .pointer (some ⟨g, 0, none⟩) := (hI.base 3 (.inl (show 3 < 4 by decide))).trans hb3
  obtain ⟨G, q2, hG⟩ := hI.built 2 _ _ 3 rfl h2 hnf
  have q2 : a.tmps[6]?.getD undef = .slice (some ⟨G, 0, none⟩) 1 1 := q2
  obtain ⟨hE, hall⟩ := hI.count (k := 0) (show (_ : Nat) < 6 by decide) hnf (.inl rfl)
  have HR := Lib.hid (fun W1 (h : EncRet g ((spTb p pb g base).bs 0 ++ (spTb p pb g base).es 0) W (.returned (.pointer (some ⟨g, 0, none⟩))) W1) => hI.callStep (i := 3) (k := 0) (show (_ : Nat) < 29 by decide) (show 4 + 29 ≤ 36 by decide) (show (_ : Nat) < 6 by decide) rfl hall (show ∀ j, j < 6 → [3, 7, 11, 19, 24, 28][j]?.getD 0 = 3 → j = 0 by decide) rfl rfl h.2.1 h.2.2 (hI.held.grown h.2.2 hpg hlow) spTb_ne)
  have hlen := spTb_len hp pb g base 0
  have hE : EncIs W g ((spTb p pb g base).bs 0) := hE
  obtain ⟨bs, hbs⟩ : ∃ bs, (spTb p pb g base).bs 0 = bs := ⟨_, rfl⟩
  rw [hbs] at hE hlen HR
  have hC := encS_any g bs [p.lab] (some ⟨G, 0, none⟩) 1 W hE (Lies.of_at hG rfl hG.lt) (by have h200 := hp.data; have h32 := hp.lab; have := text_len p.data; have := text_len p.lab; have := num_lt 1 p.data.size (by omega); have := num_lt 0 p.lab.size (by omega); simp [texts]; omega)
  clear hI hall hlen hbs hE
  go_simp
  refine hC.mono ?_
  rintro e W1 h
  obtain rfl := h.1
  exact hK _ _ (HR.out W1 h)

set_option maxRecDepth 100000 in
theorem sp_4 {p : Pc} {w0 : World} {pb g : Nat} {base : Array Value} {f : Nat → Bool} {a : Act} {W : World} {K : Act → World → Prop} {Q : Exit → Act → World → Prop} {ops : Array Oper} (hb1 : base[1]?.getD undef = .pointer (some ⟨pb, 0, none⟩)) (hb3 : base[3]?.getD undef = .pointer (some ⟨g, 0, none⟩)) (hp : p.ok) (hpg : pb ≠ g) (hlow : w0.heap.size ≤ g) (hI : (spTb p pb g base).Inv (SpHeld w0 pb p) f a W) (pos : String) (hnf : f 4 = false) (hK : ∀ a' W', (spTb p pb g base).Inv (SpHeld w0 pb p) (hit f 4) a' W' → K a' W') : if Region.wanted { dst := some 8, op := Go.Op.fieldAddr 78 (Go.Operand.tmp 1) 1, type := 0, pos := pos, after := #[], guard := none } (yielded ops a.tmps) = true then Oper.wp Tryd.prog { dst := some 8, op := Go.Op.fieldAddr 78 (Go.Operand.tmp 1) 1, type := 0, pos := pos, after := #[], guard := none } a W K Q else K (a.put (some 8) undef) W := by
  have q : a.tmps[1]?.getD undef = .pointer (some ⟨pb, 0, none⟩) := (hI.base 1 (.inl (show 1 < 4 by decide))).trans hb1
  have R := Lib.hid (hI.pureStep (i := 4) (show (_ : Nat) < 29 by decide) (show 4 + 29 ≤ 36 by decide) rfl rfl (show _ ∉ [3, 7, 11, 19, 24, 28] by decide))
  clear hI
  go_simp
  exact hK _ _ R.out

set_option maxRecDepth 100000 in
theorem sp_5 {p : Pc} {w0 : World} {pb g : Nat} {base : Array Value} {f : Nat → Bool} {a : Act} {W : World} {K : Act → World → Prop} {Q : Exit → Act → World → Prop} {ops : Array Oper} (hb1 : base[1]?.getD undef = .pointer (some ⟨pb, 0, none⟩)) (hb3 : base[3]?.getD undef = .pointer (some ⟨g, 0, none⟩)) (hp : p.ok) (hpg : pb ≠ g) (hlow : w0.heap.size ≤ g) (hI : (spTb p pb g base).Inv (SpHeld w0 pb p) f a W) (h4 : f 4 = true) (pos : String) (hnf : f 5 = false) (hK : ∀ a' W', (spTb p pb g base).Inv (SpHeld w0 pb p) (hit f 5) a' W' → K a' W') : if Region.wanted { dst := some 9, op := Go.Op.load 3 (Go.Operand.tmp 8), type := 3, pos := pos, after := #[{ on := 4, ground := Go.Ground.data }], guard := none } (yielded ops a.tmps) = true then Oper.wp Tryd.prog { dst := some 9, op := Go.Op.load 3 (Go.Operand.tmp 8), type := 3, pos := pos, after := #[{ on := 4, ground := Go.Ground.data }], guard := none } a W K Q else K (a.put (some 9) undef) W := by
  have q : a.tmps[8]?.getD undef = .pointer (some ⟨pb, 1, none⟩) := hI.val 4 _ rfl h4
  have c : W.cell? ⟨pb, 1, none⟩ = some (.int .i64 (p.blk : Int)) := hI.held.at_.cell 1
  have R := Lib.hid (hI.pureStep (i := 5) (show (_ : Nat) < 29 by decide) (show 4 + 29 ≤ 36 by decide) rfl rfl (show _ ∉ [3, 7, 11, 19, 24, 28] by decide))
  clear hI
  go_simp
  exact hK _ _ R.out

set_option maxRecDepth 100000 in
theorem sp_6 {p : Pc} {w0 : World} {pb g : Nat} {base : Array Value} {f : Nat → Bool} {a : Act} {W : World} {K : Act → World → Prop} {Q : Exit → Act → World → Prop} {ops : Array Oper} (hb1 : base[1]?.getD undef = .pointer (some ⟨pb, 0, none⟩)) (hb3 : base[3]?.getD undef = .pointer (some ⟨g, 0, none⟩)) (hp : p.ok) (hpg : pb ≠ g) (hlow : w0.heap.size ≤ g) (hI : (spTb p pb g base).Inv (SpHeld w0 pb p) f a W) (h5 : f 5 = true) (pos : String) (hnf : f 6 = false) (hK : ∀ a' W', (spTb p pb g base).Inv (SpHeld w0 pb p) (hit f 6) a' W' → K a' W') : if Region.wanted { dst := some 10, op := Go.Op.buildSlice 23 1 #[(0, Go.Operand.tmp 9)], type := 23, pos := pos, after := #[{ on := 5, ground := Go.Ground.data }], guard := none } (yielded ops a.tmps) = true then Oper.wp Tryd.prog { dst := some 10, op := Go.Op.buildSlice 23 1 #[(0, Go.Operand.tmp 9)], type := 23, pos := pos, after := #[{ on := 5, ground := Go.Ground.data }], guard := none } a W K Q else K (a.put (some 10) undef) W := by
  have q5 : a.tmps[9]?.getD undef = .int .i64 (p.blk : Int) := hI.val 5 _ rfl h5
  have R := Lib.hid (hI.buildStep (i := 6) (k := 1) (show (_ : Nat) < 29 by decide) (show 4 + 29 ≤ 36 by decide) rfl rfl (show _ ∉ [3, 7, 11, 19, 24, 28] by decide) rfl (hI.held.alloc _))
  clear hI
  go_simp
  exact hK _ _ R.out

set_option maxRecDepth 100000 in
theorem sp_7 {p : Pc} {w0 : World} {pb g : Nat} {base : Array Value} {f : Nat → Bool} {a : Act} {W : World} {K : Act → World → Prop} {Q : Exit → Act → World → Prop} {ops : Array Oper} (hb1 : base[1]?.getD undef = .pointer (some ⟨pb, 0, none⟩)) (hb3 : base[3]?.getD undef = .pointer (some ⟨g, 0, none⟩)) (hp : p.ok) (hpg : pb ≠ g) (hlow : w0.heap.size ≤ g) (hI : (spTb p pb g base).Inv (SpHeld w0 pb p) f a W) (h3 : f 3 = true) (h6 : f 6 = true) (pos : String) (hnf : f 7 = false) (hK : ∀ a' W', (spTb p pb g base).Inv (SpHeld w0 pb p) (hit f 7) a' W' → K a' W') : if Region.wanted { dst := some 11, op := Go.Op.call { callee := Go.Callee.value (Go.Operand.func 59), args := #[Go.Operand.tmp 7, Go.Operand.tmp 10], argTypes := #[105, 23] }, type := 105, pos := pos, after := #[{ on := 3, ground := Go.Ground.data }, { on := 6, ground := Go.Ground.data }, { on := 3, ground := Go.Ground.chain }], guard := none } (yielded ops a.tmps) = true then Oper.wp Tryd.prog { dst := some 11, op := Go.Op.call { callee := Go.Callee.value (Go.Operand.func 59), args := #[Go.Operand.tmp 7, Go.Operand.tmp 10], argTypes := #[105, 23] }, type := 105, pos := pos, after := #[{ on := 3, ground := Go.Ground.data }, { on := 6, ground := Go.Ground.data }, { on := 3, ground := Go.Ground.chain }], guard := none } a W K Q else K (a.put (some 11) undef) W := by
  have q : a.tmps[7]?.getD undef = .pointer (some ⟨g, 0, none⟩) := hI.val 3 _ rfl h3
  obtain ⟨G, q2, hG⟩ := hI.built 6 _ _ 7 rfl h6 hnf
  have q2 : a.tmps[10]?.getD undef = .slice (some ⟨G, 0, none⟩) 1 1 := q2
  obtain ⟨hE, hall⟩ := hI.count (k := 1) (show (_ : Nat) < 6 by decide) hnf (.inr h3)
  have HR := Lib.hid (fun W1 (h : EncRet g ((spTb p pb g base).bs 1 ++ (spTb p pb g base).es 1) W (.returned (.pointer (some ⟨g, 0, none⟩))) W1) => hI.callStep (i := 7) (k := 1) (show (_ : Nat) < 29 by decide) (show 4 + 29 ≤ 36 by decide) (show (_ : Nat) < 6 by decide) rfl hall (show ∀ j, j < 6 → [3, 7, 11, 19, 24, 28][j]?.getD 0 = 7 → j = 1 by decide) rfl rfl h.2.1 h.2.2 (hI.held.grown h.2.2 hpg hlow) spTb_ne)
  have hlen := spTb_len hp pb g base 1
  have hE : EncIs W g ((spTb p pb g base).bs 1) := hE
  obtain ⟨bs, hbs⟩ : ∃ bs, (spTb p pb g base).bs 1 = bs := ⟨_, rfl⟩
  rw [hbs] at hE hlen HR
  have hC := encI_any g bs [(p.blk : Int)] (by have := hp.blk; have := hp.part; have := hp.parts; have := hp.size; simp; omega) (some ⟨G, 0, none⟩) 1 W hE (Lies.of_at hG rfl hG.lt) (by simp; omega)
  clear hI hall hlen hbs hE
  go_simp
  refine hC.mono ?_
  rintro e W1 h
  obtain rfl := h.1
  exact hK _ _ (HR.out W1 h)

set_option maxRecDepth 100000 in
theorem sp_8 {p : Pc} {w0 : World} {pb g : Nat} {base : Array Value} {f : Nat → Bool} {a : Act} {W : World} {K : Act → World → Prop} {Q : Exit → Act → World → Prop} {ops : Array Oper} (hb1 : base[1]?.getD undef = .pointer (some ⟨pb, 0, none⟩)) (hb3 : base[3]?.getD undef = .pointer (some ⟨g, 0, none⟩)) (hp : p.ok) (hpg : pb ≠ g) (hlow : w0.heap.size ≤ g) (hI : (spTb p pb g base).Inv (SpHeld w0 pb p) f a W) (pos : String) (hnf : f 8 = false) (hK : ∀ a' W', (spTb p pb g base).Inv (SpHeld w0 pb p) (hit f 8) a' W' → K a' W') : if Region.wanted { dst := some 12, op := Go.Op.fieldAddr 78 (Go.Operand.tmp 1) 2, type := 0, pos := pos, after := #[], guard := none } (yielded ops a.tmps) = true then Oper.wp Tryd.prog { dst := some 12, op := Go.Op.fieldAddr 78 (Go.Operand.tmp 1) 2, type := 0, pos := pos, after := #[], guard := none } a W K Q else K (a.put (some 12) undef) W := by
  have q : a.tmps[1]?.getD undef = .pointer (some ⟨pb, 0, none⟩) := (hI.base 1 (.inl (show 1 < 4 by decide))).trans hb1
  have R := Lib.hid (hI.pureStep (i := 8) (show (_ : Nat) < 29 by decide) (show 4 + 29 ≤ 36 by decide) rfl rfl (show _ ∉ [3, 7, 11, 19, 24, 28] by decide))
  clear hI
  go_simp
  exact hK _ _ R.out

set_option maxRecDepth 100000 in
theorem sp_9 {p : Pc} {w0 : World} {pb g : Nat} {base : Array Value} {f : Nat → Bool} {a : Act} {W : World} {K : Act → World → Prop} {Q : Exit → Act → World → Prop} {ops : Array Oper} (hb1 : base[1]?.getD undef = .pointer (some ⟨pb, 0, none⟩)) (hb3 : base[3]?.getD undef = .pointer (some ⟨g, 0, none⟩)) (hp : p.ok) (hpg : pb ≠ g) (hlow : w0.heap.size ≤ g) (hI : (spTb p pb g base).Inv (SpHeld w0 pb p) f a W) (h8 : f 8 = true) (pos : String) (hnf : f 9 = false) (hK : ∀ a' W', (spTb p pb g base).Inv (SpHeld w0 pb p) (hit f 9) a' W' → K a' W') : if Region.wanted { dst := some 13, op := Go.Op.load 30 (Go.Operand.tmp 12), type := 30, pos := pos, after := #[{ on := 8, ground := Go.Ground.data }], guard := none } (yielded ops a.tmps) = true then Oper.wp Tryd.prog { dst := some 13, op := Go.Op.load 30 (Go.Operand.tmp 12), type := 30, pos := pos, after := #[{ on := 8, ground := Go.Ground.data }], guard := none } a W K Q else K (a.put (some 13) undef) W := by
  have q : a.tmps[12]?.getD undef = .pointer (some ⟨pb, 2, none⟩) := hI.val 8 _ rfl h8
  have c : W.cell? ⟨pb, 2, none⟩ = some (.int .u64 (p.id : Int)) := hI.held.at_.cell 2
  have R := Lib.hid (hI.pureStep (i := 9) (show (_ : Nat) < 29 by decide) (show 4 + 29 ≤ 36 by decide) rfl rfl (show _ ∉ [3, 7, 11, 19, 24, 28] by decide))
  clear hI
  go_simp
  exact hK _ _ R.out

set_option maxRecDepth 100000 in
theorem sp_10 {p : Pc} {w0 : World} {pb g : Nat} {base : Array Value} {f : Nat → Bool} {a : Act} {W : World} {K : Act → World → Prop} {Q : Exit → Act → World → Prop} {ops : Array Oper} (hb1 : base[1]?.getD undef = .pointer (some ⟨pb, 0, none⟩)) (hb3 : base[3]?.getD undef = .pointer (some ⟨g, 0, none⟩)) (hp : p.ok) (hpg : pb ≠ g) (hlow : w0.heap.size ≤ g) (hI : (spTb p pb g base).Inv (SpHeld w0 pb p) f a W) (h9 : f 9 = true) (pos : String) (hnf : f 10 = false) (hK : ∀ a' W', (spTb p pb g base).Inv (SpHeld w0 pb p) (hit f 10) a' W' → K a' W') : if Region.wanted { dst := some 14, op := Go.Op.buildSlice 119 1 #[(0, Go.Operand.tmp 13)], type := 119, pos := pos, after := #[{ on := 9, ground := Go.Ground.data }], guard := none } (yielded ops a.tmps) = true then Oper.wp Tryd.prog { dst := some 14, op := Go.Op.buildSlice 119 1 #[(0, Go.Operand.tmp 13)], type := 119, pos := pos, after := #[{ on := 9, ground := Go.Ground.data }], guard := none } a W K Q else K (a.put (some 14) undef) W := by
  have q9 : a.tmps[13]?.getD undef = .int .u64 (p.id : Int) := hI.val 9 _ rfl h9
  have R := Lib.hid (hI.buildStep (i := 10) (k := 1) (show (_ : Nat) < 29 by decide) (show 4 + 29 ≤ 36 by decide) rfl rfl (show _ ∉ [3, 7, 11, 19, 24, 28] by decide) rfl (hI.held.alloc _))
  clear hI
  go_simp
  exact hK _ _ R.out

set_option maxRecDepth 100000 in
theorem sp_11 {p : Pc} {w0 : World} {pb g : Nat} {base : Array Value} {f : Nat → Bool} {a : Act} {W : World} {K : Act → World → Prop} {Q : Exit → Act → World → Prop} {ops : Array Oper} (hb1 : base[1]?.getD undef = .pointer (some ⟨pb, 0, none⟩)) (hb3 : base[3]?.getD undef = .pointer (some ⟨g, 0, none⟩)) (hp : p.ok) (hpg : pb ≠ g) (hlow : w0.heap.size ≤ g) (hI : (spTb p pb g base).Inv (SpHeld w0 pb p) f a W) (h7 : f 7 = true) (h10 : f 10 = true) (pos : String) (hnf : f 11 = false) (hK : ∀ a' W', (spTb p pb g base).Inv (SpHeld w0 pb p) (hit f 11) a' W' → K a' W') : if Region.wanted { dst := some 15, op := Go.Op.call { callee := Go.Callee.value (Go.Operand.func 60), args := #[Go.Operand.tmp 11, Go.Operand.tmp 14], argTypes := #[105, 119] }, type := 105, pos := pos, after := #[{ on := 7, ground := Go.Ground.data }, { on := 10, ground := Go.Ground.data }, { on := 7, ground := Go.Ground.chain }], guard := none } (yielded ops a.tmps) = true then Oper.wp Tryd.prog { dst := some 15, op := Go.Op.call { callee := Go.Callee.value (Go.Operand.func 60), args := #[Go.Operand.tmp 11, Go.Operand.tmp 14], argTypes := #[105, 119] }, type := 105, pos := pos, after := #[{ on := 7, ground := Go.Ground.data }, { on := 10, ground := Go.Ground.data }, { on := 7, ground := Go.Ground.chain }], guard := none } a W K Q else K (a.put (some 15) undef) W := by
  have q : a.tmps[11]?.getD undef = .pointer (some ⟨g, 0, none⟩) := hI.val 7 _ rfl h7
  obtain ⟨G, q2, hG⟩ := hI.built 10 _ _ 11 rfl h10 hnf
  have q2 : a.tmps[14]?.getD undef = .slice (some ⟨G, 0, none⟩) 1 1 := q2
  obtain ⟨hE, hall⟩ := hI.count (k := 2) (show (_ : Nat) < 6 by decide) hnf (.inr h7)
  have HR := Lib.hid (fun W1 (h : EncRet g ((spTb p pb g base).bs 2 ++ (spTb p pb g base).es 2) W (.returned (.pointer (some ⟨g, 0, none⟩))) W1) => hI.callStep (i := 11) (k := 2) (show (_ : Nat) < 29 by decide) (show 4 + 29 ≤ 36 by decide) (show (_ : Nat) < 6 by decide) rfl hall (show ∀ j, j < 6 → [3, 7, 11, 19, 24, 28][j]?.getD 0 = 11 → j = 2 by decide) rfl rfl h.2.1 h.2.2 (hI.held.grown h.2.2 hpg hlow) spTb_ne)
  have hlen := spTb_len hp pb g base 2
  have hE : EncIs W g ((spTb p pb g base).bs 2) := hE
  obtain ⟨bs, hbs⟩ : ∃ bs, (spTb p pb g base).bs 2 = bs := ⟨_, rfl⟩
  rw [hbs] at hE hlen HR
  have hC := encU_any g bs [p.id] (by have := hp.id; have := hp.sum; simp; omega) (some ⟨G, 0, none⟩) 1 W hE (Lies.of_at hG rfl hG.lt) (by simp; omega)
  clear hI hall hlen hbs hE
  go_simp
  refine hC.mono ?_
  rintro e W1 h
  obtain rfl := h.1
  exact hK _ _ (HR.out W1 h)

set_option maxRecDepth 100000 in
theorem sp_12 {p : Pc} {w0 : World} {pb g : Nat} {base : Array Value} {f : Nat → Bool} {a : Act} {W : World} {K : Act → World → Prop} {Q : Exit → Act → World → Prop} {ops : Array Oper} (hb1 : base[1]?.getD undef = .pointer (some ⟨pb, 0, none⟩)) (hb3 : base[3]?.getD undef = .pointer (some ⟨g, 0, none⟩)) (hp : p.ok) (hpg : pb ≠ g) (hlow : w0.heap.size ≤ g) (hI : (spTb p pb g base).Inv (SpHeld w0 pb p) f a W) (pos : String) (hnf : f 12 = false) (hK : ∀ a' W', (spTb p pb g base).Inv (SpHeld w0 pb p) (hit f 12) a' W' → K a' W') : if Region.wanted { dst := some 16, op := Go.Op.fieldAddr 78 (Go.Operand.tmp 1) 3, type := 0, pos := pos, after := #[], guard := none } (yielded ops a.tmps) = true then Oper.wp Tryd.prog { dst := some 16, op := Go.Op.fieldAddr 78 (Go.Operand.tmp 1) 3, type := 0, pos := pos, after := #[], guard := none } a W K Q else K (a.put (some 16) undef) W := by
  have q : a.tmps[1]?.getD undef = .pointer (some ⟨pb, 0, none⟩) := (hI.base 1 (.inl (show 1 < 4 by decide))).trans hb1
  have R := Lib.hid (hI.pureStep (i := 12) (show (_ : Nat) < 29 by decide) (show 4 + 29 ≤ 36 by decide) rfl rfl (show _ ∉ [3, 7, 11, 19, 24, 28] by decide))
  clear hI
  go_simp
  exact hK _ _ R.out

set_option maxRecDepth 100000 in
theorem sp_13 {p : Pc} {w0 : World} {pb g : Nat} {base : Array Value} {f : Nat → Bool} {a : Act} {W : World} {K : Act → World → Prop} {Q : Exit → Act → World → Prop} {ops : Array Oper} (hb1 : base[1]?.getD undef = .pointer (some ⟨pb, 0, none⟩)) (hb3 : base[3]?.getD undef = .pointer (some ⟨g, 0, none⟩)) (hp : p.ok) (hpg : pb ≠ g) (hlow : w0.heap.size ≤ g) (hI : (spTb p pb g base).Inv (SpHeld w0 pb p) f a W) (h12 : f 12 = true) (pos : String) (hnf : f 13 = false) (hK : ∀ a' W', (spTb p pb g base).Inv (SpHeld w0 pb p) (hit f 13) a' W' → K a' W') : if Region.wanted { dst := some 17, op := Go.Op.load 3 (Go.Operand.tmp 16), type := 3, pos := pos, after := #[{ on := 12, ground := Go.Ground.data }], guard := none } (yielded ops a.tmps) = true then Oper.wp Tryd.prog { dst := some 17, op := Go.Op.load 3 (Go.Operand.tmp 16), type := 3, pos := pos, after := #[{ on := 12, ground := Go.Ground.data }], guard := none } a W K Q else K (a.put (some 17) undef) W := by
  have q : a.tmps[16]?.getD undef = .pointer (some ⟨pb, 3, none⟩) := hI.val 12 _ rfl h12
  have c : W.cell? ⟨pb, 3, none⟩ = some (.int .i64 (p.part : Int)) := hI.held.at_.cell 3
  have R := Lib.hid (hI.pureStep (i := 13) (show (_ : Nat) < 29 by decide) (show 4 + 29 ≤ 36 by decide) rfl rfl (show _ ∉ [3, 7, 11, 19, 24, 28] by decide))
  clear hI
  go_simp
  exact hK _ _ R.out

set_option maxRecDepth 100000 in
theorem sp_14 {p : Pc} {w0 : World} {pb g : Nat} {base : Array Value} {f : Nat → Bool} {a : Act} {W : World} {K : Act → World → Prop} {Q : Exit → Act → World → Prop} {ops : Array Oper} (hb1 : base[1]?.getD undef = .pointer (some ⟨pb, 0, none⟩)) (hb3 : base[3]?.getD undef = .pointer (some ⟨g, 0, none⟩)) (hp : p.ok) (hpg : pb ≠ g) (hlow : w0.heap.size ≤ g) (hI : (spTb p pb g base).Inv (SpHeld w0 pb p) f a W) (pos : String) (hnf : f 14 = false) (hK : ∀ a' W', (spTb p pb g base).Inv (SpHeld w0 pb p) (hit f 14) a' W' → K a' W') : if Region.wanted { dst := some 18, op := Go.Op.fieldAddr 78 (Go.Operand.tmp 1) 4, type := 0, pos := pos, after := #[], guard := none } (yielded ops a.tmps) = true then Oper.wp Tryd.prog { dst := some 18, op := Go.Op.fieldAddr 78 (Go.Operand.tmp 1) 4, type := 0, pos := pos, after := #[], guard := none } a W K Q else K (a.put (some 18) undef) W := by
  have q : a.tmps[1]?.getD undef = .pointer (some ⟨pb, 0, none⟩) := (hI.base 1 (.inl (show 1 < 4 by decide))).trans hb1
  have R := Lib.hid (hI.pureStep (i := 14) (show (_ : Nat) < 29 by decide) (show 4 + 29 ≤ 36 by decide) rfl rfl (show _ ∉ [3, 7, 11, 19, 24, 28] by decide))
  clear hI
  go_simp
  exact hK _ _ R.out

set_option maxRecDepth 100000 in
theorem sp_15 {p : Pc} {w0 : World} {pb g : Nat} {base : Array Value} {f : Nat → Bool} {a : Act} {W : World} {K : Act → World → Prop} {Q : Exit → Act → World → Prop} {ops : Array Oper} (hb1 : base[1]?.getD undef = .pointer (some ⟨pb, 0, none⟩)) (hb3 : base[3]?.getD undef = .pointer (some ⟨g, 0, none⟩)) (hp : p.ok) (hpg : pb ≠ g) (hlow : w0.heap.size ≤ g) (hI : (spTb p pb g base).Inv (SpHeld w0 pb p) f a W) (h14 : f 14 = true) (pos : String) (hnf : f 15 = false) (hK : ∀ a' W', (spTb p pb g base).Inv (SpHeld w0 pb p) (hit f 15) a' W' → K a' W') : if Region.wanted { dst := some 19, op := Go.Op.load 3 (Go.Operand.tmp 18), type := 3, pos := pos, after := #[{ on := 14, ground := Go.Ground.data }], guard := none } (yielded ops a.tmps) = true then Oper.wp Tryd.prog { dst := some 19, op := Go.Op.load 3 (Go.Operand.tmp 18), type := 3, pos := pos, after := #[{ on := 14, ground := Go.Ground.data }], guard := none } a W K Q else K (a.put (some 19) undef) W := by
  have q : a.tmps[18]?.getD undef = .pointer (some ⟨pb, 4, none⟩) := hI.val 14 _ rfl h14
  have c : W.cell? ⟨pb, 4, none⟩ = some (.int .i64 (p.parts : Int)) := hI.held.at_.cell 4
  have R := Lib.hid (hI.pureStep (i := 15) (show (_ : Nat) < 29 by decide) (show 4 + 29 ≤ 36 by decide) rfl rfl (show _ ∉ [3, 7, 11, 19, 24, 28] by decide))
  clear hI
  go_simp
  exact hK _ _ R.out

set_option maxRecDepth 100000 in
theorem sp_16 {p : Pc} {w0 : World} {pb g : Nat} {base : Array Value} {f : Nat → Bool} {a : Act} {W : World} {K : Act → World → Prop} {Q : Exit → Act → World → Prop} {ops : Array Oper} (hb1 : base[1]?.getD undef = .pointer (some ⟨pb, 0, none⟩)) (hb3 : base[3]?.getD undef = .pointer (some ⟨g, 0, none⟩)) (hp : p.ok) (hpg : pb ≠ g) (hlow : w0.heap.size ≤ g) (hI : (spTb p pb g base).Inv (SpHeld w0 pb p) f a W) (pos : String) (hnf : f 16 = false) (hK : ∀ a' W', (spTb p pb g base).Inv (SpHeld w0 pb p) (hit f 16) a' W' → K a' W') : if Region.wanted { dst := some 20, op := Go.Op.fieldAddr 78 (Go.Operand.tmp 1) 5, type := 0, pos := pos, after := #[], guard := none } (yielded ops a.tmps) = true then Oper.wp Tryd.prog { dst := some 20, op := Go.Op.fieldAddr 78 (Go.Operand.tmp 1) 5, type := 0, pos := pos, after := #[], guard := none } a W K Q else K (a.put (some 20) undef) W := by
  have q : a.tmps[1]?.getD undef = .pointer (some ⟨pb, 0, none⟩) := (hI.base 1 (.inl (show 1 < 4 by decide))).trans hb1
  have R := Lib.hid (hI.pureStep (i := 16) (show (_ : Nat) < 29 by decide) (show 4 + 29 ≤ 36 by decide) rfl rfl (show _ ∉ [3, 7, 11, 19, 24, 28] by decide))
  clear hI
  go_simp
  exact hK _ _ R.out

set_option maxRecDepth 100000 in
theorem sp_17 {p : Pc} {w0 : World} {pb g : Nat} {base : Array Value} {f : Nat → Bool} {a : Act} {W : World} {K : Act → World → Prop} {Q : Exit → Act → World → Prop} {ops : Array Oper} (hb1 : base[1]?.getD undef = .pointer (some ⟨pb, 0, none⟩)) (hb3 : base[3]?.getD undef = .pointer (some ⟨g, 0, none⟩)) (hp : p.ok) (hpg : pb ≠ g) (hlow : w0.heap.size ≤ g) (hI : (spTb p pb g base).Inv (SpHeld w0 pb p) f a W) (h16 : f 16 = true) (pos : String) (hnf : f 17 = false) (hK : ∀ a' W', (spTb p pb g base).Inv (SpHeld w0 pb p) (hit f 17) a' W' → K a' W') : if Region.wanted { dst := some 21, op := Go.Op.load 3 (Go.Operand.tmp 20), type := 3, pos := pos, after := #[{ on := 16, ground := Go.Ground.data }], guard := none } (yielded ops a.tmps) = true then Oper.wp Tryd.prog { dst := some 21, op := Go.Op.load 3 (Go.Operand.tmp 20), type := 3, pos := pos, after := #[{ on := 16, ground := Go.Ground.data }], guard := none } a W K Q else K (a.put (some 21) undef) W := by
  have q : a.tmps[20]?.getD undef = .pointer (some ⟨pb, 5, none⟩) := hI.val 16 _ rfl h16
  have c : W.cell? ⟨pb, 5, none⟩ = some (.int .i64 (p.size : Int)) := hI.held.at_.cell 5
  have R := Lib.hid (hI.pureStep (i := 17) (show (_ : Nat) < 29 by decide) (show 4 + 29 ≤ 36 by decide) rfl rfl (show _ ∉ [3, 7, 11, 19, 24, 28] by decide))
  clear hI
  go_simp
  exact hK _ _ R.out

set_option maxRecDepth 100000 in
theorem sp_18 {p : Pc} {w0 : World} {pb g : Nat} {base : Array Value} {f : Nat → Bool} {a : Act} {W : World} {K : Act → World → Prop} {Q : Exit → Act → World → Prop} {ops : Array Oper} (hb1 : base[1]?.getD undef = .pointer (some ⟨pb, 0, none⟩)) (hb3 : base[3]?.getD undef = .pointer (some ⟨g, 0, none⟩)) (hp : p.ok) (hpg : pb ≠ g) (hlow : w0.heap.size ≤ g) (hI : (spTb p pb g base).Inv (SpHeld w0 pb p) f a W) (h13 : f 13 = true) (h15 : f 15 = true) (h17 : f 17 = true) (pos : String) (hnf : f 18 = false) (hK : ∀ a' W', (spTb p pb g base).Inv (SpHeld w0 pb p) (hit f 18) a' W' → K a' W') : if Region.wanted { dst := some 22, op := Go.Op.buildSlice 23 3 #[(0, Go.Operand.tmp 17), (1, Go.Operand.tmp 19), (2, Go.Operand.tmp 21)], type := 23, pos := pos, after := #[{ on := 13, ground := Go.Ground.data }, { on := 15, ground := Go.Ground.data }, { on := 17, ground := Go.Ground.data }], guard := none } (yielded ops a.tmps) = true then Oper.wp Tryd.prog { dst := some 22, op := Go.Op.buildSlice 23 3 #[(0, Go.Operand.tmp 17), (1, Go.Operand.tmp 19), (2, Go.Operand.tmp 21)], type := 23, pos := pos, after := #[{ on := 13, ground := Go.Ground.data }, { on := 15, ground := Go.Ground.data }, { on := 17, ground := Go.Ground.data }], guard := none } a W K Q else K (a.put (some 22) undef) W := by
  have q13 : a.tmps[17]?.getD undef = .int .i64 (p.part : Int) := hI.val 13 _ rfl h13
  have q15 : a.tmps[19]?.getD undef = .int .i64 (p.parts : Int) := hI.val 15 _ rfl h15
  have q17 : a.tmps[21]?.getD undef = .int .i64 (p.size : Int) := hI.val 17 _ rfl h17
  have R := Lib.hid (hI.buildStep (i := 18) (k := 3) (show (_ : Nat) < 29 by decide) (show 4 + 29 ≤ 36 by decide) rfl rfl (show _ ∉ [3, 7, 11, 19, 24, 28] by decide) rfl (hI.held.alloc _))
  clear hI
  go_simp
  exact hK _ _ R.out

set_option maxRecDepth 100000 in
theorem sp_19 {p : Pc} {w0 : World} {pb g : Nat} {base : Array Value} {f : Nat → Bool} {a : Act} {W : World} {K : Act → World → Prop} {Q : Exit → Act → World → Prop} {ops : Array Oper} (hb1 : base[1]?.getD undef = .pointer (some ⟨pb, 0, none⟩)) (hb3 : base[3]?.getD undef = .pointer (some ⟨g, 0, none⟩)) (hp : p.ok) (hpg : pb ≠ g) (hlow : w0.heap.size ≤ g) (hI : (spTb p pb g base).Inv (SpHeld w0 pb p) f a W) (h11 : f 11 = true) (h18 : f 18 = true) (pos : String) (hnf : f 19 = false) (hK : ∀ a' W', (spTb p pb g base).Inv (SpHeld w0 pb p) (hit f 19) a' W' → K a' W') : if Region.wanted { dst := some 23, op := Go.Op.call { callee := Go.Callee.value (Go.Operand.func 59), args := #[Go.Operand.tmp 15, Go.Operand.tmp 22], argTypes := #[105, 23] }, type := 105, pos := pos, after := #[{ on := 11, ground := Go.Ground.data }, { on := 18, ground := Go.Ground.data }, { on := 11, ground := Go.Ground.chain }], guard := none } (yielded ops a.tmps) = true then Oper.wp Tryd.prog { dst := some 23, op := Go.Op.call { callee := Go.Callee.value (Go.Operand.func 59), args := #[Go.Operand.tmp 15, Go.Operand.tmp 22], argTypes := #[105, 23] }, type := 105, pos := pos, after := #[{ on := 11, ground := Go.Ground.data }, { on := 18, ground := Go.Ground.data }, { on := 11, ground := Go.Ground.chain }], guard := none } a W K Q else K (a.put (some 23) undef) W := by
  have q : a.tmps[15]?.getD undef = .pointer (some ⟨g, 0, none⟩) := hI.val 11 _ rfl h11
  obtain ⟨G, q2, hG⟩ := hI.built 18 _ _ 19 rfl h18 hnf
  have q2 : a.tmps[22]?.getD undef = .slice (some ⟨G, 0, none⟩) 3 3 := q2
  obtain ⟨hE, hall⟩ := hI.count (k := 3) (show (_ : Nat) < 6 by decide) hnf (.inr h11)
  have HR := Lib.hid (fun W1 (h : EncRet g ((spTb p pb g base).bs 3 ++ (spTb p pb g base).es 3) W (.returned (.pointer (some ⟨g, 0, none⟩))) W1) => hI.callStep (i := 19) (k := 3) (show (_ : Nat) < 29 by decide) (show 4 + 29 ≤ 36 by decide) (show (_ : Nat) < 6 by decide) rfl hall (show ∀ j, j < 6 → [3, 7, 11, 19, 24, 28][j]?.getD 0 = 19 → j = 3 by decide) rfl rfl h.2.1 h.2.2 (hI.held.grown h.2.2 hpg hlow) spTb_ne)
  have hlen := spTb_len hp pb g base 3
  have hE : EncIs W g ((spTb p pb g base).bs 3) := hE
  obtain ⟨bs, hbs⟩ : ∃ bs, (spTb p pb g base).bs 3 = bs := ⟨_, rfl⟩
  rw [hbs] at hE hlen HR
  have hC := encI_any g bs [(p.part : Int), (p.parts : Int), (p.size : Int)] (by have := hp.blk; have := hp.part; have := hp.parts; have := hp.size; simp; omega) (some ⟨G, 0, none⟩) 3 W hE (Lies.of_at hG rfl hG.lt) (by simp; omega)
  clear hI hall hlen hbs hE
  go_simp
  refine hC.mono ?_
  rintro e W1 h
  obtain rfl := h.1
  exact hK _ _ (HR.out W1 h)

set_option maxRecDepth 100000 in
theorem sp_20 {p : Pc} {w0 : World} {pb g : Nat} {base : Array Value} {f : Nat → Bool} {a : Act} {W : World} {K : Act → World → Prop} {Q : Exit → Act → World → Prop} {ops : Array Oper} (hb1 : base[1]?.getD undef = .pointer (some ⟨pb, 0, none⟩)) (hb3 : base[3]?.getD undef = .pointer (some ⟨g, 0, none⟩)) (hp : p.ok) (hpg : pb ≠ g) (hlow : w0.heap.size ≤ g) (hI : (spTb p pb g base).Inv (SpHeld w0 pb p) f a W) (pos : String) (hnf : f 20 = false) (hK : ∀ a' W', (spTb p pb g base).Inv (SpHeld w0 pb p) (hit f 20) a' W' → K a' W') : if Region.wanted { dst := some 24, op := Go.Op.fieldAddr 78 (Go.Operand.tmp 1) 6, type := 0, pos := pos, after := #[], guard := none } (yielded ops a.tmps) = true then Oper.wp Tryd.prog { dst := some 24, op := Go.Op.fieldAddr 78 (Go.Operand.tmp 1) 6, type := 0, pos := pos, after := #[], guard := none } a W K Q else K (a.put (some 24) undef) W := by
  have q : a.tmps[1]?.getD undef = .pointer (some ⟨pb, 0, none⟩) := (hI.base 1 (.inl (show 1 < 4 by decide))).trans hb1
  have R := Lib.hid (hI.pureStep (i := 20) (show (_ : Nat) < 29 by decide) (show 4 + 29 ≤ 36 by decide) rfl rfl (show _ ∉ [3, 7, 11, 19, 24, 28] by decide))
  clear hI
  go_simp
  exact hK _ _ R.out

set_option maxRecDepth 100000 in
theorem sp_21 {p : Pc} {w0 : World} {pb g : Nat} {base : Array Value} {f : Nat → Bool} {a : Act} {W : World} {K : Act → World → Prop} {Q : Exit → Act → World → Prop} {ops : Array Oper} (hb1 : base[1]?.getD undef = .pointer (some ⟨pb, 0, none⟩)) (hb3 : base[3]?.getD undef = .pointer (some ⟨g, 0, none⟩)) (hp : p.ok) (hpg : pb ≠ g) (hlow : w0.heap.size ≤ g) (hI : (spTb p pb g base).Inv (SpHeld w0 pb p) f a W) (h20 : f 20 = true) (pos : String) (hnf : f 21 = false) (hK : ∀ a' W', (spTb p pb g base).Inv (SpHeld w0 pb p) (hit f 21) a' W' → K a' W') : if Region.wanted { dst := some 25, op := Go.Op.load 76 (Go.Operand.tmp 24), type := 76, pos := pos, after := #[{ on := 20, ground := Go.Ground.data }], guard := none } (yielded ops a.tmps) = true then Oper.wp Tryd.prog { dst := some 25, op := Go.Op.load 76 (Go.Operand.tmp 24), type := 76, pos := pos, after := #[{ on := 20, ground := Go.Ground.data }], guard := none } a W K Q else K (a.put (some 25) undef) W := by
  have q : a.tmps[24]?.getD undef = .pointer (some ⟨pb, 6, none⟩) := hI.val 20 _ rfl h20
  have c : W.cell? ⟨pb, 6, none⟩ = some (.int .u32 (p.sum : Int)) := hI.held.at_.cell 6
  have R := Lib.hid (hI.pureStep (i := 21) (show (_ : Nat) < 29 by decide) (show 4 + 29 ≤ 36 by decide) rfl rfl (show _ ∉ [3, 7, 11, 19, 24, 28] by decide))
  clear hI
  go_simp
  exact hK _ _ R.out

set_option maxRecDepth 100000 in
theorem sp_22 {p : Pc} {w0 : World} {pb g : Nat} {base : Array Value} {f : Nat → Bool} {a : Act} {W : World} {K : Act → World → Prop} {Q : Exit → Act → World → Prop} {ops : Array Oper} (hb1 : base[1]?.getD undef = .pointer (some ⟨pb, 0, none⟩)) (hb3 : base[3]?.getD undef = .pointer (some ⟨g, 0, none⟩)) (hp : p.ok) (hpg : pb ≠ g) (hlow : w0.heap.size ≤ g) (hI : (spTb p pb g base).Inv (SpHeld w0 pb p) f a W) (h21 : f 21 = true) (pos : String) (hnf : f 22 = false) (hK : ∀ a' W', (spTb p pb g base).Inv (SpHeld w0 pb p) (hit f 22) a' W' → K a' W') : if Region.wanted { dst := some 26, op := Go.Op.convert 76 30 (Go.Operand.tmp 25), type := 30, pos := pos, after := #[{ on := 21, ground := Go.Ground.data }], guard := none } (yielded ops a.tmps) = true then Oper.wp Tryd.prog { dst := some 26, op := Go.Op.convert 76 30 (Go.Operand.tmp 25), type := 30, pos := pos, after := #[{ on := 21, ground := Go.Ground.data }], guard := none } a W K Q else K (a.put (some 26) undef) W := by
  have q : a.tmps[25]?.getD undef = .int .u32 (p.sum : Int) := hI.val 21 _ rfl h21
  have hs := hp.sum
  have hw : IntKind.u64.wrap (p.sum : Int) = (p.sum : Int) := by rw [IntKind.wrap_u64]; omega
  have R := Lib.hid (hI.pureStep (i := 22) (show (_ : Nat) < 29 by decide) (show 4 + 29 ≤ 36 by decide) rfl rfl (show _ ∉ [3, 7, 11, 19, 24, 28] by decide))
  clear hI
  go_simp
  exact hK _ _ R.out

set_option maxRecDepth 100000 in
theorem sp_23 {p : Pc} {w0 : World} {pb g : Nat} {base : Array Value} {f : Nat → Bool} {a : Act} {W : World} {K : Act → World → Prop} {Q : Exit → Act → World → Prop} {ops : Array Oper} (hb1 : base[1]?.getD undef = .pointer (some ⟨pb, 0, none⟩)) (hb3 : base[3]?.getD undef = .pointer (some ⟨g, 0, none⟩)) (hp : p.ok) (hpg : pb ≠ g) (hlow : w0.heap.size ≤ g) (hI : (spTb p pb g base).Inv (SpHeld w0 pb p) f a W) (h22 : f 22 = true) (pos : String) (hnf : f 23 = false) (hK : ∀ a' W', (spTb p pb g base).Inv (SpHeld w0 pb p) (hit f 23) a' W' → K a' W') : if Region.wanted { dst := some 27, op := Go.Op.buildSlice 119 1 #[(0, Go.Operand.tmp 26)], type := 119, pos := pos, after := #[{ on := 22, ground := Go.Ground.data }], guard := none } (yielded ops a.tmps) = true then Oper.wp Tryd.prog { dst := some 27, op := Go.Op.buildSlice 119 1 #[(0, Go.Operand.tmp 26)], type := 119, pos := pos, after := #[{ on := 22, ground := Go.Ground.data }], guard := none } a W K Q else K (a.put (some 27) undef) W := by
  have q22 : a.tmps[26]?.getD undef = .int .u64 (p.sum : Int) := hI.val 22 _ rfl h22
  have R := Lib.hid (hI.buildStep (i := 23) (k := 1) (show (_ : Nat) < 29 by decide) (show 4 + 29 ≤ 36 by decide) rfl rfl (show _ ∉ [3, 7, 11, 19, 24, 28] by decide) rfl (hI.held.alloc _))
  clear hI
  go_simp
  exact hK _ _ R.out

set_option maxRecDepth 100000 in
theorem sp_24 {p : Pc} {w0 : World} {pb g : Nat} {base : Array Value} {f : Nat → Bool} {a : Act} {W : World} {K : Act → World → Prop} {Q : Exit → Act → World → Prop} {ops : Array Oper} (hb1 : base[1]?.getD undef = .pointer (some ⟨pb, 0, none⟩)) (hb3 : base[3]?.getD undef = .pointer (some ⟨g, 0, none⟩)) (hp : p.ok) (hpg : pb ≠ g) (hlow : w0.heap.size ≤ g) (hI : (spTb p pb g base).Inv (SpHeld w0 pb p) f a W) (h19 : f 19 = true) (h23 : f 23 = true) (pos : String) (hnf : f 24 = false) (hK : ∀ a' W', (spTb p pb g base).Inv (SpHeld w0 pb p) (hit f 24) a' W' → K a' W') : if Region.wanted { dst := some 28, op := Go.Op.call { callee := Go.Callee.value (Go.Operand.func 60), args := #[Go.Operand.tmp 23, Go.Operand.tmp 27], argTypes := #[105, 119] }, type := 105, pos := pos, after := #[{ on := 19, ground := Go.Ground.data }, { on := 23, ground := Go.Ground.data }, { on := 19, ground := Go.Ground.chain }], guard := none } (yielded ops a.tmps) = true then Oper.wp Tryd.prog { dst := some 28, op := Go.Op.call { callee := Go.Callee.value (Go.Operand.func 60), args := #[Go.Operand.tmp 23, Go.Operand.tmp 27], argTypes := #[105, 119] }, type := 105, pos := pos, after := #[{ on := 19, ground := Go.Ground.data }, { on := 23, ground := Go.Ground.data }, { on := 19, ground := Go.Ground.chain }], guard := none } a W K Q else K (a.put (some 28) undef) W := by
  have q : a.tmps[23]?.getD undef = .pointer (some ⟨g, 0, none⟩) := hI.val 19 _ rfl h19
  obtain ⟨G, q2, hG⟩ := hI.built 23 _ _ 24 rfl h23 hnf
  have q2 : a.tmps[27]?.getD undef = .slice (some ⟨G, 0, none⟩) 1 1 := q2
  obtain ⟨hE, hall⟩ := hI.count (k := 4) (show (_ : Nat) < 6 by decide) hnf (.inr h19)
  have HR := Lib.hid (fun W1 (h : EncRet g ((spTb p pb g base).bs 4 ++ (spTb p pb g base).es 4) W (.returned (.pointer (some ⟨g, 0, none⟩))) W1) => hI.callStep (i := 24) (k := 4) (show (_ : Nat) < 29 by decide) (show 4 + 29 ≤ 36 by decide) (show (_ : Nat) < 6 by decide) rfl hall (show ∀ j, j < 6 → [3, 7, 11, 19, 24, 28][j]?.getD 0 = 24 → j = 4 by decide) rfl rfl h.2.1 h.2.2 (hI.held.grown h.2.2 hpg hlow) spTb_ne)
  have hlen := spTb_len hp pb g base 4
  have hE : EncIs W g ((spTb p pb g base).bs 4) := hE
  obtain ⟨bs, hbs⟩ : ∃ bs, (spTb p pb g base).bs 4 = bs := ⟨_, rfl⟩
  rw [hbs] at hE hlen HR
  have hC := encU_any g bs [p.sum] (by have := hp.id; have := hp.sum; simp; omega) (some ⟨G, 0, none⟩) 1 W hE (Lies.of_at hG rfl hG.lt) (by simp; omega)
  clear hI hall hlen hbs hE
  go_simp
  refine hC.mono ?_
  rintro e W1 h
  obtain rfl := h.1
  exact hK _ _ (HR.out W1 h)

set_option maxRecDepth 100000 in
theorem sp_25 {p : Pc} {w0 : World} {pb g : Nat} {base : Array Value} {f : Nat → Bool} {a : Act} {W : World} {K : Act → World → Prop} {Q : Exit → Act → World → Prop} {ops : Array Oper} (hb1 : base[1]?.getD undef = .pointer (some ⟨pb, 0, none⟩)) (hb3 : base[3]?.getD undef = .pointer (some ⟨g, 0, none⟩)) (hp : p.ok) (hpg : pb ≠ g) (hlow : w0.heap.size ≤ g) (hI : (spTb p pb g base).Inv (SpHeld w0 pb p) f a W) (pos : String) (hnf : f 25 = false) (hK : ∀ a' W', (spTb p pb g base).Inv (SpHeld w0 pb p) (hit f 25) a' W' → K a' W') : if Region.wanted { dst := some 29, op := Go.Op.fieldAddr 78 (Go.Operand.tmp 1) 7, type := 0, pos := pos, after := #[], guard := none } (yielded ops a.tmps) = true then Oper.wp Tryd.prog { dst := some 29, op := Go.Op.fieldAddr 78 (Go.Operand.tmp 1) 7, type := 0, pos := pos, after := #[], guard := none } a W K Q else K (a.put (some 29) undef) W := by
  have q : a.tmps[1]?.getD undef = .pointer (some ⟨pb, 0, none⟩) := (hI.base 1 (.inl (show 1 < 4 by decide))).trans hb1
  have R := Lib.hid (hI.pureStep (i := 25) (show (_ : Nat) < 29 by decide) (show 4 + 29 ≤ 36 by decide) rfl rfl (show _ ∉ [3, 7, 11, 19, 24, 28] by decide))
  clear hI
  go_simp
  exact hK _ _ R.out

set_option maxRecDepth 100000 in
theorem sp_26 {p : Pc} {w0 : World} {pb g : Nat} {base : Array Value} {f : Nat → Bool} {a : Act} {W : World} {K : Act → World → Prop} {Q : Exit → Act → World → Prop} {ops : Array Oper} (hb1 : base[1]?.getD undef = .pointer (some ⟨pb, 0, none⟩)) (hb3 : base[3]?.getD undef = .pointer (some ⟨g, 0, none⟩)) (hp : p.ok) (hpg : pb ≠ g) (hlow : w0.heap.size ≤ g) (hI : (spTb p pb g base).Inv (SpHeld w0 pb p) f a W) (h25 : f 25 = true) (pos : String) (hnf : f 26 = false) (hK : ∀ a' W', (spTb p pb g base).Inv (SpHeld w0 pb p) (hit f 26) a' W' → K a' W') : if Region.wanted { dst := some 30, op := Go.Op.load 9 (Go.Operand.tmp 29), type := 9, pos := pos, after := #[{ on := 25, ground := Go.Ground.data }], guard := none } (yielded ops a.tmps) = true then Oper.wp Tryd.prog { dst := some 30, op := Go.Op.load 9 (Go.Operand.tmp 29), type := 9, pos := pos, after := #[{ on := 25, ground := Go.Ground.data }], guard := none } a W K Q else K (a.put (some 30) undef) W := by
  have q : a.tmps[29]?.getD undef = .pointer (some ⟨pb, 7, none⟩) := hI.val 25 _ rfl h25
  have c : W.cell? ⟨pb, 7, none⟩ = some (.string p.data) := hI.held.at_.cell 7
  have R := Lib.hid (hI.pureStep (i := 26) (show (_ : Nat) < 29 by decide) (show 4 + 29 ≤ 36 by decide) rfl rfl (show _ ∉ [3, 7, 11, 19, 24, 28] by decide))
  clear hI
  go_simp
  exact hK _ _ R.out

set_option maxRecDepth 100000 in
theorem sp_27 {p : Pc} {w0 : World} {pb g : Nat} {base : Array Value} {f : Nat → Bool} {a : Act} {W : World} {K : Act → World → Prop} {Q : Exit → Act → World → Prop} {ops : Array Oper} (hb1 : base[1]?.getD undef = .pointer (some ⟨pb, 0, none⟩)) (hb3 : base[3]?.getD undef = .pointer (some ⟨g, 0, none⟩)) (hp : p.ok) (hpg : pb ≠ g) (hlow : w0.heap.size ≤ g) (hI : (spTb p pb g base).Inv (SpHeld w0 pb p) f a W) (h26 : f 26 = true) (pos : String) (hnf : f 27 = false) (hK : ∀ a' W', (spTb p pb g base).Inv (SpHeld w0 pb p) (hit f 27) a' W' → K a' W') : if Region.wanted { dst := some 31, op := Go.Op.buildSlice 114 1 #[(0, Go.Operand.tmp 30)], type := 114, pos := pos, after := #[{ on := 26, ground := Go.Ground.data }], guard := none } (yielded ops a.tmps) = true then Oper.wp Tryd.prog { dst := some 31, op := Go.Op.buildSlice 114 1 #[(0, Go.Operand.tmp 30)], type := 114, pos := pos, after := #[{ on := 26, ground := Go.Ground.data }], guard := none } a W K Q else K (a.put (some 31) undef) W := by
  have q26 : a.tmps[30]?.getD undef = .string p.data := hI.val 26 _ rfl h26
  have R := Lib.hid (hI.buildStep (i := 27) (k := 1) (show (_ : Nat) < 29 by decide) (show 4 + 29 ≤ 36 by decide) rfl rfl (show _ ∉ [3, 7, 11, 19, 24, 28] by decide) rfl (hI.held.alloc _))
  clear hI
  go_simp
  exact hK _ _ R.out

set_option maxRecDepth 100000 in
theorem sp_28 {p : Pc} {w0 : World} {pb g : Nat} {base : Array Value} {f : Nat → Bool} {a : Act} {W : World} {K : Act → World → Prop} {Q : Exit → Act → World → Prop} {ops : Array Oper} (hb1 : base[1]?.getD undef = .pointer (some ⟨pb, 0, none⟩)) (hb3 : base[3]?.getD undef = .pointer (some ⟨g, 0, none⟩)) (hp : p.ok) (hpg : pb ≠ g) (hlow : w0.heap.size ≤ g) (hI : (spTb p pb g base).Inv (SpHeld w0 pb p) f a W) (h24 : f 24 = true) (h27 : f 27 = true) (pos : String) (hnf : f 28 = false) (hK : ∀ a' W', (spTb p pb g base).Inv (SpHeld w0 pb p) (hit f 28) a' W' → K a' W') : if Region.wanted { dst := some 32, op := Go.Op.call { callee := Go.Callee.value (Go.Operand.func 58), args := #[Go.Operand.tmp 28, Go.Operand.tmp 31], argTypes := #[105, 114] }, type := 105, pos := pos, after := #[{ on := 24, ground := Go.Ground.data }, { on := 27, ground := Go.Ground.data }, { on := 24, ground := Go.Ground.chain }], guard := none } (yielded ops a.tmps) = true then Oper.wp Tryd.prog { dst := some 32, op := Go.Op.call { callee := Go.Callee.value (Go.Operand.func 58), args := #[Go.Operand.tmp 28, Go.Operand.tmp 31], argTypes := #[105, 114] }, type := 105, pos := pos, after := #[{ on := 24, ground := Go.Ground.data }, { on := 27, ground := Go.Ground.data }, { on := 24, ground := Go.Ground.chain }], guard := none } a W K Q else K (a.put (some 32) undef) W := by
  have q : a.tmps[28]?.getD undef = .pointer (some ⟨g, 0, none⟩) := hI.val 24 _ rfl h24
  obtain ⟨G, q2, hG⟩ := hI.built 27 _ _ 28 rfl h27 hnf
  have q2 : a.tmps[31]?.getD undef = .slice (some ⟨G, 0, none⟩) 1 1 := q2
  obtain ⟨hE, hall⟩ := hI.count (k := 5) (show (_ : Nat) < 6 by decide) hnf (.inr h24)
  have HR := Lib.hid (fun W1 (h : EncRet g ((spTb p pb g base).bs 5 ++ (spTb p pb g base).es 5) W (.returned (.pointer (some ⟨g, 0, none⟩))) W1) => hI.callStep (i := 28) (k := 5) (show (_ : Nat) < 29 by decide) (show 4 + 29 ≤ 36 by decide) (show (_ : Nat) < 6 by decide) rfl hall (show ∀ j, j < 6 → [3, 7, 11, 19, 24, 28][j]?.getD 0 = 28 → j = 5 by decide) rfl rfl h.2.1 h.2.2 (hI.held.grown h.2.2 hpg hlow) spTb_ne)
  have hlen := spTb_len hp pb g base 5
  have hE : EncIs W g ((spTb p pb g base).bs 5) := hE
  obtain ⟨bs, hbs⟩ : ∃ bs, (spTb p pb g base).bs 5 = bs := ⟨_, rfl⟩
  rw [hbs] at hE hlen HR
  have hC := encS_any g bs [p.data] (some ⟨G, 0, none⟩) 1 W hE (Lies.of_at hG rfl hG.lt) (by have h200 := hp.data; have h32 := hp.lab; have := text_len p.data; have := text_len p.lab; have := num_lt 1 p.data.size (by omega); have := num_lt 0 p.lab.size (by omega); simp [texts]; omega)
  clear hI hall hlen hbs hE
  go_simp
  refine hC.mono ?_
  rintro e W1 h
  obtain rfl := h.1
  exact hK _ _ (HR.out W1 h)


abbrev spBase (p : Pc) (pb g : Nat) : Array Value := #[.agg p.cells, .pointer (some ⟨pb, 0, none⟩), .string ⟨#[]⟩, .pointer (some ⟨g, 0, none⟩), undef, undef, undef, undef, undef, undef, undef, undef, undef, undef, undef, undef, undef, undef, undef, undef, undef, undef, undef, undef, undef, undef, undef, undef, undef, undef, undef, undef, undef, undef, undef, undef]

theorem list_ex {n : Nat} {l : List Value} (h : l.length = n + 1) : ∃ x r, l = x :: r ∧ r.length = n := by
  cases l with
  | nil => cases h
  | cons x r => exact ⟨x, r, rfl, by simpa using h⟩

set_option maxRecDepth 100000 in
set_option maxHeartbeats 4000000 in
theorem spell_any (p : Pc) (hp : p.ok) (w : World) (hS : Steps w) :
    Calls Tryd.prog 43 #[p.val] w fun e w' => e = .returned (.string ⟨p.spell.toArray⟩) ∧ Below w.heap.size w w' := by
  have hmix : Tryd.prog.follows .mixedOrders = true := by kernel_rfl
  unfold Pc.val
  go_enter Tryd.func43, Tryd.ntmps43
  go_wp2_with fail
  have hp1 := At.new w 78 p.cells
  have hE := EncIs.new (w.alloc (.cells p.cells 78))
  have hz : (w.alloc (.cells p.cells 78)).heap.size = w.heap.size + 1 := by simp
  have hb1 : Below w.heap.size w (w.alloc (.cells p.cells 78)) := (Below.refl _ w).alloc (Nat.le_refl _) _
  generalize w.alloc (.cells p.cells 78) = w1 at *
  have hp2 := hp1.alloc (.cells #[.pointer none, .int .i64 0] 104)
  have hb2 := hb1.alloc hb1.size (.cells #[.pointer none, .int .i64 0] 104)
  rw [hz] at hE
  generalize w1.alloc (.cells #[.pointer none, .int .i64 0] 104) = w2 at *
  have HH : Hid (SpHeld w w.heap.size p w2) := Lib.hid ⟨hb2, hp2⟩
  have HE := Lib.hid hE
  clear hp1 hp2 hb1 hb2 hE
  refine wp_region_inv hmix (by kernel_rfl) ((spTb p w.heap.size (w.heap.size + 1) (spBase p w.heap.size (w.heap.size + 1))).Inv (SpHeld w w.heap.size p)) ?h0 ?hstep ?hend
  case h0 =>
    refine ⟨rfl, rfl, fun s hs => rfl, fun i v _ hf => (by cases hf), fun b t cs c _ hf => (by cases hf), ⟨0, Nat.zero_le _, fun k hk => (by simp), ?_⟩, ?_⟩
    · exact HE.out.same (w' := w2.drew) ⟨rfl, rfl, rfl, Nat.le_refl _, fun _ _ _ => rfl⟩
    · exact ⟨⟨HH.out.low.os, HH.out.low.tape, HH.out.low.output, HH.out.low.size, HH.out.low.block⟩, HH.out.at_.drew⟩
  case hend =>
    intro f a W hall hI
    have hE6 : EncIs W (w.heap.size + 1) p.enc := by
      obtain ⟨m, hm, hc, he⟩ := hI.cnt
      have h5 : (true : Bool) = decide (5 < m) := by rw [← hc 5 (show 5 < 6 by decide)]; exact (hall 28 (show 28 < 29 by decide)).symm
      have h5' : 5 < m := by simpa using h5.symm
      have hm' : m ≤ 6 := hm
      obtain rfl : m = 6 := by omega
      rw [spTb_enc] at he
      exact he
    have HL := Lib.hid hI.held.low
    have HE6 := Lib.hid hE6
    have hel := enc_max hp
    have hBY := bytes_any (w.heap.size + 1) p.enc W hE6 (by omega)
    obtain ⟨tm, df⟩ := a
    have hdf : df = [] := hI.defers
    subst hdf
    obtain ⟨l0⟩ := tm
    have z0 : l0.length = 35 + 1 := hI.size
    have b0 := hI.base 0 (.inl (show 0 < 4 by decide))
    have b1 := hI.base 1 (.inl (show 1 < 4 by decide))
    have b2 := hI.base 2 (.inl (show 2 < 4 by decide))
    have b3 := hI.base 3 (.inl (show 3 < 4 by decide))
    clear hI hE6 hall HH HE
    obtain ⟨x0, l1, rfl, z1⟩ := list_ex z0
    obtain ⟨x1, l2, rfl, z2⟩ := list_ex z1
    obtain ⟨x2, l3, rfl, z3⟩ := list_ex z2
    obtain ⟨x3, l4, rfl, z4⟩ := list_ex z3
    obtain ⟨x4, l5, rfl, z5⟩ := list_ex z4
    obtain ⟨x5, l6, rfl, z6⟩ := list_ex z5
    obtain ⟨x6, l7, rfl, z7⟩ := list_ex z6
    obtain ⟨x7, l8, rfl, z8⟩ := list_ex z7
    obtain ⟨x8, l9, rfl, z9⟩ := list_ex z8
    obtain ⟨x9, l10, rfl, z10⟩ := list_ex z9
    obtain ⟨x10, l11, rfl, z11⟩ := list_ex z10
    obtain ⟨x11, l12, rfl, z12⟩ := list_ex z11
    obtain ⟨x12, l13, rfl, z13⟩ := list_ex z12
    obtain ⟨x13, l14, rfl, z14⟩ := list_ex z13
    obtain ⟨x14, l15, rfl, z15⟩ := list_ex z14
    obtain ⟨x15, l16, rfl, z16⟩ := list_ex z15
    obtain ⟨x16, l17, rfl, z17⟩ := list_ex z16
    obtain ⟨x17, l18, rfl, z18⟩ := list_ex z17
    obtain ⟨x18, l19, rfl, z19⟩ := list_ex z18
    obtain ⟨x19, l20, rfl, z20⟩ := list_ex z19
    obtain ⟨x20, l21, rfl, z21⟩ := list_ex z20
    obtain ⟨x21, l22, rfl, z22⟩ := list_ex z21
    obtain ⟨x22, l23, rfl, z23⟩ := list_ex z22
    obtain ⟨x23, l24, rfl, z24⟩ := list_ex z23
    obtain ⟨x24, l25, rfl, z25⟩ := list_ex z24
    obtain ⟨x25, l26, rfl, z26⟩ := list_ex z25
    obtain ⟨x26, l27, rfl, z27⟩ := list_ex z26
    obtain ⟨x27, l28, rfl, z28⟩ := list_ex z27
    obtain ⟨x28, l29, rfl, z29⟩ := list_ex z28
    obtain ⟨x29, l30, rfl, z30⟩ := list_ex z29
    obtain ⟨x30, l31, rfl, z31⟩ := list_ex z30
    obtain ⟨x31, l32, rfl, z32⟩ := list_ex z31
    obtain ⟨x32, l33, rfl, z33⟩ := list_ex z32
    obtain ⟨x33, l34, rfl, z34⟩ := list_ex z33
    obtain ⟨x34, l35, rfl, z35⟩ := list_ex z34
    obtain ⟨x35, l36, rfl, z36⟩ := list_ex z35
    obtain rfl : l36 = [] := List.eq_nil_of_length_eq_zero z36
    have b0 : x0 = .agg p.cells := b0
    have b1 : x1 = .pointer (some ⟨w.heap.size, 0, none⟩) := b1
    have b2 : x2 = .string ⟨#[]⟩ := b2
    have b3 : x3 = .pointer (some ⟨w.heap.size + 1, 0, none⟩) := b3
    subst b0 b1 b2 b3
    clear z0 z1 z2 z3 z4 z5 z6 z7 z8 z9 z10 z11 z12 z13 z14 z15 z16 z17 z18 z19 z20 z21 z22 z23 z24 z25 z26 z27 z28 z29 z30 z31 z32 z33 z34 z35 z36
    obtain ⟨es, hes⟩ : ∃ es : ByteArray, (⟨p.enc.toArray⟩ : ByteArray) = es := ⟨_, rfl⟩
    rw [hes] at hBY
    have hsp : cat [es] = p.enc := by rw [← hes]; simp [cat]
    have HSP := Lib.hid hsp
    have hcl : (cat [es]).length ≤ 1048576 := by rw [hsp]; omega
    have hFN := fun (V : World) (g : Nat) (hg : g = V.heap.size) (h : Steps V) => frame_new [es] #[.string es] 1 g V rfl rfl hg h hcl (by simp)
    rw [hsp] at hFN
    have HS := Lib.hid hS
    clear hes hsp hcl hS
    go_wp2_with fail
    refine hBY.mono ?_
    rintro e W1 ⟨rfl, hb1⟩
    have hL1 := HL.out.trans (hb1.mono HL.out.size)
    have HS1 := Lib.hid (HS.out.below hL1 HS.out.1)
    have hL2 := hL1.alloc hL1.size (.cells #[.string es] 9)
    have HL2 := Lib.hid hL2
    clear hb1 hL1 hL2 hBY HL HE6
    go_wp2_with fail
    refine (hFN W1 _ rfl HS1.out).mono ?_
    rintro e W2 ⟨rfl, hb2⟩
    have HL3 := Lib.hid (HL2.out.trans (hb2.mono HL2.out.size))
    clear hb2 hFN HL2 HS1
    go_wp2
    go_ret
    exact ⟨rfl, HL3.out⟩
  case hstep =>
    intro f a W i o ho hf hed hI
    have hi : i < 29 := (Array.getElem?_eq_some_iff.1 ho).1
    have hc : i = 0 ∨ i = 1 ∨ i = 2 ∨ i = 3 ∨ i = 4 ∨ i = 5 ∨ i = 6 ∨ i = 7 ∨ i = 8 ∨ i = 9 ∨ i = 10 ∨ i = 11 ∨ i = 12 ∨ i = 13 ∨ i = 14 ∨ i = 15 ∨ i = 16 ∨ i = 17 ∨ i = 18 ∨ i = 19 ∨ i = 20 ∨ i = 21 ∨ i = 22 ∨ i = 23 ∨ i = 24 ∨ i = 25 ∨ i = 26 ∨ i = 27 ∨ i = 28 := by omega
    rcases hc with rfl | rfl | rfl | rfl | rfl | rfl | rfl | rfl | rfl | rfl | rfl | rfl | rfl | rfl | rfl | rfl | rfl | rfl | rfl | rfl | rfl | rfl | rfl | rfl | rfl | rfl | rfl | rfl | rfl
    · cases ho
      exact wpOp_step (o := { dst := some 4, op := Go.Op.fieldAddr 78 (Go.Operand.tmp 1) 0, type := 0, pos := "tapefmt.go:50", after := #[], guard := none }) rfl fun K hK => sp_0 rfl rfl hp (by omega) (by omega) hI "tapefmt.go:50" hf (fun a' W' h => hK a' W' h)
    · cases ho
      exact wpOp_step (o := { dst := some 5, op := Go.Op.load 9 (Go.Operand.tmp 4), type := 9, pos := "tapefmt.go:50", after := #[{ on := 0, ground := Go.Ground.data }], guard := none }) rfl fun K hK => sp_1 rfl rfl hp (by omega) (by omega) hI (hed ⟨0, Go.Ground.data⟩ (Array.mem_of_getElem? (i := 0) rfl) rfl) "tapefmt.go:50" hf (fun a' W' h => hK a' W' h)
    · cases ho
      exact wpOp_step (o := { dst := some 6, op := Go.Op.buildSlice 114 1 #[(0, Go.Operand.tmp 5)], type := 114, pos := "tapefmt.go:50", after := #[{ on := 1, ground := Go.Ground.data }], guard := none }) rfl fun K hK => sp_2 rfl rfl hp (by omega) (by omega) hI (hed ⟨1, Go.Ground.data⟩ (Array.mem_of_getElem? (i := 0) rfl) rfl) "tapefmt.go:50" hf (fun a' W' h => hK a' W' h)
    · cases ho
      exact wpOp_step (o := { dst := some 7, op := Go.Op.call { callee := Go.Callee.value (Go.Operand.func 58), args := #[Go.Operand.tmp 3, Go.Operand.tmp 6], argTypes := #[104, 114] }, type := 105, pos := "tapefmt.go:50", after := #[{ on := 2, ground := Go.Ground.data }], guard := none }) rfl fun K hK => sp_3 rfl rfl hp (by omega) (by omega) hI (hed ⟨2, Go.Ground.data⟩ (Array.mem_of_getElem? (i := 0) rfl) rfl) "tapefmt.go:50" hf (fun a' W' h => hK a' W' h)
    · cases ho
      exact wpOp_step (o := { dst := some 8, op := Go.Op.fieldAddr 78 (Go.Operand.tmp 1) 1, type := 0, pos := "tapefmt.go:50", after := #[], guard := none }) rfl fun K hK => sp_4 rfl rfl hp (by omega) (by omega) hI "tapefmt.go:50" hf (fun a' W' h => hK a' W' h)
    · cases ho
      exact wpOp_step (o := { dst := some 9, op := Go.Op.load 3 (Go.Operand.tmp 8), type := 3, pos := "tapefmt.go:50", after := #[{ on := 4, ground := Go.Ground.data }], guard := none }) rfl fun K hK => sp_5 rfl rfl hp (by omega) (by omega) hI (hed ⟨4, Go.Ground.data⟩ (Array.mem_of_getElem? (i := 0) rfl) rfl) "tapefmt.go:50" hf (fun a' W' h => hK a' W' h)
    · cases ho
      exact wpOp_step (o := { dst := some 10, op := Go.Op.buildSlice 23 1 #[(0, Go.Operand.tmp 9)], type := 23, pos := "tapefmt.go:50", after := #[{ on := 5, ground := Go.Ground.data }], guard := none }) rfl fun K hK => sp_6 rfl rfl hp (by omega) (by omega) hI (hed ⟨5, Go.Ground.data⟩ (Array.mem_of_getElem? (i := 0) rfl) rfl) "tapefmt.go:50" hf (fun a' W' h => hK a' W' h)
    · cases ho
      exact wpOp_step (o := { dst := some 11, op := Go.Op.call { callee := Go.Callee.value (Go.Operand.func 59), args := #[Go.Operand.tmp 7, Go.Operand.tmp 10], argTypes := #[105, 23] }, type := 105, pos := "tapefmt.go:50", after := #[{ on := 3, ground := Go.Ground.data }, { on := 6, ground := Go.Ground.data }, { on := 3, ground := Go.Ground.chain }], guard := none }) rfl fun K hK => sp_7 rfl rfl hp (by omega) (by omega) hI (hed ⟨3, Go.Ground.data⟩ (Array.mem_of_getElem? (i := 0) rfl) rfl) (hed ⟨6, Go.Ground.data⟩ (Array.mem_of_getElem? (i := 1) rfl) rfl) "tapefmt.go:50" hf (fun a' W' h => hK a' W' h)
    · cases ho
      exact wpOp_step (o := { dst := some 12, op := Go.Op.fieldAddr 78 (Go.Operand.tmp 1) 2, type := 0, pos := "tapefmt.go:50", after := #[], guard := none }) rfl fun K hK => sp_8 rfl rfl hp (by omega) (by omega) hI "tapefmt.go:50" hf (fun a' W' h => hK a' W' h)
    · cases ho
      exact wpOp_step (o := { dst := some 13, op := Go.Op.load 30 (Go.Operand.tmp 12), type := 30, pos := "tapefmt.go:50", after := #[{ on := 8, ground := Go.Ground.data }], guard := none }) rfl fun K hK => sp_9 rfl rfl hp (by omega) (by omega) hI (hed ⟨8, Go.Ground.data⟩ (Array.mem_of_getElem? (i := 0) rfl) rfl) "tapefmt.go:50" hf (fun a' W' h => hK a' W' h)
    · cases ho
      exact wpOp_step (o := { dst := some 14, op := Go.Op.buildSlice 119 1 #[(0, Go.Operand.tmp 13)], type := 119, pos := "tapefmt.go:50", after := #[{ on := 9, ground := Go.Ground.data }], guard := none }) rfl fun K hK => sp_10 rfl rfl hp (by omega) (by omega) hI (hed ⟨9, Go.Ground.data⟩ (Array.mem_of_getElem? (i := 0) rfl) rfl) "tapefmt.go:50" hf (fun a' W' h => hK a' W' h)
    · cases ho
      exact wpOp_step (o := { dst := some 15, op := Go.Op.call { callee := Go.Callee.value (Go.Operand.func 60), args := #[Go.Operand.tmp 11, Go.Operand.tmp 14], argTypes := #[105, 119] }, type := 105, pos := "tapefmt.go:50", after := #[{ on := 7, ground := Go.Ground.data }, { on := 10, ground := Go.Ground.data }, { on := 7, ground := Go.Ground.chain }], guard := none }) rfl fun K hK => sp_11 rfl rfl hp (by omega) (by omega) hI (hed ⟨7, Go.Ground.data⟩ (Array.mem_of_getElem? (i := 0) rfl) rfl) (hed ⟨10, Go.Ground.data⟩ (Array.mem_of_getElem? (i := 1) rfl) rfl) "tapefmt.go:50" hf (fun a' W' h => hK a' W' h)
    · cases ho
      exact wpOp_step (o := { dst := some 16, op := Go.Op.fieldAddr 78 (Go.Operand.tmp 1) 3, type := 0, pos := "tapefmt.go:50", after := #[], guard := none }) rfl fun K hK => sp_12 rfl rfl hp (by omega) (by omega) hI "tapefmt.go:50" hf (fun a' W' h => hK a' W' h)
    · cases ho
      exact wpOp_step (o := { dst := some 17, op := Go.Op.load 3 (Go.Operand.tmp 16), type := 3, pos := "tapefmt.go:50", after := #[{ on := 12, ground := Go.Ground.data }], guard := none }) rfl fun K hK => sp_13 rfl rfl hp (by omega) (by omega) hI (hed ⟨12, Go.Ground.data⟩ (Array.mem_of_getElem? (i := 0) rfl) rfl) "tapefmt.go:50" hf (fun a' W' h => hK a' W' h)
    · cases ho
      exact wpOp_step (o := { dst := some 18, op := Go.Op.fieldAddr 78 (Go.Operand.tmp 1) 4, type := 0, pos := "tapefmt.go:50", after := #[], guard := none }) rfl fun K hK => sp_14 rfl rfl hp (by omega) (by omega) hI "tapefmt.go:50" hf (fun a' W' h => hK a' W' h)
    · cases ho
      exact wpOp_step (o := { dst := some 19, op := Go.Op.load 3 (Go.Operand.tmp 18), type := 3, pos := "tapefmt.go:50", after := #[{ on := 14, ground := Go.Ground.data }], guard := none }) rfl fun K hK => sp_15 rfl rfl hp (by omega) (by omega) hI (hed ⟨14, Go.Ground.data⟩ (Array.mem_of_getElem? (i := 0) rfl) rfl) "tapefmt.go:50" hf (fun a' W' h => hK a' W' h)
    · cases ho
      exact wpOp_step (o := { dst := some 20, op := Go.Op.fieldAddr 78 (Go.Operand.tmp 1) 5, type := 0, pos := "tapefmt.go:50", after := #[], guard := none }) rfl fun K hK => sp_16 rfl rfl hp (by omega) (by omega) hI "tapefmt.go:50" hf (fun a' W' h => hK a' W' h)
    · cases ho
      exact wpOp_step (o := { dst := some 21, op := Go.Op.load 3 (Go.Operand.tmp 20), type := 3, pos := "tapefmt.go:50", after := #[{ on := 16, ground := Go.Ground.data }], guard := none }) rfl fun K hK => sp_17 rfl rfl hp (by omega) (by omega) hI (hed ⟨16, Go.Ground.data⟩ (Array.mem_of_getElem? (i := 0) rfl) rfl) "tapefmt.go:50" hf (fun a' W' h => hK a' W' h)
    · cases ho
      exact wpOp_step (o := { dst := some 22, op := Go.Op.buildSlice 23 3 #[(0, Go.Operand.tmp 17), (1, Go.Operand.tmp 19), (2, Go.Operand.tmp 21)], type := 23, pos := "tapefmt.go:50", after := #[{ on := 13, ground := Go.Ground.data }, { on := 15, ground := Go.Ground.data }, { on := 17, ground := Go.Ground.data }], guard := none }) rfl fun K hK => sp_18 rfl rfl hp (by omega) (by omega) hI (hed ⟨13, Go.Ground.data⟩ (Array.mem_of_getElem? (i := 0) rfl) rfl) (hed ⟨15, Go.Ground.data⟩ (Array.mem_of_getElem? (i := 1) rfl) rfl) (hed ⟨17, Go.Ground.data⟩ (Array.mem_of_getElem? (i := 2) rfl) rfl) "tapefmt.go:50" hf (fun a' W' h => hK a' W' h)
    · cases ho
      exact wpOp_step (o := { dst := some 23, op := Go.Op.call { callee := Go.Callee.value (Go.Operand.func 59), args := #[Go.Operand.tmp 15, Go.Operand.tmp 22], argTypes := #[105, 23] }, type := 105, pos := "tapefmt.go:50", after := #[{ on := 11, ground := Go.Ground.data }, { on := 18, ground := Go.Ground.data }, { on := 11, ground := Go.Ground.chain }], guard := none }) rfl fun K hK => sp_19 rfl rfl hp (by omega) (by omega) hI (hed ⟨11, Go.Ground.data⟩ (Array.mem_of_getElem? (i := 0) rfl) rfl) (hed ⟨18, Go.Ground.data⟩ (Array.mem_of_getElem? (i := 1) rfl) rfl) "tapefmt.go:50" hf (fun a' W' h => hK a' W' h)
    · cases ho
      exact wpOp_step (o := { dst := some 24, op := Go.Op.fieldAddr 78 (Go.Operand.tmp 1) 6, type := 0, pos := "tapefmt.go:50", after := #[], guard := none }) rfl fun K hK => sp_20 rfl rfl hp (by omega) (by omega) hI "tapefmt.go:50" hf (fun a' W' h => hK a' W' h)
    · cases ho
      exact wpOp_step (o := { dst := some 25, op := Go.Op.load 76 (Go.Operand.tmp 24), type := 76, pos := "tapefmt.go:50", after := #[{ on := 20, ground := Go.Ground.data }], guard := none }) rfl fun K hK => sp_21 rfl rfl hp (by omega) (by omega) hI (hed ⟨20, Go.Ground.data⟩ (Array.mem_of_getElem? (i := 0) rfl) rfl) "tapefmt.go:50" hf (fun a' W' h => hK a' W' h)
    · cases ho
      exact wpOp_step (o := { dst := some 26, op := Go.Op.convert 76 30 (Go.Operand.tmp 25), type := 30, pos := "tapefmt.go:50", after := #[{ on := 21, ground := Go.Ground.data }], guard := none }) rfl fun K hK => sp_22 rfl rfl hp (by omega) (by omega) hI (hed ⟨21, Go.Ground.data⟩ (Array.mem_of_getElem? (i := 0) rfl) rfl) "tapefmt.go:50" hf (fun a' W' h => hK a' W' h)
    · cases ho
      exact wpOp_step (o := { dst := some 27, op := Go.Op.buildSlice 119 1 #[(0, Go.Operand.tmp 26)], type := 119, pos := "tapefmt.go:50", after := #[{ on := 22, ground := Go.Ground.data }], guard := none }) rfl fun K hK => sp_23 rfl rfl hp (by omega) (by omega) hI (hed ⟨22, Go.Ground.data⟩ (Array.mem_of_getElem? (i := 0) rfl) rfl) "tapefmt.go:50" hf (fun a' W' h => hK a' W' h)
    · cases ho
      exact wpOp_step (o := { dst := some 28, op := Go.Op.call { callee := Go.Callee.value (Go.Operand.func 60), args := #[Go.Operand.tmp 23, Go.Operand.tmp 27], argTypes := #[105, 119] }, type := 105, pos := "tapefmt.go:50", after := #[{ on := 19, ground := Go.Ground.data }, { on := 23, ground := Go.Ground.data }, { on := 19, ground := Go.Ground.chain }], guard := none }) rfl fun K hK => sp_24 rfl rfl hp (by omega) (by omega) hI (hed ⟨19, Go.Ground.data⟩ (Array.mem_of_getElem? (i := 0) rfl) rfl) (hed ⟨23, Go.Ground.data⟩ (Array.mem_of_getElem? (i := 1) rfl) rfl) "tapefmt.go:50" hf (fun a' W' h => hK a' W' h)
    · cases ho
      exact wpOp_step (o := { dst := some 29, op := Go.Op.fieldAddr 78 (Go.Operand.tmp 1) 7, type := 0, pos := "tapefmt.go:50", after := #[], guard := none }) rfl fun K hK => sp_25 rfl rfl hp (by omega) (by omega) hI "tapefmt.go:50" hf (fun a' W' h => hK a' W' h)
    · cases ho
      exact wpOp_step (o := { dst := some 30, op := Go.Op.load 9 (Go.Operand.tmp 29), type := 9, pos := "tapefmt.go:50", after := #[{ on := 25, ground := Go.Ground.data }], guard := none }) rfl fun K hK => sp_26 rfl rfl hp (by omega) (by omega) hI (hed ⟨25, Go.Ground.data⟩ (Array.mem_of_getElem? (i := 0) rfl) rfl) "tapefmt.go:50" hf (fun a' W' h => hK a' W' h)
    · cases ho
      exact wpOp_step (o := { dst := some 31, op := Go.Op.buildSlice 114 1 #[(0, Go.Operand.tmp 30)], type := 114, pos := "tapefmt.go:50", after := #[{ on := 26, ground := Go.Ground.data }], guard := none }) rfl fun K hK => sp_27 rfl rfl hp (by omega) (by omega) hI (hed ⟨26, Go.Ground.data⟩ (Array.mem_of_getElem? (i := 0) rfl) rfl) "tapefmt.go:50" hf (fun a' W' h => hK a' W' h)
    · cases ho
      exact wpOp_step (o := { dst := some 32, op := Go.Op.call { callee := Go.Callee.value (Go.Operand.func 58), args := #[Go.Operand.tmp 28, Go.Operand.tmp 31], argTypes := #[105, 114] }, type := 105, pos := "tapefmt.go:50", after := #[{ on := 24, ground := Go.Ground.data }, { on := 27, ground := Go.Ground.data }, { on := 24, ground := Go.Ground.chain }], guard := none }) rfl fun K hK => sp_28 rfl rfl hp (by omega) (by omega) hI (hed ⟨24, Go.Ground.data⟩ (Array.mem_of_getElem? (i := 0) rfl) rfl) (hed ⟨27, Go.Ground.data⟩ (Array.mem_of_getElem? (i := 1) rfl) rfl) "tapefmt.go:50" hf (fun a' W' h => hK a' W' h)
end Go.Proofs.YtniecodpdmjppaaDoor
