/- Rf, Bka, Bkb, Bkd: merged (a claim holds few files). -/
import Derived.Test.YtcbeikiglccgaaaDoorRg
import Derived.Test.YtcbeikiglccgaaaDoorGb1
import Derived.Test.YtcbeikiglccgaaaDoorOb
/- A region that draws its order, whatever slots it writes: the invariant of values; what holds of the world may hang on which operations have come up. No program is named here. -/
namespace Go.Proofs.YtcbeikiglccgaaaDoor
open Go.RowKit
set_option linter.unusedVariables false
set_option linter.unusedSimpArgs false

/-- a region's table: operation i leaves val i in slot slots[i] -/
structure Tf where
  slots : List Nat
  size : Nat
  base : Array Value
  val : Nat → Value
structure Tf.Inv (T : Tf) (H : (Nat → Bool) → World → Prop) (f : Nat → Bool) (a : Act) (W : World) : Prop where
  size : a.tmps.size = T.size
  defers : a.defers = []
  base : ∀ s, T.slots.contains s = false → a.tmps[s]?.getD undef = T.base[s]?.getD undef
  val : ∀ i d, T.slots[i]? = some d → f i = true → a.tmps[d]?.getD undef = T.val i
  held : H f W
theorem Tf.Inv.step {T : Tf} {H : (Nat → Bool) → World → Prop} {f : Nat → Bool} {a : Act} {W W' : World} {i d : Nat} (h : T.Inv H f a W) {v : Value} (hd : T.slots[i]? = some d) (hn : T.slots.Nodup) (hs : d < T.size) (hv : T.val i = v) (hH : H (hit f i) W') :
    T.Inv H (hit f i) (a.put (some d) v) W' := by
  have hlt : d < a.tmps.size := by rw [h.size]; exact hs
  refine ⟨?_, h.defers, fun s hs' => ?_, fun j d' hj hf => ?_, hH⟩
  · show (a.tmps.setIfInBounds _ _).size = _
    rw [Array.size_setIfInBounds, h.size]
  · have hne : s ≠ d := by
      rintro rfl
      have : T.slots.contains s = true := by
        rw [List.contains_iff_mem]
        exact List.mem_of_getElem? hd
      rw [this] at hs'
      cases hs'
    rw [put_get' _ _ _ _ hlt, if_neg hne, h.base s hs']
  · rw [put_get' _ _ _ _ hlt]
    by_cases e : j = i
    · subst e
      obtain rfl : d = d' := Option.some.inj (hd.symm.trans hj)
      rw [if_pos rfl, hv]
    · have hne : d' ≠ d := by
        rintro rfl
        obtain ⟨h1, h2⟩ := List.getElem?_eq_some_iff.1 hd
        obtain ⟨h3, h4⟩ := List.getElem?_eq_some_iff.1 hj
        have hp := List.pairwise_iff_getElem.1 hn
        rcases Nat.lt_or_gt_of_ne e with h | h
        · exact hp j i h3 h1 h (h4.trans h2.symm)
        · exact hp i j h1 h3 h (h2.trans h4.symm)
      rw [if_neg hne]
      exact h.val j d' hj (by rw [hit_of f i j e] at hf; exact hf)
/-- the frame behind the region -/
def finGo : List Nat → Nat → (Nat → Value) → Array Value → Array Value
  | [], _, _, t => t
  | d :: r, k, val, t => finGo r (k + 1) val (t.setIfInBounds d (val k))
theorem fin_size : ∀ (l : List Nat) (k : Nat) (val : Nat → Value) (t : Array Value), (finGo l k val t).size = t.size := by
  intro l
  induction l with
  | nil => intro k val t; rfl
  | cons d r ih => intro k val t; rw [finGo, ih, Array.size_setIfInBounds]
theorem fin_other : ∀ (l : List Nat) (k : Nat) (val : Nat → Value) (t : Array Value) (s : Nat), s ∉ l → (finGo l k val t)[s]? = t[s]? := by
  intro l
  induction l with
  | nil => intro k val t s _; rfl
  | cons d r ih =>
    intro k val t s hs
    rw [finGo, ih _ _ _ _ (fun h => hs (by simp [h])), Array.getElem?_setIfInBounds, if_neg (fun e => hs (by simp [e]))]
theorem fin_at : ∀ (l : List Nat) (k : Nat) (val : Nat → Value) (t : Array Value) (i d : Nat), l.Nodup → l[i]? = some d → d < t.size → (finGo l k val t)[d]? = some (val (k + i)) := by
  intro l
  induction l with
  | nil => intro k val t i d _ h; simp at h
  | cons x r ih =>
    intro k val t i d hn hi hd
    rw [List.nodup_cons] at hn
    cases i with
    | zero =>
      have e : x = d := by simpa using hi
      subst e
      rw [finGo, fin_other r _ _ _ _ hn.1, Array.getElem?_setIfInBounds, if_pos rfl, if_pos hd]
      rfl
    | succ i =>
      have hi' : r[i]? = some d := by simpa using hi
      rw [finGo, ih (k + 1) val _ i d hn.2 hi' (by rw [Array.size_setIfInBounds]; exact hd)]
      congr 2
      omega
theorem Tf.Inv.fin {T : Tf} {H : (Nat → Bool) → World → Prop} {f : Nat → Bool} {a : Act} {W : World} (h : T.Inv H f a W) (hall : ∀ i, i < T.slots.length → f i = true) (hb : T.base.size = T.size) (hn : T.slots.Nodup) (hs : T.slots.all (fun d => decide (d < T.size)) = true) :
    a = ⟨finGo T.slots 0 T.val T.base, []⟩ := by
  obtain ⟨tms, df⟩ := a
  have hd : df = [] := h.defers
  subst hd
  have hsz : tms.size = T.size := h.size
  congr 1
  apply Array.ext_getElem?
  intro s
  by_cases hm : s ∈ T.slots
  · obtain ⟨i, hi⟩ := List.getElem?_of_mem hm
    have hlt : s < T.size := by simpa using List.all_eq_true.1 hs s hm
    rw [fin_at _ _ _ _ i s hn hi (by rw [hb]; exact hlt)]
    have hv := h.val i s hi (hall i (List.getElem?_eq_some_iff.1 hi).1)
    simp only at hv
    rw [Array.getElem?_eq_getElem (by rw [hsz]; exact hlt)] at hv ⊢
    rw [Nat.zero_add]
    exact congrArg some hv
  · rw [fin_other _ _ _ _ _ hm]
    have hv := h.base s (by simpa using hm)
    simp only at hv
    by_cases hlt : s < T.size
    · rw [Array.getElem?_eq_getElem (by rw [hsz]; exact hlt), Array.getElem?_eq_getElem (by rw [hb]; exact hlt)] at hv ⊢
      exact congrArg some hv
    · rw [Array.getElem?_eq_none (by rw [hsz]; omega), Array.getElem?_eq_none (by rw [hb]; omega)]
end Go.Proofs.YtcbeikiglccgaaaDoor

/- TapefmtBack: region 9: a blob is written. Written by gen_rf.py. -/
namespace Go.Proofs.YtcbeikiglccgaaaDoor
open Go.RowKit
open Sm
set_option linter.unusedVariables false
set_option linter.unusedSimpArgs false

def bkaTb (g len cap k id : Nat) (ad : Addr) (s d : ByteArray) (n : Int) (r1 r2 : Int) (Pre Post : World → Prop) (base : Array Value) : Tf where
  slots := [39, 40, 41, 42, 43, 44, 45, 46, 47, 48, 49, 50, 51, 52, 53, 54, 55, 56, 38, 57, 58, 7, 8]
  size := 178
  base := base
  val := fun
    | 0 => .pointer (some ⟨g, 0, none⟩)
    | 1 => .slice (some ad) len cap
    | 2 => .int .i64 (k : Int)
    | 3 => .pointer (some (ad.add (k * 3)))
    | 4 => .pointer (some (ad.add (k * 3)))
    | 5 => .int .u64 (id : Int)
    | 6 => .slice (some ad) len cap
    | 7 => .int .i64 (k : Int)
    | 8 => .pointer (some (ad.add (k * 3)))
    | 9 => .pointer (some ⟨(ad.add (k * 3)).block, (ad.add (k * 3)).off + 1, none⟩)
    | 10 => .string s
    | 11 => .slice (some ad) len cap
    | 12 => .int .i64 (k : Int)
    | 13 => .pointer (some (ad.add (k * 3)))
    | 14 => .pointer (some ⟨(ad.add (k * 3)).block, (ad.add (k * 3)).off + 2, none⟩)
    | 15 => .int .i64 n
    | 16 => .string d
    | 17 => .tuple #[.int .i64 r1, .int .i64 r2]
    | 18 => .tuple #[.int .i64 r1, .int .i64 r2]
    | 19 => .int .i64 r1
    | 20 => .int .i64 r2
    | 21 => .int .i64 r1
    | 22 => .int .i64 r2
    | _ => undef

structure bkaEnv (g len cap k id : Nat) (ad : Addr) (s d : ByteArray) (n : Int) (r1 r2 : Int) (Pre Post : World → Prop) (base : Array Value) : Prop where
  kk : k < len
  b3 : base[3]?.getD undef = .pointer (some ⟨g, 0, none⟩)
  b0 : base[0]?.getD undef = .slice (some ad) len cap
  b6 : base[6]?.getD undef = .int .i64 (k : Int)
  c : ∀ W, Pre W ∨ Post W → W.cell? (ad.add (k * 3)) = some (.int .u64 (id : Int)) ∧ W.cell? ⟨(ad.add (k * 3)).block, (ad.add (k * 3)).off + 1, none⟩ = some (.string s) ∧ W.cell? ⟨(ad.add (k * 3)).block, (ad.add (k * 3)).off + 2, none⟩ = some (.int .i64 n)
  lo : ∀ W, Calls Tryd.prog 15 #[.string s, .int .i64 n] W fun e w' => e = .returned (.string d) ∧ W = w'
  wr : ∀ W, Pre W → Calls Tryd.prog 14 #[.pointer (some ⟨g, 0, none⟩), .int .u64 (id : Int), .string d] W fun e w' => e = .returned (.tuple #[.int .i64 r1, .int .i64 r2]) ∧ Post w'

theorem bka_nodup : [39, 40, 41, 42, 43, 44, 45, 46, 47, 48, 49, 50, 51, 52, 53, 54, 55, 56, 38, 57, 58, 7, 8].Nodup := by decide
set_option maxRecDepth 100000 in
theorem bka_0 {g len cap k id : Nat} {ad : Addr} {s d : ByteArray} {n : Int} {r1 r2 : Int} {Pre Post : World → Prop} {base : Array Value} {f : Nat → Bool} {a : Act} {W : World} {K : Act → World → Prop} {Q : Exit → Act → World → Prop} {ops : Array Oper} (E : bkaEnv g len cap k id ad s d n r1 r2 Pre Post base) (hI : (bkaTb g len cap k id ad s d n r1 r2 Pre Post base).Inv (fun f W => if f 17 = true then Post W else Pre W) f a W) (hf : f 0 = false) (pos : String) (hK : ∀ a' W', (bkaTb g len cap k id ad s d n r1 r2 Pre Post base).Inv (fun f W => if f 17 = true then Post W else Pre W) (hit f 0) a' W' → K a' W') : if Region.wanted { dst := some 39, op := Go.Op.move (Go.Operand.tmp 3), type := 23, pos := pos, after := #[], guard := none } (yielded ops a.tmps) = true then Oper.wp Tryd.prog { dst := some 39, op := Go.Op.move (Go.Operand.tmp 3), type := 23, pos := pos, after := #[], guard := none } a W K Q else K (a.put (some 39) undef) W := by
  have q : a.tmps[3]?.getD undef = .pointer (some ⟨g, 0, none⟩) := (hI.base 3 rfl).trans E.b3
  have R := Lib.hid (hI.step (i := 0) (d := 39) (v := .pointer (some ⟨g, 0, none⟩)) rfl bka_nodup (show 39 < 178 by decide) rfl (show (if hit f 0 17 = true then Post W else Pre W) by rw [hit_of f 0 17 (by decide)]; exact hI.held))
  clear hI E hf
  go_simp
  exact hK _ _ R.out

set_option maxRecDepth 100000 in
theorem bka_1 {g len cap k id : Nat} {ad : Addr} {s d : ByteArray} {n : Int} {r1 r2 : Int} {Pre Post : World → Prop} {base : Array Value} {f : Nat → Bool} {a : Act} {W : World} {K : Act → World → Prop} {Q : Exit → Act → World → Prop} {ops : Array Oper} (E : bkaEnv g len cap k id ad s d n r1 r2 Pre Post base) (hI : (bkaTb g len cap k id ad s d n r1 r2 Pre Post base).Inv (fun f W => if f 17 = true then Post W else Pre W) f a W) (hf : f 1 = false) (pos : String) (hK : ∀ a' W', (bkaTb g len cap k id ad s d n r1 r2 Pre Post base).Inv (fun f W => if f 17 = true then Post W else Pre W) (hit f 1) a' W' → K a' W') : if Region.wanted { dst := some 40, op := Go.Op.move (Go.Operand.tmp 0), type := 22, pos := pos, after := #[], guard := none } (yielded ops a.tmps) = true then Oper.wp Tryd.prog { dst := some 40, op := Go.Op.move (Go.Operand.tmp 0), type := 22, pos := pos, after := #[], guard := none } a W K Q else K (a.put (some 40) undef) W := by
  have q : a.tmps[0]?.getD undef = .slice (some ad) len cap := (hI.base 0 rfl).trans E.b0
  have R := Lib.hid (hI.step (i := 1) (d := 40) (v := .slice (some ad) len cap) rfl bka_nodup (show 40 < 178 by decide) rfl (show (if hit f 1 17 = true then Post W else Pre W) by rw [hit_of f 1 17 (by decide)]; exact hI.held))
  clear hI E hf
  go_simp
  exact hK _ _ R.out

set_option maxRecDepth 100000 in
theorem bka_2 {g len cap k id : Nat} {ad : Addr} {s d : ByteArray} {n : Int} {r1 r2 : Int} {Pre Post : World → Prop} {base : Array Value} {f : Nat → Bool} {a : Act} {W : World} {K : Act → World → Prop} {Q : Exit → Act → World → Prop} {ops : Array Oper} (E : bkaEnv g len cap k id ad s d n r1 r2 Pre Post base) (hI : (bkaTb g len cap k id ad s d n r1 r2 Pre Post base).Inv (fun f W => if f 17 = true then Post W else Pre W) f a W) (hf : f 2 = false) (pos : String) (hK : ∀ a' W', (bkaTb g len cap k id ad s d n r1 r2 Pre Post base).Inv (fun f W => if f 17 = true then Post W else Pre W) (hit f 2) a' W' → K a' W') : if Region.wanted { dst := some 41, op := Go.Op.move (Go.Operand.tmp 6), type := 3, pos := pos, after := #[], guard := none } (yielded ops a.tmps) = true then Oper.wp Tryd.prog { dst := some 41, op := Go.Op.move (Go.Operand.tmp 6), type := 3, pos := pos, after := #[], guard := none } a W K Q else K (a.put (some 41) undef) W := by
  have q : a.tmps[6]?.getD undef = .int .i64 (k : Int) := (hI.base 6 rfl).trans E.b6
  have R := Lib.hid (hI.step (i := 2) (d := 41) (v := .int .i64 (k : Int)) rfl bka_nodup (show 41 < 178 by decide) rfl (show (if hit f 2 17 = true then Post W else Pre W) by rw [hit_of f 2 17 (by decide)]; exact hI.held))
  clear hI E hf
  go_simp
  exact hK _ _ R.out

set_option maxRecDepth 100000 in
theorem bka_3 {g len cap k id : Nat} {ad : Addr} {s d : ByteArray} {n : Int} {r1 r2 : Int} {Pre Post : World → Prop} {base : Array Value} {f : Nat → Bool} {a : Act} {W : World} {K : Act → World → Prop} {Q : Exit → Act → World → Prop} {ops : Array Oper} (E : bkaEnv g len cap k id ad s d n r1 r2 Pre Post base) (hI : (bkaTb g len cap k id ad s d n r1 r2 Pre Post base).Inv (fun f W => if f 17 = true then Post W else Pre W) f a W) (hf : f 3 = false) (h1 : f 1 = true) (h2 : f 2 = true) (pos : String) (hK : ∀ a' W', (bkaTb g len cap k id ad s d n r1 r2 Pre Post base).Inv (fun f W => if f 17 = true then Post W else Pre W) (hit f 3) a' W' → K a' W') : if Region.wanted { dst := some 42, op := Go.Op.indexAddr 22 (Go.Operand.tmp 40) (Go.Operand.tmp 41), type := 0, pos := pos, after := #[{ on := 1, ground := Go.Ground.data }, { on := 2, ground := Go.Ground.data }], guard := none } (yielded ops a.tmps) = true then Oper.wp Tryd.prog { dst := some 42, op := Go.Op.indexAddr 22 (Go.Operand.tmp 40) (Go.Operand.tmp 41), type := 0, pos := pos, after := #[{ on := 1, ground := Go.Ground.data }, { on := 2, ground := Go.Ground.data }], guard := none } a W K Q else K (a.put (some 42) undef) W := by
  have y0 : a.tmps[40]?.getD undef = .slice (some ad) len cap := hI.val 1 40 rfl h1
  have y1 : a.tmps[41]?.getD undef = .int .i64 (k : Int) := hI.val 2 41 rfl h2
  have hk := E.kk
  have i0 : (0 : Int) ≤ (k : Int) := by omega
  have i1 : (k : Int) < (len : Int) := by omega
  have hc3 := blob_cells
  have R := Lib.hid (hI.step (i := 3) (d := 42) (v := .pointer (some (ad.add (k * 3)))) rfl bka_nodup (show 42 < 178 by decide) rfl (show (if hit f 3 17 = true then Post W else Pre W) by rw [hit_of f 3 17 (by decide)]; exact hI.held))
  clear hI E hf
  go_simp
  exact hK _ _ R.out

set_option maxRecDepth 100000 in
theorem bka_4 {g len cap k id : Nat} {ad : Addr} {s d : ByteArray} {n : Int} {r1 r2 : Int} {Pre Post : World → Prop} {base : Array Value} {f : Nat → Bool} {a : Act} {W : World} {K : Act → World → Prop} {Q : Exit → Act → World → Prop} {ops : Array Oper} (E : bkaEnv g len cap k id ad s d n r1 r2 Pre Post base) (hI : (bkaTb g len cap k id ad s d n r1 r2 Pre Post base).Inv (fun f W => if f 17 = true then Post W else Pre W) f a W) (hf : f 4 = false) (h3 : f 3 = true) (pos : String) (hK : ∀ a' W', (bkaTb g len cap k id ad s d n r1 r2 Pre Post base).Inv (fun f W => if f 17 = true then Post W else Pre W) (hit f 4) a' W' → K a' W') : if Region.wanted { dst := some 43, op := Go.Op.fieldAddr 33 (Go.Operand.tmp 42) 0, type := 0, pos := pos, after := #[{ on := 3, ground := Go.Ground.data }], guard := none } (yielded ops a.tmps) = true then Oper.wp Tryd.prog { dst := some 43, op := Go.Op.fieldAddr 33 (Go.Operand.tmp 42) 0, type := 0, pos := pos, after := #[{ on := 3, ground := Go.Ground.data }], guard := none } a W K Q else K (a.put (some 43) undef) W := by
  have y0 : a.tmps[42]?.getD undef = .pointer (some (ad.add (k * 3))) := hI.val 3 42 rfl h3
  have R := Lib.hid (hI.step (i := 4) (d := 43) (v := .pointer (some (ad.add (k * 3)))) rfl bka_nodup (show 43 < 178 by decide) rfl (show (if hit f 4 17 = true then Post W else Pre W) by rw [hit_of f 4 17 (by decide)]; exact hI.held))
  clear hI E hf
  go_simp
  exact hK _ _ R.out

set_option maxRecDepth 100000 in
theorem bka_5 {g len cap k id : Nat} {ad : Addr} {s d : ByteArray} {n : Int} {r1 r2 : Int} {Pre Post : World → Prop} {base : Array Value} {f : Nat → Bool} {a : Act} {W : World} {K : Act → World → Prop} {Q : Exit → Act → World → Prop} {ops : Array Oper} (E : bkaEnv g len cap k id ad s d n r1 r2 Pre Post base) (hI : (bkaTb g len cap k id ad s d n r1 r2 Pre Post base).Inv (fun f W => if f 17 = true then Post W else Pre W) f a W) (hf : f 5 = false) (h4 : f 4 = true) (pos : String) (hK : ∀ a' W', (bkaTb g len cap k id ad s d n r1 r2 Pre Post base).Inv (fun f W => if f 17 = true then Post W else Pre W) (hit f 5) a' W' → K a' W') : if Region.wanted { dst := some 44, op := Go.Op.load 31 (Go.Operand.tmp 43), type := 31, pos := pos, after := #[{ on := 4, ground := Go.Ground.data }], guard := none } (yielded ops a.tmps) = true then Oper.wp Tryd.prog { dst := some 44, op := Go.Op.load 31 (Go.Operand.tmp 43), type := 31, pos := pos, after := #[{ on := 4, ground := Go.Ground.data }], guard := none } a W K Q else K (a.put (some 44) undef) W := by
  have q : a.tmps[43]?.getD undef = .pointer (some (ad.add (k * 3))) := hI.val 4 43 rfl h4
  have c : W.cell? (ad.add (k * 3)) = some (.int .u64 (id : Int)) := (E.c W (by have h : (if f 17 = true then Post W else Pre W) := hI.held; by_cases h8 : f 17 = true; (rw [if_pos h8] at h; exact .inr h); (rw [if_neg h8] at h; exact .inl h))).1
  have R := Lib.hid (hI.step (i := 5) (d := 44) (v := .int .u64 (id : Int)) rfl bka_nodup (show 44 < 178 by decide) rfl (show (if hit f 5 17 = true then Post W else Pre W) by rw [hit_of f 5 17 (by decide)]; exact hI.held))
  clear hI E hf
  go_simp
  exact hK _ _ R.out

set_option maxRecDepth 100000 in
theorem bka_6 {g len cap k id : Nat} {ad : Addr} {s d : ByteArray} {n : Int} {r1 r2 : Int} {Pre Post : World → Prop} {base : Array Value} {f : Nat → Bool} {a : Act} {W : World} {K : Act → World → Prop} {Q : Exit → Act → World → Prop} {ops : Array Oper} (E : bkaEnv g len cap k id ad s d n r1 r2 Pre Post base) (hI : (bkaTb g len cap k id ad s d n r1 r2 Pre Post base).Inv (fun f W => if f 17 = true then Post W else Pre W) f a W) (hf : f 6 = false) (pos : String) (hK : ∀ a' W', (bkaTb g len cap k id ad s d n r1 r2 Pre Post base).Inv (fun f W => if f 17 = true then Post W else Pre W) (hit f 6) a' W' → K a' W') : if Region.wanted { dst := some 45, op := Go.Op.move (Go.Operand.tmp 0), type := 22, pos := pos, after := #[], guard := none } (yielded ops a.tmps) = true then Oper.wp Tryd.prog { dst := some 45, op := Go.Op.move (Go.Operand.tmp 0), type := 22, pos := pos, after := #[], guard := none } a W K Q else K (a.put (some 45) undef) W := by
  have q : a.tmps[0]?.getD undef = .slice (some ad) len cap := (hI.base 0 rfl).trans E.b0
  have R := Lib.hid (hI.step (i := 6) (d := 45) (v := .slice (some ad) len cap) rfl bka_nodup (show 45 < 178 by decide) rfl (show (if hit f 6 17 = true then Post W else Pre W) by rw [hit_of f 6 17 (by decide)]; exact hI.held))
  clear hI E hf
  go_simp
  exact hK _ _ R.out

set_option maxRecDepth 100000 in
theorem bka_7 {g len cap k id : Nat} {ad : Addr} {s d : ByteArray} {n : Int} {r1 r2 : Int} {Pre Post : World → Prop} {base : Array Value} {f : Nat → Bool} {a : Act} {W : World} {K : Act → World → Prop} {Q : Exit → Act → World → Prop} {ops : Array Oper} (E : bkaEnv g len cap k id ad s d n r1 r2 Pre Post base) (hI : (bkaTb g len cap k id ad s d n r1 r2 Pre Post base).Inv (fun f W => if f 17 = true then Post W else Pre W) f a W) (hf : f 7 = false) (pos : String) (hK : ∀ a' W', (bkaTb g len cap k id ad s d n r1 r2 Pre Post base).Inv (fun f W => if f 17 = true then Post W else Pre W) (hit f 7) a' W' → K a' W') : if Region.wanted { dst := some 46, op := Go.Op.move (Go.Operand.tmp 6), type := 3, pos := pos, after := #[], guard := none } (yielded ops a.tmps) = true then Oper.wp Tryd.prog { dst := some 46, op := Go.Op.move (Go.Operand.tmp 6), type := 3, pos := pos, after := #[], guard := none } a W K Q else K (a.put (some 46) undef) W := by
  have q : a.tmps[6]?.getD undef = .int .i64 (k : Int) := (hI.base 6 rfl).trans E.b6
  have R := Lib.hid (hI.step (i := 7) (d := 46) (v := .int .i64 (k : Int)) rfl bka_nodup (show 46 < 178 by decide) rfl (show (if hit f 7 17 = true then Post W else Pre W) by rw [hit_of f 7 17 (by decide)]; exact hI.held))
  clear hI E hf
  go_simp
  exact hK _ _ R.out

set_option maxRecDepth 100000 in
theorem bka_8 {g len cap k id : Nat} {ad : Addr} {s d : ByteArray} {n : Int} {r1 r2 : Int} {Pre Post : World → Prop} {base : Array Value} {f : Nat → Bool} {a : Act} {W : World} {K : Act → World → Prop} {Q : Exit → Act → World → Prop} {ops : Array Oper} (E : bkaEnv g len cap k id ad s d n r1 r2 Pre Post base) (hI : (bkaTb g len cap k id ad s d n r1 r2 Pre Post base).Inv (fun f W => if f 17 = true then Post W else Pre W) f a W) (hf : f 8 = false) (h6 : f 6 = true) (h7 : f 7 = true) (pos : String) (hK : ∀ a' W', (bkaTb g len cap k id ad s d n r1 r2 Pre Post base).Inv (fun f W => if f 17 = true then Post W else Pre W) (hit f 8) a' W' → K a' W') : if Region.wanted { dst := some 47, op := Go.Op.indexAddr 22 (Go.Operand.tmp 45) (Go.Operand.tmp 46), type := 0, pos := pos, after := #[{ on := 6, ground := Go.Ground.data }, { on := 7, ground := Go.Ground.data }], guard := none } (yielded ops a.tmps) = true then Oper.wp Tryd.prog { dst := some 47, op := Go.Op.indexAddr 22 (Go.Operand.tmp 45) (Go.Operand.tmp 46), type := 0, pos := pos, after := #[{ on := 6, ground := Go.Ground.data }, { on := 7, ground := Go.Ground.data }], guard := none } a W K Q else K (a.put (some 47) undef) W := by
  have y0 : a.tmps[45]?.getD undef = .slice (some ad) len cap := hI.val 6 45 rfl h6
  have y1 : a.tmps[46]?.getD undef = .int .i64 (k : Int) := hI.val 7 46 rfl h7
  have hk := E.kk
  have i0 : (0 : Int) ≤ (k : Int) := by omega
  have i1 : (k : Int) < (len : Int) := by omega
  have hc3 := blob_cells
  have R := Lib.hid (hI.step (i := 8) (d := 47) (v := .pointer (some (ad.add (k * 3)))) rfl bka_nodup (show 47 < 178 by decide) rfl (show (if hit f 8 17 = true then Post W else Pre W) by rw [hit_of f 8 17 (by decide)]; exact hI.held))
  clear hI E hf
  go_simp
  exact hK _ _ R.out

set_option maxRecDepth 100000 in
theorem bka_9 {g len cap k id : Nat} {ad : Addr} {s d : ByteArray} {n : Int} {r1 r2 : Int} {Pre Post : World → Prop} {base : Array Value} {f : Nat → Bool} {a : Act} {W : World} {K : Act → World → Prop} {Q : Exit → Act → World → Prop} {ops : Array Oper} (E : bkaEnv g len cap k id ad s d n r1 r2 Pre Post base) (hI : (bkaTb g len cap k id ad s d n r1 r2 Pre Post base).Inv (fun f W => if f 17 = true then Post W else Pre W) f a W) (hf : f 9 = false) (h8 : f 8 = true) (pos : String) (hK : ∀ a' W', (bkaTb g len cap k id ad s d n r1 r2 Pre Post base).Inv (fun f W => if f 17 = true then Post W else Pre W) (hit f 9) a' W' → K a' W') : if Region.wanted { dst := some 48, op := Go.Op.fieldAddr 33 (Go.Operand.tmp 47) 1, type := 0, pos := pos, after := #[{ on := 8, ground := Go.Ground.data }], guard := none } (yielded ops a.tmps) = true then Oper.wp Tryd.prog { dst := some 48, op := Go.Op.fieldAddr 33 (Go.Operand.tmp 47) 1, type := 0, pos := pos, after := #[{ on := 8, ground := Go.Ground.data }], guard := none } a W K Q else K (a.put (some 48) undef) W := by
  have y0 : a.tmps[47]?.getD undef = .pointer (some (ad.add (k * 3))) := hI.val 8 47 rfl h8
  have R := Lib.hid (hI.step (i := 9) (d := 48) (v := .pointer (some ⟨(ad.add (k * 3)).block, (ad.add (k * 3)).off + 1, none⟩)) rfl bka_nodup (show 48 < 178 by decide) rfl (show (if hit f 9 17 = true then Post W else Pre W) by rw [hit_of f 9 17 (by decide)]; exact hI.held))
  clear hI E hf
  go_simp
  exact hK _ _ R.out

set_option maxRecDepth 100000 in
theorem bka_10 {g len cap k id : Nat} {ad : Addr} {s d : ByteArray} {n : Int} {r1 r2 : Int} {Pre Post : World → Prop} {base : Array Value} {f : Nat → Bool} {a : Act} {W : World} {K : Act → World → Prop} {Q : Exit → Act → World → Prop} {ops : Array Oper} (E : bkaEnv g len cap k id ad s d n r1 r2 Pre Post base) (hI : (bkaTb g len cap k id ad s d n r1 r2 Pre Post base).Inv (fun f W => if f 17 = true then Post W else Pre W) f a W) (hf : f 10 = false) (h9 : f 9 = true) (pos : String) (hK : ∀ a' W', (bkaTb g len cap k id ad s d n r1 r2 Pre Post base).Inv (fun f W => if f 17 = true then Post W else Pre W) (hit f 10) a' W' → K a' W') : if Region.wanted { dst := some 49, op := Go.Op.load 9 (Go.Operand.tmp 48), type := 9, pos := pos, after := #[{ on := 9, ground := Go.Ground.data }], guard := none } (yielded ops a.tmps) = true then Oper.wp Tryd.prog { dst := some 49, op := Go.Op.load 9 (Go.Operand.tmp 48), type := 9, pos := pos, after := #[{ on := 9, ground := Go.Ground.data }], guard := none } a W K Q else K (a.put (some 49) undef) W := by
  have q : a.tmps[48]?.getD undef = .pointer (some ⟨(ad.add (k * 3)).block, (ad.add (k * 3)).off + 1, none⟩) := hI.val 9 48 rfl h9
  have c : W.cell? ⟨(ad.add (k * 3)).block, (ad.add (k * 3)).off + 1, none⟩ = some (.string s) := (E.c W (by have h : (if f 17 = true then Post W else Pre W) := hI.held; by_cases h8 : f 17 = true; (rw [if_pos h8] at h; exact .inr h); (rw [if_neg h8] at h; exact .inl h))).2.1
  have R := Lib.hid (hI.step (i := 10) (d := 49) (v := .string s) rfl bka_nodup (show 49 < 178 by decide) rfl (show (if hit f 10 17 = true then Post W else Pre W) by rw [hit_of f 10 17 (by decide)]; exact hI.held))
  clear hI E hf
  go_simp
  exact hK _ _ R.out

set_option maxRecDepth 100000 in
theorem bka_11 {g len cap k id : Nat} {ad : Addr} {s d : ByteArray} {n : Int} {r1 r2 : Int} {Pre Post : World → Prop} {base : Array Value} {f : Nat → Bool} {a : Act} {W : World} {K : Act → World → Prop} {Q : Exit → Act → World → Prop} {ops : Array Oper} (E : bkaEnv g len cap k id ad s d n r1 r2 Pre Post base) (hI : (bkaTb g len cap k id ad s d n r1 r2 Pre Post base).Inv (fun f W => if f 17 = true then Post W else Pre W) f a W) (hf : f 11 = false) (pos : String) (hK : ∀ a' W', (bkaTb g len cap k id ad s d n r1 r2 Pre Post base).Inv (fun f W => if f 17 = true then Post W else Pre W) (hit f 11) a' W' → K a' W') : if Region.wanted { dst := some 50, op := Go.Op.move (Go.Operand.tmp 0), type := 22, pos := pos, after := #[], guard := none } (yielded ops a.tmps) = true then Oper.wp Tryd.prog { dst := some 50, op := Go.Op.move (Go.Operand.tmp 0), type := 22, pos := pos, after := #[], guard := none } a W K Q else K (a.put (some 50) undef) W := by
  have q : a.tmps[0]?.getD undef = .slice (some ad) len cap := (hI.base 0 rfl).trans E.b0
  have R := Lib.hid (hI.step (i := 11) (d := 50) (v := .slice (some ad) len cap) rfl bka_nodup (show 50 < 178 by decide) rfl (show (if hit f 11 17 = true then Post W else Pre W) by rw [hit_of f 11 17 (by decide)]; exact hI.held))
  clear hI E hf
  go_simp
  exact hK _ _ R.out

set_option maxRecDepth 100000 in
theorem bka_12 {g len cap k id : Nat} {ad : Addr} {s d : ByteArray} {n : Int} {r1 r2 : Int} {Pre Post : World → Prop} {base : Array Value} {f : Nat → Bool} {a : Act} {W : World} {K : Act → World → Prop} {Q : Exit → Act → World → Prop} {ops : Array Oper} (E : bkaEnv g len cap k id ad s d n r1 r2 Pre Post base) (hI : (bkaTb g len cap k id ad s d n r1 r2 Pre Post base).Inv (fun f W => if f 17 = true then Post W else Pre W) f a W) (hf : f 12 = false) (pos : String) (hK : ∀ a' W', (bkaTb g len cap k id ad s d n r1 r2 Pre Post base).Inv (fun f W => if f 17 = true then Post W else Pre W) (hit f 12) a' W' → K a' W') : if Region.wanted { dst := some 51, op := Go.Op.move (Go.Operand.tmp 6), type := 3, pos := pos, after := #[], guard := none } (yielded ops a.tmps) = true then Oper.wp Tryd.prog { dst := some 51, op := Go.Op.move (Go.Operand.tmp 6), type := 3, pos := pos, after := #[], guard := none } a W K Q else K (a.put (some 51) undef) W := by
  have q : a.tmps[6]?.getD undef = .int .i64 (k : Int) := (hI.base 6 rfl).trans E.b6
  have R := Lib.hid (hI.step (i := 12) (d := 51) (v := .int .i64 (k : Int)) rfl bka_nodup (show 51 < 178 by decide) rfl (show (if hit f 12 17 = true then Post W else Pre W) by rw [hit_of f 12 17 (by decide)]; exact hI.held))
  clear hI E hf
  go_simp
  exact hK _ _ R.out

set_option maxRecDepth 100000 in
theorem bka_13 {g len cap k id : Nat} {ad : Addr} {s d : ByteArray} {n : Int} {r1 r2 : Int} {Pre Post : World → Prop} {base : Array Value} {f : Nat → Bool} {a : Act} {W : World} {K : Act → World → Prop} {Q : Exit → Act → World → Prop} {ops : Array Oper} (E : bkaEnv g len cap k id ad s d n r1 r2 Pre Post base) (hI : (bkaTb g len cap k id ad s d n r1 r2 Pre Post base).Inv (fun f W => if f 17 = true then Post W else Pre W) f a W) (hf : f 13 = false) (h11 : f 11 = true) (h12 : f 12 = true) (pos : String) (hK : ∀ a' W', (bkaTb g len cap k id ad s d n r1 r2 Pre Post base).Inv (fun f W => if f 17 = true then Post W else Pre W) (hit f 13) a' W' → K a' W') : if Region.wanted { dst := some 52, op := Go.Op.indexAddr 22 (Go.Operand.tmp 50) (Go.Operand.tmp 51), type := 0, pos := pos, after := #[{ on := 11, ground := Go.Ground.data }, { on := 12, ground := Go.Ground.data }], guard := none } (yielded ops a.tmps) = true then Oper.wp Tryd.prog { dst := some 52, op := Go.Op.indexAddr 22 (Go.Operand.tmp 50) (Go.Operand.tmp 51), type := 0, pos := pos, after := #[{ on := 11, ground := Go.Ground.data }, { on := 12, ground := Go.Ground.data }], guard := none } a W K Q else K (a.put (some 52) undef) W := by
  have y0 : a.tmps[50]?.getD undef = .slice (some ad) len cap := hI.val 11 50 rfl h11
  have y1 : a.tmps[51]?.getD undef = .int .i64 (k : Int) := hI.val 12 51 rfl h12
  have hk := E.kk
  have i0 : (0 : Int) ≤ (k : Int) := by omega
  have i1 : (k : Int) < (len : Int) := by omega
  have hc3 := blob_cells
  have R := Lib.hid (hI.step (i := 13) (d := 52) (v := .pointer (some (ad.add (k * 3)))) rfl bka_nodup (show 52 < 178 by decide) rfl (show (if hit f 13 17 = true then Post W else Pre W) by rw [hit_of f 13 17 (by decide)]; exact hI.held))
  clear hI E hf
  go_simp
  exact hK _ _ R.out

set_option maxRecDepth 100000 in
theorem bka_14 {g len cap k id : Nat} {ad : Addr} {s d : ByteArray} {n : Int} {r1 r2 : Int} {Pre Post : World → Prop} {base : Array Value} {f : Nat → Bool} {a : Act} {W : World} {K : Act → World → Prop} {Q : Exit → Act → World → Prop} {ops : Array Oper} (E : bkaEnv g len cap k id ad s d n r1 r2 Pre Post base) (hI : (bkaTb g len cap k id ad s d n r1 r2 Pre Post base).Inv (fun f W => if f 17 = true then Post W else Pre W) f a W) (hf : f 14 = false) (h13 : f 13 = true) (pos : String) (hK : ∀ a' W', (bkaTb g len cap k id ad s d n r1 r2 Pre Post base).Inv (fun f W => if f 17 = true then Post W else Pre W) (hit f 14) a' W' → K a' W') : if Region.wanted { dst := some 53, op := Go.Op.fieldAddr 33 (Go.Operand.tmp 52) 2, type := 0, pos := pos, after := #[{ on := 13, ground := Go.Ground.data }], guard := none } (yielded ops a.tmps) = true then Oper.wp Tryd.prog { dst := some 53, op := Go.Op.fieldAddr 33 (Go.Operand.tmp 52) 2, type := 0, pos := pos, after := #[{ on := 13, ground := Go.Ground.data }], guard := none } a W K Q else K (a.put (some 53) undef) W := by
  have y0 : a.tmps[52]?.getD undef = .pointer (some (ad.add (k * 3))) := hI.val 13 52 rfl h13
  have R := Lib.hid (hI.step (i := 14) (d := 53) (v := .pointer (some ⟨(ad.add (k * 3)).block, (ad.add (k * 3)).off + 2, none⟩)) rfl bka_nodup (show 53 < 178 by decide) rfl (show (if hit f 14 17 = true then Post W else Pre W) by rw [hit_of f 14 17 (by decide)]; exact hI.held))
  clear hI E hf
  go_simp
  exact hK _ _ R.out

set_option maxRecDepth 100000 in
theorem bka_15 {g len cap k id : Nat} {ad : Addr} {s d : ByteArray} {n : Int} {r1 r2 : Int} {Pre Post : World → Prop} {base : Array Value} {f : Nat → Bool} {a : Act} {W : World} {K : Act → World → Prop} {Q : Exit → Act → World → Prop} {ops : Array Oper} (E : bkaEnv g len cap k id ad s d n r1 r2 Pre Post base) (hI : (bkaTb g len cap k id ad s d n r1 r2 Pre Post base).Inv (fun f W => if f 17 = true then Post W else Pre W) f a W) (hf : f 15 = false) (h14 : f 14 = true) (pos : String) (hK : ∀ a' W', (bkaTb g len cap k id ad s d n r1 r2 Pre Post base).Inv (fun f W => if f 17 = true then Post W else Pre W) (hit f 15) a' W' → K a' W') : if Region.wanted { dst := some 54, op := Go.Op.load 3 (Go.Operand.tmp 53), type := 3, pos := pos, after := #[{ on := 14, ground := Go.Ground.data }], guard := none } (yielded ops a.tmps) = true then Oper.wp Tryd.prog { dst := some 54, op := Go.Op.load 3 (Go.Operand.tmp 53), type := 3, pos := pos, after := #[{ on := 14, ground := Go.Ground.data }], guard := none } a W K Q else K (a.put (some 54) undef) W := by
  have q : a.tmps[53]?.getD undef = .pointer (some ⟨(ad.add (k * 3)).block, (ad.add (k * 3)).off + 2, none⟩) := hI.val 14 53 rfl h14
  have c : W.cell? ⟨(ad.add (k * 3)).block, (ad.add (k * 3)).off + 2, none⟩ = some (.int .i64 n) := (E.c W (by have h : (if f 17 = true then Post W else Pre W) := hI.held; by_cases h8 : f 17 = true; (rw [if_pos h8] at h; exact .inr h); (rw [if_neg h8] at h; exact .inl h))).2.2
  have R := Lib.hid (hI.step (i := 15) (d := 54) (v := .int .i64 n) rfl bka_nodup (show 54 < 178 by decide) rfl (show (if hit f 15 17 = true then Post W else Pre W) by rw [hit_of f 15 17 (by decide)]; exact hI.held))
  clear hI E hf
  go_simp
  exact hK _ _ R.out

set_option maxRecDepth 100000 in
theorem bka_16 {g len cap k id : Nat} {ad : Addr} {s d : ByteArray} {n : Int} {r1 r2 : Int} {Pre Post : World → Prop} {base : Array Value} {f : Nat → Bool} {a : Act} {W : World} {K : Act → World → Prop} {Q : Exit → Act → World → Prop} {ops : Array Oper} (E : bkaEnv g len cap k id ad s d n r1 r2 Pre Post base) (hI : (bkaTb g len cap k id ad s d n r1 r2 Pre Post base).Inv (fun f W => if f 17 = true then Post W else Pre W) f a W) (hf : f 16 = false) (h10 : f 10 = true) (h15 : f 15 = true) (pos : String) (hK : ∀ a' W', (bkaTb g len cap k id ad s d n r1 r2 Pre Post base).Inv (fun f W => if f 17 = true then Post W else Pre W) (hit f 16) a' W' → K a' W') : if Region.wanted { dst := some 55, op := Go.Op.call { callee := Go.Callee.value (Go.Operand.func 15), args := #[Go.Operand.tmp 49, Go.Operand.tmp 54], argTypes := #[9, 3] }, type := 9, pos := pos, after := #[{ on := 10, ground := Go.Ground.data }, { on := 15, ground := Go.Ground.data }], guard := none } (yielded ops a.tmps) = true then Oper.wp Tryd.prog { dst := some 55, op := Go.Op.call { callee := Go.Callee.value (Go.Operand.func 15), args := #[Go.Operand.tmp 49, Go.Operand.tmp 54], argTypes := #[9, 3] }, type := 9, pos := pos, after := #[{ on := 10, ground := Go.Ground.data }, { on := 15, ground := Go.Ground.data }], guard := none } a W K Q else K (a.put (some 55) undef) W := by
  have y0 : a.tmps[49]?.getD undef = .string s := hI.val 10 49 rfl h10
  have y1 : a.tmps[54]?.getD undef = .int .i64 n := hI.val 15 54 rfl h15
  have hC := E.lo W
  have HR := Lib.hid (hI.step (i := 16) (d := 55) (v := .string d) rfl bka_nodup (show 55 < 178 by decide) rfl (show (if hit f 16 17 = true then Post W else Pre W) by rw [hit_of f 16 17 (by decide)]; exact hI.held))
  clear hI E hf
  go_simp
  refine hC.mono ?_
  rintro e W1 ⟨rfl, rfl⟩
  exact hK _ _ HR.out

set_option maxRecDepth 100000 in
theorem bka_17 {g len cap k id : Nat} {ad : Addr} {s d : ByteArray} {n : Int} {r1 r2 : Int} {Pre Post : World → Prop} {base : Array Value} {f : Nat → Bool} {a : Act} {W : World} {K : Act → World → Prop} {Q : Exit → Act → World → Prop} {ops : Array Oper} (E : bkaEnv g len cap k id ad s d n r1 r2 Pre Post base) (hI : (bkaTb g len cap k id ad s d n r1 r2 Pre Post base).Inv (fun f W => if f 17 = true then Post W else Pre W) f a W) (hf : f 17 = false) (h0 : f 0 = true) (h5 : f 5 = true) (h16 : f 16 = true) (pos : String) (hK : ∀ a' W', (bkaTb g len cap k id ad s d n r1 r2 Pre Post base).Inv (fun f W => if f 17 = true then Post W else Pre W) (hit f 17) a' W' → K a' W') : if Region.wanted { dst := some 56, op := Go.Op.call { callee := Go.Callee.value (Go.Operand.func 14), args := #[Go.Operand.tmp 39, Go.Operand.tmp 44, Go.Operand.tmp 55], argTypes := #[23, 31, 9] }, type := 29, pos := pos, after := #[{ on := 0, ground := Go.Ground.data }, { on := 5, ground := Go.Ground.data }, { on := 16, ground := Go.Ground.data }, { on := 16, ground := Go.Ground.chain }], guard := none } (yielded ops a.tmps) = true then Oper.wp Tryd.prog { dst := some 56, op := Go.Op.call { callee := Go.Callee.value (Go.Operand.func 14), args := #[Go.Operand.tmp 39, Go.Operand.tmp 44, Go.Operand.tmp 55], argTypes := #[23, 31, 9] }, type := 29, pos := pos, after := #[{ on := 0, ground := Go.Ground.data }, { on := 5, ground := Go.Ground.data }, { on := 16, ground := Go.Ground.data }, { on := 16, ground := Go.Ground.chain }], guard := none } a W K Q else K (a.put (some 56) undef) W := by
  have y0 : a.tmps[39]?.getD undef = .pointer (some ⟨g, 0, none⟩) := hI.val 0 39 rfl h0
  have y1 : a.tmps[44]?.getD undef = .int .u64 (id : Int) := hI.val 5 44 rfl h5
  have y2 : a.tmps[55]?.getD undef = .string d := hI.val 16 55 rfl h16
  have hp : Pre W := by have := hI.held; simp only [hf] at this; simpa using this
  have hC := E.wr W hp
  have HR := Lib.hid (fun W1 (hb : Post W1) => hI.step (i := 17) (d := 56) (v := .tuple #[.int .i64 r1, .int .i64 r2]) rfl bka_nodup (show 56 < 178 by decide) rfl (show (if hit f 17 17 = true then Post W1 else Pre W1) by rw [hit_at, if_pos rfl]; exact hb))
  clear hI E hf hp
  go_simp
  refine hC.mono ?_
  rintro e W1 ⟨rfl, hb⟩
  exact hK _ _ (HR.out W1 hb)

set_option maxRecDepth 100000 in
theorem bka_18 {g len cap k id : Nat} {ad : Addr} {s d : ByteArray} {n : Int} {r1 r2 : Int} {Pre Post : World → Prop} {base : Array Value} {f : Nat → Bool} {a : Act} {W : World} {K : Act → World → Prop} {Q : Exit → Act → World → Prop} {ops : Array Oper} (E : bkaEnv g len cap k id ad s d n r1 r2 Pre Post base) (hI : (bkaTb g len cap k id ad s d n r1 r2 Pre Post base).Inv (fun f W => if f 17 = true then Post W else Pre W) f a W) (hf : f 18 = false) (h17 : f 17 = true) (pos : String) (hK : ∀ a' W', (bkaTb g len cap k id ad s d n r1 r2 Pre Post base).Inv (fun f W => if f 17 = true then Post W else Pre W) (hit f 18) a' W' → K a' W') : if Region.wanted { dst := some 38, op := Go.Op.move (Go.Operand.tmp 56), type := 29, pos := pos, after := #[{ on := 17, ground := Go.Ground.data }], guard := none } (yielded ops a.tmps) = true then Oper.wp Tryd.prog { dst := some 38, op := Go.Op.move (Go.Operand.tmp 56), type := 29, pos := pos, after := #[{ on := 17, ground := Go.Ground.data }], guard := none } a W K Q else K (a.put (some 38) undef) W := by
  have q : a.tmps[56]?.getD undef = .tuple #[.int .i64 r1, .int .i64 r2] := hI.val 17 56 rfl h17
  have R := Lib.hid (hI.step (i := 18) (d := 38) (v := .tuple #[.int .i64 r1, .int .i64 r2]) rfl bka_nodup (show 38 < 178 by decide) rfl (show (if hit f 18 17 = true then Post W else Pre W) by rw [hit_of f 18 17 (by decide)]; exact hI.held))
  clear hI E hf
  go_simp
  exact hK _ _ R.out

set_option maxRecDepth 100000 in
theorem bka_19 {g len cap k id : Nat} {ad : Addr} {s d : ByteArray} {n : Int} {r1 r2 : Int} {Pre Post : World → Prop} {base : Array Value} {f : Nat → Bool} {a : Act} {W : World} {K : Act → World → Prop} {Q : Exit → Act → World → Prop} {ops : Array Oper} (E : bkaEnv g len cap k id ad s d n r1 r2 Pre Post base) (hI : (bkaTb g len cap k id ad s d n r1 r2 Pre Post base).Inv (fun f W => if f 17 = true then Post W else Pre W) f a W) (hf : f 19 = false) (h18 : f 18 = true) (pos : String) (hK : ∀ a' W', (bkaTb g len cap k id ad s d n r1 r2 Pre Post base).Inv (fun f W => if f 17 = true then Post W else Pre W) (hit f 19) a' W' → K a' W') : if Region.wanted { dst := some 57, op := Go.Op.extract (Go.Operand.tmp 38) 0, type := 3, pos := pos, after := #[{ on := 18, ground := Go.Ground.data }], guard := none } (yielded ops a.tmps) = true then Oper.wp Tryd.prog { dst := some 57, op := Go.Op.extract (Go.Operand.tmp 38) 0, type := 3, pos := pos, after := #[{ on := 18, ground := Go.Ground.data }], guard := none } a W K Q else K (a.put (some 57) undef) W := by
  have q : a.tmps[38]?.getD undef = .tuple #[.int .i64 r1, .int .i64 r2] := hI.val 18 38 rfl h18
  have R := Lib.hid (hI.step (i := 19) (d := 57) (v := .int .i64 r1) rfl bka_nodup (show 57 < 178 by decide) rfl (show (if hit f 19 17 = true then Post W else Pre W) by rw [hit_of f 19 17 (by decide)]; exact hI.held))
  clear hI E hf
  go_simp
  exact hK _ _ R.out

set_option maxRecDepth 100000 in
theorem bka_20 {g len cap k id : Nat} {ad : Addr} {s d : ByteArray} {n : Int} {r1 r2 : Int} {Pre Post : World → Prop} {base : Array Value} {f : Nat → Bool} {a : Act} {W : World} {K : Act → World → Prop} {Q : Exit → Act → World → Prop} {ops : Array Oper} (E : bkaEnv g len cap k id ad s d n r1 r2 Pre Post base) (hI : (bkaTb g len cap k id ad s d n r1 r2 Pre Post base).Inv (fun f W => if f 17 = true then Post W else Pre W) f a W) (hf : f 20 = false) (h18 : f 18 = true) (pos : String) (hK : ∀ a' W', (bkaTb g len cap k id ad s d n r1 r2 Pre Post base).Inv (fun f W => if f 17 = true then Post W else Pre W) (hit f 20) a' W' → K a' W') : if Region.wanted { dst := some 58, op := Go.Op.extract (Go.Operand.tmp 38) 1, type := 26, pos := pos, after := #[{ on := 18, ground := Go.Ground.data }, { on := 21, ground := Go.Ground.gcOnly Go.Departure.lateStores }], guard := none } (yielded ops a.tmps) = true then Oper.wp Tryd.prog { dst := some 58, op := Go.Op.extract (Go.Operand.tmp 38) 1, type := 26, pos := pos, after := #[{ on := 18, ground := Go.Ground.data }, { on := 21, ground := Go.Ground.gcOnly Go.Departure.lateStores }], guard := none } a W K Q else K (a.put (some 58) undef) W := by
  have q : a.tmps[38]?.getD undef = .tuple #[.int .i64 r1, .int .i64 r2] := hI.val 18 38 rfl h18
  have R := Lib.hid (hI.step (i := 20) (d := 58) (v := .int .i64 r2) rfl bka_nodup (show 58 < 178 by decide) rfl (show (if hit f 20 17 = true then Post W else Pre W) by rw [hit_of f 20 17 (by decide)]; exact hI.held))
  clear hI E hf
  go_simp
  exact hK _ _ R.out

set_option maxRecDepth 100000 in
theorem bka_21 {g len cap k id : Nat} {ad : Addr} {s d : ByteArray} {n : Int} {r1 r2 : Int} {Pre Post : World → Prop} {base : Array Value} {f : Nat → Bool} {a : Act} {W : World} {K : Act → World → Prop} {Q : Exit → Act → World → Prop} {ops : Array Oper} (E : bkaEnv g len cap k id ad s d n r1 r2 Pre Post base) (hI : (bkaTb g len cap k id ad s d n r1 r2 Pre Post base).Inv (fun f W => if f 17 = true then Post W else Pre W) f a W) (hf : f 21 = false) (h0 : f 0 = true) (h1 : f 1 = true) (h2 : f 2 = true) (h3 : f 3 = true) (h4 : f 4 = true) (h5 : f 5 = true) (h6 : f 6 = true) (h7 : f 7 = true) (h8 : f 8 = true) (h9 : f 9 = true) (h10 : f 10 = true) (h11 : f 11 = true) (h12 : f 12 = true) (h13 : f 13 = true) (h14 : f 14 = true) (h15 : f 15 = true) (h16 : f 16 = true) (h17 : f 17 = true) (h18 : f 18 = true) (h19 : f 19 = true) (pos : String) (hK : ∀ a' W', (bkaTb g len cap k id ad s d n r1 r2 Pre Post base).Inv (fun f W => if f 17 = true then Post W else Pre W) (hit f 21) a' W' → K a' W') : if Region.wanted { dst := some 7, op := Go.Op.assign (Go.Operand.tmp 57), type := 3, pos := pos, after := #[{ on := 19, ground := Go.Ground.data }, { on := 17, ground := Go.Ground.chain }, { on := 0, ground := Go.Ground.phase }, { on := 1, ground := Go.Ground.phase }, { on := 2, ground := Go.Ground.phase }, { on := 3, ground := Go.Ground.phase }, { on := 4, ground := Go.Ground.phase }, { on := 5, ground := Go.Ground.phase }, { on := 6, ground := Go.Ground.phase }, { on := 7, ground := Go.Ground.phase }, { on := 8, ground := Go.Ground.phase }, { on := 9, ground := Go.Ground.phase }, { on := 10, ground := Go.Ground.phase }, { on := 11, ground := Go.Ground.phase }, { on := 12, ground := Go.Ground.phase }, { on := 13, ground := Go.Ground.phase }, { on := 14, ground := Go.Ground.phase }, { on := 15, ground := Go.Ground.phase }, { on := 16, ground := Go.Ground.phase }, { on := 17, ground := Go.Ground.phase }, { on := 18, ground := Go.Ground.phase }, { on := 19, ground := Go.Ground.phase }, { on := 20, ground := Go.Ground.textOnly Go.Departure.lateStores }], guard := none } (yielded ops a.tmps) = true then Oper.wp Tryd.prog { dst := some 7, op := Go.Op.assign (Go.Operand.tmp 57), type := 3, pos := pos, after := #[{ on := 19, ground := Go.Ground.data }, { on := 17, ground := Go.Ground.chain }, { on := 0, ground := Go.Ground.phase }, { on := 1, ground := Go.Ground.phase }, { on := 2, ground := Go.Ground.phase }, { on := 3, ground := Go.Ground.phase }, { on := 4, ground := Go.Ground.phase }, { on := 5, ground := Go.Ground.phase }, { on := 6, ground := Go.Ground.phase }, { on := 7, ground := Go.Ground.phase }, { on := 8, ground := Go.Ground.phase }, { on := 9, ground := Go.Ground.phase }, { on := 10, ground := Go.Ground.phase }, { on := 11, ground := Go.Ground.phase }, { on := 12, ground := Go.Ground.phase }, { on := 13, ground := Go.Ground.phase }, { on := 14, ground := Go.Ground.phase }, { on := 15, ground := Go.Ground.phase }, { on := 16, ground := Go.Ground.phase }, { on := 17, ground := Go.Ground.phase }, { on := 18, ground := Go.Ground.phase }, { on := 19, ground := Go.Ground.phase }, { on := 20, ground := Go.Ground.textOnly Go.Departure.lateStores }], guard := none } a W K Q else K (a.put (some 7) undef) W := by
  have q : a.tmps[57]?.getD undef = .int .i64 r1 := hI.val 19 57 rfl h19
  have R := Lib.hid (hI.step (i := 21) (d := 7) (v := .int .i64 r1) rfl bka_nodup (show 7 < 178 by decide) rfl (show (if hit f 21 17 = true then Post W else Pre W) by rw [hit_of f 21 17 (by decide)]; exact hI.held))
  clear hI E hf
  go_simp
  exact hK _ _ R.out

set_option maxRecDepth 100000 in
theorem bka_22 {g len cap k id : Nat} {ad : Addr} {s d : ByteArray} {n : Int} {r1 r2 : Int} {Pre Post : World → Prop} {base : Array Value} {f : Nat → Bool} {a : Act} {W : World} {K : Act → World → Prop} {Q : Exit → Act → World → Prop} {ops : Array Oper} (E : bkaEnv g len cap k id ad s d n r1 r2 Pre Post base) (hI : (bkaTb g len cap k id ad s d n r1 r2 Pre Post base).Inv (fun f W => if f 17 = true then Post W else Pre W) f a W) (hf : f 22 = false) (h0 : f 0 = true) (h1 : f 1 = true) (h2 : f 2 = true) (h3 : f 3 = true) (h4 : f 4 = true) (h5 : f 5 = true) (h6 : f 6 = true) (h7 : f 7 = true) (h8 : f 8 = true) (h9 : f 9 = true) (h10 : f 10 = true) (h11 : f 11 = true) (h12 : f 12 = true) (h13 : f 13 = true) (h14 : f 14 = true) (h15 : f 15 = true) (h16 : f 16 = true) (h17 : f 17 = true) (h18 : f 18 = true) (h19 : f 19 = true) (h20 : f 20 = true) (h21 : f 21 = true) (pos : String) (hK : ∀ a' W', (bkaTb g len cap k id ad s d n r1 r2 Pre Post base).Inv (fun f W => if f 17 = true then Post W else Pre W) (hit f 22) a' W' → K a' W') : if Region.wanted { dst := some 8, op := Go.Op.assign (Go.Operand.tmp 58), type := 26, pos := pos, after := #[{ on := 20, ground := Go.Ground.data }, { on := 21, ground := Go.Ground.chain }, { on := 0, ground := Go.Ground.phase }, { on := 1, ground := Go.Ground.phase }, { on := 2, ground := Go.Ground.phase }, { on := 3, ground := Go.Ground.phase }, { on := 4, ground := Go.Ground.phase }, { on := 5, ground := Go.Ground.phase }, { on := 6, ground := Go.Ground.phase }, { on := 7, ground := Go.Ground.phase }, { on := 8, ground := Go.Ground.phase }, { on := 9, ground := Go.Ground.phase }, { on := 10, ground := Go.Ground.phase }, { on := 11, ground := Go.Ground.phase }, { on := 12, ground := Go.Ground.phase }, { on := 13, ground := Go.Ground.phase }, { on := 14, ground := Go.Ground.phase }, { on := 15, ground := Go.Ground.phase }, { on := 16, ground := Go.Ground.phase }, { on := 17, ground := Go.Ground.phase }, { on := 18, ground := Go.Ground.phase }, { on := 19, ground := Go.Ground.phase }, { on := 20, ground := Go.Ground.phase }, { on := 21, ground := Go.Ground.phase }], guard := none } (yielded ops a.tmps) = true then Oper.wp Tryd.prog { dst := some 8, op := Go.Op.assign (Go.Operand.tmp 58), type := 26, pos := pos, after := #[{ on := 20, ground := Go.Ground.data }, { on := 21, ground := Go.Ground.chain }, { on := 0, ground := Go.Ground.phase }, { on := 1, ground := Go.Ground.phase }, { on := 2, ground := Go.Ground.phase }, { on := 3, ground := Go.Ground.phase }, { on := 4, ground := Go.Ground.phase }, { on := 5, ground := Go.Ground.phase }, { on := 6, ground := Go.Ground.phase }, { on := 7, ground := Go.Ground.phase }, { on := 8, ground := Go.Ground.phase }, { on := 9, ground := Go.Ground.phase }, { on := 10, ground := Go.Ground.phase }, { on := 11, ground := Go.Ground.phase }, { on := 12, ground := Go.Ground.phase }, { on := 13, ground := Go.Ground.phase }, { on := 14, ground := Go.Ground.phase }, { on := 15, ground := Go.Ground.phase }, { on := 16, ground := Go.Ground.phase }, { on := 17, ground := Go.Ground.phase }, { on := 18, ground := Go.Ground.phase }, { on := 19, ground := Go.Ground.phase }, { on := 20, ground := Go.Ground.phase }, { on := 21, ground := Go.Ground.phase }], guard := none } a W K Q else K (a.put (some 8) undef) W := by
  have q : a.tmps[58]?.getD undef = .int .i64 r2 := hI.val 20 58 rfl h20
  have R := Lib.hid (hI.step (i := 22) (d := 8) (v := .int .i64 r2) rfl bka_nodup (show 8 < 178 by decide) rfl (show (if hit f 22 17 = true then Post W else Pre W) by rw [hit_of f 22 17 (by decide)]; exact hI.held))
  clear hI E hf
  go_simp
  exact hK _ _ R.out

abbrev bkaOps : Array Oper := #[{ dst := some 39, op := Go.Op.move (Go.Operand.tmp 3), type := 23, pos := "outright.go:25", after := #[], guard := none }, { dst := some 40, op := Go.Op.move (Go.Operand.tmp 0), type := 22, pos := "outright.go:25", after := #[], guard := none }, { dst := some 41, op := Go.Op.move (Go.Operand.tmp 6), type := 3, pos := "outright.go:25", after := #[], guard := none }, { dst := some 42, op := Go.Op.indexAddr 22 (Go.Operand.tmp 40) (Go.Operand.tmp 41), type := 0, pos := "outright.go:25", after := #[{ on := 1, ground := Go.Ground.data }, { on := 2, ground := Go.Ground.data }], guard := none }, { dst := some 43, op := Go.Op.fieldAddr 33 (Go.Operand.tmp 42) 0, type := 0, pos := "outright.go:25", after := #[{ on := 3, ground := Go.Ground.data }], guard := none }, { dst := some 44, op := Go.Op.load 31 (Go.Operand.tmp 43), type := 31, pos := "outright.go:25", after := #[{ on := 4, ground := Go.Ground.data }], guard := none }, { dst := some 45, op := Go.Op.move (Go.Operand.tmp 0), type := 22, pos := "outright.go:25", after := #[], guard := none }, { dst := some 46, op := Go.Op.move (Go.Operand.tmp 6), type := 3, pos := "outright.go:25", after := #[], guard := none }, { dst := some 47, op := Go.Op.indexAddr 22 (Go.Operand.tmp 45) (Go.Operand.tmp 46), type := 0, pos := "outright.go:25", after := #[{ on := 6, ground := Go.Ground.data }, { on := 7, ground := Go.Ground.data }], guard := none }, { dst := some 48, op := Go.Op.fieldAddr 33 (Go.Operand.tmp 47) 1, type := 0, pos := "outright.go:25", after := #[{ on := 8, ground := Go.Ground.data }], guard := none }, { dst := some 49, op := Go.Op.load 9 (Go.Operand.tmp 48), type := 9, pos := "outright.go:25", after := #[{ on := 9, ground := Go.Ground.data }], guard := none }, { dst := some 50, op := Go.Op.move (Go.Operand.tmp 0), type := 22, pos := "outright.go:25", after := #[], guard := none }, { dst := some 51, op := Go.Op.move (Go.Operand.tmp 6), type := 3, pos := "outright.go:25", after := #[], guard := none }, { dst := some 52, op := Go.Op.indexAddr 22 (Go.Operand.tmp 50) (Go.Operand.tmp 51), type := 0, pos := "outright.go:25", after := #[{ on := 11, ground := Go.Ground.data }, { on := 12, ground := Go.Ground.data }], guard := none }, { dst := some 53, op := Go.Op.fieldAddr 33 (Go.Operand.tmp 52) 2, type := 0, pos := "outright.go:25", after := #[{ on := 13, ground := Go.Ground.data }], guard := none }, { dst := some 54, op := Go.Op.load 3 (Go.Operand.tmp 53), type := 3, pos := "outright.go:25", after := #[{ on := 14, ground := Go.Ground.data }], guard := none }, { dst := some 55, op := Go.Op.call { callee := Go.Callee.value (Go.Operand.func 15), args := #[Go.Operand.tmp 49, Go.Operand.tmp 54], argTypes := #[9, 3] }, type := 9, pos := "outright.go:25", after := #[{ on := 10, ground := Go.Ground.data }, { on := 15, ground := Go.Ground.data }], guard := none }, { dst := some 56, op := Go.Op.call { callee := Go.Callee.value (Go.Operand.func 14), args := #[Go.Operand.tmp 39, Go.Operand.tmp 44, Go.Operand.tmp 55], argTypes := #[23, 31, 9] }, type := 29, pos := "outright.go:25", after := #[{ on := 0, ground := Go.Ground.data }, { on := 5, ground := Go.Ground.data }, { on := 16, ground := Go.Ground.data }, { on := 16, ground := Go.Ground.chain }], guard := none }, { dst := some 38, op := Go.Op.move (Go.Operand.tmp 56), type := 29, pos := "outright.go:25", after := #[{ on := 17, ground := Go.Ground.data }], guard := none }, { dst := some 57, op := Go.Op.extract (Go.Operand.tmp 38) 0, type := 3, pos := "outright.go:25", after := #[{ on := 18, ground := Go.Ground.data }], guard := none }, { dst := some 58, op := Go.Op.extract (Go.Operand.tmp 38) 1, type := 26, pos := "outright.go:25", after := #[{ on := 18, ground := Go.Ground.data }, { on := 21, ground := Go.Ground.gcOnly Go.Departure.lateStores }], guard := none }, { dst := some 7, op := Go.Op.assign (Go.Operand.tmp 57), type := 3, pos := "outright.go:25", after := #[{ on := 19, ground := Go.Ground.data }, { on := 17, ground := Go.Ground.chain }, { on := 0, ground := Go.Ground.phase }, { on := 1, ground := Go.Ground.phase }, { on := 2, ground := Go.Ground.phase }, { on := 3, ground := Go.Ground.phase }, { on := 4, ground := Go.Ground.phase }, { on := 5, ground := Go.Ground.phase }, { on := 6, ground := Go.Ground.phase }, { on := 7, ground := Go.Ground.phase }, { on := 8, ground := Go.Ground.phase }, { on := 9, ground := Go.Ground.phase }, { on := 10, ground := Go.Ground.phase }, { on := 11, ground := Go.Ground.phase }, { on := 12, ground := Go.Ground.phase }, { on := 13, ground := Go.Ground.phase }, { on := 14, ground := Go.Ground.phase }, { on := 15, ground := Go.Ground.phase }, { on := 16, ground := Go.Ground.phase }, { on := 17, ground := Go.Ground.phase }, { on := 18, ground := Go.Ground.phase }, { on := 19, ground := Go.Ground.phase }, { on := 20, ground := Go.Ground.textOnly Go.Departure.lateStores }], guard := none }, { dst := some 8, op := Go.Op.assign (Go.Operand.tmp 58), type := 26, pos := "outright.go:25", after := #[{ on := 20, ground := Go.Ground.data }, { on := 21, ground := Go.Ground.chain }, { on := 0, ground := Go.Ground.phase }, { on := 1, ground := Go.Ground.phase }, { on := 2, ground := Go.Ground.phase }, { on := 3, ground := Go.Ground.phase }, { on := 4, ground := Go.Ground.phase }, { on := 5, ground := Go.Ground.phase }, { on := 6, ground := Go.Ground.phase }, { on := 7, ground := Go.Ground.phase }, { on := 8, ground := Go.Ground.phase }, { on := 9, ground := Go.Ground.phase }, { on := 10, ground := Go.Ground.phase }, { on := 11, ground := Go.Ground.phase }, { on := 12, ground := Go.Ground.phase }, { on := 13, ground := Go.Ground.phase }, { on := 14, ground := Go.Ground.phase }, { on := 15, ground := Go.Ground.phase }, { on := 16, ground := Go.Ground.phase }, { on := 17, ground := Go.Ground.phase }, { on := 18, ground := Go.Ground.phase }, { on := 19, ground := Go.Ground.phase }, { on := 20, ground := Go.Ground.phase }, { on := 21, ground := Go.Ground.phase }], guard := none }]
set_option maxRecDepth 100000 in
set_option maxHeartbeats 4000000 in
theorem bka_step {g len cap k id : Nat} {ad : Addr} {s d : ByteArray} {n : Int} {r1 r2 : Int} {Pre Post : World → Prop} {base : Array Value} {Q : Exit → Act → World → Prop} (E : bkaEnv g len cap k id ad s d n r1 r2 Pre Post base) :
    ∀ f a W i o, bkaOps[i]? = some o → f i = false → (∀ e ∈ o.after, Region.binds .any e = true → f e.on = true) → (bkaTb g len cap k id ad s d n r1 r2 Pre Post base).Inv (fun f W => if f 17 = true then Post W else Pre W) f a W → wpOp Tryd.prog bkaOps Q i (fun a' W' => (bkaTb g len cap k id ad s d n r1 r2 Pre Post base).Inv (fun f W => if f 17 = true then Post W else Pre W) (hit f i) a' W') a W := by
  intro f a W i o ho hf hed hI
  have hi : i < 23 := (Array.getElem?_eq_some_iff.1 ho).1
  have hc : i = 0 ∨ i = 1 ∨ i = 2 ∨ i = 3 ∨ i = 4 ∨ i = 5 ∨ i = 6 ∨ i = 7 ∨ i = 8 ∨ i = 9 ∨ i = 10 ∨ i = 11 ∨ i = 12 ∨ i = 13 ∨ i = 14 ∨ i = 15 ∨ i = 16 ∨ i = 17 ∨ i = 18 ∨ i = 19 ∨ i = 20 ∨ i = 21 ∨ i = 22 := by omega
  rcases hc with rfl | rfl | rfl | rfl | rfl | rfl | rfl | rfl | rfl | rfl | rfl | rfl | rfl | rfl | rfl | rfl | rfl | rfl | rfl | rfl | rfl | rfl | rfl
  · cases ho
    exact wpOp_step (o := { dst := some 39, op := Go.Op.move (Go.Operand.tmp 3), type := 23, pos := "outright.go:25", after := #[], guard := none }) rfl fun K hK => bka_0 E hI hf "outright.go:25" (fun a' W' h => hK a' W' h)
  · cases ho
    exact wpOp_step (o := { dst := some 40, op := Go.Op.move (Go.Operand.tmp 0), type := 22, pos := "outright.go:25", after := #[], guard := none }) rfl fun K hK => bka_1 E hI hf "outright.go:25" (fun a' W' h => hK a' W' h)
  · cases ho
    exact wpOp_step (o := { dst := some 41, op := Go.Op.move (Go.Operand.tmp 6), type := 3, pos := "outright.go:25", after := #[], guard := none }) rfl fun K hK => bka_2 E hI hf "outright.go:25" (fun a' W' h => hK a' W' h)
  · cases ho
    exact wpOp_step (o := { dst := some 42, op := Go.Op.indexAddr 22 (Go.Operand.tmp 40) (Go.Operand.tmp 41), type := 0, pos := "outright.go:25", after := #[{ on := 1, ground := Go.Ground.data }, { on := 2, ground := Go.Ground.data }], guard := none }) rfl fun K hK => bka_3 E hI hf (hed ⟨1, Go.Ground.data⟩ (Array.mem_of_getElem? (i := 0) rfl) rfl) (hed ⟨2, Go.Ground.data⟩ (Array.mem_of_getElem? (i := 1) rfl) rfl) "outright.go:25" (fun a' W' h => hK a' W' h)
  · cases ho
    exact wpOp_step (o := { dst := some 43, op := Go.Op.fieldAddr 33 (Go.Operand.tmp 42) 0, type := 0, pos := "outright.go:25", after := #[{ on := 3, ground := Go.Ground.data }], guard := none }) rfl fun K hK => bka_4 E hI hf (hed ⟨3, Go.Ground.data⟩ (Array.mem_of_getElem? (i := 0) rfl) rfl) "outright.go:25" (fun a' W' h => hK a' W' h)
  · cases ho
    exact wpOp_step (o := { dst := some 44, op := Go.Op.load 31 (Go.Operand.tmp 43), type := 31, pos := "outright.go:25", after := #[{ on := 4, ground := Go.Ground.data }], guard := none }) rfl fun K hK => bka_5 E hI hf (hed ⟨4, Go.Ground.data⟩ (Array.mem_of_getElem? (i := 0) rfl) rfl) "outright.go:25" (fun a' W' h => hK a' W' h)
  · cases ho
    exact wpOp_step (o := { dst := some 45, op := Go.Op.move (Go.Operand.tmp 0), type := 22, pos := "outright.go:25", after := #[], guard := none }) rfl fun K hK => bka_6 E hI hf "outright.go:25" (fun a' W' h => hK a' W' h)
  · cases ho
    exact wpOp_step (o := { dst := some 46, op := Go.Op.move (Go.Operand.tmp 6), type := 3, pos := "outright.go:25", after := #[], guard := none }) rfl fun K hK => bka_7 E hI hf "outright.go:25" (fun a' W' h => hK a' W' h)
  · cases ho
    exact wpOp_step (o := { dst := some 47, op := Go.Op.indexAddr 22 (Go.Operand.tmp 45) (Go.Operand.tmp 46), type := 0, pos := "outright.go:25", after := #[{ on := 6, ground := Go.Ground.data }, { on := 7, ground := Go.Ground.data }], guard := none }) rfl fun K hK => bka_8 E hI hf (hed ⟨6, Go.Ground.data⟩ (Array.mem_of_getElem? (i := 0) rfl) rfl) (hed ⟨7, Go.Ground.data⟩ (Array.mem_of_getElem? (i := 1) rfl) rfl) "outright.go:25" (fun a' W' h => hK a' W' h)
  · cases ho
    exact wpOp_step (o := { dst := some 48, op := Go.Op.fieldAddr 33 (Go.Operand.tmp 47) 1, type := 0, pos := "outright.go:25", after := #[{ on := 8, ground := Go.Ground.data }], guard := none }) rfl fun K hK => bka_9 E hI hf (hed ⟨8, Go.Ground.data⟩ (Array.mem_of_getElem? (i := 0) rfl) rfl) "outright.go:25" (fun a' W' h => hK a' W' h)
  · cases ho
    exact wpOp_step (o := { dst := some 49, op := Go.Op.load 9 (Go.Operand.tmp 48), type := 9, pos := "outright.go:25", after := #[{ on := 9, ground := Go.Ground.data }], guard := none }) rfl fun K hK => bka_10 E hI hf (hed ⟨9, Go.Ground.data⟩ (Array.mem_of_getElem? (i := 0) rfl) rfl) "outright.go:25" (fun a' W' h => hK a' W' h)
  · cases ho
    exact wpOp_step (o := { dst := some 50, op := Go.Op.move (Go.Operand.tmp 0), type := 22, pos := "outright.go:25", after := #[], guard := none }) rfl fun K hK => bka_11 E hI hf "outright.go:25" (fun a' W' h => hK a' W' h)
  · cases ho
    exact wpOp_step (o := { dst := some 51, op := Go.Op.move (Go.Operand.tmp 6), type := 3, pos := "outright.go:25", after := #[], guard := none }) rfl fun K hK => bka_12 E hI hf "outright.go:25" (fun a' W' h => hK a' W' h)
  · cases ho
    exact wpOp_step (o := { dst := some 52, op := Go.Op.indexAddr 22 (Go.Operand.tmp 50) (Go.Operand.tmp 51), type := 0, pos := "outright.go:25", after := #[{ on := 11, ground := Go.Ground.data }, { on := 12, ground := Go.Ground.data }], guard := none }) rfl fun K hK => bka_13 E hI hf (hed ⟨11, Go.Ground.data⟩ (Array.mem_of_getElem? (i := 0) rfl) rfl) (hed ⟨12, Go.Ground.data⟩ (Array.mem_of_getElem? (i := 1) rfl) rfl) "outright.go:25" (fun a' W' h => hK a' W' h)
  · cases ho
    exact wpOp_step (o := { dst := some 53, op := Go.Op.fieldAddr 33 (Go.Operand.tmp 52) 2, type := 0, pos := "outright.go:25", after := #[{ on := 13, ground := Go.Ground.data }], guard := none }) rfl fun K hK => bka_14 E hI hf (hed ⟨13, Go.Ground.data⟩ (Array.mem_of_getElem? (i := 0) rfl) rfl) "outright.go:25" (fun a' W' h => hK a' W' h)
  · cases ho
    exact wpOp_step (o := { dst := some 54, op := Go.Op.load 3 (Go.Operand.tmp 53), type := 3, pos := "outright.go:25", after := #[{ on := 14, ground := Go.Ground.data }], guard := none }) rfl fun K hK => bka_15 E hI hf (hed ⟨14, Go.Ground.data⟩ (Array.mem_of_getElem? (i := 0) rfl) rfl) "outright.go:25" (fun a' W' h => hK a' W' h)
  · cases ho
    exact wpOp_step (o := { dst := some 55, op := Go.Op.call { callee := Go.Callee.value (Go.Operand.func 15), args := #[Go.Operand.tmp 49, Go.Operand.tmp 54], argTypes := #[9, 3] }, type := 9, pos := "outright.go:25", after := #[{ on := 10, ground := Go.Ground.data }, { on := 15, ground := Go.Ground.data }], guard := none }) rfl fun K hK => bka_16 E hI hf (hed ⟨10, Go.Ground.data⟩ (Array.mem_of_getElem? (i := 0) rfl) rfl) (hed ⟨15, Go.Ground.data⟩ (Array.mem_of_getElem? (i := 1) rfl) rfl) "outright.go:25" (fun a' W' h => hK a' W' h)
  · cases ho
    exact wpOp_step (o := { dst := some 56, op := Go.Op.call { callee := Go.Callee.value (Go.Operand.func 14), args := #[Go.Operand.tmp 39, Go.Operand.tmp 44, Go.Operand.tmp 55], argTypes := #[23, 31, 9] }, type := 29, pos := "outright.go:25", after := #[{ on := 0, ground := Go.Ground.data }, { on := 5, ground := Go.Ground.data }, { on := 16, ground := Go.Ground.data }, { on := 16, ground := Go.Ground.chain }], guard := none }) rfl fun K hK => bka_17 E hI hf (hed ⟨0, Go.Ground.data⟩ (Array.mem_of_getElem? (i := 0) rfl) rfl) (hed ⟨5, Go.Ground.data⟩ (Array.mem_of_getElem? (i := 1) rfl) rfl) (hed ⟨16, Go.Ground.data⟩ (Array.mem_of_getElem? (i := 2) rfl) rfl) "outright.go:25" (fun a' W' h => hK a' W' h)
  · cases ho
    exact wpOp_step (o := { dst := some 38, op := Go.Op.move (Go.Operand.tmp 56), type := 29, pos := "outright.go:25", after := #[{ on := 17, ground := Go.Ground.data }], guard := none }) rfl fun K hK => bka_18 E hI hf (hed ⟨17, Go.Ground.data⟩ (Array.mem_of_getElem? (i := 0) rfl) rfl) "outright.go:25" (fun a' W' h => hK a' W' h)
  · cases ho
    exact wpOp_step (o := { dst := some 57, op := Go.Op.extract (Go.Operand.tmp 38) 0, type := 3, pos := "outright.go:25", after := #[{ on := 18, ground := Go.Ground.data }], guard := none }) rfl fun K hK => bka_19 E hI hf (hed ⟨18, Go.Ground.data⟩ (Array.mem_of_getElem? (i := 0) rfl) rfl) "outright.go:25" (fun a' W' h => hK a' W' h)
  · cases ho
    exact wpOp_step (o := { dst := some 58, op := Go.Op.extract (Go.Operand.tmp 38) 1, type := 26, pos := "outright.go:25", after := #[{ on := 18, ground := Go.Ground.data }, { on := 21, ground := Go.Ground.gcOnly Go.Departure.lateStores }], guard := none }) rfl fun K hK => bka_20 E hI hf (hed ⟨18, Go.Ground.data⟩ (Array.mem_of_getElem? (i := 0) rfl) rfl) "outright.go:25" (fun a' W' h => hK a' W' h)
  · cases ho
    exact wpOp_step (o := { dst := some 7, op := Go.Op.assign (Go.Operand.tmp 57), type := 3, pos := "outright.go:25", after := #[{ on := 19, ground := Go.Ground.data }, { on := 17, ground := Go.Ground.chain }, { on := 0, ground := Go.Ground.phase }, { on := 1, ground := Go.Ground.phase }, { on := 2, ground := Go.Ground.phase }, { on := 3, ground := Go.Ground.phase }, { on := 4, ground := Go.Ground.phase }, { on := 5, ground := Go.Ground.phase }, { on := 6, ground := Go.Ground.phase }, { on := 7, ground := Go.Ground.phase }, { on := 8, ground := Go.Ground.phase }, { on := 9, ground := Go.Ground.phase }, { on := 10, ground := Go.Ground.phase }, { on := 11, ground := Go.Ground.phase }, { on := 12, ground := Go.Ground.phase }, { on := 13, ground := Go.Ground.phase }, { on := 14, ground := Go.Ground.phase }, { on := 15, ground := Go.Ground.phase }, { on := 16, ground := Go.Ground.phase }, { on := 17, ground := Go.Ground.phase }, { on := 18, ground := Go.Ground.phase }, { on := 19, ground := Go.Ground.phase }, { on := 20, ground := Go.Ground.textOnly Go.Departure.lateStores }], guard := none }) rfl fun K hK => bka_21 E hI hf (hed ⟨0, Go.Ground.phase⟩ (Array.mem_of_getElem? (i := 2) rfl) rfl) (hed ⟨1, Go.Ground.phase⟩ (Array.mem_of_getElem? (i := 3) rfl) rfl) (hed ⟨2, Go.Ground.phase⟩ (Array.mem_of_getElem? (i := 4) rfl) rfl) (hed ⟨3, Go.Ground.phase⟩ (Array.mem_of_getElem? (i := 5) rfl) rfl) (hed ⟨4, Go.Ground.phase⟩ (Array.mem_of_getElem? (i := 6) rfl) rfl) (hed ⟨5, Go.Ground.phase⟩ (Array.mem_of_getElem? (i := 7) rfl) rfl) (hed ⟨6, Go.Ground.phase⟩ (Array.mem_of_getElem? (i := 8) rfl) rfl) (hed ⟨7, Go.Ground.phase⟩ (Array.mem_of_getElem? (i := 9) rfl) rfl) (hed ⟨8, Go.Ground.phase⟩ (Array.mem_of_getElem? (i := 10) rfl) rfl) (hed ⟨9, Go.Ground.phase⟩ (Array.mem_of_getElem? (i := 11) rfl) rfl) (hed ⟨10, Go.Ground.phase⟩ (Array.mem_of_getElem? (i := 12) rfl) rfl) (hed ⟨11, Go.Ground.phase⟩ (Array.mem_of_getElem? (i := 13) rfl) rfl) (hed ⟨12, Go.Ground.phase⟩ (Array.mem_of_getElem? (i := 14) rfl) rfl) (hed ⟨13, Go.Ground.phase⟩ (Array.mem_of_getElem? (i := 15) rfl) rfl) (hed ⟨14, Go.Ground.phase⟩ (Array.mem_of_getElem? (i := 16) rfl) rfl) (hed ⟨15, Go.Ground.phase⟩ (Array.mem_of_getElem? (i := 17) rfl) rfl) (hed ⟨16, Go.Ground.phase⟩ (Array.mem_of_getElem? (i := 18) rfl) rfl) (hed ⟨17, Go.Ground.chain⟩ (Array.mem_of_getElem? (i := 1) rfl) rfl) (hed ⟨18, Go.Ground.phase⟩ (Array.mem_of_getElem? (i := 20) rfl) rfl) (hed ⟨19, Go.Ground.data⟩ (Array.mem_of_getElem? (i := 0) rfl) rfl) "outright.go:25" (fun a' W' h => hK a' W' h)
  · cases ho
    exact wpOp_step (o := { dst := some 8, op := Go.Op.assign (Go.Operand.tmp 58), type := 26, pos := "outright.go:25", after := #[{ on := 20, ground := Go.Ground.data }, { on := 21, ground := Go.Ground.chain }, { on := 0, ground := Go.Ground.phase }, { on := 1, ground := Go.Ground.phase }, { on := 2, ground := Go.Ground.phase }, { on := 3, ground := Go.Ground.phase }, { on := 4, ground := Go.Ground.phase }, { on := 5, ground := Go.Ground.phase }, { on := 6, ground := Go.Ground.phase }, { on := 7, ground := Go.Ground.phase }, { on := 8, ground := Go.Ground.phase }, { on := 9, ground := Go.Ground.phase }, { on := 10, ground := Go.Ground.phase }, { on := 11, ground := Go.Ground.phase }, { on := 12, ground := Go.Ground.phase }, { on := 13, ground := Go.Ground.phase }, { on := 14, ground := Go.Ground.phase }, { on := 15, ground := Go.Ground.phase }, { on := 16, ground := Go.Ground.phase }, { on := 17, ground := Go.Ground.phase }, { on := 18, ground := Go.Ground.phase }, { on := 19, ground := Go.Ground.phase }, { on := 20, ground := Go.Ground.phase }, { on := 21, ground := Go.Ground.phase }], guard := none }) rfl fun K hK => bka_22 E hI hf (hed ⟨0, Go.Ground.phase⟩ (Array.mem_of_getElem? (i := 2) rfl) rfl) (hed ⟨1, Go.Ground.phase⟩ (Array.mem_of_getElem? (i := 3) rfl) rfl) (hed ⟨2, Go.Ground.phase⟩ (Array.mem_of_getElem? (i := 4) rfl) rfl) (hed ⟨3, Go.Ground.phase⟩ (Array.mem_of_getElem? (i := 5) rfl) rfl) (hed ⟨4, Go.Ground.phase⟩ (Array.mem_of_getElem? (i := 6) rfl) rfl) (hed ⟨5, Go.Ground.phase⟩ (Array.mem_of_getElem? (i := 7) rfl) rfl) (hed ⟨6, Go.Ground.phase⟩ (Array.mem_of_getElem? (i := 8) rfl) rfl) (hed ⟨7, Go.Ground.phase⟩ (Array.mem_of_getElem? (i := 9) rfl) rfl) (hed ⟨8, Go.Ground.phase⟩ (Array.mem_of_getElem? (i := 10) rfl) rfl) (hed ⟨9, Go.Ground.phase⟩ (Array.mem_of_getElem? (i := 11) rfl) rfl) (hed ⟨10, Go.Ground.phase⟩ (Array.mem_of_getElem? (i := 12) rfl) rfl) (hed ⟨11, Go.Ground.phase⟩ (Array.mem_of_getElem? (i := 13) rfl) rfl) (hed ⟨12, Go.Ground.phase⟩ (Array.mem_of_getElem? (i := 14) rfl) rfl) (hed ⟨13, Go.Ground.phase⟩ (Array.mem_of_getElem? (i := 15) rfl) rfl) (hed ⟨14, Go.Ground.phase⟩ (Array.mem_of_getElem? (i := 16) rfl) rfl) (hed ⟨15, Go.Ground.phase⟩ (Array.mem_of_getElem? (i := 17) rfl) rfl) (hed ⟨16, Go.Ground.phase⟩ (Array.mem_of_getElem? (i := 18) rfl) rfl) (hed ⟨17, Go.Ground.phase⟩ (Array.mem_of_getElem? (i := 19) rfl) rfl) (hed ⟨18, Go.Ground.phase⟩ (Array.mem_of_getElem? (i := 20) rfl) rfl) (hed ⟨19, Go.Ground.phase⟩ (Array.mem_of_getElem? (i := 21) rfl) rfl) (hed ⟨20, Go.Ground.data⟩ (Array.mem_of_getElem? (i := 0) rfl) rfl) (hed ⟨21, Go.Ground.chain⟩ (Array.mem_of_getElem? (i := 1) rfl) rfl) "outright.go:25" (fun a' W' h => hK a' W' h)

/-- THE REGION -/
theorem bka_region {g len cap k id : Nat} {ad : Addr} {s d : ByteArray} {n : Int} {r1 r2 : Int} {Pre Post : World → Prop} {tm : Array Value} {Q : Exit → Act → World → Prop} {w : World} (hsz : tm.size = 178) (E : bkaEnv g len cap k id ad s d n r1 r2 Pre Post tm) (hT : Pre w.drew)
    (hend : ∀ W, Post W → Q .normal ⟨(((((((((((((((((((((((tm.setIfInBounds 39 (.pointer (some ⟨g, 0, none⟩))).setIfInBounds 40 (.slice (some ad) len cap)).setIfInBounds 41 (.int .i64 (k : Int))).setIfInBounds 42 (.pointer (some (ad.add (k * 3))))).setIfInBounds 43 (.pointer (some (ad.add (k * 3))))).setIfInBounds 44 (.int .u64 (id : Int))).setIfInBounds 45 (.slice (some ad) len cap)).setIfInBounds 46 (.int .i64 (k : Int))).setIfInBounds 47 (.pointer (some (ad.add (k * 3))))).setIfInBounds 48 (.pointer (some ⟨(ad.add (k * 3)).block, (ad.add (k * 3)).off + 1, none⟩))).setIfInBounds 49 (.string s)).setIfInBounds 50 (.slice (some ad) len cap)).setIfInBounds 51 (.int .i64 (k : Int))).setIfInBounds 52 (.pointer (some (ad.add (k * 3))))).setIfInBounds 53 (.pointer (some ⟨(ad.add (k * 3)).block, (ad.add (k * 3)).off + 2, none⟩))).setIfInBounds 54 (.int .i64 n)).setIfInBounds 55 (.string d)).setIfInBounds 56 (.tuple #[.int .i64 r1, .int .i64 r2])).setIfInBounds 38 (.tuple #[.int .i64 r1, .int .i64 r2])).setIfInBounds 57 (.int .i64 r1)).setIfInBounds 58 (.int .i64 r2)).setIfInBounds 7 (.int .i64 r1)).setIfInBounds 8 (.int .i64 r2)), []⟩ W) : (Code.region 9 bkaOps true).wp Tryd.prog Q ⟨tm, []⟩ w := by
  refine wp_region_inv (by kernel_rfl) (by kernel_rfl) ((bkaTb g len cap k id ad s d n r1 r2 Pre Post tm).Inv (fun f W => if f 17 = true then Post W else Pre W)) ⟨hsz, rfl, fun s _ => rfl, fun i d _ hf => (by cases hf), hT⟩ (bka_step E) ?_
  intro f a W hall hI
  have ha := hI.fin hall hsz bka_nodup rfl
  rw [ha]
  exact hend W (by have := hI.held; rwa [if_pos (hall 17 (by decide))] at this)
end Go.Proofs.YtcbeikiglccgaaaDoor

/- TapefmtBack: region 19: a blob is read. Written by gen_rf.py. -/
namespace Go.Proofs.YtcbeikiglccgaaaDoor
open Go.RowKit
open Sm
set_option linter.unusedVariables false
set_option linter.unusedSimpArgs false

def bkbTb (g len cap len2 cap2 k id p : Nat) (ad ad2 : Addr) (r : ByteArray) (e : Int) (Pre Post : World → Prop) (base : Array Value) : Tf where
  slots := [96, 97, 98, 99, 100, 101, 102, 103, 104, 105, 106, 95, 107, 108, 13, 14]
  size := 178
  base := base
  val := fun
    | 0 => .pointer (some ⟨g, 0, none⟩)
    | 1 => .slice (some ad2) len2 cap2
    | 2 => .int .i64 (k : Int)
    | 3 => .pointer (some (ad2.add k))
    | 4 => .int .i64 (p : Int)
    | 5 => .slice (some ad) len cap
    | 6 => .int .i64 (k : Int)
    | 7 => .pointer (some (ad.add (k * 3)))
    | 8 => .pointer (some (ad.add (k * 3)))
    | 9 => .int .u64 (id : Int)
    | 10 => .tuple #[.string r, .int .i64 e]
    | 11 => .tuple #[.string r, .int .i64 e]
    | 12 => .string r
    | 13 => .int .i64 e
    | 14 => .string r
    | 15 => .int .i64 e
    | _ => undef

structure bkbEnv (g len cap len2 cap2 k id p : Nat) (ad ad2 : Addr) (r : ByteArray) (e : Int) (Pre Post : World → Prop) (base : Array Value) : Prop where
  b3 : base[3]?.getD undef = .pointer (some ⟨g, 0, none⟩)
  b4 : base[4]?.getD undef = .slice (some ad2) len2 cap2
  b12 : base[12]?.getD undef = .int .i64 (k : Int)
  b0 : base[0]?.getD undef = .slice (some ad) len cap
  kk : k < len
  kk2 : k < len2
  c : ∀ W, Pre W ∨ Post W → W.cell? (ad.add (k * 3)) = some (.int .u64 (id : Int)) ∧ W.cell? (ad2.add k) = some (.int .i64 (p : Int))
  rd : ∀ W, Pre W → Calls Tryd.prog 18 #[.pointer (some ⟨g, 0, none⟩), .int .i64 (p : Int), .int .u64 (id : Int)] W fun x w' => x = .returned (.tuple #[.string r, .int .i64 e]) ∧ Post w'

theorem bkb_nodup : [96, 97, 98, 99, 100, 101, 102, 103, 104, 105, 106, 95, 107, 108, 13, 14].Nodup := by decide
set_option maxRecDepth 100000 in
theorem bkb_0 {g len cap len2 cap2 k id p : Nat} {ad ad2 : Addr} {r : ByteArray} {e : Int} {Pre Post : World → Prop} {base : Array Value} {f : Nat → Bool} {a : Act} {W : World} {K : Act → World → Prop} {Q : Exit → Act → World → Prop} {ops : Array Oper} (E : bkbEnv g len cap len2 cap2 k id p ad ad2 r e Pre Post base) (hI : (bkbTb g len cap len2 cap2 k id p ad ad2 r e Pre Post base).Inv (fun f W => if f 10 = true then Post W else Pre W) f a W) (hf : f 0 = false) (pos : String) (hK : ∀ a' W', (bkbTb g len cap len2 cap2 k id p ad ad2 r e Pre Post base).Inv (fun f W => if f 10 = true then Post W else Pre W) (hit f 0) a' W' → K a' W') : if Region.wanted { dst := some 96, op := Go.Op.move (Go.Operand.tmp 3), type := 23, pos := pos, after := #[], guard := none } (yielded ops a.tmps) = true then Oper.wp Tryd.prog { dst := some 96, op := Go.Op.move (Go.Operand.tmp 3), type := 23, pos := pos, after := #[], guard := none } a W K Q else K (a.put (some 96) undef) W := by
  have q : a.tmps[3]?.getD undef = .pointer (some ⟨g, 0, none⟩) := (hI.base 3 rfl).trans E.b3
  have R := Lib.hid (hI.step (i := 0) (d := 96) (v := .pointer (some ⟨g, 0, none⟩)) rfl bkb_nodup (show 96 < 178 by decide) rfl (show (if hit f 0 10 = true then Post W else Pre W) by rw [hit_of f 0 10 (by decide)]; exact hI.held))
  clear hI E hf
  go_simp
  exact hK _ _ R.out

set_option maxRecDepth 100000 in
theorem bkb_1 {g len cap len2 cap2 k id p : Nat} {ad ad2 : Addr} {r : ByteArray} {e : Int} {Pre Post : World → Prop} {base : Array Value} {f : Nat → Bool} {a : Act} {W : World} {K : Act → World → Prop} {Q : Exit → Act → World → Prop} {ops : Array Oper} (E : bkbEnv g len cap len2 cap2 k id p ad ad2 r e Pre Post base) (hI : (bkbTb g len cap len2 cap2 k id p ad ad2 r e Pre Post base).Inv (fun f W => if f 10 = true then Post W else Pre W) f a W) (hf : f 1 = false) (pos : String) (hK : ∀ a' W', (bkbTb g len cap len2 cap2 k id p ad ad2 r e Pre Post base).Inv (fun f W => if f 10 = true then Post W else Pre W) (hit f 1) a' W' → K a' W') : if Region.wanted { dst := some 97, op := Go.Op.move (Go.Operand.tmp 4), type := 28, pos := pos, after := #[], guard := none } (yielded ops a.tmps) = true then Oper.wp Tryd.prog { dst := some 97, op := Go.Op.move (Go.Operand.tmp 4), type := 28, pos := pos, after := #[], guard := none } a W K Q else K (a.put (some 97) undef) W := by
  have q : a.tmps[4]?.getD undef = .slice (some ad2) len2 cap2 := (hI.base 4 rfl).trans E.b4
  have R := Lib.hid (hI.step (i := 1) (d := 97) (v := .slice (some ad2) len2 cap2) rfl bkb_nodup (show 97 < 178 by decide) rfl (show (if hit f 1 10 = true then Post W else Pre W) by rw [hit_of f 1 10 (by decide)]; exact hI.held))
  clear hI E hf
  go_simp
  exact hK _ _ R.out

set_option maxRecDepth 100000 in
theorem bkb_2 {g len cap len2 cap2 k id p : Nat} {ad ad2 : Addr} {r : ByteArray} {e : Int} {Pre Post : World → Prop} {base : Array Value} {f : Nat → Bool} {a : Act} {W : World} {K : Act → World → Prop} {Q : Exit → Act → World → Prop} {ops : Array Oper} (E : bkbEnv g len cap len2 cap2 k id p ad ad2 r e Pre Post base) (hI : (bkbTb g len cap len2 cap2 k id p ad ad2 r e Pre Post base).Inv (fun f W => if f 10 = true then Post W else Pre W) f a W) (hf : f 2 = false) (pos : String) (hK : ∀ a' W', (bkbTb g len cap len2 cap2 k id p ad ad2 r e Pre Post base).Inv (fun f W => if f 10 = true then Post W else Pre W) (hit f 2) a' W' → K a' W') : if Region.wanted { dst := some 98, op := Go.Op.move (Go.Operand.tmp 12), type := 3, pos := pos, after := #[], guard := none } (yielded ops a.tmps) = true then Oper.wp Tryd.prog { dst := some 98, op := Go.Op.move (Go.Operand.tmp 12), type := 3, pos := pos, after := #[], guard := none } a W K Q else K (a.put (some 98) undef) W := by
  have q : a.tmps[12]?.getD undef = .int .i64 (k : Int) := (hI.base 12 rfl).trans E.b12
  have R := Lib.hid (hI.step (i := 2) (d := 98) (v := .int .i64 (k : Int)) rfl bkb_nodup (show 98 < 178 by decide) rfl (show (if hit f 2 10 = true then Post W else Pre W) by rw [hit_of f 2 10 (by decide)]; exact hI.held))
  clear hI E hf
  go_simp
  exact hK _ _ R.out

set_option maxRecDepth 100000 in
theorem bkb_3 {g len cap len2 cap2 k id p : Nat} {ad ad2 : Addr} {r : ByteArray} {e : Int} {Pre Post : World → Prop} {base : Array Value} {f : Nat → Bool} {a : Act} {W : World} {K : Act → World → Prop} {Q : Exit → Act → World → Prop} {ops : Array Oper} (E : bkbEnv g len cap len2 cap2 k id p ad ad2 r e Pre Post base) (hI : (bkbTb g len cap len2 cap2 k id p ad ad2 r e Pre Post base).Inv (fun f W => if f 10 = true then Post W else Pre W) f a W) (hf : f 3 = false) (h1 : f 1 = true) (h2 : f 2 = true) (pos : String) (hK : ∀ a' W', (bkbTb g len cap len2 cap2 k id p ad ad2 r e Pre Post base).Inv (fun f W => if f 10 = true then Post W else Pre W) (hit f 3) a' W' → K a' W') : if Region.wanted { dst := some 99, op := Go.Op.indexAddr 28 (Go.Operand.tmp 97) (Go.Operand.tmp 98), type := 0, pos := pos, after := #[{ on := 1, ground := Go.Ground.data }, { on := 2, ground := Go.Ground.data }], guard := none } (yielded ops a.tmps) = true then Oper.wp Tryd.prog { dst := some 99, op := Go.Op.indexAddr 28 (Go.Operand.tmp 97) (Go.Operand.tmp 98), type := 0, pos := pos, after := #[{ on := 1, ground := Go.Ground.data }, { on := 2, ground := Go.Ground.data }], guard := none } a W K Q else K (a.put (some 99) undef) W := by
  have y0 : a.tmps[97]?.getD undef = .slice (some ad2) len2 cap2 := hI.val 1 97 rfl h1
  have y1 : a.tmps[98]?.getD undef = .int .i64 (k : Int) := hI.val 2 98 rfl h2
  have hk := E.kk2
  have i0 : (0 : Int) ≤ (k : Int) := by omega
  have i1 : (k : Int) < (len2 : Int) := by omega
  have R := Lib.hid (hI.step (i := 3) (d := 99) (v := .pointer (some (ad2.add k))) rfl bkb_nodup (show 99 < 178 by decide) rfl (show (if hit f 3 10 = true then Post W else Pre W) by rw [hit_of f 3 10 (by decide)]; exact hI.held))
  clear hI E hf
  go_simp
  exact hK _ _ R.out

set_option maxRecDepth 100000 in
theorem bkb_4 {g len cap len2 cap2 k id p : Nat} {ad ad2 : Addr} {r : ByteArray} {e : Int} {Pre Post : World → Prop} {base : Array Value} {f : Nat → Bool} {a : Act} {W : World} {K : Act → World → Prop} {Q : Exit → Act → World → Prop} {ops : Array Oper} (E : bkbEnv g len cap len2 cap2 k id p ad ad2 r e Pre Post base) (hI : (bkbTb g len cap len2 cap2 k id p ad ad2 r e Pre Post base).Inv (fun f W => if f 10 = true then Post W else Pre W) f a W) (hf : f 4 = false) (h3 : f 3 = true) (pos : String) (hK : ∀ a' W', (bkbTb g len cap len2 cap2 k id p ad ad2 r e Pre Post base).Inv (fun f W => if f 10 = true then Post W else Pre W) (hit f 4) a' W' → K a' W') : if Region.wanted { dst := some 100, op := Go.Op.load 3 (Go.Operand.tmp 99), type := 3, pos := pos, after := #[{ on := 3, ground := Go.Ground.data }], guard := none } (yielded ops a.tmps) = true then Oper.wp Tryd.prog { dst := some 100, op := Go.Op.load 3 (Go.Operand.tmp 99), type := 3, pos := pos, after := #[{ on := 3, ground := Go.Ground.data }], guard := none } a W K Q else K (a.put (some 100) undef) W := by
  have q : a.tmps[99]?.getD undef = .pointer (some (ad2.add k)) := hI.val 3 99 rfl h3
  have c : W.cell? (ad2.add k) = some (.int .i64 (p : Int)) := (E.c W (by have h : (if f 10 = true then Post W else Pre W) := hI.held; by_cases h8 : f 10 = true; (rw [if_pos h8] at h; exact .inr h); (rw [if_neg h8] at h; exact .inl h))).2
  have R := Lib.hid (hI.step (i := 4) (d := 100) (v := .int .i64 (p : Int)) rfl bkb_nodup (show 100 < 178 by decide) rfl (show (if hit f 4 10 = true then Post W else Pre W) by rw [hit_of f 4 10 (by decide)]; exact hI.held))
  clear hI E hf
  go_simp
  exact hK _ _ R.out

set_option maxRecDepth 100000 in
theorem bkb_5 {g len cap len2 cap2 k id p : Nat} {ad ad2 : Addr} {r : ByteArray} {e : Int} {Pre Post : World → Prop} {base : Array Value} {f : Nat → Bool} {a : Act} {W : World} {K : Act → World → Prop} {Q : Exit → Act → World → Prop} {ops : Array Oper} (E : bkbEnv g len cap len2 cap2 k id p ad ad2 r e Pre Post base) (hI : (bkbTb g len cap len2 cap2 k id p ad ad2 r e Pre Post base).Inv (fun f W => if f 10 = true then Post W else Pre W) f a W) (hf : f 5 = false) (pos : String) (hK : ∀ a' W', (bkbTb g len cap len2 cap2 k id p ad ad2 r e Pre Post base).Inv (fun f W => if f 10 = true then Post W else Pre W) (hit f 5) a' W' → K a' W') : if Region.wanted { dst := some 101, op := Go.Op.move (Go.Operand.tmp 0), type := 22, pos := pos, after := #[], guard := none } (yielded ops a.tmps) = true then Oper.wp Tryd.prog { dst := some 101, op := Go.Op.move (Go.Operand.tmp 0), type := 22, pos := pos, after := #[], guard := none } a W K Q else K (a.put (some 101) undef) W := by
  have q : a.tmps[0]?.getD undef = .slice (some ad) len cap := (hI.base 0 rfl).trans E.b0
  have R := Lib.hid (hI.step (i := 5) (d := 101) (v := .slice (some ad) len cap) rfl bkb_nodup (show 101 < 178 by decide) rfl (show (if hit f 5 10 = true then Post W else Pre W) by rw [hit_of f 5 10 (by decide)]; exact hI.held))
  clear hI E hf
  go_simp
  exact hK _ _ R.out

set_option maxRecDepth 100000 in
theorem bkb_6 {g len cap len2 cap2 k id p : Nat} {ad ad2 : Addr} {r : ByteArray} {e : Int} {Pre Post : World → Prop} {base : Array Value} {f : Nat → Bool} {a : Act} {W : World} {K : Act → World → Prop} {Q : Exit → Act → World → Prop} {ops : Array Oper} (E : bkbEnv g len cap len2 cap2 k id p ad ad2 r e Pre Post base) (hI : (bkbTb g len cap len2 cap2 k id p ad ad2 r e Pre Post base).Inv (fun f W => if f 10 = true then Post W else Pre W) f a W) (hf : f 6 = false) (pos : String) (hK : ∀ a' W', (bkbTb g len cap len2 cap2 k id p ad ad2 r e Pre Post base).Inv (fun f W => if f 10 = true then Post W else Pre W) (hit f 6) a' W' → K a' W') : if Region.wanted { dst := some 102, op := Go.Op.move (Go.Operand.tmp 12), type := 3, pos := pos, after := #[], guard := none } (yielded ops a.tmps) = true then Oper.wp Tryd.prog { dst := some 102, op := Go.Op.move (Go.Operand.tmp 12), type := 3, pos := pos, after := #[], guard := none } a W K Q else K (a.put (some 102) undef) W := by
  have q : a.tmps[12]?.getD undef = .int .i64 (k : Int) := (hI.base 12 rfl).trans E.b12
  have R := Lib.hid (hI.step (i := 6) (d := 102) (v := .int .i64 (k : Int)) rfl bkb_nodup (show 102 < 178 by decide) rfl (show (if hit f 6 10 = true then Post W else Pre W) by rw [hit_of f 6 10 (by decide)]; exact hI.held))
  clear hI E hf
  go_simp
  exact hK _ _ R.out

set_option maxRecDepth 100000 in
theorem bkb_7 {g len cap len2 cap2 k id p : Nat} {ad ad2 : Addr} {r : ByteArray} {e : Int} {Pre Post : World → Prop} {base : Array Value} {f : Nat → Bool} {a : Act} {W : World} {K : Act → World → Prop} {Q : Exit → Act → World → Prop} {ops : Array Oper} (E : bkbEnv g len cap len2 cap2 k id p ad ad2 r e Pre Post base) (hI : (bkbTb g len cap len2 cap2 k id p ad ad2 r e Pre Post base).Inv (fun f W => if f 10 = true then Post W else Pre W) f a W) (hf : f 7 = false) (h5 : f 5 = true) (h6 : f 6 = true) (pos : String) (hK : ∀ a' W', (bkbTb g len cap len2 cap2 k id p ad ad2 r e Pre Post base).Inv (fun f W => if f 10 = true then Post W else Pre W) (hit f 7) a' W' → K a' W') : if Region.wanted { dst := some 103, op := Go.Op.indexAddr 22 (Go.Operand.tmp 101) (Go.Operand.tmp 102), type := 0, pos := pos, after := #[{ on := 5, ground := Go.Ground.data }, { on := 6, ground := Go.Ground.data }], guard := none } (yielded ops a.tmps) = true then Oper.wp Tryd.prog { dst := some 103, op := Go.Op.indexAddr 22 (Go.Operand.tmp 101) (Go.Operand.tmp 102), type := 0, pos := pos, after := #[{ on := 5, ground := Go.Ground.data }, { on := 6, ground := Go.Ground.data }], guard := none } a W K Q else K (a.put (some 103) undef) W := by
  have y0 : a.tmps[101]?.getD undef = .slice (some ad) len cap := hI.val 5 101 rfl h5
  have y1 : a.tmps[102]?.getD undef = .int .i64 (k : Int) := hI.val 6 102 rfl h6
  have hk := E.kk
  have i0 : (0 : Int) ≤ (k : Int) := by omega
  have i1 : (k : Int) < (len : Int) := by omega
  have R := Lib.hid (hI.step (i := 7) (d := 103) (v := .pointer (some (ad.add (k * 3)))) rfl bkb_nodup (show 103 < 178 by decide) rfl (show (if hit f 7 10 = true then Post W else Pre W) by rw [hit_of f 7 10 (by decide)]; exact hI.held))
  clear hI E hf
  go_simp
  exact hK _ _ R.out

set_option maxRecDepth 100000 in
theorem bkb_8 {g len cap len2 cap2 k id p : Nat} {ad ad2 : Addr} {r : ByteArray} {e : Int} {Pre Post : World → Prop} {base : Array Value} {f : Nat → Bool} {a : Act} {W : World} {K : Act → World → Prop} {Q : Exit → Act → World → Prop} {ops : Array Oper} (E : bkbEnv g len cap len2 cap2 k id p ad ad2 r e Pre Post base) (hI : (bkbTb g len cap len2 cap2 k id p ad ad2 r e Pre Post base).Inv (fun f W => if f 10 = true then Post W else Pre W) f a W) (hf : f 8 = false) (h7 : f 7 = true) (pos : String) (hK : ∀ a' W', (bkbTb g len cap len2 cap2 k id p ad ad2 r e Pre Post base).Inv (fun f W => if f 10 = true then Post W else Pre W) (hit f 8) a' W' → K a' W') : if Region.wanted { dst := some 104, op := Go.Op.fieldAddr 33 (Go.Operand.tmp 103) 0, type := 0, pos := pos, after := #[{ on := 7, ground := Go.Ground.data }], guard := none } (yielded ops a.tmps) = true then Oper.wp Tryd.prog { dst := some 104, op := Go.Op.fieldAddr 33 (Go.Operand.tmp 103) 0, type := 0, pos := pos, after := #[{ on := 7, ground := Go.Ground.data }], guard := none } a W K Q else K (a.put (some 104) undef) W := by
  have q : a.tmps[103]?.getD undef = .pointer (some (ad.add (k * 3))) := hI.val 7 103 rfl h7
  have R := Lib.hid (hI.step (i := 8) (d := 104) (v := .pointer (some (ad.add (k * 3)))) rfl bkb_nodup (show 104 < 178 by decide) rfl (show (if hit f 8 10 = true then Post W else Pre W) by rw [hit_of f 8 10 (by decide)]; exact hI.held))
  clear hI E hf
  go_simp
  exact hK _ _ R.out

set_option maxRecDepth 100000 in
theorem bkb_9 {g len cap len2 cap2 k id p : Nat} {ad ad2 : Addr} {r : ByteArray} {e : Int} {Pre Post : World → Prop} {base : Array Value} {f : Nat → Bool} {a : Act} {W : World} {K : Act → World → Prop} {Q : Exit → Act → World → Prop} {ops : Array Oper} (E : bkbEnv g len cap len2 cap2 k id p ad ad2 r e Pre Post base) (hI : (bkbTb g len cap len2 cap2 k id p ad ad2 r e Pre Post base).Inv (fun f W => if f 10 = true then Post W else Pre W) f a W) (hf : f 9 = false) (h8 : f 8 = true) (pos : String) (hK : ∀ a' W', (bkbTb g len cap len2 cap2 k id p ad ad2 r e Pre Post base).Inv (fun f W => if f 10 = true then Post W else Pre W) (hit f 9) a' W' → K a' W') : if Region.wanted { dst := some 105, op := Go.Op.load 31 (Go.Operand.tmp 104), type := 31, pos := pos, after := #[{ on := 8, ground := Go.Ground.data }], guard := none } (yielded ops a.tmps) = true then Oper.wp Tryd.prog { dst := some 105, op := Go.Op.load 31 (Go.Operand.tmp 104), type := 31, pos := pos, after := #[{ on := 8, ground := Go.Ground.data }], guard := none } a W K Q else K (a.put (some 105) undef) W := by
  have q : a.tmps[104]?.getD undef = .pointer (some (ad.add (k * 3))) := hI.val 8 104 rfl h8
  have c : W.cell? (ad.add (k * 3)) = some (.int .u64 (id : Int)) := (E.c W (by have h : (if f 10 = true then Post W else Pre W) := hI.held; by_cases h8 : f 10 = true; (rw [if_pos h8] at h; exact .inr h); (rw [if_neg h8] at h; exact .inl h))).1
  have R := Lib.hid (hI.step (i := 9) (d := 105) (v := .int .u64 (id : Int)) rfl bkb_nodup (show 105 < 178 by decide) rfl (show (if hit f 9 10 = true then Post W else Pre W) by rw [hit_of f 9 10 (by decide)]; exact hI.held))
  clear hI E hf
  go_simp
  exact hK _ _ R.out

set_option maxRecDepth 100000 in
theorem bkb_10 {g len cap len2 cap2 k id p : Nat} {ad ad2 : Addr} {r : ByteArray} {e : Int} {Pre Post : World → Prop} {base : Array Value} {f : Nat → Bool} {a : Act} {W : World} {K : Act → World → Prop} {Q : Exit → Act → World → Prop} {ops : Array Oper} (E : bkbEnv g len cap len2 cap2 k id p ad ad2 r e Pre Post base) (hI : (bkbTb g len cap len2 cap2 k id p ad ad2 r e Pre Post base).Inv (fun f W => if f 10 = true then Post W else Pre W) f a W) (hf : f 10 = false) (h0 : f 0 = true) (h4 : f 4 = true) (h9 : f 9 = true) (pos : String) (hK : ∀ a' W', (bkbTb g len cap len2 cap2 k id p ad ad2 r e Pre Post base).Inv (fun f W => if f 10 = true then Post W else Pre W) (hit f 10) a' W' → K a' W') : if Region.wanted { dst := some 106, op := Go.Op.call { callee := Go.Callee.value (Go.Operand.func 18), args := #[Go.Operand.tmp 96, Go.Operand.tmp 100, Go.Operand.tmp 105], argTypes := #[23, 3, 31] }, type := 39, pos := pos, after := #[{ on := 0, ground := Go.Ground.data }, { on := 4, ground := Go.Ground.data }, { on := 9, ground := Go.Ground.data }], guard := none } (yielded ops a.tmps) = true then Oper.wp Tryd.prog { dst := some 106, op := Go.Op.call { callee := Go.Callee.value (Go.Operand.func 18), args := #[Go.Operand.tmp 96, Go.Operand.tmp 100, Go.Operand.tmp 105], argTypes := #[23, 3, 31] }, type := 39, pos := pos, after := #[{ on := 0, ground := Go.Ground.data }, { on := 4, ground := Go.Ground.data }, { on := 9, ground := Go.Ground.data }], guard := none } a W K Q else K (a.put (some 106) undef) W := by
  have y0 : a.tmps[96]?.getD undef = .pointer (some ⟨g, 0, none⟩) := hI.val 0 96 rfl h0
  have y1 : a.tmps[100]?.getD undef = .int .i64 (p : Int) := hI.val 4 100 rfl h4
  have y2 : a.tmps[105]?.getD undef = .int .u64 (id : Int) := hI.val 9 105 rfl h9
  have hp : Pre W := by have := hI.held; simp only [hf] at this; simpa using this
  have hC := E.rd W hp
  have HR := Lib.hid (fun W1 (hb : Post W1) => hI.step (i := 10) (d := 106) (v := .tuple #[.string r, .int .i64 e]) rfl bkb_nodup (show 106 < 178 by decide) rfl (show (if hit f 10 10 = true then Post W1 else Pre W1) by rw [hit_at, if_pos rfl]; exact hb))
  clear hI E hf hp
  go_simp
  refine hC.mono ?_
  rintro e W1 ⟨rfl, hb⟩
  exact hK _ _ (HR.out W1 hb)

set_option maxRecDepth 100000 in
theorem bkb_11 {g len cap len2 cap2 k id p : Nat} {ad ad2 : Addr} {r : ByteArray} {e : Int} {Pre Post : World → Prop} {base : Array Value} {f : Nat → Bool} {a : Act} {W : World} {K : Act → World → Prop} {Q : Exit → Act → World → Prop} {ops : Array Oper} (E : bkbEnv g len cap len2 cap2 k id p ad ad2 r e Pre Post base) (hI : (bkbTb g len cap len2 cap2 k id p ad ad2 r e Pre Post base).Inv (fun f W => if f 10 = true then Post W else Pre W) f a W) (hf : f 11 = false) (h10 : f 10 = true) (pos : String) (hK : ∀ a' W', (bkbTb g len cap len2 cap2 k id p ad ad2 r e Pre Post base).Inv (fun f W => if f 10 = true then Post W else Pre W) (hit f 11) a' W' → K a' W') : if Region.wanted { dst := some 95, op := Go.Op.move (Go.Operand.tmp 106), type := 39, pos := pos, after := #[{ on := 10, ground := Go.Ground.data }], guard := none } (yielded ops a.tmps) = true then Oper.wp Tryd.prog { dst := some 95, op := Go.Op.move (Go.Operand.tmp 106), type := 39, pos := pos, after := #[{ on := 10, ground := Go.Ground.data }], guard := none } a W K Q else K (a.put (some 95) undef) W := by
  have q : a.tmps[106]?.getD undef = .tuple #[.string r, .int .i64 e] := hI.val 10 106 rfl h10
  have R := Lib.hid (hI.step (i := 11) (d := 95) (v := .tuple #[.string r, .int .i64 e]) rfl bkb_nodup (show 95 < 178 by decide) rfl (show (if hit f 11 10 = true then Post W else Pre W) by rw [hit_of f 11 10 (by decide)]; exact hI.held))
  clear hI E hf
  go_simp
  exact hK _ _ R.out

set_option maxRecDepth 100000 in
theorem bkb_12 {g len cap len2 cap2 k id p : Nat} {ad ad2 : Addr} {r : ByteArray} {e : Int} {Pre Post : World → Prop} {base : Array Value} {f : Nat → Bool} {a : Act} {W : World} {K : Act → World → Prop} {Q : Exit → Act → World → Prop} {ops : Array Oper} (E : bkbEnv g len cap len2 cap2 k id p ad ad2 r e Pre Post base) (hI : (bkbTb g len cap len2 cap2 k id p ad ad2 r e Pre Post base).Inv (fun f W => if f 10 = true then Post W else Pre W) f a W) (hf : f 12 = false) (h11 : f 11 = true) (pos : String) (hK : ∀ a' W', (bkbTb g len cap len2 cap2 k id p ad ad2 r e Pre Post base).Inv (fun f W => if f 10 = true then Post W else Pre W) (hit f 12) a' W' → K a' W') : if Region.wanted { dst := some 107, op := Go.Op.extract (Go.Operand.tmp 95) 0, type := 9, pos := pos, after := #[{ on := 11, ground := Go.Ground.data }], guard := none } (yielded ops a.tmps) = true then Oper.wp Tryd.prog { dst := some 107, op := Go.Op.extract (Go.Operand.tmp 95) 0, type := 9, pos := pos, after := #[{ on := 11, ground := Go.Ground.data }], guard := none } a W K Q else K (a.put (some 107) undef) W := by
  have q : a.tmps[95]?.getD undef = .tuple #[.string r, .int .i64 e] := hI.val 11 95 rfl h11
  have R := Lib.hid (hI.step (i := 12) (d := 107) (v := .string r) rfl bkb_nodup (show 107 < 178 by decide) rfl (show (if hit f 12 10 = true then Post W else Pre W) by rw [hit_of f 12 10 (by decide)]; exact hI.held))
  clear hI E hf
  go_simp
  exact hK _ _ R.out

set_option maxRecDepth 100000 in
theorem bkb_13 {g len cap len2 cap2 k id p : Nat} {ad ad2 : Addr} {r : ByteArray} {e : Int} {Pre Post : World → Prop} {base : Array Value} {f : Nat → Bool} {a : Act} {W : World} {K : Act → World → Prop} {Q : Exit → Act → World → Prop} {ops : Array Oper} (E : bkbEnv g len cap len2 cap2 k id p ad ad2 r e Pre Post base) (hI : (bkbTb g len cap len2 cap2 k id p ad ad2 r e Pre Post base).Inv (fun f W => if f 10 = true then Post W else Pre W) f a W) (hf : f 13 = false) (h11 : f 11 = true) (pos : String) (hK : ∀ a' W', (bkbTb g len cap len2 cap2 k id p ad ad2 r e Pre Post base).Inv (fun f W => if f 10 = true then Post W else Pre W) (hit f 13) a' W' → K a' W') : if Region.wanted { dst := some 108, op := Go.Op.extract (Go.Operand.tmp 95) 1, type := 26, pos := pos, after := #[{ on := 11, ground := Go.Ground.data }, { on := 14, ground := Go.Ground.gcOnly Go.Departure.lateStores }], guard := none } (yielded ops a.tmps) = true then Oper.wp Tryd.prog { dst := some 108, op := Go.Op.extract (Go.Operand.tmp 95) 1, type := 26, pos := pos, after := #[{ on := 11, ground := Go.Ground.data }, { on := 14, ground := Go.Ground.gcOnly Go.Departure.lateStores }], guard := none } a W K Q else K (a.put (some 108) undef) W := by
  have q : a.tmps[95]?.getD undef = .tuple #[.string r, .int .i64 e] := hI.val 11 95 rfl h11
  have R := Lib.hid (hI.step (i := 13) (d := 108) (v := .int .i64 e) rfl bkb_nodup (show 108 < 178 by decide) rfl (show (if hit f 13 10 = true then Post W else Pre W) by rw [hit_of f 13 10 (by decide)]; exact hI.held))
  clear hI E hf
  go_simp
  exact hK _ _ R.out

set_option maxRecDepth 100000 in
theorem bkb_14 {g len cap len2 cap2 k id p : Nat} {ad ad2 : Addr} {r : ByteArray} {e : Int} {Pre Post : World → Prop} {base : Array Value} {f : Nat → Bool} {a : Act} {W : World} {K : Act → World → Prop} {Q : Exit → Act → World → Prop} {ops : Array Oper} (E : bkbEnv g len cap len2 cap2 k id p ad ad2 r e Pre Post base) (hI : (bkbTb g len cap len2 cap2 k id p ad ad2 r e Pre Post base).Inv (fun f W => if f 10 = true then Post W else Pre W) f a W) (hf : f 14 = false) (h0 : f 0 = true) (h1 : f 1 = true) (h2 : f 2 = true) (h3 : f 3 = true) (h4 : f 4 = true) (h5 : f 5 = true) (h6 : f 6 = true) (h7 : f 7 = true) (h8 : f 8 = true) (h9 : f 9 = true) (h10 : f 10 = true) (h11 : f 11 = true) (h12 : f 12 = true) (pos : String) (hK : ∀ a' W', (bkbTb g len cap len2 cap2 k id p ad ad2 r e Pre Post base).Inv (fun f W => if f 10 = true then Post W else Pre W) (hit f 14) a' W' → K a' W') : if Region.wanted { dst := some 13, op := Go.Op.assign (Go.Operand.tmp 107), type := 9, pos := pos, after := #[{ on := 12, ground := Go.Ground.data }, { on := 10, ground := Go.Ground.chain }, { on := 0, ground := Go.Ground.phase }, { on := 1, ground := Go.Ground.phase }, { on := 2, ground := Go.Ground.phase }, { on := 3, ground := Go.Ground.phase }, { on := 4, ground := Go.Ground.phase }, { on := 5, ground := Go.Ground.phase }, { on := 6, ground := Go.Ground.phase }, { on := 7, ground := Go.Ground.phase }, { on := 8, ground := Go.Ground.phase }, { on := 9, ground := Go.Ground.phase }, { on := 10, ground := Go.Ground.phase }, { on := 11, ground := Go.Ground.phase }, { on := 12, ground := Go.Ground.phase }, { on := 13, ground := Go.Ground.textOnly Go.Departure.lateStores }], guard := none } (yielded ops a.tmps) = true then Oper.wp Tryd.prog { dst := some 13, op := Go.Op.assign (Go.Operand.tmp 107), type := 9, pos := pos, after := #[{ on := 12, ground := Go.Ground.data }, { on := 10, ground := Go.Ground.chain }, { on := 0, ground := Go.Ground.phase }, { on := 1, ground := Go.Ground.phase }, { on := 2, ground := Go.Ground.phase }, { on := 3, ground := Go.Ground.phase }, { on := 4, ground := Go.Ground.phase }, { on := 5, ground := Go.Ground.phase }, { on := 6, ground := Go.Ground.phase }, { on := 7, ground := Go.Ground.phase }, { on := 8, ground := Go.Ground.phase }, { on := 9, ground := Go.Ground.phase }, { on := 10, ground := Go.Ground.phase }, { on := 11, ground := Go.Ground.phase }, { on := 12, ground := Go.Ground.phase }, { on := 13, ground := Go.Ground.textOnly Go.Departure.lateStores }], guard := none } a W K Q else K (a.put (some 13) undef) W := by
  have q : a.tmps[107]?.getD undef = .string r := hI.val 12 107 rfl h12
  have R := Lib.hid (hI.step (i := 14) (d := 13) (v := .string r) rfl bkb_nodup (show 13 < 178 by decide) rfl (show (if hit f 14 10 = true then Post W else Pre W) by rw [hit_of f 14 10 (by decide)]; exact hI.held))
  clear hI E hf
  go_simp
  exact hK _ _ R.out

set_option maxRecDepth 100000 in
theorem bkb_15 {g len cap len2 cap2 k id p : Nat} {ad ad2 : Addr} {r : ByteArray} {e : Int} {Pre Post : World → Prop} {base : Array Value} {f : Nat → Bool} {a : Act} {W : World} {K : Act → World → Prop} {Q : Exit → Act → World → Prop} {ops : Array Oper} (E : bkbEnv g len cap len2 cap2 k id p ad ad2 r e Pre Post base) (hI : (bkbTb g len cap len2 cap2 k id p ad ad2 r e Pre Post base).Inv (fun f W => if f 10 = true then Post W else Pre W) f a W) (hf : f 15 = false) (h0 : f 0 = true) (h1 : f 1 = true) (h2 : f 2 = true) (h3 : f 3 = true) (h4 : f 4 = true) (h5 : f 5 = true) (h6 : f 6 = true) (h7 : f 7 = true) (h8 : f 8 = true) (h9 : f 9 = true) (h10 : f 10 = true) (h11 : f 11 = true) (h12 : f 12 = true) (h13 : f 13 = true) (h14 : f 14 = true) (pos : String) (hK : ∀ a' W', (bkbTb g len cap len2 cap2 k id p ad ad2 r e Pre Post base).Inv (fun f W => if f 10 = true then Post W else Pre W) (hit f 15) a' W' → K a' W') : if Region.wanted { dst := some 14, op := Go.Op.assign (Go.Operand.tmp 108), type := 26, pos := pos, after := #[{ on := 13, ground := Go.Ground.data }, { on := 14, ground := Go.Ground.chain }, { on := 0, ground := Go.Ground.phase }, { on := 1, ground := Go.Ground.phase }, { on := 2, ground := Go.Ground.phase }, { on := 3, ground := Go.Ground.phase }, { on := 4, ground := Go.Ground.phase }, { on := 5, ground := Go.Ground.phase }, { on := 6, ground := Go.Ground.phase }, { on := 7, ground := Go.Ground.phase }, { on := 8, ground := Go.Ground.phase }, { on := 9, ground := Go.Ground.phase }, { on := 10, ground := Go.Ground.phase }, { on := 11, ground := Go.Ground.phase }, { on := 12, ground := Go.Ground.phase }, { on := 13, ground := Go.Ground.phase }, { on := 14, ground := Go.Ground.phase }], guard := none } (yielded ops a.tmps) = true then Oper.wp Tryd.prog { dst := some 14, op := Go.Op.assign (Go.Operand.tmp 108), type := 26, pos := pos, after := #[{ on := 13, ground := Go.Ground.data }, { on := 14, ground := Go.Ground.chain }, { on := 0, ground := Go.Ground.phase }, { on := 1, ground := Go.Ground.phase }, { on := 2, ground := Go.Ground.phase }, { on := 3, ground := Go.Ground.phase }, { on := 4, ground := Go.Ground.phase }, { on := 5, ground := Go.Ground.phase }, { on := 6, ground := Go.Ground.phase }, { on := 7, ground := Go.Ground.phase }, { on := 8, ground := Go.Ground.phase }, { on := 9, ground := Go.Ground.phase }, { on := 10, ground := Go.Ground.phase }, { on := 11, ground := Go.Ground.phase }, { on := 12, ground := Go.Ground.phase }, { on := 13, ground := Go.Ground.phase }, { on := 14, ground := Go.Ground.phase }], guard := none } a W K Q else K (a.put (some 14) undef) W := by
  have q : a.tmps[108]?.getD undef = .int .i64 e := hI.val 13 108 rfl h13
  have R := Lib.hid (hI.step (i := 15) (d := 14) (v := .int .i64 e) rfl bkb_nodup (show 14 < 178 by decide) rfl (show (if hit f 15 10 = true then Post W else Pre W) by rw [hit_of f 15 10 (by decide)]; exact hI.held))
  clear hI E hf
  go_simp
  exact hK _ _ R.out

abbrev bkbOps : Array Oper := #[{ dst := some 96, op := Go.Op.move (Go.Operand.tmp 3), type := 23, pos := "outright.go:36", after := #[], guard := none }, { dst := some 97, op := Go.Op.move (Go.Operand.tmp 4), type := 28, pos := "outright.go:36", after := #[], guard := none }, { dst := some 98, op := Go.Op.move (Go.Operand.tmp 12), type := 3, pos := "outright.go:36", after := #[], guard := none }, { dst := some 99, op := Go.Op.indexAddr 28 (Go.Operand.tmp 97) (Go.Operand.tmp 98), type := 0, pos := "outright.go:36", after := #[{ on := 1, ground := Go.Ground.data }, { on := 2, ground := Go.Ground.data }], guard := none }, { dst := some 100, op := Go.Op.load 3 (Go.Operand.tmp 99), type := 3, pos := "outright.go:36", after := #[{ on := 3, ground := Go.Ground.data }], guard := none }, { dst := some 101, op := Go.Op.move (Go.Operand.tmp 0), type := 22, pos := "outright.go:36", after := #[], guard := none }, { dst := some 102, op := Go.Op.move (Go.Operand.tmp 12), type := 3, pos := "outright.go:36", after := #[], guard := none }, { dst := some 103, op := Go.Op.indexAddr 22 (Go.Operand.tmp 101) (Go.Operand.tmp 102), type := 0, pos := "outright.go:36", after := #[{ on := 5, ground := Go.Ground.data }, { on := 6, ground := Go.Ground.data }], guard := none }, { dst := some 104, op := Go.Op.fieldAddr 33 (Go.Operand.tmp 103) 0, type := 0, pos := "outright.go:36", after := #[{ on := 7, ground := Go.Ground.data }], guard := none }, { dst := some 105, op := Go.Op.load 31 (Go.Operand.tmp 104), type := 31, pos := "outright.go:36", after := #[{ on := 8, ground := Go.Ground.data }], guard := none }, { dst := some 106, op := Go.Op.call { callee := Go.Callee.value (Go.Operand.func 18), args := #[Go.Operand.tmp 96, Go.Operand.tmp 100, Go.Operand.tmp 105], argTypes := #[23, 3, 31] }, type := 39, pos := "outright.go:36", after := #[{ on := 0, ground := Go.Ground.data }, { on := 4, ground := Go.Ground.data }, { on := 9, ground := Go.Ground.data }], guard := none }, { dst := some 95, op := Go.Op.move (Go.Operand.tmp 106), type := 39, pos := "outright.go:36", after := #[{ on := 10, ground := Go.Ground.data }], guard := none }, { dst := some 107, op := Go.Op.extract (Go.Operand.tmp 95) 0, type := 9, pos := "outright.go:36", after := #[{ on := 11, ground := Go.Ground.data }], guard := none }, { dst := some 108, op := Go.Op.extract (Go.Operand.tmp 95) 1, type := 26, pos := "outright.go:36", after := #[{ on := 11, ground := Go.Ground.data }, { on := 14, ground := Go.Ground.gcOnly Go.Departure.lateStores }], guard := none }, { dst := some 13, op := Go.Op.assign (Go.Operand.tmp 107), type := 9, pos := "outright.go:36", after := #[{ on := 12, ground := Go.Ground.data }, { on := 10, ground := Go.Ground.chain }, { on := 0, ground := Go.Ground.phase }, { on := 1, ground := Go.Ground.phase }, { on := 2, ground := Go.Ground.phase }, { on := 3, ground := Go.Ground.phase }, { on := 4, ground := Go.Ground.phase }, { on := 5, ground := Go.Ground.phase }, { on := 6, ground := Go.Ground.phase }, { on := 7, ground := Go.Ground.phase }, { on := 8, ground := Go.Ground.phase }, { on := 9, ground := Go.Ground.phase }, { on := 10, ground := Go.Ground.phase }, { on := 11, ground := Go.Ground.phase }, { on := 12, ground := Go.Ground.phase }, { on := 13, ground := Go.Ground.textOnly Go.Departure.lateStores }], guard := none }, { dst := some 14, op := Go.Op.assign (Go.Operand.tmp 108), type := 26, pos := "outright.go:36", after := #[{ on := 13, ground := Go.Ground.data }, { on := 14, ground := Go.Ground.chain }, { on := 0, ground := Go.Ground.phase }, { on := 1, ground := Go.Ground.phase }, { on := 2, ground := Go.Ground.phase }, { on := 3, ground := Go.Ground.phase }, { on := 4, ground := Go.Ground.phase }, { on := 5, ground := Go.Ground.phase }, { on := 6, ground := Go.Ground.phase }, { on := 7, ground := Go.Ground.phase }, { on := 8, ground := Go.Ground.phase }, { on := 9, ground := Go.Ground.phase }, { on := 10, ground := Go.Ground.phase }, { on := 11, ground := Go.Ground.phase }, { on := 12, ground := Go.Ground.phase }, { on := 13, ground := Go.Ground.phase }, { on := 14, ground := Go.Ground.phase }], guard := none }]
set_option maxRecDepth 100000 in
set_option maxHeartbeats 4000000 in
theorem bkb_step {g len cap len2 cap2 k id p : Nat} {ad ad2 : Addr} {r : ByteArray} {e : Int} {Pre Post : World → Prop} {base : Array Value} {Q : Exit → Act → World → Prop} (E : bkbEnv g len cap len2 cap2 k id p ad ad2 r e Pre Post base) :
    ∀ f a W i o, bkbOps[i]? = some o → f i = false → (∀ e ∈ o.after, Region.binds .any e = true → f e.on = true) → (bkbTb g len cap len2 cap2 k id p ad ad2 r e Pre Post base).Inv (fun f W => if f 10 = true then Post W else Pre W) f a W → wpOp Tryd.prog bkbOps Q i (fun a' W' => (bkbTb g len cap len2 cap2 k id p ad ad2 r e Pre Post base).Inv (fun f W => if f 10 = true then Post W else Pre W) (hit f i) a' W') a W := by
  intro f a W i o ho hf hed hI
  have hi : i < 16 := (Array.getElem?_eq_some_iff.1 ho).1
  have hc : i = 0 ∨ i = 1 ∨ i = 2 ∨ i = 3 ∨ i = 4 ∨ i = 5 ∨ i = 6 ∨ i = 7 ∨ i = 8 ∨ i = 9 ∨ i = 10 ∨ i = 11 ∨ i = 12 ∨ i = 13 ∨ i = 14 ∨ i = 15 := by omega
  rcases hc with rfl | rfl | rfl | rfl | rfl | rfl | rfl | rfl | rfl | rfl | rfl | rfl | rfl | rfl | rfl | rfl
  · cases ho
    exact wpOp_step (o := { dst := some 96, op := Go.Op.move (Go.Operand.tmp 3), type := 23, pos := "outright.go:36", after := #[], guard := none }) rfl fun K hK => bkb_0 E hI hf "outright.go:36" (fun a' W' h => hK a' W' h)
  · cases ho
    exact wpOp_step (o := { dst := some 97, op := Go.Op.move (Go.Operand.tmp 4), type := 28, pos := "outright.go:36", after := #[], guard := none }) rfl fun K hK => bkb_1 E hI hf "outright.go:36" (fun a' W' h => hK a' W' h)
  · cases ho
    exact wpOp_step (o := { dst := some 98, op := Go.Op.move (Go.Operand.tmp 12), type := 3, pos := "outright.go:36", after := #[], guard := none }) rfl fun K hK => bkb_2 E hI hf "outright.go:36" (fun a' W' h => hK a' W' h)
  · cases ho
    exact wpOp_step (o := { dst := some 99, op := Go.Op.indexAddr 28 (Go.Operand.tmp 97) (Go.Operand.tmp 98), type := 0, pos := "outright.go:36", after := #[{ on := 1, ground := Go.Ground.data }, { on := 2, ground := Go.Ground.data }], guard := none }) rfl fun K hK => bkb_3 E hI hf (hed ⟨1, Go.Ground.data⟩ (Array.mem_of_getElem? (i := 0) rfl) rfl) (hed ⟨2, Go.Ground.data⟩ (Array.mem_of_getElem? (i := 1) rfl) rfl) "outright.go:36" (fun a' W' h => hK a' W' h)
  · cases ho
    exact wpOp_step (o := { dst := some 100, op := Go.Op.load 3 (Go.Operand.tmp 99), type := 3, pos := "outright.go:36", after := #[{ on := 3, ground := Go.Ground.data }], guard := none }) rfl fun K hK => bkb_4 E hI hf (hed ⟨3, Go.Ground.data⟩ (Array.mem_of_getElem? (i := 0) rfl) rfl) "outright.go:36" (fun a' W' h => hK a' W' h)
  · cases ho
    exact wpOp_step (o := { dst := some 101, op := Go.Op.move (Go.Operand.tmp 0), type := 22, pos := "outright.go:36", after := #[], guard := none }) rfl fun K hK => bkb_5 E hI hf "outright.go:36" (fun a' W' h => hK a' W' h)
  · cases ho
    exact wpOp_step (o := { dst := some 102, op := Go.Op.move (Go.Operand.tmp 12), type := 3, pos := "outright.go:36", after := #[], guard := none }) rfl fun K hK => bkb_6 E hI hf "outright.go:36" (fun a' W' h => hK a' W' h)
  · cases ho
    exact wpOp_step (o := { dst := some 103, op := Go.Op.indexAddr 22 (Go.Operand.tmp 101) (Go.Operand.tmp 102), type := 0, pos := "outright.go:36", after := #[{ on := 5, ground := Go.Ground.data }, { on := 6, ground := Go.Ground.data }], guard := none }) rfl fun K hK => bkb_7 E hI hf (hed ⟨5, Go.Ground.data⟩ (Array.mem_of_getElem? (i := 0) rfl) rfl) (hed ⟨6, Go.Ground.data⟩ (Array.mem_of_getElem? (i := 1) rfl) rfl) "outright.go:36" (fun a' W' h => hK a' W' h)
  · cases ho
    exact wpOp_step (o := { dst := some 104, op := Go.Op.fieldAddr 33 (Go.Operand.tmp 103) 0, type := 0, pos := "outright.go:36", after := #[{ on := 7, ground := Go.Ground.data }], guard := none }) rfl fun K hK => bkb_8 E hI hf (hed ⟨7, Go.Ground.data⟩ (Array.mem_of_getElem? (i := 0) rfl) rfl) "outright.go:36" (fun a' W' h => hK a' W' h)
  · cases ho
    exact wpOp_step (o := { dst := some 105, op := Go.Op.load 31 (Go.Operand.tmp 104), type := 31, pos := "outright.go:36", after := #[{ on := 8, ground := Go.Ground.data }], guard := none }) rfl fun K hK => bkb_9 E hI hf (hed ⟨8, Go.Ground.data⟩ (Array.mem_of_getElem? (i := 0) rfl) rfl) "outright.go:36" (fun a' W' h => hK a' W' h)
  · cases ho
    exact wpOp_step (o := { dst := some 106, op := Go.Op.call { callee := Go.Callee.value (Go.Operand.func 18), args := #[Go.Operand.tmp 96, Go.Operand.tmp 100, Go.Operand.tmp 105], argTypes := #[23, 3, 31] }, type := 39, pos := "outright.go:36", after := #[{ on := 0, ground := Go.Ground.data }, { on := 4, ground := Go.Ground.data }, { on := 9, ground := Go.Ground.data }], guard := none }) rfl fun K hK => bkb_10 E hI hf (hed ⟨0, Go.Ground.data⟩ (Array.mem_of_getElem? (i := 0) rfl) rfl) (hed ⟨4, Go.Ground.data⟩ (Array.mem_of_getElem? (i := 1) rfl) rfl) (hed ⟨9, Go.Ground.data⟩ (Array.mem_of_getElem? (i := 2) rfl) rfl) "outright.go:36" (fun a' W' h => hK a' W' h)
  · cases ho
    exact wpOp_step (o := { dst := some 95, op := Go.Op.move (Go.Operand.tmp 106), type := 39, pos := "outright.go:36", after := #[{ on := 10, ground := Go.Ground.data }], guard := none }) rfl fun K hK => bkb_11 E hI hf (hed ⟨10, Go.Ground.data⟩ (Array.mem_of_getElem? (i := 0) rfl) rfl) "outright.go:36" (fun a' W' h => hK a' W' h)
  · cases ho
    exact wpOp_step (o := { dst := some 107, op := Go.Op.extract (Go.Operand.tmp 95) 0, type := 9, pos := "outright.go:36", after := #[{ on := 11, ground := Go.Ground.data }], guard := none }) rfl fun K hK => bkb_12 E hI hf (hed ⟨11, Go.Ground.data⟩ (Array.mem_of_getElem? (i := 0) rfl) rfl) "outright.go:36" (fun a' W' h => hK a' W' h)
  · cases ho
    exact wpOp_step (o := { dst := some 108, op := Go.Op.extract (Go.Operand.tmp 95) 1, type := 26, pos := "outright.go:36", after := #[{ on := 11, ground := Go.Ground.data }, { on := 14, ground := Go.Ground.gcOnly Go.Departure.lateStores }], guard := none }) rfl fun K hK => bkb_13 E hI hf (hed ⟨11, Go.Ground.data⟩ (Array.mem_of_getElem? (i := 0) rfl) rfl) "outright.go:36" (fun a' W' h => hK a' W' h)
  · cases ho
    exact wpOp_step (o := { dst := some 13, op := Go.Op.assign (Go.Operand.tmp 107), type := 9, pos := "outright.go:36", after := #[{ on := 12, ground := Go.Ground.data }, { on := 10, ground := Go.Ground.chain }, { on := 0, ground := Go.Ground.phase }, { on := 1, ground := Go.Ground.phase }, { on := 2, ground := Go.Ground.phase }, { on := 3, ground := Go.Ground.phase }, { on := 4, ground := Go.Ground.phase }, { on := 5, ground := Go.Ground.phase }, { on := 6, ground := Go.Ground.phase }, { on := 7, ground := Go.Ground.phase }, { on := 8, ground := Go.Ground.phase }, { on := 9, ground := Go.Ground.phase }, { on := 10, ground := Go.Ground.phase }, { on := 11, ground := Go.Ground.phase }, { on := 12, ground := Go.Ground.phase }, { on := 13, ground := Go.Ground.textOnly Go.Departure.lateStores }], guard := none }) rfl fun K hK => bkb_14 E hI hf (hed ⟨0, Go.Ground.phase⟩ (Array.mem_of_getElem? (i := 2) rfl) rfl) (hed ⟨1, Go.Ground.phase⟩ (Array.mem_of_getElem? (i := 3) rfl) rfl) (hed ⟨2, Go.Ground.phase⟩ (Array.mem_of_getElem? (i := 4) rfl) rfl) (hed ⟨3, Go.Ground.phase⟩ (Array.mem_of_getElem? (i := 5) rfl) rfl) (hed ⟨4, Go.Ground.phase⟩ (Array.mem_of_getElem? (i := 6) rfl) rfl) (hed ⟨5, Go.Ground.phase⟩ (Array.mem_of_getElem? (i := 7) rfl) rfl) (hed ⟨6, Go.Ground.phase⟩ (Array.mem_of_getElem? (i := 8) rfl) rfl) (hed ⟨7, Go.Ground.phase⟩ (Array.mem_of_getElem? (i := 9) rfl) rfl) (hed ⟨8, Go.Ground.phase⟩ (Array.mem_of_getElem? (i := 10) rfl) rfl) (hed ⟨9, Go.Ground.phase⟩ (Array.mem_of_getElem? (i := 11) rfl) rfl) (hed ⟨10, Go.Ground.chain⟩ (Array.mem_of_getElem? (i := 1) rfl) rfl) (hed ⟨11, Go.Ground.phase⟩ (Array.mem_of_getElem? (i := 13) rfl) rfl) (hed ⟨12, Go.Ground.data⟩ (Array.mem_of_getElem? (i := 0) rfl) rfl) "outright.go:36" (fun a' W' h => hK a' W' h)
  · cases ho
    exact wpOp_step (o := { dst := some 14, op := Go.Op.assign (Go.Operand.tmp 108), type := 26, pos := "outright.go:36", after := #[{ on := 13, ground := Go.Ground.data }, { on := 14, ground := Go.Ground.chain }, { on := 0, ground := Go.Ground.phase }, { on := 1, ground := Go.Ground.phase }, { on := 2, ground := Go.Ground.phase }, { on := 3, ground := Go.Ground.phase }, { on := 4, ground := Go.Ground.phase }, { on := 5, ground := Go.Ground.phase }, { on := 6, ground := Go.Ground.phase }, { on := 7, ground := Go.Ground.phase }, { on := 8, ground := Go.Ground.phase }, { on := 9, ground := Go.Ground.phase }, { on := 10, ground := Go.Ground.phase }, { on := 11, ground := Go.Ground.phase }, { on := 12, ground := Go.Ground.phase }, { on := 13, ground := Go.Ground.phase }, { on := 14, ground := Go.Ground.phase }], guard := none }) rfl fun K hK => bkb_15 E hI hf (hed ⟨0, Go.Ground.phase⟩ (Array.mem_of_getElem? (i := 2) rfl) rfl) (hed ⟨1, Go.Ground.phase⟩ (Array.mem_of_getElem? (i := 3) rfl) rfl) (hed ⟨2, Go.Ground.phase⟩ (Array.mem_of_getElem? (i := 4) rfl) rfl) (hed ⟨3, Go.Ground.phase⟩ (Array.mem_of_getElem? (i := 5) rfl) rfl) (hed ⟨4, Go.Ground.phase⟩ (Array.mem_of_getElem? (i := 6) rfl) rfl) (hed ⟨5, Go.Ground.phase⟩ (Array.mem_of_getElem? (i := 7) rfl) rfl) (hed ⟨6, Go.Ground.phase⟩ (Array.mem_of_getElem? (i := 8) rfl) rfl) (hed ⟨7, Go.Ground.phase⟩ (Array.mem_of_getElem? (i := 9) rfl) rfl) (hed ⟨8, Go.Ground.phase⟩ (Array.mem_of_getElem? (i := 10) rfl) rfl) (hed ⟨9, Go.Ground.phase⟩ (Array.mem_of_getElem? (i := 11) rfl) rfl) (hed ⟨10, Go.Ground.phase⟩ (Array.mem_of_getElem? (i := 12) rfl) rfl) (hed ⟨11, Go.Ground.phase⟩ (Array.mem_of_getElem? (i := 13) rfl) rfl) (hed ⟨12, Go.Ground.phase⟩ (Array.mem_of_getElem? (i := 14) rfl) rfl) (hed ⟨13, Go.Ground.data⟩ (Array.mem_of_getElem? (i := 0) rfl) rfl) (hed ⟨14, Go.Ground.chain⟩ (Array.mem_of_getElem? (i := 1) rfl) rfl) "outright.go:36" (fun a' W' h => hK a' W' h)

/-- THE REGION -/
theorem bkb_region {g len cap len2 cap2 k id p : Nat} {ad ad2 : Addr} {r : ByteArray} {e : Int} {Pre Post : World → Prop} {tm : Array Value} {Q : Exit → Act → World → Prop} {w : World} (hsz : tm.size = 178) (E : bkbEnv g len cap len2 cap2 k id p ad ad2 r e Pre Post tm) (hT : Pre w.drew)
    (hend : ∀ W, Post W → Q .normal ⟨((((((((((((((((tm.setIfInBounds 96 (.pointer (some ⟨g, 0, none⟩))).setIfInBounds 97 (.slice (some ad2) len2 cap2)).setIfInBounds 98 (.int .i64 (k : Int))).setIfInBounds 99 (.pointer (some (ad2.add k)))).setIfInBounds 100 (.int .i64 (p : Int))).setIfInBounds 101 (.slice (some ad) len cap)).setIfInBounds 102 (.int .i64 (k : Int))).setIfInBounds 103 (.pointer (some (ad.add (k * 3))))).setIfInBounds 104 (.pointer (some (ad.add (k * 3))))).setIfInBounds 105 (.int .u64 (id : Int))).setIfInBounds 106 (.tuple #[.string r, .int .i64 e])).setIfInBounds 95 (.tuple #[.string r, .int .i64 e])).setIfInBounds 107 (.string r)).setIfInBounds 108 (.int .i64 e)).setIfInBounds 13 (.string r)).setIfInBounds 14 (.int .i64 e)), []⟩ W) : (Code.region 19 bkbOps true).wp Tryd.prog Q ⟨tm, []⟩ w := by
  refine wp_region_inv (by kernel_rfl) (by kernel_rfl) ((bkbTb g len cap len2 cap2 k id p ad ad2 r e Pre Post tm).Inv (fun f W => if f 10 = true then Post W else Pre W)) ⟨hsz, rfl, fun s _ => rfl, fun i d _ hf => (by cases hf), hT⟩ (bkb_step E) ?_
  intro f a W hall hI
  have ha := hI.fin hall hsz bkb_nodup rfl
  rw [ha]
  exact hend W (by have := hI.held; rwa [if_pos (hall 10 (by decide))] at this)
end Go.Proofs.YtcbeikiglccgaaaDoor

/- TapefmtBack: region 22: another blob is asked for. Written by gen_rf.py. -/
namespace Go.Proofs.YtcbeikiglccgaaaDoor
open Go.RowKit
open Sm
set_option linter.unusedVariables false
set_option linter.unusedSimpArgs false

def bkdTb (g len cap len2 cap2 k id id2 p : Nat) (ad ad2 : Addr) (r : ByteArray) (e : Int) (Pre Post : World → Prop) (base : Array Value) : Tf where
  slots := [162, 163, 164, 165, 166, 167, 168, 169, 170, 171, 172, 173, 161, 174, 175, 15, 16]
  size := 178
  base := base
  val := fun
    | 0 => .pointer (some ⟨g, 0, none⟩)
    | 1 => .slice (some ad2) len2 cap2
    | 2 => .int .i64 (k : Int)
    | 3 => .pointer (some (ad2.add k))
    | 4 => .int .i64 (p : Int)
    | 5 => .slice (some ad) len cap
    | 6 => .int .i64 (k : Int)
    | 7 => .pointer (some (ad.add (k * 3)))
    | 8 => .pointer (some (ad.add (k * 3)))
    | 9 => .int .u64 (id : Int)
    | 10 => .int .u64 (id2 : Int)
    | 11 => .tuple #[.string r, .int .i64 e]
    | 12 => .tuple #[.string r, .int .i64 e]
    | 13 => .string r
    | 14 => .int .i64 e
    | 15 => .string r
    | 16 => .int .i64 e
    | _ => undef

structure bkdEnv (g len cap len2 cap2 k id id2 p : Nat) (ad ad2 : Addr) (r : ByteArray) (e : Int) (Pre Post : World → Prop) (base : Array Value) : Prop where
  b3 : base[3]?.getD undef = .pointer (some ⟨g, 0, none⟩)
  b4 : base[4]?.getD undef = .slice (some ad2) len2 cap2
  b12 : base[12]?.getD undef = .int .i64 (k : Int)
  b0 : base[0]?.getD undef = .slice (some ad) len cap
  kk : k < len
  kk2 : k < len2
  c : ∀ W, Pre W ∨ Post W → W.cell? (ad.add (k * 3)) = some (.int .u64 (id : Int)) ∧ W.cell? (ad2.add k) = some (.int .i64 (p : Int))
  rd : ∀ W, Pre W → Calls Tryd.prog 18 #[.pointer (some ⟨g, 0, none⟩), .int .i64 (p : Int), .int .u64 (id2 : Int)] W fun x w' => x = .returned (.tuple #[.string r, .int .i64 e]) ∧ Post w'
  nx : IntKind.u64.wrap ((id : Int) + 1) = (id2 : Int)

theorem bkd_nodup : [162, 163, 164, 165, 166, 167, 168, 169, 170, 171, 172, 173, 161, 174, 175, 15, 16].Nodup := by decide
set_option maxRecDepth 100000 in
theorem bkd_0 {g len cap len2 cap2 k id id2 p : Nat} {ad ad2 : Addr} {r : ByteArray} {e : Int} {Pre Post : World → Prop} {base : Array Value} {f : Nat → Bool} {a : Act} {W : World} {K : Act → World → Prop} {Q : Exit → Act → World → Prop} {ops : Array Oper} (E : bkdEnv g len cap len2 cap2 k id id2 p ad ad2 r e Pre Post base) (hI : (bkdTb g len cap len2 cap2 k id id2 p ad ad2 r e Pre Post base).Inv (fun f W => if f 11 = true then Post W else Pre W) f a W) (hf : f 0 = false) (pos : String) (hK : ∀ a' W', (bkdTb g len cap len2 cap2 k id id2 p ad ad2 r e Pre Post base).Inv (fun f W => if f 11 = true then Post W else Pre W) (hit f 0) a' W' → K a' W') : if Region.wanted { dst := some 162, op := Go.Op.move (Go.Operand.tmp 3), type := 23, pos := pos, after := #[], guard := none } (yielded ops a.tmps) = true then Oper.wp Tryd.prog { dst := some 162, op := Go.Op.move (Go.Operand.tmp 3), type := 23, pos := pos, after := #[], guard := none } a W K Q else K (a.put (some 162) undef) W := by
  have q : a.tmps[3]?.getD undef = .pointer (some ⟨g, 0, none⟩) := (hI.base 3 rfl).trans E.b3
  have R := Lib.hid (hI.step (i := 0) (d := 162) (v := .pointer (some ⟨g, 0, none⟩)) rfl bkd_nodup (show 162 < 178 by decide) rfl (show (if hit f 0 11 = true then Post W else Pre W) by rw [hit_of f 0 11 (by decide)]; exact hI.held))
  clear hI E hf
  go_simp
  exact hK _ _ R.out

set_option maxRecDepth 100000 in
theorem bkd_1 {g len cap len2 cap2 k id id2 p : Nat} {ad ad2 : Addr} {r : ByteArray} {e : Int} {Pre Post : World → Prop} {base : Array Value} {f : Nat → Bool} {a : Act} {W : World} {K : Act → World → Prop} {Q : Exit → Act → World → Prop} {ops : Array Oper} (E : bkdEnv g len cap len2 cap2 k id id2 p ad ad2 r e Pre Post base) (hI : (bkdTb g len cap len2 cap2 k id id2 p ad ad2 r e Pre Post base).Inv (fun f W => if f 11 = true then Post W else Pre W) f a W) (hf : f 1 = false) (pos : String) (hK : ∀ a' W', (bkdTb g len cap len2 cap2 k id id2 p ad ad2 r e Pre Post base).Inv (fun f W => if f 11 = true then Post W else Pre W) (hit f 1) a' W' → K a' W') : if Region.wanted { dst := some 163, op := Go.Op.move (Go.Operand.tmp 4), type := 28, pos := pos, after := #[], guard := none } (yielded ops a.tmps) = true then Oper.wp Tryd.prog { dst := some 163, op := Go.Op.move (Go.Operand.tmp 4), type := 28, pos := pos, after := #[], guard := none } a W K Q else K (a.put (some 163) undef) W := by
  have q : a.tmps[4]?.getD undef = .slice (some ad2) len2 cap2 := (hI.base 4 rfl).trans E.b4
  have R := Lib.hid (hI.step (i := 1) (d := 163) (v := .slice (some ad2) len2 cap2) rfl bkd_nodup (show 163 < 178 by decide) rfl (show (if hit f 1 11 = true then Post W else Pre W) by rw [hit_of f 1 11 (by decide)]; exact hI.held))
  clear hI E hf
  go_simp
  exact hK _ _ R.out

set_option maxRecDepth 100000 in
theorem bkd_2 {g len cap len2 cap2 k id id2 p : Nat} {ad ad2 : Addr} {r : ByteArray} {e : Int} {Pre Post : World → Prop} {base : Array Value} {f : Nat → Bool} {a : Act} {W : World} {K : Act → World → Prop} {Q : Exit → Act → World → Prop} {ops : Array Oper} (E : bkdEnv g len cap len2 cap2 k id id2 p ad ad2 r e Pre Post base) (hI : (bkdTb g len cap len2 cap2 k id id2 p ad ad2 r e Pre Post base).Inv (fun f W => if f 11 = true then Post W else Pre W) f a W) (hf : f 2 = false) (pos : String) (hK : ∀ a' W', (bkdTb g len cap len2 cap2 k id id2 p ad ad2 r e Pre Post base).Inv (fun f W => if f 11 = true then Post W else Pre W) (hit f 2) a' W' → K a' W') : if Region.wanted { dst := some 164, op := Go.Op.move (Go.Operand.tmp 12), type := 3, pos := pos, after := #[], guard := none } (yielded ops a.tmps) = true then Oper.wp Tryd.prog { dst := some 164, op := Go.Op.move (Go.Operand.tmp 12), type := 3, pos := pos, after := #[], guard := none } a W K Q else K (a.put (some 164) undef) W := by
  have q : a.tmps[12]?.getD undef = .int .i64 (k : Int) := (hI.base 12 rfl).trans E.b12
  have R := Lib.hid (hI.step (i := 2) (d := 164) (v := .int .i64 (k : Int)) rfl bkd_nodup (show 164 < 178 by decide) rfl (show (if hit f 2 11 = true then Post W else Pre W) by rw [hit_of f 2 11 (by decide)]; exact hI.held))
  clear hI E hf
  go_simp
  exact hK _ _ R.out

set_option maxRecDepth 100000 in
theorem bkd_3 {g len cap len2 cap2 k id id2 p : Nat} {ad ad2 : Addr} {r : ByteArray} {e : Int} {Pre Post : World → Prop} {base : Array Value} {f : Nat → Bool} {a : Act} {W : World} {K : Act → World → Prop} {Q : Exit → Act → World → Prop} {ops : Array Oper} (E : bkdEnv g len cap len2 cap2 k id id2 p ad ad2 r e Pre Post base) (hI : (bkdTb g len cap len2 cap2 k id id2 p ad ad2 r e Pre Post base).Inv (fun f W => if f 11 = true then Post W else Pre W) f a W) (hf : f 3 = false) (h1 : f 1 = true) (h2 : f 2 = true) (pos : String) (hK : ∀ a' W', (bkdTb g len cap len2 cap2 k id id2 p ad ad2 r e Pre Post base).Inv (fun f W => if f 11 = true then Post W else Pre W) (hit f 3) a' W' → K a' W') : if Region.wanted { dst := some 165, op := Go.Op.indexAddr 28 (Go.Operand.tmp 163) (Go.Operand.tmp 164), type := 0, pos := pos, after := #[{ on := 1, ground := Go.Ground.data }, { on := 2, ground := Go.Ground.data }], guard := none } (yielded ops a.tmps) = true then Oper.wp Tryd.prog { dst := some 165, op := Go.Op.indexAddr 28 (Go.Operand.tmp 163) (Go.Operand.tmp 164), type := 0, pos := pos, after := #[{ on := 1, ground := Go.Ground.data }, { on := 2, ground := Go.Ground.data }], guard := none } a W K Q else K (a.put (some 165) undef) W := by
  have y0 : a.tmps[163]?.getD undef = .slice (some ad2) len2 cap2 := hI.val 1 163 rfl h1
  have y1 : a.tmps[164]?.getD undef = .int .i64 (k : Int) := hI.val 2 164 rfl h2
  have hk := E.kk2
  have i0 : (0 : Int) ≤ (k : Int) := by omega
  have i1 : (k : Int) < (len2 : Int) := by omega
  have R := Lib.hid (hI.step (i := 3) (d := 165) (v := .pointer (some (ad2.add k))) rfl bkd_nodup (show 165 < 178 by decide) rfl (show (if hit f 3 11 = true then Post W else Pre W) by rw [hit_of f 3 11 (by decide)]; exact hI.held))
  clear hI E hf
  go_simp
  exact hK _ _ R.out

set_option maxRecDepth 100000 in
theorem bkd_4 {g len cap len2 cap2 k id id2 p : Nat} {ad ad2 : Addr} {r : ByteArray} {e : Int} {Pre Post : World → Prop} {base : Array Value} {f : Nat → Bool} {a : Act} {W : World} {K : Act → World → Prop} {Q : Exit → Act → World → Prop} {ops : Array Oper} (E : bkdEnv g len cap len2 cap2 k id id2 p ad ad2 r e Pre Post base) (hI : (bkdTb g len cap len2 cap2 k id id2 p ad ad2 r e Pre Post base).Inv (fun f W => if f 11 = true then Post W else Pre W) f a W) (hf : f 4 = false) (h3 : f 3 = true) (pos : String) (hK : ∀ a' W', (bkdTb g len cap len2 cap2 k id id2 p ad ad2 r e Pre Post base).Inv (fun f W => if f 11 = true then Post W else Pre W) (hit f 4) a' W' → K a' W') : if Region.wanted { dst := some 166, op := Go.Op.load 3 (Go.Operand.tmp 165), type := 3, pos := pos, after := #[{ on := 3, ground := Go.Ground.data }], guard := none } (yielded ops a.tmps) = true then Oper.wp Tryd.prog { dst := some 166, op := Go.Op.load 3 (Go.Operand.tmp 165), type := 3, pos := pos, after := #[{ on := 3, ground := Go.Ground.data }], guard := none } a W K Q else K (a.put (some 166) undef) W := by
  have q : a.tmps[165]?.getD undef = .pointer (some (ad2.add k)) := hI.val 3 165 rfl h3
  have c : W.cell? (ad2.add k) = some (.int .i64 (p : Int)) := (E.c W (by have h : (if f 11 = true then Post W else Pre W) := hI.held; by_cases h8 : f 11 = true; (rw [if_pos h8] at h; exact .inr h); (rw [if_neg h8] at h; exact .inl h))).2
  have R := Lib.hid (hI.step (i := 4) (d := 166) (v := .int .i64 (p : Int)) rfl bkd_nodup (show 166 < 178 by decide) rfl (show (if hit f 4 11 = true then Post W else Pre W) by rw [hit_of f 4 11 (by decide)]; exact hI.held))
  clear hI E hf
  go_simp
  exact hK _ _ R.out

set_option maxRecDepth 100000 in
theorem bkd_5 {g len cap len2 cap2 k id id2 p : Nat} {ad ad2 : Addr} {r : ByteArray} {e : Int} {Pre Post : World → Prop} {base : Array Value} {f : Nat → Bool} {a : Act} {W : World} {K : Act → World → Prop} {Q : Exit → Act → World → Prop} {ops : Array Oper} (E : bkdEnv g len cap len2 cap2 k id id2 p ad ad2 r e Pre Post base) (hI : (bkdTb g len cap len2 cap2 k id id2 p ad ad2 r e Pre Post base).Inv (fun f W => if f 11 = true then Post W else Pre W) f a W) (hf : f 5 = false) (pos : String) (hK : ∀ a' W', (bkdTb g len cap len2 cap2 k id id2 p ad ad2 r e Pre Post base).Inv (fun f W => if f 11 = true then Post W else Pre W) (hit f 5) a' W' → K a' W') : if Region.wanted { dst := some 167, op := Go.Op.move (Go.Operand.tmp 0), type := 22, pos := pos, after := #[], guard := none } (yielded ops a.tmps) = true then Oper.wp Tryd.prog { dst := some 167, op := Go.Op.move (Go.Operand.tmp 0), type := 22, pos := pos, after := #[], guard := none } a W K Q else K (a.put (some 167) undef) W := by
  have q : a.tmps[0]?.getD undef = .slice (some ad) len cap := (hI.base 0 rfl).trans E.b0
  have R := Lib.hid (hI.step (i := 5) (d := 167) (v := .slice (some ad) len cap) rfl bkd_nodup (show 167 < 178 by decide) rfl (show (if hit f 5 11 = true then Post W else Pre W) by rw [hit_of f 5 11 (by decide)]; exact hI.held))
  clear hI E hf
  go_simp
  exact hK _ _ R.out

set_option maxRecDepth 100000 in
theorem bkd_6 {g len cap len2 cap2 k id id2 p : Nat} {ad ad2 : Addr} {r : ByteArray} {e : Int} {Pre Post : World → Prop} {base : Array Value} {f : Nat → Bool} {a : Act} {W : World} {K : Act → World → Prop} {Q : Exit → Act → World → Prop} {ops : Array Oper} (E : bkdEnv g len cap len2 cap2 k id id2 p ad ad2 r e Pre Post base) (hI : (bkdTb g len cap len2 cap2 k id id2 p ad ad2 r e Pre Post base).Inv (fun f W => if f 11 = true then Post W else Pre W) f a W) (hf : f 6 = false) (pos : String) (hK : ∀ a' W', (bkdTb g len cap len2 cap2 k id id2 p ad ad2 r e Pre Post base).Inv (fun f W => if f 11 = true then Post W else Pre W) (hit f 6) a' W' → K a' W') : if Region.wanted { dst := some 168, op := Go.Op.move (Go.Operand.tmp 12), type := 3, pos := pos, after := #[], guard := none } (yielded ops a.tmps) = true then Oper.wp Tryd.prog { dst := some 168, op := Go.Op.move (Go.Operand.tmp 12), type := 3, pos := pos, after := #[], guard := none } a W K Q else K (a.put (some 168) undef) W := by
  have q : a.tmps[12]?.getD undef = .int .i64 (k : Int) := (hI.base 12 rfl).trans E.b12
  have R := Lib.hid (hI.step (i := 6) (d := 168) (v := .int .i64 (k : Int)) rfl bkd_nodup (show 168 < 178 by decide) rfl (show (if hit f 6 11 = true then Post W else Pre W) by rw [hit_of f 6 11 (by decide)]; exact hI.held))
  clear hI E hf
  go_simp
  exact hK _ _ R.out

set_option maxRecDepth 100000 in
theorem bkd_7 {g len cap len2 cap2 k id id2 p : Nat} {ad ad2 : Addr} {r : ByteArray} {e : Int} {Pre Post : World → Prop} {base : Array Value} {f : Nat → Bool} {a : Act} {W : World} {K : Act → World → Prop} {Q : Exit → Act → World → Prop} {ops : Array Oper} (E : bkdEnv g len cap len2 cap2 k id id2 p ad ad2 r e Pre Post base) (hI : (bkdTb g len cap len2 cap2 k id id2 p ad ad2 r e Pre Post base).Inv (fun f W => if f 11 = true then Post W else Pre W) f a W) (hf : f 7 = false) (h5 : f 5 = true) (h6 : f 6 = true) (pos : String) (hK : ∀ a' W', (bkdTb g len cap len2 cap2 k id id2 p ad ad2 r e Pre Post base).Inv (fun f W => if f 11 = true then Post W else Pre W) (hit f 7) a' W' → K a' W') : if Region.wanted { dst := some 169, op := Go.Op.indexAddr 22 (Go.Operand.tmp 167) (Go.Operand.tmp 168), type := 0, pos := pos, after := #[{ on := 5, ground := Go.Ground.data }, { on := 6, ground := Go.Ground.data }], guard := none } (yielded ops a.tmps) = true then Oper.wp Tryd.prog { dst := some 169, op := Go.Op.indexAddr 22 (Go.Operand.tmp 167) (Go.Operand.tmp 168), type := 0, pos := pos, after := #[{ on := 5, ground := Go.Ground.data }, { on := 6, ground := Go.Ground.data }], guard := none } a W K Q else K (a.put (some 169) undef) W := by
  have y0 : a.tmps[167]?.getD undef = .slice (some ad) len cap := hI.val 5 167 rfl h5
  have y1 : a.tmps[168]?.getD undef = .int .i64 (k : Int) := hI.val 6 168 rfl h6
  have hk := E.kk
  have i0 : (0 : Int) ≤ (k : Int) := by omega
  have i1 : (k : Int) < (len : Int) := by omega
  have R := Lib.hid (hI.step (i := 7) (d := 169) (v := .pointer (some (ad.add (k * 3)))) rfl bkd_nodup (show 169 < 178 by decide) rfl (show (if hit f 7 11 = true then Post W else Pre W) by rw [hit_of f 7 11 (by decide)]; exact hI.held))
  clear hI E hf
  go_simp
  exact hK _ _ R.out

set_option maxRecDepth 100000 in
theorem bkd_8 {g len cap len2 cap2 k id id2 p : Nat} {ad ad2 : Addr} {r : ByteArray} {e : Int} {Pre Post : World → Prop} {base : Array Value} {f : Nat → Bool} {a : Act} {W : World} {K : Act → World → Prop} {Q : Exit → Act → World → Prop} {ops : Array Oper} (E : bkdEnv g len cap len2 cap2 k id id2 p ad ad2 r e Pre Post base) (hI : (bkdTb g len cap len2 cap2 k id id2 p ad ad2 r e Pre Post base).Inv (fun f W => if f 11 = true then Post W else Pre W) f a W) (hf : f 8 = false) (h7 : f 7 = true) (pos : String) (hK : ∀ a' W', (bkdTb g len cap len2 cap2 k id id2 p ad ad2 r e Pre Post base).Inv (fun f W => if f 11 = true then Post W else Pre W) (hit f 8) a' W' → K a' W') : if Region.wanted { dst := some 170, op := Go.Op.fieldAddr 33 (Go.Operand.tmp 169) 0, type := 0, pos := pos, after := #[{ on := 7, ground := Go.Ground.data }], guard := none } (yielded ops a.tmps) = true then Oper.wp Tryd.prog { dst := some 170, op := Go.Op.fieldAddr 33 (Go.Operand.tmp 169) 0, type := 0, pos := pos, after := #[{ on := 7, ground := Go.Ground.data }], guard := none } a W K Q else K (a.put (some 170) undef) W := by
  have q : a.tmps[169]?.getD undef = .pointer (some (ad.add (k * 3))) := hI.val 7 169 rfl h7
  have R := Lib.hid (hI.step (i := 8) (d := 170) (v := .pointer (some (ad.add (k * 3)))) rfl bkd_nodup (show 170 < 178 by decide) rfl (show (if hit f 8 11 = true then Post W else Pre W) by rw [hit_of f 8 11 (by decide)]; exact hI.held))
  clear hI E hf
  go_simp
  exact hK _ _ R.out

set_option maxRecDepth 100000 in
theorem bkd_9 {g len cap len2 cap2 k id id2 p : Nat} {ad ad2 : Addr} {r : ByteArray} {e : Int} {Pre Post : World → Prop} {base : Array Value} {f : Nat → Bool} {a : Act} {W : World} {K : Act → World → Prop} {Q : Exit → Act → World → Prop} {ops : Array Oper} (E : bkdEnv g len cap len2 cap2 k id id2 p ad ad2 r e Pre Post base) (hI : (bkdTb g len cap len2 cap2 k id id2 p ad ad2 r e Pre Post base).Inv (fun f W => if f 11 = true then Post W else Pre W) f a W) (hf : f 9 = false) (h8 : f 8 = true) (pos : String) (hK : ∀ a' W', (bkdTb g len cap len2 cap2 k id id2 p ad ad2 r e Pre Post base).Inv (fun f W => if f 11 = true then Post W else Pre W) (hit f 9) a' W' → K a' W') : if Region.wanted { dst := some 171, op := Go.Op.load 31 (Go.Operand.tmp 170), type := 31, pos := pos, after := #[{ on := 8, ground := Go.Ground.data }], guard := none } (yielded ops a.tmps) = true then Oper.wp Tryd.prog { dst := some 171, op := Go.Op.load 31 (Go.Operand.tmp 170), type := 31, pos := pos, after := #[{ on := 8, ground := Go.Ground.data }], guard := none } a W K Q else K (a.put (some 171) undef) W := by
  have q : a.tmps[170]?.getD undef = .pointer (some (ad.add (k * 3))) := hI.val 8 170 rfl h8
  have c : W.cell? (ad.add (k * 3)) = some (.int .u64 (id : Int)) := (E.c W (by have h : (if f 11 = true then Post W else Pre W) := hI.held; by_cases h8 : f 11 = true; (rw [if_pos h8] at h; exact .inr h); (rw [if_neg h8] at h; exact .inl h))).1
  have R := Lib.hid (hI.step (i := 9) (d := 171) (v := .int .u64 (id : Int)) rfl bkd_nodup (show 171 < 178 by decide) rfl (show (if hit f 9 11 = true then Post W else Pre W) by rw [hit_of f 9 11 (by decide)]; exact hI.held))
  clear hI E hf
  go_simp
  exact hK _ _ R.out

set_option maxRecDepth 100000 in
theorem bkd_10 {g len cap len2 cap2 k id id2 p : Nat} {ad ad2 : Addr} {r : ByteArray} {e : Int} {Pre Post : World → Prop} {base : Array Value} {f : Nat → Bool} {a : Act} {W : World} {K : Act → World → Prop} {Q : Exit → Act → World → Prop} {ops : Array Oper} (E : bkdEnv g len cap len2 cap2 k id id2 p ad ad2 r e Pre Post base) (hI : (bkdTb g len cap len2 cap2 k id id2 p ad ad2 r e Pre Post base).Inv (fun f W => if f 11 = true then Post W else Pre W) f a W) (hf : f 10 = false) (h9 : f 9 = true) (pos : String) (hK : ∀ a' W', (bkdTb g len cap len2 cap2 k id id2 p ad ad2 r e Pre Post base).Inv (fun f W => if f 11 = true then Post W else Pre W) (hit f 10) a' W' → K a' W') : if Region.wanted { dst := some 172, op := Go.Op.binOp Go.BinOp.add 31 (Go.Operand.tmp 171) (Go.Operand.const (Go.Value.int Go.IntKind.u64 1)) 31, type := 31, pos := pos, after := #[{ on := 9, ground := Go.Ground.data }], guard := none } (yielded ops a.tmps) = true then Oper.wp Tryd.prog { dst := some 172, op := Go.Op.binOp Go.BinOp.add 31 (Go.Operand.tmp 171) (Go.Operand.const (Go.Value.int Go.IntKind.u64 1)) 31, type := 31, pos := pos, after := #[{ on := 9, ground := Go.Ground.data }], guard := none } a W K Q else K (a.put (some 172) undef) W := by
  have y0 : a.tmps[171]?.getD undef = .int .u64 (id : Int) := hI.val 9 171 rfl h9
  have hx := E.nx
  have R := Lib.hid (hI.step (i := 10) (d := 172) (v := .int .u64 (id2 : Int)) rfl bkd_nodup (show 172 < 178 by decide) rfl (show (if hit f 10 11 = true then Post W else Pre W) by rw [hit_of f 10 11 (by decide)]; exact hI.held))
  clear hI E hf
  go_simp
  exact hK _ _ R.out

set_option maxRecDepth 100000 in
theorem bkd_11 {g len cap len2 cap2 k id id2 p : Nat} {ad ad2 : Addr} {r : ByteArray} {e : Int} {Pre Post : World → Prop} {base : Array Value} {f : Nat → Bool} {a : Act} {W : World} {K : Act → World → Prop} {Q : Exit → Act → World → Prop} {ops : Array Oper} (E : bkdEnv g len cap len2 cap2 k id id2 p ad ad2 r e Pre Post base) (hI : (bkdTb g len cap len2 cap2 k id id2 p ad ad2 r e Pre Post base).Inv (fun f W => if f 11 = true then Post W else Pre W) f a W) (hf : f 11 = false) (h0 : f 0 = true) (h4 : f 4 = true) (h10 : f 10 = true) (pos : String) (hK : ∀ a' W', (bkdTb g len cap len2 cap2 k id id2 p ad ad2 r e Pre Post base).Inv (fun f W => if f 11 = true then Post W else Pre W) (hit f 11) a' W' → K a' W') : if Region.wanted { dst := some 173, op := Go.Op.call { callee := Go.Callee.value (Go.Operand.func 18), args := #[Go.Operand.tmp 162, Go.Operand.tmp 166, Go.Operand.tmp 172], argTypes := #[23, 3, 31] }, type := 39, pos := pos, after := #[{ on := 0, ground := Go.Ground.data }, { on := 4, ground := Go.Ground.data }, { on := 10, ground := Go.Ground.data }], guard := none } (yielded ops a.tmps) = true then Oper.wp Tryd.prog { dst := some 173, op := Go.Op.call { callee := Go.Callee.value (Go.Operand.func 18), args := #[Go.Operand.tmp 162, Go.Operand.tmp 166, Go.Operand.tmp 172], argTypes := #[23, 3, 31] }, type := 39, pos := pos, after := #[{ on := 0, ground := Go.Ground.data }, { on := 4, ground := Go.Ground.data }, { on := 10, ground := Go.Ground.data }], guard := none } a W K Q else K (a.put (some 173) undef) W := by
  have y0 : a.tmps[162]?.getD undef = .pointer (some ⟨g, 0, none⟩) := hI.val 0 162 rfl h0
  have y1 : a.tmps[166]?.getD undef = .int .i64 (p : Int) := hI.val 4 166 rfl h4
  have y2 : a.tmps[172]?.getD undef = .int .u64 (id2 : Int) := hI.val 10 172 rfl h10
  have hp : Pre W := by have := hI.held; simp only [hf] at this; simpa using this
  have hC := E.rd W hp
  have HR := Lib.hid (fun W1 (hb : Post W1) => hI.step (i := 11) (d := 173) (v := .tuple #[.string r, .int .i64 e]) rfl bkd_nodup (show 173 < 178 by decide) rfl (show (if hit f 11 11 = true then Post W1 else Pre W1) by rw [hit_at, if_pos rfl]; exact hb))
  clear hI E hf hp
  go_simp
  refine hC.mono ?_
  rintro e W1 ⟨rfl, hb⟩
  exact hK _ _ (HR.out W1 hb)

set_option maxRecDepth 100000 in
theorem bkd_12 {g len cap len2 cap2 k id id2 p : Nat} {ad ad2 : Addr} {r : ByteArray} {e : Int} {Pre Post : World → Prop} {base : Array Value} {f : Nat → Bool} {a : Act} {W : World} {K : Act → World → Prop} {Q : Exit → Act → World → Prop} {ops : Array Oper} (E : bkdEnv g len cap len2 cap2 k id id2 p ad ad2 r e Pre Post base) (hI : (bkdTb g len cap len2 cap2 k id id2 p ad ad2 r e Pre Post base).Inv (fun f W => if f 11 = true then Post W else Pre W) f a W) (hf : f 12 = false) (h11 : f 11 = true) (pos : String) (hK : ∀ a' W', (bkdTb g len cap len2 cap2 k id id2 p ad ad2 r e Pre Post base).Inv (fun f W => if f 11 = true then Post W else Pre W) (hit f 12) a' W' → K a' W') : if Region.wanted { dst := some 161, op := Go.Op.move (Go.Operand.tmp 173), type := 39, pos := pos, after := #[{ on := 11, ground := Go.Ground.data }], guard := none } (yielded ops a.tmps) = true then Oper.wp Tryd.prog { dst := some 161, op := Go.Op.move (Go.Operand.tmp 173), type := 39, pos := pos, after := #[{ on := 11, ground := Go.Ground.data }], guard := none } a W K Q else K (a.put (some 161) undef) W := by
  have q : a.tmps[173]?.getD undef = .tuple #[.string r, .int .i64 e] := hI.val 11 173 rfl h11
  have R := Lib.hid (hI.step (i := 12) (d := 161) (v := .tuple #[.string r, .int .i64 e]) rfl bkd_nodup (show 161 < 178 by decide) rfl (show (if hit f 12 11 = true then Post W else Pre W) by rw [hit_of f 12 11 (by decide)]; exact hI.held))
  clear hI E hf
  go_simp
  exact hK _ _ R.out

set_option maxRecDepth 100000 in
theorem bkd_13 {g len cap len2 cap2 k id id2 p : Nat} {ad ad2 : Addr} {r : ByteArray} {e : Int} {Pre Post : World → Prop} {base : Array Value} {f : Nat → Bool} {a : Act} {W : World} {K : Act → World → Prop} {Q : Exit → Act → World → Prop} {ops : Array Oper} (E : bkdEnv g len cap len2 cap2 k id id2 p ad ad2 r e Pre Post base) (hI : (bkdTb g len cap len2 cap2 k id id2 p ad ad2 r e Pre Post base).Inv (fun f W => if f 11 = true then Post W else Pre W) f a W) (hf : f 13 = false) (h12 : f 12 = true) (pos : String) (hK : ∀ a' W', (bkdTb g len cap len2 cap2 k id id2 p ad ad2 r e Pre Post base).Inv (fun f W => if f 11 = true then Post W else Pre W) (hit f 13) a' W' → K a' W') : if Region.wanted { dst := some 174, op := Go.Op.extract (Go.Operand.tmp 161) 0, type := 9, pos := pos, after := #[{ on := 12, ground := Go.Ground.data }], guard := none } (yielded ops a.tmps) = true then Oper.wp Tryd.prog { dst := some 174, op := Go.Op.extract (Go.Operand.tmp 161) 0, type := 9, pos := pos, after := #[{ on := 12, ground := Go.Ground.data }], guard := none } a W K Q else K (a.put (some 174) undef) W := by
  have q : a.tmps[161]?.getD undef = .tuple #[.string r, .int .i64 e] := hI.val 12 161 rfl h12
  have R := Lib.hid (hI.step (i := 13) (d := 174) (v := .string r) rfl bkd_nodup (show 174 < 178 by decide) rfl (show (if hit f 13 11 = true then Post W else Pre W) by rw [hit_of f 13 11 (by decide)]; exact hI.held))
  clear hI E hf
  go_simp
  exact hK _ _ R.out

set_option maxRecDepth 100000 in
theorem bkd_14 {g len cap len2 cap2 k id id2 p : Nat} {ad ad2 : Addr} {r : ByteArray} {e : Int} {Pre Post : World → Prop} {base : Array Value} {f : Nat → Bool} {a : Act} {W : World} {K : Act → World → Prop} {Q : Exit → Act → World → Prop} {ops : Array Oper} (E : bkdEnv g len cap len2 cap2 k id id2 p ad ad2 r e Pre Post base) (hI : (bkdTb g len cap len2 cap2 k id id2 p ad ad2 r e Pre Post base).Inv (fun f W => if f 11 = true then Post W else Pre W) f a W) (hf : f 14 = false) (h12 : f 12 = true) (pos : String) (hK : ∀ a' W', (bkdTb g len cap len2 cap2 k id id2 p ad ad2 r e Pre Post base).Inv (fun f W => if f 11 = true then Post W else Pre W) (hit f 14) a' W' → K a' W') : if Region.wanted { dst := some 175, op := Go.Op.extract (Go.Operand.tmp 161) 1, type := 26, pos := pos, after := #[{ on := 12, ground := Go.Ground.data }, { on := 15, ground := Go.Ground.gcOnly Go.Departure.lateStores }], guard := none } (yielded ops a.tmps) = true then Oper.wp Tryd.prog { dst := some 175, op := Go.Op.extract (Go.Operand.tmp 161) 1, type := 26, pos := pos, after := #[{ on := 12, ground := Go.Ground.data }, { on := 15, ground := Go.Ground.gcOnly Go.Departure.lateStores }], guard := none } a W K Q else K (a.put (some 175) undef) W := by
  have q : a.tmps[161]?.getD undef = .tuple #[.string r, .int .i64 e] := hI.val 12 161 rfl h12
  have R := Lib.hid (hI.step (i := 14) (d := 175) (v := .int .i64 e) rfl bkd_nodup (show 175 < 178 by decide) rfl (show (if hit f 14 11 = true then Post W else Pre W) by rw [hit_of f 14 11 (by decide)]; exact hI.held))
  clear hI E hf
  go_simp
  exact hK _ _ R.out

set_option maxRecDepth 100000 in
theorem bkd_15 {g len cap len2 cap2 k id id2 p : Nat} {ad ad2 : Addr} {r : ByteArray} {e : Int} {Pre Post : World → Prop} {base : Array Value} {f : Nat → Bool} {a : Act} {W : World} {K : Act → World → Prop} {Q : Exit → Act → World → Prop} {ops : Array Oper} (E : bkdEnv g len cap len2 cap2 k id id2 p ad ad2 r e Pre Post base) (hI : (bkdTb g len cap len2 cap2 k id id2 p ad ad2 r e Pre Post base).Inv (fun f W => if f 11 = true then Post W else Pre W) f a W) (hf : f 15 = false) (h0 : f 0 = true) (h1 : f 1 = true) (h2 : f 2 = true) (h3 : f 3 = true) (h4 : f 4 = true) (h5 : f 5 = true) (h6 : f 6 = true) (h7 : f 7 = true) (h8 : f 8 = true) (h9 : f 9 = true) (h10 : f 10 = true) (h11 : f 11 = true) (h12 : f 12 = true) (h13 : f 13 = true) (pos : String) (hK : ∀ a' W', (bkdTb g len cap len2 cap2 k id id2 p ad ad2 r e Pre Post base).Inv (fun f W => if f 11 = true then Post W else Pre W) (hit f 15) a' W' → K a' W') : if Region.wanted { dst := some 15, op := Go.Op.assign (Go.Operand.tmp 174), type := 9, pos := pos, after := #[{ on := 13, ground := Go.Ground.data }, { on := 11, ground := Go.Ground.chain }, { on := 0, ground := Go.Ground.phase }, { on := 1, ground := Go.Ground.phase }, { on := 2, ground := Go.Ground.phase }, { on := 3, ground := Go.Ground.phase }, { on := 4, ground := Go.Ground.phase }, { on := 5, ground := Go.Ground.phase }, { on := 6, ground := Go.Ground.phase }, { on := 7, ground := Go.Ground.phase }, { on := 8, ground := Go.Ground.phase }, { on := 9, ground := Go.Ground.phase }, { on := 10, ground := Go.Ground.phase }, { on := 11, ground := Go.Ground.phase }, { on := 12, ground := Go.Ground.phase }, { on := 13, ground := Go.Ground.phase }, { on := 14, ground := Go.Ground.textOnly Go.Departure.lateStores }], guard := none } (yielded ops a.tmps) = true then Oper.wp Tryd.prog { dst := some 15, op := Go.Op.assign (Go.Operand.tmp 174), type := 9, pos := pos, after := #[{ on := 13, ground := Go.Ground.data }, { on := 11, ground := Go.Ground.chain }, { on := 0, ground := Go.Ground.phase }, { on := 1, ground := Go.Ground.phase }, { on := 2, ground := Go.Ground.phase }, { on := 3, ground := Go.Ground.phase }, { on := 4, ground := Go.Ground.phase }, { on := 5, ground := Go.Ground.phase }, { on := 6, ground := Go.Ground.phase }, { on := 7, ground := Go.Ground.phase }, { on := 8, ground := Go.Ground.phase }, { on := 9, ground := Go.Ground.phase }, { on := 10, ground := Go.Ground.phase }, { on := 11, ground := Go.Ground.phase }, { on := 12, ground := Go.Ground.phase }, { on := 13, ground := Go.Ground.phase }, { on := 14, ground := Go.Ground.textOnly Go.Departure.lateStores }], guard := none } a W K Q else K (a.put (some 15) undef) W := by
  have q : a.tmps[174]?.getD undef = .string r := hI.val 13 174 rfl h13
  have R := Lib.hid (hI.step (i := 15) (d := 15) (v := .string r) rfl bkd_nodup (show 15 < 178 by decide) rfl (show (if hit f 15 11 = true then Post W else Pre W) by rw [hit_of f 15 11 (by decide)]; exact hI.held))
  clear hI E hf
  go_simp
  exact hK _ _ R.out

set_option maxRecDepth 100000 in
theorem bkd_16 {g len cap len2 cap2 k id id2 p : Nat} {ad ad2 : Addr} {r : ByteArray} {e : Int} {Pre Post : World → Prop} {base : Array Value} {f : Nat → Bool} {a : Act} {W : World} {K : Act → World → Prop} {Q : Exit → Act → World → Prop} {ops : Array Oper} (E : bkdEnv g len cap len2 cap2 k id id2 p ad ad2 r e Pre Post base) (hI : (bkdTb g len cap len2 cap2 k id id2 p ad ad2 r e Pre Post base).Inv (fun f W => if f 11 = true then Post W else Pre W) f a W) (hf : f 16 = false) (h0 : f 0 = true) (h1 : f 1 = true) (h2 : f 2 = true) (h3 : f 3 = true) (h4 : f 4 = true) (h5 : f 5 = true) (h6 : f 6 = true) (h7 : f 7 = true) (h8 : f 8 = true) (h9 : f 9 = true) (h10 : f 10 = true) (h11 : f 11 = true) (h12 : f 12 = true) (h13 : f 13 = true) (h14 : f 14 = true) (h15 : f 15 = true) (pos : String) (hK : ∀ a' W', (bkdTb g len cap len2 cap2 k id id2 p ad ad2 r e Pre Post base).Inv (fun f W => if f 11 = true then Post W else Pre W) (hit f 16) a' W' → K a' W') : if Region.wanted { dst := some 16, op := Go.Op.assign (Go.Operand.tmp 175), type := 26, pos := pos, after := #[{ on := 14, ground := Go.Ground.data }, { on := 15, ground := Go.Ground.chain }, { on := 0, ground := Go.Ground.phase }, { on := 1, ground := Go.Ground.phase }, { on := 2, ground := Go.Ground.phase }, { on := 3, ground := Go.Ground.phase }, { on := 4, ground := Go.Ground.phase }, { on := 5, ground := Go.Ground.phase }, { on := 6, ground := Go.Ground.phase }, { on := 7, ground := Go.Ground.phase }, { on := 8, ground := Go.Ground.phase }, { on := 9, ground := Go.Ground.phase }, { on := 10, ground := Go.Ground.phase }, { on := 11, ground := Go.Ground.phase }, { on := 12, ground := Go.Ground.phase }, { on := 13, ground := Go.Ground.phase }, { on := 14, ground := Go.Ground.phase }, { on := 15, ground := Go.Ground.phase }], guard := none } (yielded ops a.tmps) = true then Oper.wp Tryd.prog { dst := some 16, op := Go.Op.assign (Go.Operand.tmp 175), type := 26, pos := pos, after := #[{ on := 14, ground := Go.Ground.data }, { on := 15, ground := Go.Ground.chain }, { on := 0, ground := Go.Ground.phase }, { on := 1, ground := Go.Ground.phase }, { on := 2, ground := Go.Ground.phase }, { on := 3, ground := Go.Ground.phase }, { on := 4, ground := Go.Ground.phase }, { on := 5, ground := Go.Ground.phase }, { on := 6, ground := Go.Ground.phase }, { on := 7, ground := Go.Ground.phase }, { on := 8, ground := Go.Ground.phase }, { on := 9, ground := Go.Ground.phase }, { on := 10, ground := Go.Ground.phase }, { on := 11, ground := Go.Ground.phase }, { on := 12, ground := Go.Ground.phase }, { on := 13, ground := Go.Ground.phase }, { on := 14, ground := Go.Ground.phase }, { on := 15, ground := Go.Ground.phase }], guard := none } a W K Q else K (a.put (some 16) undef) W := by
  have q : a.tmps[175]?.getD undef = .int .i64 e := hI.val 14 175 rfl h14
  have R := Lib.hid (hI.step (i := 16) (d := 16) (v := .int .i64 e) rfl bkd_nodup (show 16 < 178 by decide) rfl (show (if hit f 16 11 = true then Post W else Pre W) by rw [hit_of f 16 11 (by decide)]; exact hI.held))
  clear hI E hf
  go_simp
  exact hK _ _ R.out

abbrev bkdOps : Array Oper := #[{ dst := some 162, op := Go.Op.move (Go.Operand.tmp 3), type := 23, pos := "outright.go:40", after := #[], guard := none }, { dst := some 163, op := Go.Op.move (Go.Operand.tmp 4), type := 28, pos := "outright.go:40", after := #[], guard := none }, { dst := some 164, op := Go.Op.move (Go.Operand.tmp 12), type := 3, pos := "outright.go:40", after := #[], guard := none }, { dst := some 165, op := Go.Op.indexAddr 28 (Go.Operand.tmp 163) (Go.Operand.tmp 164), type := 0, pos := "outright.go:40", after := #[{ on := 1, ground := Go.Ground.data }, { on := 2, ground := Go.Ground.data }], guard := none }, { dst := some 166, op := Go.Op.load 3 (Go.Operand.tmp 165), type := 3, pos := "outright.go:40", after := #[{ on := 3, ground := Go.Ground.data }], guard := none }, { dst := some 167, op := Go.Op.move (Go.Operand.tmp 0), type := 22, pos := "outright.go:40", after := #[], guard := none }, { dst := some 168, op := Go.Op.move (Go.Operand.tmp 12), type := 3, pos := "outright.go:40", after := #[], guard := none }, { dst := some 169, op := Go.Op.indexAddr 22 (Go.Operand.tmp 167) (Go.Operand.tmp 168), type := 0, pos := "outright.go:40", after := #[{ on := 5, ground := Go.Ground.data }, { on := 6, ground := Go.Ground.data }], guard := none }, { dst := some 170, op := Go.Op.fieldAddr 33 (Go.Operand.tmp 169) 0, type := 0, pos := "outright.go:40", after := #[{ on := 7, ground := Go.Ground.data }], guard := none }, { dst := some 171, op := Go.Op.load 31 (Go.Operand.tmp 170), type := 31, pos := "outright.go:40", after := #[{ on := 8, ground := Go.Ground.data }], guard := none }, { dst := some 172, op := Go.Op.binOp Go.BinOp.add 31 (Go.Operand.tmp 171) (Go.Operand.const (Go.Value.int Go.IntKind.u64 1)) 31, type := 31, pos := "outright.go:40", after := #[{ on := 9, ground := Go.Ground.data }], guard := none }, { dst := some 173, op := Go.Op.call { callee := Go.Callee.value (Go.Operand.func 18), args := #[Go.Operand.tmp 162, Go.Operand.tmp 166, Go.Operand.tmp 172], argTypes := #[23, 3, 31] }, type := 39, pos := "outright.go:40", after := #[{ on := 0, ground := Go.Ground.data }, { on := 4, ground := Go.Ground.data }, { on := 10, ground := Go.Ground.data }], guard := none }, { dst := some 161, op := Go.Op.move (Go.Operand.tmp 173), type := 39, pos := "outright.go:40", after := #[{ on := 11, ground := Go.Ground.data }], guard := none }, { dst := some 174, op := Go.Op.extract (Go.Operand.tmp 161) 0, type := 9, pos := "outright.go:40", after := #[{ on := 12, ground := Go.Ground.data }], guard := none }, { dst := some 175, op := Go.Op.extract (Go.Operand.tmp 161) 1, type := 26, pos := "outright.go:40", after := #[{ on := 12, ground := Go.Ground.data }, { on := 15, ground := Go.Ground.gcOnly Go.Departure.lateStores }], guard := none }, { dst := some 15, op := Go.Op.assign (Go.Operand.tmp 174), type := 9, pos := "outright.go:40", after := #[{ on := 13, ground := Go.Ground.data }, { on := 11, ground := Go.Ground.chain }, { on := 0, ground := Go.Ground.phase }, { on := 1, ground := Go.Ground.phase }, { on := 2, ground := Go.Ground.phase }, { on := 3, ground := Go.Ground.phase }, { on := 4, ground := Go.Ground.phase }, { on := 5, ground := Go.Ground.phase }, { on := 6, ground := Go.Ground.phase }, { on := 7, ground := Go.Ground.phase }, { on := 8, ground := Go.Ground.phase }, { on := 9, ground := Go.Ground.phase }, { on := 10, ground := Go.Ground.phase }, { on := 11, ground := Go.Ground.phase }, { on := 12, ground := Go.Ground.phase }, { on := 13, ground := Go.Ground.phase }, { on := 14, ground := Go.Ground.textOnly Go.Departure.lateStores }], guard := none }, { dst := some 16, op := Go.Op.assign (Go.Operand.tmp 175), type := 26, pos := "outright.go:40", after := #[{ on := 14, ground := Go.Ground.data }, { on := 15, ground := Go.Ground.chain }, { on := 0, ground := Go.Ground.phase }, { on := 1, ground := Go.Ground.phase }, { on := 2, ground := Go.Ground.phase }, { on := 3, ground := Go.Ground.phase }, { on := 4, ground := Go.Ground.phase }, { on := 5, ground := Go.Ground.phase }, { on := 6, ground := Go.Ground.phase }, { on := 7, ground := Go.Ground.phase }, { on := 8, ground := Go.Ground.phase }, { on := 9, ground := Go.Ground.phase }, { on := 10, ground := Go.Ground.phase }, { on := 11, ground := Go.Ground.phase }, { on := 12, ground := Go.Ground.phase }, { on := 13, ground := Go.Ground.phase }, { on := 14, ground := Go.Ground.phase }, { on := 15, ground := Go.Ground.phase }], guard := none }]
set_option maxRecDepth 100000 in
set_option maxHeartbeats 4000000 in
theorem bkd_step {g len cap len2 cap2 k id id2 p : Nat} {ad ad2 : Addr} {r : ByteArray} {e : Int} {Pre Post : World → Prop} {base : Array Value} {Q : Exit → Act → World → Prop} (E : bkdEnv g len cap len2 cap2 k id id2 p ad ad2 r e Pre Post base) :
    ∀ f a W i o, bkdOps[i]? = some o → f i = false → (∀ e ∈ o.after, Region.binds .any e = true → f e.on = true) → (bkdTb g len cap len2 cap2 k id id2 p ad ad2 r e Pre Post base).Inv (fun f W => if f 11 = true then Post W else Pre W) f a W → wpOp Tryd.prog bkdOps Q i (fun a' W' => (bkdTb g len cap len2 cap2 k id id2 p ad ad2 r e Pre Post base).Inv (fun f W => if f 11 = true then Post W else Pre W) (hit f i) a' W') a W := by
  intro f a W i o ho hf hed hI
  have hi : i < 17 := (Array.getElem?_eq_some_iff.1 ho).1
  have hc : i = 0 ∨ i = 1 ∨ i = 2 ∨ i = 3 ∨ i = 4 ∨ i = 5 ∨ i = 6 ∨ i = 7 ∨ i = 8 ∨ i = 9 ∨ i = 10 ∨ i = 11 ∨ i = 12 ∨ i = 13 ∨ i = 14 ∨ i = 15 ∨ i = 16 := by omega
  rcases hc with rfl | rfl | rfl | rfl | rfl | rfl | rfl | rfl | rfl | rfl | rfl | rfl | rfl | rfl | rfl | rfl | rfl
  · cases ho
    exact wpOp_step (o := { dst := some 162, op := Go.Op.move (Go.Operand.tmp 3), type := 23, pos := "outright.go:40", after := #[], guard := none }) rfl fun K hK => bkd_0 E hI hf "outright.go:40" (fun a' W' h => hK a' W' h)
  · cases ho
    exact wpOp_step (o := { dst := some 163, op := Go.Op.move (Go.Operand.tmp 4), type := 28, pos := "outright.go:40", after := #[], guard := none }) rfl fun K hK => bkd_1 E hI hf "outright.go:40" (fun a' W' h => hK a' W' h)
  · cases ho
    exact wpOp_step (o := { dst := some 164, op := Go.Op.move (Go.Operand.tmp 12), type := 3, pos := "outright.go:40", after := #[], guard := none }) rfl fun K hK => bkd_2 E hI hf "outright.go:40" (fun a' W' h => hK a' W' h)
  · cases ho
    exact wpOp_step (o := { dst := some 165, op := Go.Op.indexAddr 28 (Go.Operand.tmp 163) (Go.Operand.tmp 164), type := 0, pos := "outright.go:40", after := #[{ on := 1, ground := Go.Ground.data }, { on := 2, ground := Go.Ground.data }], guard := none }) rfl fun K hK => bkd_3 E hI hf (hed ⟨1, Go.Ground.data⟩ (Array.mem_of_getElem? (i := 0) rfl) rfl) (hed ⟨2, Go.Ground.data⟩ (Array.mem_of_getElem? (i := 1) rfl) rfl) "outright.go:40" (fun a' W' h => hK a' W' h)
  · cases ho
    exact wpOp_step (o := { dst := some 166, op := Go.Op.load 3 (Go.Operand.tmp 165), type := 3, pos := "outright.go:40", after := #[{ on := 3, ground := Go.Ground.data }], guard := none }) rfl fun K hK => bkd_4 E hI hf (hed ⟨3, Go.Ground.data⟩ (Array.mem_of_getElem? (i := 0) rfl) rfl) "outright.go:40" (fun a' W' h => hK a' W' h)
  · cases ho
    exact wpOp_step (o := { dst := some 167, op := Go.Op.move (Go.Operand.tmp 0), type := 22, pos := "outright.go:40", after := #[], guard := none }) rfl fun K hK => bkd_5 E hI hf "outright.go:40" (fun a' W' h => hK a' W' h)
  · cases ho
    exact wpOp_step (o := { dst := some 168, op := Go.Op.move (Go.Operand.tmp 12), type := 3, pos := "outright.go:40", after := #[], guard := none }) rfl fun K hK => bkd_6 E hI hf "outright.go:40" (fun a' W' h => hK a' W' h)
  · cases ho
    exact wpOp_step (o := { dst := some 169, op := Go.Op.indexAddr 22 (Go.Operand.tmp 167) (Go.Operand.tmp 168), type := 0, pos := "outright.go:40", after := #[{ on := 5, ground := Go.Ground.data }, { on := 6, ground := Go.Ground.data }], guard := none }) rfl fun K hK => bkd_7 E hI hf (hed ⟨5, Go.Ground.data⟩ (Array.mem_of_getElem? (i := 0) rfl) rfl) (hed ⟨6, Go.Ground.data⟩ (Array.mem_of_getElem? (i := 1) rfl) rfl) "outright.go:40" (fun a' W' h => hK a' W' h)
  · cases ho
    exact wpOp_step (o := { dst := some 170, op := Go.Op.fieldAddr 33 (Go.Operand.tmp 169) 0, type := 0, pos := "outright.go:40", after := #[{ on := 7, ground := Go.Ground.data }], guard := none }) rfl fun K hK => bkd_8 E hI hf (hed ⟨7, Go.Ground.data⟩ (Array.mem_of_getElem? (i := 0) rfl) rfl) "outright.go:40" (fun a' W' h => hK a' W' h)
  · cases ho
    exact wpOp_step (o := { dst := some 171, op := Go.Op.load 31 (Go.Operand.tmp 170), type := 31, pos := "outright.go:40", after := #[{ on := 8, ground := Go.Ground.data }], guard := none }) rfl fun K hK => bkd_9 E hI hf (hed ⟨8, Go.Ground.data⟩ (Array.mem_of_getElem? (i := 0) rfl) rfl) "outright.go:40" (fun a' W' h => hK a' W' h)
  · cases ho
    exact wpOp_step (o := { dst := some 172, op := Go.Op.binOp Go.BinOp.add 31 (Go.Operand.tmp 171) (Go.Operand.const (Go.Value.int Go.IntKind.u64 1)) 31, type := 31, pos := "outright.go:40", after := #[{ on := 9, ground := Go.Ground.data }], guard := none }) rfl fun K hK => bkd_10 E hI hf (hed ⟨9, Go.Ground.data⟩ (Array.mem_of_getElem? (i := 0) rfl) rfl) "outright.go:40" (fun a' W' h => hK a' W' h)
  · cases ho
    exact wpOp_step (o := { dst := some 173, op := Go.Op.call { callee := Go.Callee.value (Go.Operand.func 18), args := #[Go.Operand.tmp 162, Go.Operand.tmp 166, Go.Operand.tmp 172], argTypes := #[23, 3, 31] }, type := 39, pos := "outright.go:40", after := #[{ on := 0, ground := Go.Ground.data }, { on := 4, ground := Go.Ground.data }, { on := 10, ground := Go.Ground.data }], guard := none }) rfl fun K hK => bkd_11 E hI hf (hed ⟨0, Go.Ground.data⟩ (Array.mem_of_getElem? (i := 0) rfl) rfl) (hed ⟨4, Go.Ground.data⟩ (Array.mem_of_getElem? (i := 1) rfl) rfl) (hed ⟨10, Go.Ground.data⟩ (Array.mem_of_getElem? (i := 2) rfl) rfl) "outright.go:40" (fun a' W' h => hK a' W' h)
  · cases ho
    exact wpOp_step (o := { dst := some 161, op := Go.Op.move (Go.Operand.tmp 173), type := 39, pos := "outright.go:40", after := #[{ on := 11, ground := Go.Ground.data }], guard := none }) rfl fun K hK => bkd_12 E hI hf (hed ⟨11, Go.Ground.data⟩ (Array.mem_of_getElem? (i := 0) rfl) rfl) "outright.go:40" (fun a' W' h => hK a' W' h)
  · cases ho
    exact wpOp_step (o := { dst := some 174, op := Go.Op.extract (Go.Operand.tmp 161) 0, type := 9, pos := "outright.go:40", after := #[{ on := 12, ground := Go.Ground.data }], guard := none }) rfl fun K hK => bkd_13 E hI hf (hed ⟨12, Go.Ground.data⟩ (Array.mem_of_getElem? (i := 0) rfl) rfl) "outright.go:40" (fun a' W' h => hK a' W' h)
  · cases ho
    exact wpOp_step (o := { dst := some 175, op := Go.Op.extract (Go.Operand.tmp 161) 1, type := 26, pos := "outright.go:40", after := #[{ on := 12, ground := Go.Ground.data }, { on := 15, ground := Go.Ground.gcOnly Go.Departure.lateStores }], guard := none }) rfl fun K hK => bkd_14 E hI hf (hed ⟨12, Go.Ground.data⟩ (Array.mem_of_getElem? (i := 0) rfl) rfl) "outright.go:40" (fun a' W' h => hK a' W' h)
  · cases ho
    exact wpOp_step (o := { dst := some 15, op := Go.Op.assign (Go.Operand.tmp 174), type := 9, pos := "outright.go:40", after := #[{ on := 13, ground := Go.Ground.data }, { on := 11, ground := Go.Ground.chain }, { on := 0, ground := Go.Ground.phase }, { on := 1, ground := Go.Ground.phase }, { on := 2, ground := Go.Ground.phase }, { on := 3, ground := Go.Ground.phase }, { on := 4, ground := Go.Ground.phase }, { on := 5, ground := Go.Ground.phase }, { on := 6, ground := Go.Ground.phase }, { on := 7, ground := Go.Ground.phase }, { on := 8, ground := Go.Ground.phase }, { on := 9, ground := Go.Ground.phase }, { on := 10, ground := Go.Ground.phase }, { on := 11, ground := Go.Ground.phase }, { on := 12, ground := Go.Ground.phase }, { on := 13, ground := Go.Ground.phase }, { on := 14, ground := Go.Ground.textOnly Go.Departure.lateStores }], guard := none }) rfl fun K hK => bkd_15 E hI hf (hed ⟨0, Go.Ground.phase⟩ (Array.mem_of_getElem? (i := 2) rfl) rfl) (hed ⟨1, Go.Ground.phase⟩ (Array.mem_of_getElem? (i := 3) rfl) rfl) (hed ⟨2, Go.Ground.phase⟩ (Array.mem_of_getElem? (i := 4) rfl) rfl) (hed ⟨3, Go.Ground.phase⟩ (Array.mem_of_getElem? (i := 5) rfl) rfl) (hed ⟨4, Go.Ground.phase⟩ (Array.mem_of_getElem? (i := 6) rfl) rfl) (hed ⟨5, Go.Ground.phase⟩ (Array.mem_of_getElem? (i := 7) rfl) rfl) (hed ⟨6, Go.Ground.phase⟩ (Array.mem_of_getElem? (i := 8) rfl) rfl) (hed ⟨7, Go.Ground.phase⟩ (Array.mem_of_getElem? (i := 9) rfl) rfl) (hed ⟨8, Go.Ground.phase⟩ (Array.mem_of_getElem? (i := 10) rfl) rfl) (hed ⟨9, Go.Ground.phase⟩ (Array.mem_of_getElem? (i := 11) rfl) rfl) (hed ⟨10, Go.Ground.phase⟩ (Array.mem_of_getElem? (i := 12) rfl) rfl) (hed ⟨11, Go.Ground.chain⟩ (Array.mem_of_getElem? (i := 1) rfl) rfl) (hed ⟨12, Go.Ground.phase⟩ (Array.mem_of_getElem? (i := 14) rfl) rfl) (hed ⟨13, Go.Ground.data⟩ (Array.mem_of_getElem? (i := 0) rfl) rfl) "outright.go:40" (fun a' W' h => hK a' W' h)
  · cases ho
    exact wpOp_step (o := { dst := some 16, op := Go.Op.assign (Go.Operand.tmp 175), type := 26, pos := "outright.go:40", after := #[{ on := 14, ground := Go.Ground.data }, { on := 15, ground := Go.Ground.chain }, { on := 0, ground := Go.Ground.phase }, { on := 1, ground := Go.Ground.phase }, { on := 2, ground := Go.Ground.phase }, { on := 3, ground := Go.Ground.phase }, { on := 4, ground := Go.Ground.phase }, { on := 5, ground := Go.Ground.phase }, { on := 6, ground := Go.Ground.phase }, { on := 7, ground := Go.Ground.phase }, { on := 8, ground := Go.Ground.phase }, { on := 9, ground := Go.Ground.phase }, { on := 10, ground := Go.Ground.phase }, { on := 11, ground := Go.Ground.phase }, { on := 12, ground := Go.Ground.phase }, { on := 13, ground := Go.Ground.phase }, { on := 14, ground := Go.Ground.phase }, { on := 15, ground := Go.Ground.phase }], guard := none }) rfl fun K hK => bkd_16 E hI hf (hed ⟨0, Go.Ground.phase⟩ (Array.mem_of_getElem? (i := 2) rfl) rfl) (hed ⟨1, Go.Ground.phase⟩ (Array.mem_of_getElem? (i := 3) rfl) rfl) (hed ⟨2, Go.Ground.phase⟩ (Array.mem_of_getElem? (i := 4) rfl) rfl) (hed ⟨3, Go.Ground.phase⟩ (Array.mem_of_getElem? (i := 5) rfl) rfl) (hed ⟨4, Go.Ground.phase⟩ (Array.mem_of_getElem? (i := 6) rfl) rfl) (hed ⟨5, Go.Ground.phase⟩ (Array.mem_of_getElem? (i := 7) rfl) rfl) (hed ⟨6, Go.Ground.phase⟩ (Array.mem_of_getElem? (i := 8) rfl) rfl) (hed ⟨7, Go.Ground.phase⟩ (Array.mem_of_getElem? (i := 9) rfl) rfl) (hed ⟨8, Go.Ground.phase⟩ (Array.mem_of_getElem? (i := 10) rfl) rfl) (hed ⟨9, Go.Ground.phase⟩ (Array.mem_of_getElem? (i := 11) rfl) rfl) (hed ⟨10, Go.Ground.phase⟩ (Array.mem_of_getElem? (i := 12) rfl) rfl) (hed ⟨11, Go.Ground.phase⟩ (Array.mem_of_getElem? (i := 13) rfl) rfl) (hed ⟨12, Go.Ground.phase⟩ (Array.mem_of_getElem? (i := 14) rfl) rfl) (hed ⟨13, Go.Ground.phase⟩ (Array.mem_of_getElem? (i := 15) rfl) rfl) (hed ⟨14, Go.Ground.data⟩ (Array.mem_of_getElem? (i := 0) rfl) rfl) (hed ⟨15, Go.Ground.chain⟩ (Array.mem_of_getElem? (i := 1) rfl) rfl) "outright.go:40" (fun a' W' h => hK a' W' h)

/-- THE REGION -/
theorem bkd_region {g len cap len2 cap2 k id id2 p : Nat} {ad ad2 : Addr} {r : ByteArray} {e : Int} {Pre Post : World → Prop} {tm : Array Value} {Q : Exit → Act → World → Prop} {w : World} (hsz : tm.size = 178) (E : bkdEnv g len cap len2 cap2 k id id2 p ad ad2 r e Pre Post tm) (hT : Pre w.drew)
    (hend : ∀ W, Post W → Q .normal ⟨(((((((((((((((((tm.setIfInBounds 162 (.pointer (some ⟨g, 0, none⟩))).setIfInBounds 163 (.slice (some ad2) len2 cap2)).setIfInBounds 164 (.int .i64 (k : Int))).setIfInBounds 165 (.pointer (some (ad2.add k)))).setIfInBounds 166 (.int .i64 (p : Int))).setIfInBounds 167 (.slice (some ad) len cap)).setIfInBounds 168 (.int .i64 (k : Int))).setIfInBounds 169 (.pointer (some (ad.add (k * 3))))).setIfInBounds 170 (.pointer (some (ad.add (k * 3))))).setIfInBounds 171 (.int .u64 (id : Int))).setIfInBounds 172 (.int .u64 (id2 : Int))).setIfInBounds 173 (.tuple #[.string r, .int .i64 e])).setIfInBounds 161 (.tuple #[.string r, .int .i64 e])).setIfInBounds 174 (.string r)).setIfInBounds 175 (.int .i64 e)).setIfInBounds 15 (.string r)).setIfInBounds 16 (.int .i64 e)), []⟩ W) : (Code.region 22 bkdOps true).wp Tryd.prog Q ⟨tm, []⟩ w := by
  refine wp_region_inv (by kernel_rfl) (by kernel_rfl) ((bkdTb g len cap len2 cap2 k id id2 p ad ad2 r e Pre Post tm).Inv (fun f W => if f 11 = true then Post W else Pre W)) ⟨hsz, rfl, fun s _ => rfl, fun i d _ hf => (by cases hf), hT⟩ (bkd_step E) ?_
  intro f a W hall hI
  have ha := hI.fin hall hsz bkd_nodup rfl
  rw [ha]
  exact hend W (by have := hI.held; rwa [if_pos (hall 11 (by decide))] at this)
end Go.Proofs.YtcbeikiglccgaaaDoor
