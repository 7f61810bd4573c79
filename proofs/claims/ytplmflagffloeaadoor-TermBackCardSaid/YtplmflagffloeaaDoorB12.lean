/- Yq, Yu, Yz: merged (a claim holds few files). -/
import Derived.Test.YtplmflagffloeaaDoorB11
import Derived.Deep.QuietTactic
import Derived.BigQuiet
/- The laws of layer 9: entries that are made of texts, in a loop. -/
namespace Go.Proofs.YtplmflagffloeaaDoor
open Go.RowKit
open Sm
open Wm (num)
open Pm (Key St)
set_option linter.unusedVariables false
set_option linter.unusedSimpArgs false

/-- entries 1, 2, .. of these texts, cut to z bytes, of terms f 0, f 1, .. -/
def entsOf (f : Nat → Nat) (z : Nat) (l : List ByteArray) : List En := l.mapIdx fun i s => ⟨i + 1, f i, cutTo s z⟩
theorem entsOf_len (f : Nat → Nat) (z : Nat) (l : List ByteArray) : (entsOf f z l).length = l.length := by unfold entsOf; simp
theorem entsOf_get (f : Nat → Nat) (z : Nat) (l : List ByteArray) {i : Nat} (h : i < l.length) : (entsOf f z l)[i]'(by rw [entsOf_len]; exact h) = ⟨i + 1, f i, cutTo l[i] z⟩ := by unfold entsOf; simp
theorem entsOf_more (f : Nat → Nat) (z : Nat) {l : List ByteArray} {k : Nat} (h : k < l.length) : entsOf f z (l.take (k + 1)) = entsOf f z (l.take k) ++ [⟨k + 1, f k, cutTo l[k] z⟩] := by
  rw [List.take_succ_eq_append_getElem h]
  unfold entsOf
  rw [List.mapIdx_append]
  have hk : min k l.length = k := by omega
  simp [hk]
theorem entsOf_ok (f : Nat → Nat) (z : Nat) {l : List ByteArray} (hl : l.length ≤ 1000) (hf : ∀ i, f i ≤ 1099511627776) (hz : z ≤ 100000) : ∀ x ∈ entsOf f z l, x.ok := by
  intro x hx
  obtain ⟨i, hi, rfl⟩ := List.getElem_of_mem hx
  rw [entsOf_len] at hi
  rw [entsOf_get f z l hi]
  exact ⟨by show i + 1 ≤ _; omega, hf i, by show (cutTo _ _).size ≤ _; have := cutTo_le l[i] z; omega⟩
theorem entsOf_log (f : Nat → Nat) (z : Nat) {l : List ByteArray} (hl : l.length ≤ 10) (hf : ∀ i, f i ≤ 1099511627776) (hz : z ≤ 30) : (logOf (entsOf f z l)).length ≤ 680 := by
  have := logOf_len 30 (l := entsOf f z l) (entsOf_ok f z (by omega) hf (by omega)) (fun x hx => by
    obtain ⟨i, hi, rfl⟩ := List.getElem_of_mem hx
    rw [entsOf_len] at hi
    rw [entsOf_get f z l hi]
    show (cutTo _ _).size ≤ _
    have := cutTo_le l[i] z
    omega)
  rw [entsOf_len] at this
  omega
theorem entsOf_row (f : Nat → Nat) (z : Nat) (l : List ByteArray) (n : Nat) : behind (entsOf f z l) n = (entsOf f z l).drop n := by
  have := behind_row (l := entsOf f z l) (a := 0) (n := n) (fun i hi => by
    rw [entsOf_len] at hi
    rw [entsOf_get f z l hi]
    show i + 1 = _
    omega) (Nat.zero_le _)
  rwa [Nat.sub_zero] at this
theorem entsOf_drop (f : Nat → Nat) (z : Nat) (l : List ByteArray) (n : Nat) : behind ((entsOf f z l).drop n) n = (entsOf f z l).drop n := by
  have := behind_row (l := (entsOf f z l).drop n) (a := n) (n := n) (fun i hi => by
    rw [List.length_drop, entsOf_len] at hi
    rw [List.getElem_drop, entsOf_get f z l (by omega)]
    show n + i + 1 = _
    omega) (Nat.le_refl _)
  rwa [Nat.sub_self, List.drop_zero] at this
theorem entsOf_take (f : Nat → Nat) (z : Nat) (l : List ByteArray) (n : Nat) : (entsOf f z l).take n = entsOf f z (l.take n) := by
  apply List.ext_getElem
  · rw [List.length_take, entsOf_len, entsOf_len, List.length_take]
  · intro i h1 h2
    rw [entsOf_len, List.length_take] at h2
    rw [List.getElem_take, entsOf_get f z l (by omega), entsOf_get f z (l.take n) (by rw [List.length_take]; omega), List.getElem_take]

theorem TX.row_grown {w w' : World} {B g m : Nat} {rm : Int} {tl sl ll : List UInt8} {B' n : Nat} {v : Value} {xs : List Value} (h : TX w B g m rm tl sl ll) (hr : w.ownsRow B' 30 3 v n xs) (hg : w.grownBy w' v.ownBlock) : TX w' B g m rm tl sl ll := by
  rcases hr.2 with ⟨rfl, _⟩ | ⟨k, cap, cur, rfl, hk, hat, _⟩
  · exact h.below ⟨hg.os, hg.tape, hg.output, hg.size, fun k hk => hg.block k hk (by simp [Value.ownBlock])⟩
  · exact h.grown (X := k) hat (by decide) (by decide) hg
theorem below_rowG {w w' : World} {B n z : Nat} {e : TypeId} {v : Value} {xs : List Value} (hr : w.ownsRow B e z v n xs) (hg : w.grownBy w' v.ownBlock) (hB : B ≤ w.heap.size) : Below B w w' :=
  ⟨hg.os, hg.tape, hg.output, hg.size, fun k hk => hg.block k (by omega) (fun e => by have := (hr.lt k e.symm).1; omega)⟩

/-- while the entries are made -/
structure LM (w : World) (B g m : Nat) (rm : Int) (es : List En) (v : Value) (wr : World) : Prop where
  tx : TX wr B g m rm [] [] []
  row : wr.ownsRow B 30 3 v es.length (enCells es)
  low : Below B w wr
theorem LM.alloc {w : World} {B g m : Nat} {rm : Int} {es : List En} {v : Value} {wr : World} (h : LM w B g m rm es v wr) (hB : B ≤ wr.heap.size) (o : Obj) : LM w B g m rm es v (wr.alloc o) := ⟨h.tx.alloc o, h.row.alloc o, h.low.alloc hB o⟩
end Go.Proofs.YtplmflagffloeaaDoor

/- glacierlaw09.Told, glacierref09.Same: their walks. -/
namespace Go.Proofs.YtplmflagffloeaaDoor
open Go.RowKit
open Sm
open Wm (num)
open Pm (Key St)
set_option linter.unusedVariables false
set_option linter.unusedSimpArgs false

/-- entries of the reference's, in blocks of such -/
def RnT (w : World) (A : Option Addr) (l : List En) : Prop :=
  ∀ i (h : i < l.length), ∃ ad, A = some ad ∧ (∃ cs fz, w.heap[ad.block]? = some (Obj.cells cs 86 fz)) ∧ ∀ j u, (l[i].cells)[j]? = some u → w.cell? (ad.add (i * 3 + j)) = some u
theorem RnT.below {w w' : World} {A : Option Addr} {l : List En} (h : RnT w A l) (hb : Below w.heap.size w w') : RnT w' A l := fun i hi => by
  obtain ⟨ad, e, ⟨cs, fz, hbl⟩, hc⟩ := h i hi
  have he := hb.block ad.block (Array.getElem?_eq_some_iff.1 hbl).1
  exact ⟨ad, e, ⟨cs, fz, he.trans hbl⟩, fun j u hj => (World.cell?_of_block (by rw [add_block]; exact he)).trans (hc j u hj)⟩
theorem RnT.grown {w w' : World} {A : Option Addr} {l : List En} {X : Nat} {t : TypeId} {cs : Array Value} (h : RnT w A l) (hX : At w X t cs) (ht : t ≠ 86) (hg : w.grownBy w' (some X)) : RnT w' A l := fun i hi => by
  obtain ⟨ad, e, ⟨cs', fz, hb⟩, hc⟩ := h i hi
  have he : w'.heap[ad.block]? = w.heap[ad.block]? := hg.block ad.block (Array.getElem?_eq_some_iff.1 hb).1 (by
    intro e
    have e : ad.block = X := by simpa using e
    unfold At at hX
    rw [e, hX] at hb
    injection hb with hb
    injection hb with _ hb _
    exact ht hb)
  exact ⟨ad, e, ⟨cs', fz, he.trans hb⟩, fun j u hj => (World.cell?_of_block (by rw [add_block]; exact he)).trans (hc j u hj)⟩
theorem RnT.one {w : World} {A : Option Addr} {l : List En} (h : RnT w A l) {k : Nat} (hk : k < l.length) : ∃ ad, A = some ad ∧ w.cell? (ad.add (k * 3)) = some (.int .i64 (l[k].idx : Int)) ∧ w.cell? ⟨(ad.add (k * 3)).block, (ad.add (k * 3)).off + 1, none⟩ = some (.int .i64 (l[k].tm : Int)) ∧ w.cell? ⟨(ad.add (k * 3)).block, (ad.add (k * 3)).off + 2, none⟩ = some (.string l[k].cmd) := by
  obtain ⟨ad, e, _, hc⟩ := h k hk
  have h0 := hc 0 _ rfl
  have h1 := hc 1 _ rfl
  have h2 := hc 2 _ rfl
  rw [addr_at3] at h1 h2
  exact ⟨ad, e, h0, h1, h2⟩
theorem RnT.of_row {w : World} {l : List En} {B n : Nat} {v : Value} (h : w.ownsRow B 86 3 v n (enCells l)) : ∃ A c, v = .slice A l.length c ∧ l.length ≤ c ∧ RnT w A l := by
  have hn : n = l.length := by have := h.1; rw [enCells_len] at this; omega
  subst hn
  rcases h.2 with ⟨rfl, h0⟩ | ⟨g, cap, cur, rfl, hB, hg, hc, _⟩
  · have : l = [] := List.eq_nil_of_length_eq_zero h0
    subst this
    exact ⟨none, 0, rfl, Nat.le_refl _, fun i hi => absurd hi (Nat.not_lt_zero i)⟩
  · refine ⟨some ⟨g, 0, none⟩, cap, rfl, hc, fun i hi => ⟨_, rfl, ⟨cur, _, hg⟩, fun j u hj => ?_⟩⟩
    exact h.cells (g := g) rfl _ u (enCells_get l i j l[i] u (List.getElem?_eq_getElem hi) hj)
theorem rn_cells : Tryd.prog.cellsOf 86 = 3 := by kernel_rfl
theorem info_rn : (Tryd.prog.info? 86).map (fun i => (i.zero, i.size, i.bytes)) = some (some (.agg #[.int .i64 0, .int .i64 0, .string ⟨#[]⟩]), 3, 32) := by kernel_rfl

/-- while a state is told -/
structure TL (w : World) (G X : Nat) (c0 c1 c2 c3 c4 : Value) (acc : List En) (wr : World) : Prop where
  row : ∃ v, At wr X 43 #[c0, c1, c2, c3, c4, v] ∧ wr.ownsRow G 86 3 v acc.length (enCells acc)
  low : Below G w wr
  res : ∃ cs, At wr (G + 1) 43 cs ∧ cs.size = 6

set_option maxRecDepth 100000 in
set_option maxHeartbeats 4000000 in
theorem told_any {w : World} (t v b bt : Nat) (sn : ByteArray) (A : Option Addr) (c : Nat) (l : List En) (hEn : EnT w A l) (hlc : l.length ≤ c) (hl : l.length ≤ 1000) :
    Calls Tryd.prog 16 #[.agg #[.int .i64 (t : Int), .int .i64 (v : Int), .int .i64 (b : Int), .int .i64 (bt : Int), .string sn, .slice A l.length c]] w fun e w' => ∃ A' c', e = .returned (.agg #[.int .i64 (t : Int), .int .i64 (v : Int), .int .i64 (b : Int), .int .i64 (bt : Int), .string sn, .slice A' l.length c']) ∧ l.length ≤ c' ∧ RnT w' A' l ∧ Below w.heap.size w w' := by
  obtain ⟨i0, hie, hz0, hz1, hz2⟩ := info_parts info_rn
  have hc3 := en_cells
  have hEa := fun W (hb : Below w.heap.size w W) => hEn.below hb
  obtain ⟨G, hG⟩ : ∃ G, w.heap.size = G := ⟨_, rfl⟩
  rw [hG] at hEa ⊢
  have HEA := Lib.hid hEa
  clear hEa hEn
  go_enter Tryd.func16, Tryd.ntmps16
  have hz1 : (w.alloc (.cells #[.int .i64 (t : Int), .int .i64 (v : Int), .int .i64 (b : Int), .int .i64 (bt : Int), .string sn, .slice A l.length c] 36)).heap.size = G + 1 := by simp [hG]
  have hz2 : ((w.alloc (.cells #[.int .i64 (t : Int), .int .i64 (v : Int), .int .i64 (b : Int), .int .i64 (bt : Int), .string sn, .slice A l.length c] 36)).alloc (.cells #[.int .i64 0, .int .i64 0, .int .i64 0, .int .i64 0, .string ⟨#[]⟩, .slice none 0 0] 43)).heap.size = G + 1 + 1 := by simp [hG]
  have hX0 : At (((w.alloc (.cells #[.int .i64 (t : Int), .int .i64 (v : Int), .int .i64 (b : Int), .int .i64 (bt : Int), .string sn, .slice A l.length c] 36)).alloc (.cells #[.int .i64 0, .int .i64 0, .int .i64 0, .int .i64 0, .string ⟨#[]⟩, .slice none 0 0] 43)).alloc (.cells #[.int .i64 (t : Int), .int .i64 (v : Int), .int .i64 (b : Int), .int .i64 (bt : Int), .string sn, .slice none 0 0] 43)) (G + 1 + 1) 43 #[.int .i64 (t : Int), .int .i64 (v : Int), .int .i64 (b : Int), .int .i64 (bt : Int), .string sn, .slice none 0 0] := by rw [← hz2]; exact At.new _ _ _
  have hR0 : At (((w.alloc (.cells #[.int .i64 (t : Int), .int .i64 (v : Int), .int .i64 (b : Int), .int .i64 (bt : Int), .string sn, .slice A l.length c] 36)).alloc (.cells #[.int .i64 0, .int .i64 0, .int .i64 0, .int .i64 0, .string ⟨#[]⟩, .slice none 0 0] 43)).alloc (.cells #[.int .i64 (t : Int), .int .i64 (v : Int), .int .i64 (b : Int), .int .i64 (bt : Int), .string sn, .slice none 0 0] 43)) (G + 1) 43 #[.int .i64 0, .int .i64 0, .int .i64 0, .int .i64 0, .string ⟨#[]⟩, .slice none 0 0] := by
    have : At ((w.alloc (.cells #[.int .i64 (t : Int), .int .i64 (v : Int), .int .i64 (b : Int), .int .i64 (bt : Int), .string sn, .slice A l.length c] 36)).alloc (.cells #[.int .i64 0, .int .i64 0, .int .i64 0, .int .i64 0, .string ⟨#[]⟩, .slice none 0 0] 43)) (G + 1) 43 #[.int .i64 0, .int .i64 0, .int .i64 0, .int .i64 0, .string ⟨#[]⟩, .slice none 0 0] := by rw [← hz1]; exact At.new _ _ _
    exact this.alloc _
  have hP0 : At (((w.alloc (.cells #[.int .i64 (t : Int), .int .i64 (v : Int), .int .i64 (b : Int), .int .i64 (bt : Int), .string sn, .slice A l.length c] 36)).alloc (.cells #[.int .i64 0, .int .i64 0, .int .i64 0, .int .i64 0, .string ⟨#[]⟩, .slice none 0 0] 43)).alloc (.cells #[.int .i64 (t : Int), .int .i64 (v : Int), .int .i64 (b : Int), .int .i64 (bt : Int), .string sn, .slice none 0 0] 43)) G 36 #[.int .i64 (t : Int), .int .i64 (v : Int), .int .i64 (b : Int), .int .i64 (bt : Int), .string sn, .slice A l.length c] := by
    have : At (w.alloc (.cells #[.int .i64 (t : Int), .int .i64 (v : Int), .int .i64 (b : Int), .int .i64 (bt : Int), .string sn, .slice A l.length c] 36)) G 36 #[.int .i64 (t : Int), .int .i64 (v : Int), .int .i64 (b : Int), .int .i64 (bt : Int), .string sn, .slice A l.length c] := by rw [← hG]; exact At.new _ _ _
    exact (this.alloc _).alloc _
  have hb0 : Below G w (((w.alloc (.cells #[.int .i64 (t : Int), .int .i64 (v : Int), .int .i64 (b : Int), .int .i64 (bt : Int), .string sn, .slice A l.length c] 36)).alloc (.cells #[.int .i64 0, .int .i64 0, .int .i64 0, .int .i64 0, .string ⟨#[]⟩, .slice none 0 0] 43)).alloc (.cells #[.int .i64 (t : Int), .int .i64 (v : Int), .int .i64 (b : Int), .int .i64 (bt : Int), .string sn, .slice none 0 0] 43)) := (((Below.refl G w).alloc (by omega) _).alloc (by rw [hz1]; omega) _).alloc (by rw [hz2]; omega) _
  have H0 : Hid (TL w G (G + 1 + 1) (.int .i64 (t : Int)) (.int .i64 (v : Int)) (.int .i64 (b : Int)) (.int .i64 (bt : Int)) (.string sn) (l.take 0) (((w.alloc (.cells #[.int .i64 (t : Int), .int .i64 (v : Int), .int .i64 (b : Int), .int .i64 (bt : Int), .string sn, .slice A l.length c] 36)).alloc (.cells #[.int .i64 0, .int .i64 0, .int .i64 0, .int .i64 0, .string ⟨#[]⟩, .slice none 0 0] 43)).alloc (.cells #[.int .i64 (t : Int), .int .i64 (v : Int), .int .i64 (b : Int), .int .i64 (bt : Int), .string sn, .slice none 0 0] 43))) := Lib.hid ⟨⟨_, hX0, by rw [List.take_zero]; exact World.ownsRow_nil _ _ _ _⟩, hb0, _, hR0, rfl⟩
  have p5 : (((w.alloc (.cells #[.int .i64 (t : Int), .int .i64 (v : Int), .int .i64 (b : Int), .int .i64 (bt : Int), .string sn, .slice A l.length c] 36)).alloc (.cells #[.int .i64 0, .int .i64 0, .int .i64 0, .int .i64 0, .string ⟨#[]⟩, .slice none 0 0] 43)).alloc (.cells #[.int .i64 (t : Int), .int .i64 (v : Int), .int .i64 (b : Int), .int .i64 (bt : Int), .string sn, .slice none 0 0] 43)).cell? ⟨G, 5, none⟩ = some (.slice A l.length c) := hP0.cell 5
  clear hz1 hz2 hX0 hR0 hP0 hb0
  go_upto_region 2 with fail
  generalize (((w.alloc (.cells #[.int .i64 (t : Int), .int .i64 (v : Int), .int .i64 (b : Int), .int .i64 (bt : Int), .string sn, .slice A l.length c] 36)).alloc (.cells #[.int .i64 0, .int .i64 0, .int .i64 0, .int .i64 0, .string ⟨#[]⟩, .slice none 0 0] 43)).alloc (.cells #[.int .i64 (t : Int), .int .i64 (v : Int), .int .i64 (b : Int), .int .i64 (bt : Int), .string sn, .slice none 0 0] 43)) = w3 at *
  go_wp2
  go_loopw [20] (fun i wr => ∃ k : Nat, k ≤ l.length ∧ i = .int .i64 (k : Int) ∧ Hid (TL w G (G + 1 + 1) (.int .i64 (t : Int)) (.int .i64 (v : Int)) (.int .i64 (b : Int)) (.int .i64 (bt : Int)) (.string sn) (l.take k) wr))
    (fun i _ => l.length - (intOf i).toNat)
  case atStart => exact ⟨0, by omega, rfl, H0⟩
  case round =>
    clear H0 p5
    obtain ⟨k, hk, rfl, HT⟩ := hrel
    by_cases hlt : k < l.length
    · have q1 : decide ((k : Int) < (l.length : Int)) = true := by simpa using hlt
      obtain ⟨ad, rfl, y0, y1, y2⟩ := (HEA.out wr HT.out.low).one hlt
      have HNX : Hid (l.take (k + 1) = l.take k ++ [l[k]]) := Lib.hid (List.take_succ_eq_append_getElem hlt)
      have hel : (l.take k).length = k := by rw [List.length_take]; omega
      generalize l[k] = x at *
      generalize l.take k = es at *
      obtain ⟨xi, xt, xc⟩ := x
      simp only at y0 y1 y2
      obtain ⟨⟨vv, hX, hrow⟩, hlow, cs, hR, hcs⟩ := HT.out
      have hGr : G + 1 + 1 < wr.heap.size := hX.lt
      have hX1 := hX.alloc (.cells #[.int .i64 (xi : Int), .int .i64 (xt : Int), .string xc] 30)
      have hN1 := At.new wr 30 #[.int .i64 (xi : Int), .int .i64 (xt : Int), .string xc]
      have hR1 := hR.alloc (.cells #[.int .i64 (xi : Int), .int .i64 (xt : Int), .string xc] 30)
      have hrow1 := hrow.alloc (.cells #[.int .i64 (xi : Int), .int .i64 (xt : Int), .string xc] 30)
      have hlow1 := hlow.alloc (by omega) (.cells #[.int .i64 (xi : Int), .int .i64 (xt : Int), .string xc] 30)
      have HX1 := Lib.hid hX1
      have HN1 := Lib.hid hN1
      have HR1 := Lib.hid hR1
      have HROW := Lib.hid hrow1
      have HLOW := Lib.hid hlow1
      clear hX hrow hlow hR hX1 hN1 hR1 hrow1 hlow1 HT
      go_upto_region 5 with fail
      generalize wr.alloc (.cells #[.int .i64 (xi : Int), .int .i64 (xt : Int), .string xc] 30) = w4 at *
      generalize hzx : wr.heap.size = xb at *
      have x5 : w4.cell? ⟨G + 1 + 1, 5, none⟩ = some vv := HX1.out.cell 5
      have n0 : w4.cell? ⟨xb, 0, none⟩ = some (.int .i64 (xi : Int)) := HN1.out.cell 0
      have n1 : w4.cell? ⟨xb, 1, none⟩ = some (.int .i64 (xt : Int)) := HN1.out.cell 1
      have n2 : w4.cell? ⟨xb, 2, none⟩ = some (.string xc) := HN1.out.cell 2
      have hXl := HX1.out.lt
      clear y0 y1 y2
      go_wp2_with (at_builtin; refine wpList_append_own _ rfl _ _ 41 rfl G 86 i0 _ 3 32 Tryd.underlying41 hie hz0 hz1 hz2 rfl (by decide) _ _ _ rfl (HROW.out.alloc _) ⟨w4.heap.size, 0, none⟩ 1 1 [.int .i64 (xi : Int), .int .i64 (xt : Int), .string xc] rfl rfl ?c1 ?c2 ?c3 ?c4 ?c5 ?_)
      case c1 => exact World.news_of_block (cs := #[.int .i64 (xi : Int), .int .i64 (xt : Int), .string xc]) (t := 86) (fr := (0, 0)) (heap_alloc_new w4 _)
      case c2 => intro u hu; simp at hu; rcases hu with rfl | rfl | rfl <;> simp [Value.oneCell']
      case c3 => unfold maxLen; omega
      case c4 => omega
      case c5 => simp; omega
      intro v' w8 hown hgrow _
      have e1 : enCells [(⟨xi, xt, xc⟩ : En)] = [.int .i64 (xi : Int), .int .i64 (xt : Int), .string xc] := by simp [enCells, En.cells]
      have e2 : (es ++ [(⟨xi, xt, xc⟩ : En)]).length = k + 1 := by rw [List.length_append, hel]; rfl
      have hown' : w8.ownsRow G 86 3 v' (k + 1) (enCells (es ++ [(⟨xi, xt, xc⟩ : En)])) := by rw [enCells_append, e1]; exact hown
      obtain ⟨A9, c9, rfl, hc9, _⟩ := RnT.of_row hown'
      rw [e2] at hown' hc9
      have hne : vv.ownBlock ≠ some (G + 1 + 1) := by
        intro e
        rcases HROW.out.2 with ⟨rfl, _⟩ | ⟨k, cap, cur, rfl, hB, hk, _⟩
        · cases e
        · simp only [Value.ownBlock, Option.some.injEq] at e
          exact At.differ hk HX1.out (by decide) e
      have hneR : vv.ownBlock ≠ some (G + 1) := by
        intro e
        rcases HROW.out.2 with ⟨rfl, _⟩ | ⟨k, cap, cur, rfl, hB, hk, _⟩
        · cases e
        · simp only [Value.ownBlock, Option.some.injEq] at e
          exact At.differ hk HR1.out (by decide) e
      have hX8 := (HX1.out.alloc (.cells #[.int .i64 (xi : Int), .int .i64 (xt : Int), .string xc] 86)).grown hgrow (Ne.symm hne)
      have hR8 := (HR1.out.alloc (.cells #[.int .i64 (xi : Int), .int .i64 (xt : Int), .string xc] 86)).grown hgrow (Ne.symm hneR)
      have hl8 : Below G w w8 := (HLOW.out.alloc (by omega) _).trans (below_rowG (HROW.out.alloc _) hgrow (by simp; omega))
      have x5' : w8.cell? ⟨G + 1 + 1, 5, none⟩ = some vv := hX8.cell 5
      have f5' : w8.frozen? ⟨G + 1 + 1, 5, none⟩ = false := hX8.frozen 5
      have hne' : (Value.slice A9 (k + 1) c9).ownBlock ≠ some (G + 1 + 1) := by
        intro e
        rcases hown'.2 with ⟨h1, _⟩ | ⟨k9, cap, cur, h1, hB, hk, _⟩
        · rw [h1] at e; cases e
        · rw [h1] at e
          simp only [Value.ownBlock, Option.some.injEq] at e
          exact At.differ hk hX8 (by decide) e
      have R1 : Hid (TL w G (G + 1 + 1) (.int .i64 (t : Int)) (.int .i64 (v : Int)) (.int .i64 (b : Int)) (.int .i64 (bt : Int)) (.string sn) (es ++ [⟨xi, xt, xc⟩]) (w8.setCell ⟨G + 1 + 1, 5, none⟩ (.slice A9 (k + 1) c9))) := Lib.hid ⟨⟨.slice A9 (k + 1) c9, hX8.set 5 (.slice A9 (k + 1) c9), by
        rw [e2]
        exact hown'.kept (grownBy_set (grownBy_refl w8 (some (G + 1 + 1))) 5 _) (.inr hne')⟩, below_of_grownBy hl8 (grownBy_set (grownBy_refl w8 (some (G + 1 + 1))) 5 (.slice A9 (k + 1) c9)) (by have := hX8.lt; omega) (by omega), cs, hR8.far (p := ⟨G + 1 + 1, 5, none⟩) (by show G + 1 ≠ G + 1 + 1; omega) (.slice A9 (k + 1) c9), hcs⟩
      clear hne hneR hX8 hR8 hl8 hne' hown hown' hgrow HX1 HN1 HR1 HROW HLOW x5 n0 n1 n2
      go_wp2
      go_roundw
      case rel => exact ⟨k + 1, by omega, by go_num, by rw [HNX.out]; exact R1⟩
      case measure => simp [intOf]; omega
    · have q1 : decide ((k : Int) < (l.length : Int)) = false := by simpa using hlt
      have hX : l.take k = l := List.take_of_length_le (by omega)
      rw [hX] at HT
      obtain ⟨⟨vv, hX, hrow⟩, hlow, cs, hR, hcs⟩ := HT.out
      obtain ⟨A', c', rfl, hlc', hRn⟩ := RnT.of_row hrow
      have HX := Lib.hid hX
      have HR := Lib.hid hR
      have HRN := Lib.hid hRn
      have HLOW := Lib.hid hlow
      clear hX hrow hlow hR hRn HT
      have hC1 : (#[.int .i64 (t : Int), .int .i64 (v : Int), .int .i64 (b : Int), .int .i64 (bt : Int), .string sn, .slice A' l.length c'] : Array Value).all (·.oneCell') = true := by simp [Value.oneCell']
      go_wp2_with (first | refine wpList_load_whole rfl 43 _ rfl (G + 1 + 1) rfl 43 _ _ HX.out Tryd.underlying43 rfl (by kernel_rfl) ?_ | (refine wpList_store_whole rfl 43 _ _ rfl (G + 1) _ rfl rfl 43 _ HR.out (by kernel_rfl) hcs hC1 ?_; intro w5 hR5 hG5; replace hR5 := Lib.hid hR5; replace hG5 := Lib.hid hG5))
      have hb5 := below_of_grownBy HLOW.out hG5.out (by have := HR.out.lt; omega) (by omega)
      have hRn5 : RnT w5 A' l := HRN.out.grown HR.out (by decide) hG5.out
      exact bodyPost_ret (results_row rfl _ _ _ _ _ _ rfl hR5.out Tryd.underlying43 (by kernel_rfl)) rfl ⟨A', c', rfl, hlc', hRn5, hb5⟩
end Go.Proofs.YtplmflagffloeaaDoor

/- glacierref09.Same; Crash of a disk whose files are synced: their walks. -/
namespace Go.Proofs.YtplmflagffloeaaDoor
open Go.RowKit
open Sm
open Wm (num)
open Pm (Key St)
set_option linter.unusedVariables false
set_option linter.unusedSimpArgs false

set_option maxRecDepth 100000 in
set_option maxHeartbeats 4000000 in
theorem same_any {w : World} (t v b bt : Nat) (sn : ByteArray) (A1 A2 : Option Addr) (c1 c2 : Nat) (l : List En) (h1 : RnT w A1 l) (h2 : RnT w A2 l) (hl1 : l.length ≤ c1) (hl2 : l.length ≤ c2) (hl : l.length ≤ 1000000) :
    Calls Tryd.prog 15 #[.agg #[.int .i64 (t : Int), .int .i64 (v : Int), .int .i64 (b : Int), .int .i64 (bt : Int), .string sn, .slice A1 l.length c1], .agg #[.int .i64 (t : Int), .int .i64 (v : Int), .int .i64 (b : Int), .int .i64 (bt : Int), .string sn, .slice A2 l.length c2]] w fun e w' => e = .returned (.bool true) ∧ Below w.heap.size w w' := by
  have hrc := rn_cells
  have hEa := fun W (hb : Below w.heap.size w W) => h1.below hb
  have hEb := fun W (hb : Below w.heap.size w W) => h2.below hb
  obtain ⟨G, hG⟩ : ∃ G, w.heap.size = G := ⟨_, rfl⟩
  rw [hG] at hEa hEb ⊢
  have HEA := Lib.hid hEa
  have HEB := Lib.hid hEb
  have hz1 : (w.alloc (.cells #[.int .i64 (t : Int), .int .i64 (v : Int), .int .i64 (b : Int), .int .i64 (bt : Int), .string sn, .slice A1 l.length c1] 43)).heap.size = G + 1 := by simp [hG]
  have hP0 : At ((w.alloc (.cells #[.int .i64 (t : Int), .int .i64 (v : Int), .int .i64 (b : Int), .int .i64 (bt : Int), .string sn, .slice A1 l.length c1] 43)).alloc (.cells #[.int .i64 (t : Int), .int .i64 (v : Int), .int .i64 (b : Int), .int .i64 (bt : Int), .string sn, .slice A2 l.length c2] 43)) G 43 #[.int .i64 (t : Int), .int .i64 (v : Int), .int .i64 (b : Int), .int .i64 (bt : Int), .string sn, .slice A1 l.length c1] := by
    have : At (w.alloc (.cells #[.int .i64 (t : Int), .int .i64 (v : Int), .int .i64 (b : Int), .int .i64 (bt : Int), .string sn, .slice A1 l.length c1] 43)) G 43 #[.int .i64 (t : Int), .int .i64 (v : Int), .int .i64 (b : Int), .int .i64 (bt : Int), .string sn, .slice A1 l.length c1] := by rw [← hG]; exact At.new _ _ _
    exact this.alloc _
  have hQ0 : At ((w.alloc (.cells #[.int .i64 (t : Int), .int .i64 (v : Int), .int .i64 (b : Int), .int .i64 (bt : Int), .string sn, .slice A1 l.length c1] 43)).alloc (.cells #[.int .i64 (t : Int), .int .i64 (v : Int), .int .i64 (b : Int), .int .i64 (bt : Int), .string sn, .slice A2 l.length c2] 43)) (G + 1) 43 #[.int .i64 (t : Int), .int .i64 (v : Int), .int .i64 (b : Int), .int .i64 (bt : Int), .string sn, .slice A2 l.length c2] := by rw [← hz1]; exact At.new _ _ _
  have hb0 : Below G w ((w.alloc (.cells #[.int .i64 (t : Int), .int .i64 (v : Int), .int .i64 (b : Int), .int .i64 (bt : Int), .string sn, .slice A1 l.length c1] 43)).alloc (.cells #[.int .i64 (t : Int), .int .i64 (v : Int), .int .i64 (b : Int), .int .i64 (bt : Int), .string sn, .slice A2 l.length c2] 43)) := ((Below.refl G w).alloc (by omega) _).alloc (by rw [hz1]; omega) _
  clear hEa hEb h1 h2 hz1
  go_enter Tryd.func15, Tryd.ntmps15
  go_upto_region 1 with fail
  generalize (w.alloc (.cells #[.int .i64 (t : Int), .int .i64 (v : Int), .int .i64 (b : Int), .int .i64 (bt : Int), .string sn, .slice A1 l.length c1] 43)).alloc (.cells #[.int .i64 (t : Int), .int .i64 (v : Int), .int .i64 (b : Int), .int .i64 (bt : Int), .string sn, .slice A2 l.length c2] 43) = w2 at *
  have p0 : w2.cell? ⟨G, 0, none⟩ = some (.int .i64 (t : Int)) := hP0.cell 0
  have p1 : w2.cell? ⟨G, 1, none⟩ = some (.int .i64 (v : Int)) := hP0.cell 1
  have p2 : w2.cell? ⟨G, 2, none⟩ = some (.int .i64 (b : Int)) := hP0.cell 2
  have p3 : w2.cell? ⟨G, 3, none⟩ = some (.int .i64 (bt : Int)) := hP0.cell 3
  have p4 : w2.cell? ⟨G, 4, none⟩ = some (.string sn) := hP0.cell 4
  have p5 : w2.cell? ⟨G, 5, none⟩ = some (.slice A1 l.length c1) := hP0.cell 5
  have o0 : w2.cell? ⟨G + 1, 0, none⟩ = some (.int .i64 (t : Int)) := hQ0.cell 0
  have o1 : w2.cell? ⟨G + 1, 1, none⟩ = some (.int .i64 (v : Int)) := hQ0.cell 1
  have o2 : w2.cell? ⟨G + 1, 2, none⟩ = some (.int .i64 (b : Int)) := hQ0.cell 2
  have o3 : w2.cell? ⟨G + 1, 3, none⟩ = some (.int .i64 (bt : Int)) := hQ0.cell 3
  have o4 : w2.cell? ⟨G + 1, 4, none⟩ = some (.string sn) := hQ0.cell 4
  have o5 : w2.cell? ⟨G + 1, 5, none⟩ = some (.slice A2 l.length c2) := hQ0.cell 5
  have HP := Lib.hid hP0
  have HQ := Lib.hid hQ0
  have HB := Lib.hid hb0
  clear hP0 hQ0 hb0
  go_wp2
  go_loopw [51] (fun i wr => ∃ k : Nat, k ≤ l.length ∧ i = .int .i64 (k : Int) ∧ Hid (At wr G 43 #[.int .i64 (t : Int), .int .i64 (v : Int), .int .i64 (b : Int), .int .i64 (bt : Int), .string sn, .slice A1 l.length c1] ∧ At wr (G + 1) 43 #[.int .i64 (t : Int), .int .i64 (v : Int), .int .i64 (b : Int), .int .i64 (bt : Int), .string sn, .slice A2 l.length c2] ∧ Below G w wr))
    (fun i _ => l.length - (intOf i).toNat)
  case atStart => exact ⟨0, by omega, rfl, Lib.hid ⟨HP.out, HQ.out, HB.out⟩⟩
  case round =>
    clear p0 p1 p2 p3 p4 p5 o0 o1 o2 o3 o4 o5
    clear HP HQ HB
    obtain ⟨k, hk, rfl, HD⟩ := hrel
    obtain ⟨hP, hQ, hB⟩ := HD.out
    have HP := Lib.hid hP
    have HQ := Lib.hid hQ
    have HB := Lib.hid hB
    clear hP hQ hB HD
    by_cases hlt : k < l.length
    · have q1 : decide ((k : Int) < (l.length : Int)) = true := by simpa using hlt
      obtain ⟨ad1, rfl, y0, y1, y2⟩ := (HEA.out wr HB.out).one hlt
      obtain ⟨ad2, rfl, z0, z1, z2⟩ := (HEB.out wr HB.out).one hlt
      have p5 : wr.cell? ⟨G, 5, none⟩ = some (.slice (some ad1) l.length c1) := HP.out.cell 5
      have o5 : wr.cell? ⟨G + 1, 5, none⟩ = some (.slice (some ad2) l.length c2) := HQ.out.cell 5
      generalize l[k] = x at *
      obtain ⟨xi, xt, xc⟩ := x
      simp only at y0 y1 y2 z0 z1 z2
      have hxx : (!xc.toList == xc.toList) = false := by simp
      go_upto_region 6 with fail
      go_quiet (fail)
      clear y0 y1 y2 z0 z1 z2 p5 o5
      go_wp2
      go_roundw
      case rel => exact ⟨k + 1, by omega, by go_num, Lib.hid ⟨HP.out.drewN _, HQ.out.drewN _, below_drewN HB.out _⟩⟩
      case measure => simp [intOf]; omega
    · have q1 : decide ((k : Int) < (l.length : Int)) = false := by simpa using hlt
      go_wp2
      go_ret
      exact ⟨rfl, HB.out⟩

theorem crashX {w : World} {B g m : Nat} {rm : Int} {tl sl ll : List UInt8} (h : TX w B g m rm tl sl ll) (A : Option Addr) (n c : Nat) :
    Calls Tryd.prog 14 #[.pointer (some ⟨g, 0, none⟩), .slice A n c] w fun e w' => e = .returned (.tuple #[]) ∧ Below w.heap.size w w' := by
  obtain ⟨F, ⟨⟨us, G, hd, he⟩, ht⟩, _⟩ := h
  refine crash_safe hd (fun k hk => ?_) ?_ (fun k => ?_) A n c
  · rw [he] at hk
    have := ht.keys hk
    omega
  · rw [he]
    have := ht.len
    omega
  · rw [he, ht.fi]
    exact Pm.still_safe _
end Go.Proofs.YtplmflagffloeaaDoor
