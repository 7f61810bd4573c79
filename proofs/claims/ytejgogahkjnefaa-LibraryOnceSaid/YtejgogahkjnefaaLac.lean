/- A []Act of layer 8 that came in, opened; a whole struct loaded wherever it lies. -/
import Derived.Test.YtejgogahkjnefaaVz
import Derived.Test.YtejgogahkjnefaaOp
namespace Go.Proofs.Ytejgogahkjnefaa
open Go.ChangeShapes Go.WideShapes Go.ChangeAt Go.RowKit
set_option linter.unusedVariables false
set_option linter.unusedSimpArgs false

theorem run_loadVar_ad {P : Program} (w : World) (ad : Addr) (ty : TypeId) (cs : List Value) (d : TypeDesc) (hc : ∀ j v, cs[j]? = some v → w.cell? (ad.add j) = some v)
    (hu : P.underlying ty = some d) (hd : d.isRow = true) (hi : (P.info? ty).map (·.size) = some cs.length) :
    (loadVar ty ad).run P w = .ok (.agg cs.toArray) w := by
  have hl : (loadCells ad cs.length).run P w = .ok cs.toArray w := run_loadCells_list (P := P) w ad cs hc
  cases hq : P.info? ty with
  | none => simp [hq] at hi
  | some i =>
    have hs : i.size = cs.length := by simpa [hq] using hi
    have hagg : (isAgg ty).run P w = .ok true w := by
      unfold isAgg
      rw [Sem.run_bind, run_underlying hu w]
      cases d <;> simp_all
    simp [loadVar, Sem.run_bind, hagg, sizeOf, typeInfo, hq, hs, hl]
theorem wp_load_ad {P : Program} {op : Oper} {a : Act} {w : World} {K : Act → World → Prop} {Q : Exit → Act → World → Prop} (ty : TypeId) (x : Operand) (ho : op.op = .load ty x)
    (ad : Addr) (hx : a.eval x = .pointer (some ad)) (cs : List Value) (d : TypeDesc) (hc : ∀ j v, cs[j]? = some v → w.cell? (ad.add j) = some v)
    (hu : P.underlying ty = some d) (hd : d.isRow = true) (hi : (P.info? ty).map (·.size) = some cs.length)
    (h : K (a.put op.dst (.agg cs.toArray)) w) : op.wp P a w K Q := by
  unfold Oper.wp execOp
  simp only [ho, hx, Instr.loadAt, Instr.sureAddr, Sem.run_bind, Sem.run_pure, Result.andThen_ok, run_loadVar_ad w ad ty cs d hc hu hd hi]
  exact h
theorem wpList_load_ad {P : Program} {ops : Array Oper} {rest : List Oper} {op : Oper} {a : Act} {w : World} {Q : Exit → Act → World → Prop} (hgd : op.guard = none) (ty : TypeId) (x : Operand) (ho : op.op = .load ty x)
    (ad : Addr) (hx : a.eval x = .pointer (some ad)) (cs : List Value) (d : TypeDesc) (hc : ∀ j v, cs[j]? = some v → w.cell? (ad.add j) = some v)
    (hu : P.underlying ty = some d) (hd : d.isRow = true) (hi : (P.info? ty).map (·.size) = some cs.length)
    (h : wpList P ops Q rest (a.put op.dst (.agg cs.toArray)) w) : wpList P ops Q (op :: rest) a w :=
  wpList_plain hgd fun _ hK => wp_load_ad ty x ho ad hx cs d hc hu hd hi (hK _ _ h)

/-- an act: its kind and its number -/
abbrev A2 := Int × Int
def a2cells (t : A2) : List Value := [.int .i64 t.1, .int .i64 t.2]
def Acts2 (w : World) (B : Nat) (A : Option Addr) (l : List A2) : Prop :=
  ∀ i (h : i < l.length), ∃ ad, A = some ad ∧ ad.block < B ∧ (∀ j u, (a2cells l[i])[j]? = some u → w.cell? (ad.add (i * 2 + j)) = some u) ∧ (-9223372036854775808 ≤ l[i].2 ∧ l[i].2 ≤ 9223372036854775807)
theorem add_two (ad : Addr) (m j : Nat) : (ad.add m).add j = ad.add (m + j) := by
  unfold Addr.add
  by_cases hm : m = 0
  · subst hm; simp
  · by_cases hj : j = 0
    · subst hj; simp [hm]
    · simp [hm, hj, Nat.add_assoc]
theorem Acts2.get {w : World} {B : Nat} {A : Option Addr} {l : List A2} (h : Acts2 w B A l) {k : Nat} (hk : k < l.length) : ∃ ad, A = some ad ∧ (∀ w', Below B w w' → ∀ j v, (a2cells l[k])[j]? = some v → w'.cell? ((ad.add (k * 2)).add j) = some v) ∧ (-9223372036854775808 ≤ l[k].2 ∧ l[k].2 ≤ 9223372036854775807) := by
  obtain ⟨ad, e, hlt, hc, hok⟩ := h k hk
  refine ⟨ad, e, fun w' hb j v hj => ?_, hok⟩
  rw [add_two]
  exact (hb.cell (p := ad.add (k * 2 + j)) (by rw [add_block]; exact hlt)).trans (hc j v hj)

set_option maxRecDepth 100000 in
theorem act2_fields : ∃ fs : Array Field, Try.prog.underlying 28 = some (.struct fs) ∧ fs.size = 2 ∧ Go.Deep.oneCellFields Try.prog fs = true ∧ fs.toList.map (fun f : Field => f.type) = [3, 3] := by
  refine ⟨_, Try.underlying28, ?_, ?_, ?_⟩ <;> kernel_rfl
theorem act2_cells : Try.prog.cellsOf 28 = 2 := by kernel_rfl

set_option maxRecDepth 100000 in
theorem open_acts2 {H : Type} {enc : TypeId × Value → H} {W : World} {base : Nat} {spare : Nat → Bool} {held : Bool} {v : Value} {d : DataW H} {p : List MemPlace} {r : Reach} {b0 : Nat}
    (hv : Value.okWide Try.prog W r b0 22 v) (h : DataW.Trod enc Try.prog W base spare held 22 v d p) :
    ∃ (A : Option Addr) (cap : Nat) (l : List A2), v = .slice A l.length cap ∧ l.length ≤ cap ∧ Acts2 W W.heap.size A l ∧ l.length ≤ 9223372036854775807 := by
  obtain ⟨fs, he, hsz, hone, hty⟩ := act2_fields
  obtain ⟨A, len, cap, rfl, hlc, hi⟩ := open_structs Try.underlying22 he hone (by rw [act2_cells, hsz]) (by omega) hv h
  have hmx : len ≤ 9223372036854775807 := slice_max (enc := enc) (d := d) (p := p) Try.underlying22 h
  rw [hsz] at hi
  have key : ∀ i, ∃ t : A2, i < len → ∃ ad, A = some ad ∧ ad.block < W.heap.size ∧ (∀ j u, (a2cells t)[j]? = some u → W.cell? (ad.add (i * 2 + j)) = some u) ∧ (-9223372036854775808 ≤ t.2 ∧ t.2 ≤ 9223372036854775807) := by
    intro i
    by_cases hil : i < len
    · obtain ⟨ad, cs, hA, hblk, hcl, hcell, hrd⟩ := hi i hil
      obtain ⟨c0, c1, rfl⟩ : ∃ a b, cs = [a, b] := by
        match cs, hcl with
        | [a, b], _ => exact ⟨a, b, rfl⟩
      have hf : ∀ j (hj : j < 2), ∃ f, fs[j]? = some f ∧ [3, 3][j]? = some f.type := fun j hj => by
        have hj' : j < fs.size := by omega
        refine ⟨fs[j], Array.getElem?_eq_getElem hj', ?_⟩
        rw [← hty, List.getElem?_map]
        simp [hj']
      obtain ⟨f0, g0, e0⟩ := hf 0 (by omega)
      obtain ⟨f1, g1, e1⟩ := hf 1 (by omega)
      simp at e0 e1
      obtain ⟨n0, x0, r0⟩ := hrd 0 f0 c0 g0 rfl
      obtain ⟨n1, x1, r1⟩ := hrd 1 f1 c1 g1 rfl
      rw [← e0] at r0
      rw [← e1] at r1
      obtain ⟨K, k0, _, w0⟩ := DataW.trod_int Try.underlying3 r0
      obtain ⟨N, k1, _, w1⟩ := DataW.trod_int Try.underlying3 r1
      simp at k0 k1
      subst k0 k1
      exact ⟨(K, N), fun _ => ⟨ad, hA, hblk, fun j u hj => hcell j u hj, bounds_i64 w1⟩⟩
    · exact ⟨(0, 0), fun h => absurd h hil⟩
  have hT := fun i => Classical.choose_spec (key i)
  refine ⟨A, cap, (List.range len).map (fun i => Classical.choose (key i)), by simp, by simpa using hlc, fun i hil => ?_, by simpa using hmx⟩
  have hil' : i < len := by simpa using hil
  simpa using hT i hil'
end Go.Proofs.Ytejgogahkjnefaa
