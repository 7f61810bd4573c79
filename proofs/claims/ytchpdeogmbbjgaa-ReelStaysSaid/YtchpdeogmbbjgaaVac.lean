/- A []Act that came in, opened. -/
import Derived.Test.YtchpdeogmbbjgaaVy
import Derived.Test.YtchpdeogmbbjgaaOp
namespace Go.Proofs.Ytchpdeogmbbjgaa
open Go.ChangeShapes Go.WideShapes Go.ChangeAt Go.RowKit
set_option linter.unusedVariables false

/-- an act -/
structure Ac where
  K : Int
  N : Int
  M : Int
  S : ByteArray
  cA : Option Addr
  cl : List Int
  cc : Nat
  by_ : Int
def Ac.cells (t : Ac) : List Value := [.int .i64 t.K, .int .i64 t.N, .int .i64 t.M, .string t.S, .slice t.cA t.cl.length t.cc, .int .u8 t.by_]
/-- it can be read in w -/
structure Ac.ok (w : World) (B : Nat) (t : Ac) : Prop where
  n : -9223372036854775808 ≤ t.N ∧ t.N ≤ 9223372036854775807
  m : -9223372036854775808 ≤ t.M ∧ t.M ≤ 9223372036854775807
  k : -9223372036854775808 ≤ t.K ∧ t.K ≤ 9223372036854775807
  cc : t.cl.length ≤ t.cc
  ccm : t.cl.length ≤ 9223372036854775807
  cL : Lies w B t.cA (ints t.cl)
  cb : ∀ x ∈ t.cl, -9223372036854775808 ≤ x ∧ x ≤ 9223372036854775807
  by_ : 0 ≤ t.by_ ∧ t.by_ ≤ 255
theorem Ac.ok.keep {w w' : World} {B : Nat} {t : Ac} (h : t.ok w B) (hb : Below B w w') : t.ok w' B := ⟨h.n, h.m, h.k, h.cc, h.ccm, h.cL.below hb, h.cb, h.by_⟩

/-- the acts of a slice, where they lie -/
def Acts (w : World) (B : Nat) (A : Option Addr) (l : List Ac) : Prop :=
  ∀ i (h : i < l.length), ∃ ad, A = some ad ∧ ad.block < B ∧ (∀ j u, (l[i].cells)[j]? = some u → w.cell? (ad.add (i * 6 + j)) = some u) ∧ l[i].ok w B
theorem Acts.below {w w' : World} {B : Nat} {A : Option Addr} {l : List Ac} (h : Acts w B A l) (hb : Below B w w') : Acts w' B A l := fun i hi => by
  obtain ⟨ad, e, hlt, hc, hok⟩ := h i hi
  exact ⟨ad, e, hlt, fun j u hj => (hb.cell (p := ad.add (i * 6 + j)) (by rw [add_block]; exact hlt)).trans (hc j u hj), hok.keep hb⟩
theorem addr_at (ad : Addr) (m j : Nat) : ad.add (m + (j + 1)) = ⟨(ad.add m).block, (ad.add m).off + (j + 1), none⟩ := by
  unfold Addr.add
  by_cases hm : m = 0
  · subst hm; simp
  · simp [hm, Nat.add_assoc]

set_option maxRecDepth 100000 in
theorem act_fields : ∃ fs : Array Field, Try.prog.underlying 36 = some (.struct fs) ∧ fs.size = 6 ∧ Go.Deep.oneCellFields Try.prog fs = true ∧ fs.toList.map (fun f : Field => f.type) = [3, 3, 3, 9, 34, 5] := by
  refine ⟨_, Try.underlying36, ?_, ?_, ?_⟩ <;> kernel_rfl
theorem act_cells : Try.prog.cellsOf 36 = 6 := by kernel_rfl
theorem six {cs : List Value} (h : cs.length = 6) : ∃ a b c d e f, cs = [a, b, c, d, e, f] := by
  match cs, h with
  | [a, b, c, d, e, f], _ => exact ⟨a, b, c, d, e, f, rfl⟩

set_option maxRecDepth 100000 in
theorem open_acts {H : Type} {enc : TypeId × Value → H} {W : World} {base : Nat} {spare : Nat → Bool} {held : Bool} {v : Value} {d : DataW H} {p : List MemPlace} {r : Reach} {b0 : Nat}
    (hv : Value.okWide Try.prog W r b0 22 v) (h : DataW.Trod enc Try.prog W base spare held 22 v d p) :
    ∃ (A : Option Addr) (cap : Nat) (l : List Ac), v = .slice A l.length cap ∧ l.length ≤ cap ∧ Acts W W.heap.size A l := by
  obtain ⟨fs, he, hsz, hone, hty⟩ := act_fields
  obtain ⟨A, len, cap, rfl, hlc, hi⟩ := open_structs Try.underlying22 he hone (by rw [act_cells, hsz]) (by omega) hv h
  rw [hsz] at hi
  have key : ∀ i, ∃ t : Ac, i < len → ∃ ad, A = some ad ∧ ad.block < W.heap.size ∧ (∀ j u, (t.cells)[j]? = some u → W.cell? (ad.add (i * 6 + j)) = some u) ∧ t.ok W W.heap.size := by
    intro i
    by_cases hil : i < len
    · obtain ⟨ad, cs, hA, hblk, hcl, hcell, hrd⟩ := hi i hil
      obtain ⟨c0, c1, c2, c3, c4, c5, rfl⟩ := six hcl
      have hf : ∀ j (hj : j < 6), ∃ f, fs[j]? = some f ∧ [3, 3, 3, 9, 34, 5][j]? = some f.type := fun j hj => by
        have hj' : j < fs.size := by omega
        refine ⟨fs[j], Array.getElem?_eq_getElem hj', ?_⟩
        rw [← hty, List.getElem?_map]
        simp [hj']
      obtain ⟨f0, g0, e0⟩ := hf 0 (by omega)
      obtain ⟨f1, g1, e1⟩ := hf 1 (by omega)
      obtain ⟨f2, g2, e2⟩ := hf 2 (by omega)
      obtain ⟨f3, g3, e3⟩ := hf 3 (by omega)
      obtain ⟨f4, g4, e4⟩ := hf 4 (by omega)
      obtain ⟨f5, g5, e5⟩ := hf 5 (by omega)
      simp at e0 e1 e2 e3 e4 e5
      obtain ⟨n0, x0, r0⟩ := hrd 0 f0 c0 g0 rfl
      obtain ⟨n1, x1, r1⟩ := hrd 1 f1 c1 g1 rfl
      obtain ⟨n2, x2, r2⟩ := hrd 2 f2 c2 g2 rfl
      obtain ⟨n3, x3, r3⟩ := hrd 3 f3 c3 g3 rfl
      obtain ⟨n4, x4, r4⟩ := hrd 4 f4 c4 g4 rfl
      obtain ⟨n5, x5, r5⟩ := hrd 5 f5 c5 g5 rfl
      rw [← e0] at r0
      rw [← e1] at r1
      rw [← e2] at r2
      rw [← e3] at r3
      rw [← e4] at r4
      rw [← e5] at r5
      obtain ⟨K, k0, _, w0⟩ := DataW.trod_int Try.underlying3 r0
      obtain ⟨N, k1, _, w1⟩ := DataW.trod_int Try.underlying3 r1
      obtain ⟨M, k2, _, w2⟩ := DataW.trod_int Try.underlying3 r2
      obtain ⟨SA, k3, _⟩ := DataW.trod_string Try.underlying9 r3
      obtain ⟨A5, len5, cap5, c5', rfl, hlc5, hi5⟩ := read_cells Try.underlying34 (by kernel_rfl) r4
      have hmx : len5 ≤ 9223372036854775807 := slice_max (enc := enc) (d := x4.1) (p := x4.2) Try.underlying34 ⟨n4, by simpa [Value.cells] using r4⟩
      obtain ⟨Y, k6, _, w6⟩ := DataW.trod_int Try.underlying5 r5
      have b0 := bounds_i64 w0
      have b1 := bounds_i64 w1
      have b2 := bounds_i64 w2
      have b6 := bounds_u8 w6
      simp at k0 k1 k2 k3 k6
      subst k0 k1 k2 k3 k6
      have k5 : ∀ i, i < len5 → c5' i = .int .i64 (intIn (c5' i)) ∧ (Lit.int .i64 (intIn (c5' i))).wf = true := fun i hil => by
        obtain ⟨_, _, _, _, n, x, htr⟩ := hi5 i hil
        obtain ⟨a, h1, _, h2⟩ := DataW.trod_int Try.underlying3 htr
        simp at h1
        rw [h1]
        exact ⟨rfl, h2⟩
      refine ⟨⟨K, N, M, SA, A5, (List.range len5).map (fun i => intIn (c5' i)), cap5, Y⟩, fun _ => ⟨ad, hA, hblk, ?_, ?_⟩⟩
      · intro j u hj
        apply hcell j u
        unfold Ac.cells at hj
        simpa using hj
      · refine ⟨b1, b2, b0, by simpa using hlc5, by simpa using hmx, ?_, ?_, b6⟩
        · unfold ints
          refine lies_of (len := len5) (c := c5') _ _ (by simp) (fun i hil => by simpa using (k5 i hil).1) (fun i hil => ?_)
          obtain ⟨ad, h1, h2, h3, _⟩ := hi5 i hil
          exact ⟨ad, h1, h2, h3⟩
        · intro x hx
          simp at hx
          obtain ⟨i, hil, rfl⟩ := hx
          exact bounds_i64 (k5 i hil).2
    · exact ⟨⟨0, 0, 0, ⟨#[]⟩, none, [], 0, 0⟩, fun h => absurd h hil⟩
  have hT := fun i => Classical.choose_spec (key i)
  refine ⟨A, cap, (List.range len).map (fun i => Classical.choose (key i)), by simp, by simpa using hlc, fun i hil => ?_⟩
  have hil' : i < len := by simpa using hil
  simpa using hT i hil'
end Go.Proofs.Ytchpdeogmbbjgaa
