/- A []Thing that came in, opened. -/
import Derived.Test.YtfapnblajcfjfaaHe
import Derived.Test.YtfapnblajcfjfaaOp
namespace Go.Proofs.Ytfapnblajcfjfaa
open Go.ChangeShapes Go.WideShapes Go.ChangeAt Go.RowKit

theorem thing_fields : ∃ fs : Array Field, Try.prog.underlying 31 = some (.struct fs) ∧ fs.size = 7 ∧ Go.Deep.oneCellFields Try.prog fs = true ∧ fs.toList.map (fun f : Field => f.type) = [3, 3, 3, 23, 4, 9, 29] := by
  refine ⟨_, Try.underlying31, ?_, ?_, ?_⟩ <;> kernel_rfl
theorem thing_cells : Try.prog.cellsOf 31 = 7 := by kernel_rfl

theorem seven {cs : List Value} (h : cs.length = 7) : ∃ a b c d e f g, cs = [a, b, c, d, e, f, g] := by
  match cs, h with
  | [a, b, c, d, e, f, g], _ => exact ⟨a, b, c, d, e, f, g, rfl⟩

theorem open_things {H : Type} {enc : TypeId × Value → H} {W : World} {base : Nat} {spare : Nat → Bool} {held : Bool} {v : Value} {d : DataW H} {p : List MemPlace} {r : Reach} {b0 : Nat}
    (hv : Value.okWide Try.prog W r b0 22 v) (h : DataW.Trod enc Try.prog W base spare held 22 v d p) :
    ∃ (A : Option Addr) (cap : Nat) (l : List Th), v = .slice A l.length cap ∧ Things W W.heap.size A l := by
  obtain ⟨fs, he, hsz, hone, hty⟩ := thing_fields
  obtain ⟨A, len, cap, rfl, hlc, hi⟩ := open_structs Try.underlying22 he hone (by rw [thing_cells, hsz]) (by omega) hv h
  rw [hsz] at hi
  have key : ∀ i, ∃ t : Th, i < len → ∃ ad, A = some ad ∧ ad.block < W.heap.size ∧ (∀ j u, (t.cells)[j]? = some u → W.cell? (ad.add (i * 7 + j)) = some u) ∧ t.ok W W.heap.size := by
    intro i
    by_cases hil : i < len
    · obtain ⟨ad, cs, hA, hblk, hcl, hcell, hrd⟩ := hi i hil
      obtain ⟨c0, c1, c2, c3, c4, c5, c6, rfl⟩ := seven hcl
      have hf : ∀ j (hj : j < 7), ∃ f, fs[j]? = some f ∧ [3, 3, 3, 23, 4, 9, 29][j]? = some f.type := fun j hj => by
        have hj' : j < fs.size := by omega
        refine ⟨fs[j], Array.getElem?_eq_getElem hj', ?_⟩
        rw [← hty, List.getElem?_map]
        simp [hj']
      obtain ⟨f0, g0, e0⟩ := hf 0 (by omega)
      obtain ⟨f1, g1, e1⟩ := hf 1 (by omega)
      obtain ⟨f2, g2, e2⟩ := hf 2 (by omega)
      obtain ⟨f3, g3, e3⟩ := hf 3 (by omega)
      obtain ⟨f4, g4, e4⟩ := hf 4 (by omega)
      obtain ⟨f5, g5, e5⟩ := hf 5 (by omega)
      obtain ⟨f6, g6, e6⟩ := hf 6 (by omega)
      simp at e0 e1 e2 e3 e4 e5 e6
      obtain ⟨n0, x0, r0⟩ := hrd 0 f0 c0 g0 rfl
      obtain ⟨n1, x1, r1⟩ := hrd 1 f1 c1 g1 rfl
      obtain ⟨n2, x2, r2⟩ := hrd 2 f2 c2 g2 rfl
      obtain ⟨n3, x3, r3⟩ := hrd 3 f3 c3 g3 rfl
      obtain ⟨n4, x4, r4⟩ := hrd 4 f4 c4 g4 rfl
      obtain ⟨n5, x5, r5⟩ := hrd 5 f5 c5 g5 rfl
      obtain ⟨n6, x6, r6⟩ := hrd 6 f6 c6 g6 rfl
      rw [← e0] at r0
      rw [← e1] at r1
      rw [← e2] at r2
      rw [← e3] at r3
      rw [← e4] at r4
      rw [← e5] at r5
      rw [← e6] at r6
      obtain ⟨K, k0, _, w0⟩ := DataW.trod_int Try.underlying3 r0
      obtain ⟨N, k1, _, w1⟩ := DataW.trod_int Try.underlying3 r1
      obtain ⟨M, k2, _, w2⟩ := DataW.trod_int Try.underlying3 r2
      obtain ⟨U, k3, _, w3⟩ := DataW.trod_int Try.underlying23 r3
      obtain ⟨I, k4, _⟩ := DataW.trod_bool Try.underlying4 r4
      obtain ⟨S, k5, _⟩ := DataW.trod_string Try.underlying9 r5
      obtain ⟨A', len', cap', c, rfl, hlc', hi'⟩ := read_cells Try.underlying29 (by kernel_rfl) r6
      have b1 := bounds_i64 w1
      have b3 := bounds_u64 w3
      simp at k0 k1 k2 k3 k4 k5
      subst k0 k1 k2 k3 k4 k5
      have kint : ∀ i, i < len' → c i = .int .i64 (intIn (c i)) ∧ (Lit.int .i64 (intIn (c i))).wf = true := fun i hil => by
        obtain ⟨_, _, _, _, n, x, htr⟩ := hi' i hil
        obtain ⟨a, h1, _, h2⟩ := DataW.trod_int Try.underlying3 htr
        simp at h1
        rw [h1]
        exact ⟨rfl, h2⟩
      obtain ⟨U', rfl⟩ := Int.eq_ofNat_of_zero_le b3.1
      have hLl : ((List.range len').map (fun i => intIn (c i))).length = len' := by simp
      refine ⟨⟨K, N, M, U', I, S, A', (List.range len').map (fun i => intIn (c i)), cap'⟩, fun _ => ⟨ad, hA, hblk, ?_, ?_⟩⟩
      · intro j u hj
        apply hcell j u
        unfold Th.cells at hj
        rw [hLl] at hj
        exact hj
      · refine ⟨b1.2, by simp only; omega, ?_, by simpa using hlc', ?_⟩
        · intro n hn
          have hn' := List.mem_of_mem_take hn
          simp at hn'
          obtain ⟨i, hil, rfl⟩ := hn'
          exact (bounds_i64 (kint i hil).2).2
        · unfold ints
          rw [List.map_take]
          refine Lies.take (lies_of (len := len') (c := c) _ _ (by simp) (fun i hil => by simpa using (kint i hil).1) (fun i hil => ?_)) 20
          obtain ⟨ad, h1, h2, h3, _⟩ := hi' i hil
          exact ⟨ad, h1, h2, h3⟩
    · exact ⟨⟨0, 0, 0, 0, false, ⟨#[]⟩, none, [], 0⟩, fun h => absurd h hil⟩
  have hT := fun i => Classical.choose_spec (key i)
  refine ⟨A, cap, (List.range len).map (fun i => Classical.choose (key i)), by simp, fun i hil => ?_⟩
  have hil' : i < len := by simpa using hil
  simpa using hT i hil'
end Go.Proofs.Ytfapnblajcfjfaa
