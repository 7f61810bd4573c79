/- A blob that came in as an argument, opened. -/
import Derived.Test.YtniecodpdmjppaaDoorOp
import Derived.Test.YtniecodpdmjppaaDoorProg
import Derived.Test.YtniecodpdmjppaaDoorChecked
import Derived.Deep.Strs
namespace Go.Proofs.YtniecodpdmjppaaDoor
open Go.ChangeShapes Go.WideShapes Go.ChangeAt Go.RowKit Go.Deep

theorem blob_cells : Tryd.prog.cellsOf 32 = 3 := by kernel_rfl
theorem one_u64 : Tryd.prog.cellsOf 30 = 1 := by kernel_rfl
theorem one_str : Tryd.prog.cellsOf 9 = 1 := by kernel_rfl
theorem one_int : Tryd.prog.cellsOf 3 = 1 := by kernel_rfl
theorem bounds_u64' {x : Int} (h : (Lit.int .u64 x).wf = true) : 0 ≤ x ∧ x < 18446744073709551616 := by
  simp only [Lit.wf, Bool.and_eq_true, decide_eq_true_eq] at h
  have e1 : IntKind.u64.min = 0 := by decide
  have e2 : IntKind.u64.max = 18446744073709551615 := by decide
  omega
theorem bounds_int' {x : Int} (h : (Lit.int .i64 x).wf = true) : -9223372036854775808 ≤ x ∧ x ≤ 9223372036854775807 := by
  simp only [Lit.wf, Bool.and_eq_true, decide_eq_true_eq] at h
  have e1 : IntKind.i64.min = -9223372036854775808 := by decide
  have e2 : IntKind.i64.max = 9223372036854775807 := by decide
  omega

set_option maxRecDepth 100000 in
theorem open_blob {H : Type} {enc : TypeId × Value → H} {W : World} {base : Nat} {spare : Nat → Bool} {held : Bool} {v : Value} {d : DataW H} {p : List MemPlace} {r : Reach} {b0 : Nat}
    (hv : Value.okWide Tryd.prog W r b0 32 v) (h : DataW.Trod enc Tryd.prog W base spare held 32 v d p) :
    ∃ (id : Nat) (s : ByteArray) (n : Int), v = .agg #[.int .u64 (id : Int), .string s, .int .i64 n] ∧ id < 18446744073709551616 ∧ -9223372036854775808 ≤ n ∧ n ≤ 9223372036854775807 := by
  obtain ⟨cs, rfl, hsz⟩ := okWide_struct Tryd.underlying32 hv
  obtain ⟨n, ht⟩ := h
  obtain ⟨y0, y1, y2, m, hx, hl, t0, t1, t2⟩ := trod_struct3 Tryd.underlying32 ht
  rw [blob_cells] at hsz
  have hcs : (Value.agg cs).cells.toList = cs.toList := by simp [Value.cells]
  rw [hcs] at t0 t1 t2
  obtain ⟨c0, c1, c2, hc⟩ : ∃ c0 c1 c2, cs.toList = [c0, c1, c2] := by
    have : cs.toList.length = 3 := by simpa using hsz
    match hl : cs.toList, this with
    | [a, b, c], _ => exact ⟨a, b, c, rfl⟩
  rw [hc] at t0 t1 t2
  simp only [one_u64, one_str, one_int, List.drop, List.take] at t0 t1 t2
  obtain ⟨x0, e0, _, w0⟩ := DataW.trod_int Tryd.underlying30 t0
  obtain ⟨x1, e1, _⟩ := DataW.trod_string Tryd.underlying9 t1
  obtain ⟨x2, e2, _, w2⟩ := DataW.trod_int Tryd.underlying3 t2
  simp only [List.cons.injEq, and_true] at e0 e1 e2
  subst e0 e1 e2
  have b0 := bounds_u64' w0
  have b2 := bounds_int' w2
  obtain ⟨id, rfl⟩ := Int.eq_ofNat_of_zero_le b0.1
  exact ⟨id, x1, x2, by rw [show cs = #[.int .u64 (id : Int), .string x1, .int .i64 x2] from Array.toList_inj.1 hc], by omega, b2.1, b2.2⟩
end Go.Proofs.YtniecodpdmjppaaDoor
