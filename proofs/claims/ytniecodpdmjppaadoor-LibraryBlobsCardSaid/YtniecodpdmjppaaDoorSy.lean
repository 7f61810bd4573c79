/- The listed variable glacier/seal.steps, as the row's condition gives it: the sixteen cells that the walks read. -/
import Derived.Test.YtniecodpdmjppaaDoorRows
import Derived.Test.YtniecodpdmjppaaDoorSs
import Derived.ProofKit
import Derived.LaidMore
import Derived.OpenShut
import Derived.Stop.Joined
namespace Go.Proofs.YtniecodpdmjppaaDoor
open Go.ChangeShapes Go.WideShapes Go.ChangeAt Go.WideMaps Go.WideElems Go.RowKit
open Sm

theorem own : ownKnob Tryd.prog.godebug = none := by kernel_rfl
def laid1 : List (String × DataW Unit) := [("glacier/seal.steps", Rows.laid_glacier_seal_steps)]
theorem gSteps : Tryd.prog.globalNamed "glacier/seal.steps" = some 0 := by kernel_rfl
def tArr : TypeId := 116
theorem tSteps : (Tryd.prog.globals[0]?).map (·.type) = some tArr := by kernel_rfl
theorem uArr : Tryd.prog.underlying tArr = some (.array 16 76) := by kernel_rfl

theorem door_met (os : Os) (args : Array Value) : laidMetH Tryd.prog laid1 ((World.doorLaid Tryd.prog 40 os).forCall (fun _ _ => 0) ⟨#[], args, []⟩).memory :=
  laidMetH_of_parts3 (fuel := 8) (laidMet_of_run' 8 (by kernel_rfl) (by kernel_rfl)) (by kernel_rfl) (by kernel_rfl)

set_option maxRecDepth 100000 in
theorem of_laid {W : World} (h : laidMetH Tryd.prog laid1 W) : Steps W := by
  rw [MakeChecks.laidMetH_plain _ _ _ (by kernel_rfl)] at h
  obtain ⟨ps, ⟨g0, t0, cs0, f0, p0, q0, hg0, ht0, hv0, hd0, _, _⟩, _, _⟩ := h
  obtain rfl := Option.some.inj (gSteps.symm.trans hg0)
  obtain rfl := Option.some.inj (tSteps.symm.trans ht0)
  obtain ⟨xs, m1, rfl, hx1, hlen, hn3, hel⟩ := DataW.trod_array uArr hd0
  have c3 : Tryd.prog.cellsOf 76 = 1 := by kernel_rfl
  simp only [c3, Nat.mul_one] at hlen hel
  simp only [Prod.mk.injEq] at hx1
  obtain ⟨hx1, -⟩ := hx1
  have hlist : (table.map fun v => (DataW.lit (.int .u32 ((v : Nat) : Int)) : DataW Unit)) = xs.map (·.1) := DataW.agg.inj hx1
  have key : ∀ i, i < 16 → cs0.toList[i]? = some (.int .u32 ((table.getD i 0 : Nat) : Int)) := by
    intro i hi
    have h0 := hel i hi
    rw [List.getElem?_eq_getElem (by omega)] at h0
    obtain ⟨n, e1, e2, -⟩ := DataW.trod_int (Tryd.underlying76) h0
    have e3 : (xs.map (·.1))[i]? = some (.lit (.int .u32 n)) := by
      rw [List.getElem?_map, List.getElem?_eq_getElem (by omega), e2]; rfl
    rw [← hlist, List.getElem?_map] at e3
    have hi' : i < table.length := hi
    rw [List.getElem?_eq_getElem hi'] at e3
    have e4 : n = ((table[i] : Nat) : Int) := by
      have := Option.some.inj e3
      injection this with h1
      injection h1 with h2 h3
      exact h3.symm
    have e5 : cs0.toList[i]? = (List.take 1 (List.drop i cs0.toList))[0]? := by
      rw [List.getElem?_take_of_lt (by omega), List.getElem?_drop]; rfl
    rw [e5, e1, e4, List.getD_eq_getElem?_getD, List.getElem?_eq_getElem hi']
    rfl
  refine ⟨?_, fun i hi => ?_⟩
  · have := World.var?_cell hg0 hv0 0
    rw [← Array.getElem?_toList, key 0 (by omega)] at this
    exact World.block_lt_of_cell? W ⟨0, 0, none⟩ this
  · rw [World.var?_cell hg0 hv0 i, ← Array.getElem?_toList]
    exact key i hi
end Go.Proofs.YtniecodpdmjppaaDoor
