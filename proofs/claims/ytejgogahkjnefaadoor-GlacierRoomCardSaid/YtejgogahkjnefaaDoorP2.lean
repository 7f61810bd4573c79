/- bytes.Equal, bytes.HasPrefix, and the methods of platter.file: their walks. -/
import Derived.Test.YtejgogahkjnefaaDoorP1
import Derived.Test.YtejgogahkjnefaaDoorPk
import Derived.Laws.IdiomStrings
import Derived.Laws.BytesArg
import Derived.WalkKit
import Derived.WalkSpells
import Derived.WalkLawsBesides
import Derived.Handy
import Derived.Deep.QuietTactic
import Derived.BigQuiet
namespace Go.Proofs.YtejgogahkjnefaaDoor
open Go.RowKit
open Pm (Key Fi St Files)
set_option linter.unusedVariables false

theorem TxIs.cells {w : World} {B : Nat} {x : Tx} {bs : List UInt8} (h : TxIs w B x bs) {g : Nat} (hg : x.g = some g) {j : Nat} (hj : j < bs.length) : w.cell? ⟨g, j, none⟩ = some (.int .u8 (bs[j].toNat : Int)) := by
  have hown := h.2
  have hv : x.val = .slice (some ⟨g, 0, none⟩) x.n x.c := by unfold Tx.val; rw [hg]; rfl
  rw [hv] at hown
  have hc := hown.cells (g := g) rfl j (.int .u8 (bs[j].toNat : Int)) (by simp [Lib.byteCells, hj])
  have e : (⟨g, 0, none⟩ : Addr).add j = ⟨g, j, none⟩ := by simp [Addr.add]; omega
  rwa [e] at hc

/-- the first k bytes of a text, as a string -/
theorem TxIs.conv {w : World} {B : Nat} {x : Tx} {bs : List UInt8} (h : TxIs w B x bs) (k : Nat) (hk : k ≤ bs.length) (c : Nat) :
    (convert 73 9 (.slice (x.g.map fun g => ⟨g, 0, none⟩) k c)).run Tryd.prog w = .ok (.string ⟨(bs.take k).toArray⟩) w := by
  rcases h.block with ⟨h1, h2, _⟩ | ⟨g, cur, h1, _⟩
  · have hk0 : k = 0 := by have := h.1; omega
    subst hk0
    rw [h1]
    exact run_convert_bytes_nil (w := w) _ _ Tryd.underlying73 Tryd.underlying5 _ _ _ Tryd.underlying9
  · rw [h1]
    have hl : (bs.take k).length = k := by rw [List.length_take]; omega
    have := run_convert_bytes_back (P := Tryd.prog) w 73 9 5 ⟨g, 0, none⟩ c (bs.take k) Tryd.underlying73 Tryd.underlying5 Tryd.underlying9 (fun j hj => by
      have e : (⟨g, 0, none⟩ : Addr).add j = ⟨g, j, none⟩ := by simp [Addr.add]; omega
      rw [e, List.getElem_take]
      exact h.cells h1 (by omega))
    rw [hl] at this
    exact this

theorem toArray_beq (a b : List UInt8) : ((⟨a.toArray⟩ : ByteArray).toList == (⟨b.toArray⟩ : ByteArray).toList) = (a == b) := by
  rw [ByteArray.toList_eq, ByteArray.toList_eq]

/-- what bytes.HasPrefix answers -/
def starts (a b : List UInt8) : Bool := decide (b.length ≤ a.length) && (a.take b.length == b)

set_option maxHeartbeats 400000 in
theorem fweight_any (f : FV) (w : World) :
    Calls Tryd.prog 88 #[f.val] w fun e w' => e = .returned (.int .i64 ((max f.a.n f.b.n : Nat) : Int)) ∧ w' = w.alloc (.cells #[f.a.val, .bool f.ea, f.b.val, .bool f.eb] 123) := by
  obtain ⟨⟨g, n, c⟩, ea, ⟨g', n', c'⟩, eb⟩ := f
  unfold FV.val Tx.val
  simp only
  by_cases h : n < n'
  · have e0 : ((max n n' : Nat) : Int) = (n' : Int) := by omega
    go_enter Tryd.func88, Tryd.ntmps88
    go_wp2
    go_ret
    exact ⟨by rw [e0]; rfl, rfl⟩
  · have e0 : ((max n n' : Nat) : Int) = (n : Int) := by omega
    go_enter Tryd.func88, Tryd.ntmps88
    go_wp2
    go_ret
    exact ⟨by rw [e0]; rfl, rfl⟩

theorem TxIs.alloc {w : World} {B : Nat} {x : Tx} {bs : List UInt8} (h : TxIs w B x bs) (o : Obj) : TxIs (w.alloc o) B x bs := h.of_block (g := 0) fun g hg => Below.heap_alloc w o g (h.lt hg).2

/-- a state as the program holds it -/
structure StIs (w : World) (B : Nat) (t : Tx) (ex : Bool) (x : St) : Prop where
  t : TxIs w B t x.t
  ex : ex = x.ex
  ok : x.ex = false → x.t = []

theorem TxIs.shorter {w : World} {B : Nat} {x : Tx} {bs : List UInt8} (h : TxIs w B x bs) {k : Nat} (hk : k ≤ bs.length) : TxIs w B ⟨x.g, k, x.c⟩ (bs.take k) := by
  have hl : (bs.take k).length = k := by rw [List.length_take]; omega
  refine ⟨hl.symm, by unfold Lib.byteCells; rw [List.length_map, hl, Nat.mul_one], ?_⟩
  rcases h.block with ⟨h1, h2, h3⟩ | ⟨g, cur, h1, h2, h3, h4, h5, h6, h7⟩
  · left
    have h0 : k = 0 := by have := h.1; omega
    subst h0
    unfold Tx.val
    rw [h1, h3]
    exact ⟨rfl, rfl⟩
  · right
    refine ⟨g, x.c, cur, by unfold Tx.val; rw [h1]; rfl, h2, h3, Nat.le_trans hk (by have := h.1; omega), h5, by omega, ?_⟩
    simp only [Nat.mul_one]
    have h8 := congrArg (List.take k) h7
    rw [List.take_take, Nat.min_eq_left (by have := h.1; omega)] at h8
    rw [h8]
    unfold Lib.byteCells
    rw [List.map_take]

theorem results_row {fn : Func} {p : Tmp} {ty : TypeId} (h : fn.results = #[.cell p ty]) (tmps : Array Value) (w : World) (g : Nat) (t : TypeId) (cs : Array Value) (fs : Array Field)
    (hp : tmps.getD p undef = .pointer (some ⟨g, 0, none⟩)) (hg : At w g t cs) (hu : Tryd.prog.underlying ty = some (.struct fs)) (hi : (Tryd.prog.info? ty).map (·.size) = some cs.size) :
    (results fn tmps).run Tryd.prog w = .ok (.agg cs) w := results_cell_row h tmps w g t cs (0, 0) (.struct fs) hp hg hu rfl hi

def LeftEnds (w : World) (B : Nat) (f : FV) (x : St) (e : Ending) (w' : World) : Prop :=
  ∃ t ex, e = .returned (.agg #[t.val, .bool ex]) ∧ StIs w' B t ex x ∧ (t.g = none ∨ t.g = f.a.g ∨ t.g = f.b.g) ∧ Below w.heap.size w w'
theorem below_two (w : World) (a b : Obj) : Below w.heap.size w ((w.alloc a).alloc b) := ((Below.refl _ w).alloc (Nat.le_refl _) a).alloc (by simp) b

end Go.Proofs.YtejgogahkjnefaaDoor
