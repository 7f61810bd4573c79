/- What an Enc holds; (*Enc).add: its walk. -/
import Derived.Test.YtniecodpdmjppaaDoorIn
import Derived.RegionTactic
import Derived.ChangeAlike
import Derived.Laws.IdiomStrings
import Derived.Deep.QuietTactic
import Derived.BigQuiet
namespace Go.Proofs.YtniecodpdmjppaaDoor
open Go.RowKit

/-- the pieces from p on hold bs -/
inductive Chain (w : World) : Option Addr → List UInt8 → Prop
  | nil : Chain w none []
  | cons {g : Nat} {p : Option Addr} {bs l : List UInt8} : At w g 124 #[.pointer p, .string ⟨l.toArray⟩] → l ≠ [] → Chain w p bs → Chain w (some ⟨g, 0, none⟩) (bs ++ l)

/-- block g is an Enc that holds bs -/
def EncIs (w : World) (g : Nat) (bs : List UInt8) : Prop := ∃ p, At w g 104 #[.pointer p, .int .i64 (bs.length : Nat)] ∧ Chain w p bs

theorem Chain.step {w w' : World} {p : Option Addr} {bs : List UInt8} (h : Chain w p bs) (hk : ∀ g cs, At w g 124 cs → At w' g 124 cs) : Chain w' p bs := by
  induction h with
  | nil => exact .nil
  | cons hg hl _ ih => exact .cons (hk _ _ hg) hl ih
theorem Chain.grown {w w' : World} {p : Option Addr} {bs : List UInt8} {g : Nat} {t : TypeId} {cs : Array Value} (h : Chain w p bs) (hg : At w g t cs) (ht : t ≠ 124) (hb : w.grownBy w' (some g)) : Chain w' p bs :=
  h.step fun _ _ hc => hc.grown hb (by have := hc.differ hg (Ne.symm ht); simpa using this)
theorem Chain.same {w w' : World} {p : Option Addr} {bs : List UInt8} (h : Chain w p bs) (hb : w.grownBy w' none) : Chain w' p bs :=
  h.step fun _ _ hc => hc.grown hb (by simp)
theorem EncIs.grown {w w' : World} {e g : Nat} {bs : List UInt8} {t : TypeId} {cs : Array Value} (h : EncIs w e bs) (hg : At w g t cs) (ht : t ≠ 124) (hne : e ≠ g) (hb : w.grownBy w' (some g)) : EncIs w' e bs := by
  obtain ⟨p, ha, hc⟩ := h
  exact ⟨p, ha.grown hb (by simpa using hne), hc.grown hg ht hb⟩
theorem EncIs.same {w w' : World} {e : Nat} {bs : List UInt8} (h : EncIs w e bs) (hb : w.grownBy w' none) : EncIs w' e bs := by
  obtain ⟨p, ha, hc⟩ := h
  exact ⟨p, ha.grown hb (by simp), hc.same hb⟩
theorem EncIs.at_ {w : World} {e : Nat} {bs : List UInt8} (h : EncIs w e bs) : ∃ cs, At w e 104 cs := by
  obtain ⟨p, ha, _⟩ := h; exact ⟨_, ha⟩

theorem add_end {w : World} {g : Nat} {p : Option Addr} {bs ls : List UInt8} (ha : At w g 104 #[.pointer p, .int .i64 (bs.length : Nat)]) (hch : Chain w p bs) (hls : ls ≠ []) :
    EncIs (((w.alloc (.cells #[.pointer p, .string ⟨ls.toArray⟩] 124)).setCell ⟨g, 0, none⟩ (.pointer (some ⟨w.heap.size, 0, none⟩))).setCell ⟨g, 1, none⟩ (.int .i64 ((bs.length : Int) + (ls.length : Int)))).drew g (bs ++ ls) ∧
    w.grownBy (((w.alloc (.cells #[.pointer p, .string ⟨ls.toArray⟩] 124)).setCell ⟨g, 0, none⟩ (.pointer (some ⟨w.heap.size, 0, none⟩))).setCell ⟨g, 1, none⟩ (.int .i64 ((bs.length : Int) + (ls.length : Int)))).drew (some g) := by
  have hlt := ha.lt
  have h1 := ((ha.alloc (.cells #[.pointer p, .string ⟨ls.toArray⟩] 124)).set 0 (.pointer (some ⟨w.heap.size, 0, none⟩))).set 1 (.int .i64 ((bs.length : Int) + (ls.length : Int)))
  have hp := ((At.new w 124 #[.pointer p, .string ⟨ls.toArray⟩]).far (p := ⟨g, 0, none⟩) (by simp; omega) (.pointer (some ⟨w.heap.size, 0, none⟩))).far (p := ⟨g, 1, none⟩) (by simp; omega) (.int .i64 ((bs.length : Int) + (ls.length : Int)))
  have hg : w.grownBy (((w.alloc (.cells #[.pointer p, .string ⟨ls.toArray⟩] 124)).setCell ⟨g, 0, none⟩ (.pointer (some ⟨w.heap.size, 0, none⟩))).setCell ⟨g, 1, none⟩ (.int .i64 ((bs.length : Int) + (ls.length : Int)))) (some g) :=
    grownBy_set (grownBy_set (World.grownBy_alloc w _ _) _ _) _ _
  refine ⟨⟨some ⟨w.heap.size, 0, none⟩, ?_, ?_⟩, ⟨hg.os, hg.tape, hg.output, hg.size, hg.block⟩⟩
  · rw [List.length_append]; exact h1
  · exact Chain.cons hp hls (hch.grown ha (by decide) ⟨hg.os, hg.tape, hg.output, hg.size, hg.block⟩)

/-- the Enc in block g holds bs now; nothing else that was there has turned -/
def EncRet (g : Nat) (bs : List UInt8) (w : World) (e : Ending) (w' : World) : Prop := e = .returned (.pointer (some ⟨g, 0, none⟩)) ∧ EncIs w' g bs ∧ w.grownBy w' (some g)

set_option maxHeartbeats 400000 in
theorem add_any (g : Nat) (bs ls : List UInt8) (v : Value) (B : Nat) (w : World) (he : EncIs w g bs) (hown : w.ownsRow B 5 1 v ls.length (Lib.byteCells ls)) (hlen : bs.length + ls.length ≤ 140737488355328) :
    Calls Tryd.prog 71 #[.pointer (some ⟨g, 0, none⟩), v] w (EncRet g (bs ++ ls) w) := by
  obtain ⟨p, ha, hch⟩ := he
  rcases hown.2 with ⟨rfl, h0⟩ | ⟨r, cap, cur, rfl, hBr, hrow, hnc, hcm, hcs, htake⟩
  · have : ls = [] := List.eq_nil_of_length_eq_zero h0
    subst this
    go_enter Tryd.func71, Tryd.ntmps71
    go_wp2
    go_ret
    exact ⟨rfl, ⟨p, by simpa using ha, by simpa using hch⟩, ⟨rfl, rfl, rfl, Nat.le_refl _, fun _ _ _ => rfl⟩⟩
  · by_cases hz : ls.length = 0
    · have : ls = [] := List.eq_nil_of_length_eq_zero hz
      subst this
      go_enter Tryd.func71, Tryd.ntmps71
      go_wp2
      go_ret
      exact ⟨rfl, ⟨p, by simpa using ha, by simpa using hch⟩, ⟨rfl, rfl, rfl, Nat.le_refl _, fun _ _ _ => rfl⟩⟩
    · have hcells := hown.cells (g := r) rfl
      have hc0 : w.cell? ⟨g, 0, none⟩ = some (.pointer p) := ha.cell 0
      have hd0 : ∀ o, (w.alloc o).cell? ⟨g, 0, none⟩ = some (.pointer p) := fun o => (ha.alloc o).cell 0
      have hd1 : ∀ o, (w.alloc o).cell? ⟨g, 1, none⟩ = some (.int .i64 (bs.length : Nat)) := fun o => (ha.alloc o).cell 1
      have hf0 : ∀ o, (w.alloc o).frozen? ⟨g, 0, none⟩ = false := fun o => (ha.alloc o).frozen 0
      have hf1 : ∀ o, (w.alloc o).frozen? ⟨g, 1, none⟩ = false := fun o => (ha.alloc o).frozen 1
      have hcv : (convert 82 9 (.slice (some ⟨r, 0, none⟩) ls.length cap)).run Tryd.prog w.drew = .ok (.string ⟨ls.toArray⟩) w.drew :=
        run_convert_bytes_back w.drew _ _ _ _ cap ls Tryd.underlying82 Tryd.underlying5 Tryd.underlying9 (fun j hj => by
          have e : (⟨r, 0, none⟩ : Addr).add j = ⟨r, j, none⟩ := by simp [Addr.add]; omega
          exact (hcells j _ (by simp [Lib.byteCells, hj])))
      have HC := Lib.hid hcells; clear hcells
      have hpos : 0 < ls.length := by omega
      go_enter Tryd.func71, Tryd.ntmps71
      go_wp2
      go_region
      go_wp2
      go_ret
      exact ⟨rfl, add_end ha hch (by intro e; rw [e] at hpos; simp at hpos)⟩
theorem EncIs.new (w : World) : EncIs (w.alloc (.cells #[.pointer none, .int .i64 0] 104)) w.heap.size [] := ⟨none, At.new _ _ _, .nil⟩
theorem EncIs.below {w w' : World} {g B : Nat} {bs : List UInt8} (h : EncIs w g bs) (hb : Below B w w') (hB : B = w.heap.size) : EncIs w' g bs := h.same (grownBy_of_below hb hB)
end Go.Proofs.YtniecodpdmjppaaDoor
