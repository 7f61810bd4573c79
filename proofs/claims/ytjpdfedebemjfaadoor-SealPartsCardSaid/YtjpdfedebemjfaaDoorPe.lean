/- glacierlaw02.SealParts: what its fifth region is given. -/
import Derived.Test.YtjpdfedebemjfaaDoorTo
import Derived.Test.YtjpdfedebemjfaaDoorOn
import Derived.Deep.RegionHeld3
import Derived.Deep.CutRange
import Derived.Laws.IdiomStrings
namespace Go.Proofs.YtjpdfedebemjfaaDoor
open Go.RowKit
open Sm

section
variable {W : World} {G : Nat}
theorem cells1 {x : ByteArray} (h0 : W.cell? ⟨G, 0, none⟩ = some (.string x)) : ∀ (j : Nat) z, [x][j]? = some z → W.cell? ⟨G, j, none⟩ = some (.string z) := by
  intro j z hj
  match j, hj with
  | 0, hj => simp at hj; subst hj; exact h0
  | j + 1, hj => simp at hj
theorem cells2 {x y : ByteArray} (h0 : W.cell? ⟨G, 0, none⟩ = some (.string x)) (h1 : W.cell? ⟨G, 1, none⟩ = some (.string y)) : ∀ (j : Nat) z, [x, y][j]? = some z → W.cell? ⟨G, j, none⟩ = some (.string z) := by
  intro j z hj
  match j, hj with
  | 0, hj => simp at hj; subst hj; exact h0
  | 1, hj => simp at hj; subst hj; exact h1
  | j + 2, hj => simp at hj
theorem cells3 {x y u : ByteArray} (h0 : W.cell? ⟨G, 0, none⟩ = some (.string x)) (h1 : W.cell? ⟨G, 1, none⟩ = some (.string y)) (h2 : W.cell? ⟨G, 2, none⟩ = some (.string u)) : ∀ (j : Nat) z, [x, y, u][j]? = some z → W.cell? ⟨G, j, none⟩ = some (.string z) := by
  intro j z hj
  match j, hj with
  | 0, hj => simp at hj; subst hj; exact h0
  | 1, hj => simp at hj; subst hj; exact h1
  | 2, hj => simp at hj; subst hj; exact h2
  | j + 3, hj => simp at hj
end

theorem cell_lt {W : World} {G i : Nat} {v : Value} (h : W.cell? ⟨G, i, none⟩ = some v) : G < W.heap.size := World.block_lt_of_cell? W ⟨G, i, none⟩ h

theorem cell_top (W : World) (cs : Array Value) (t : TypeId) (G i : Nat) (hG : G = W.heap.size) (v : Value) (hv : cs[i]? = some v) : (W.alloc (.cells cs t)).cell? ⟨G, i, none⟩ = some v := by
  subst hG
  exact ((At.new W t cs).cell i).trans hv
theorem cell_under (W : World) (o : Obj) (G i : Nat) (v : Value) (h : W.cell? ⟨G, i, none⟩ = some v) : (W.alloc o).cell? ⟨G, i, none⟩ = some v :=
  (((Below.refl W.heap.size W).alloc (Nat.le_refl _) o).cell (p := ⟨G, i, none⟩) (cell_lt h)).trans h

/-- Sum of the texts in a block -/
theorem sum_cells (l : List ByteArray) (n : Nat) (hn : l.length = n) (v : Nat) (hv : crc (cat l) = v) (hl : n ≤ 1000) (hz : ∀ s ∈ l, s.size ≤ 9223372036854775807) (W : World) (G : Nat) (hS : Steps W)
    (hc : ∀ (j : Nat) x, l[j]? = some x → W.cell? ⟨G, j, none⟩ = some (.string x)) :
    Calls Tryd.prog 17 #[.slice (some ⟨G, 0, none⟩) n n] W fun e w' => e = .returned (.int .u32 (v : Nat)) ∧ W = w' := by
  subst hn; subst hv
  refine sum_any l (some ⟨G, 0, none⟩) l.length W hS (fun j u hj => ?_) (by omega) hz
  unfold strs at hj
  rw [List.getElem?_map] at hj
  obtain ⟨x, hx, rfl⟩ := Option.map_eq_some_iff.1 hj
  have h := hc j x hx
  have e : (⟨G, 0, none⟩ : Addr).add j = ⟨G, j, none⟩ := by simp [Addr.add]; omega
  exact ⟨⟨G, 0, none⟩, rfl, cell_lt h, by rw [e]; exact h⟩
/-- Frame of the texts in a block -/
theorem frame_cells (l : List ByteArray) (n : Nat) (hn : l.length = n) (h0 : 0 < n) (F : ByteArray) (hF : (⟨(frameL (cat l)).toArray⟩ : ByteArray) = F) (hlen : (cat l).length ≤ 1048576) (hl : n ≤ 1000) (W : World) (G : Nat) (hS : Steps W)
    (hc : ∀ (j : Nat) x, l[j]? = some x → W.cell? ⟨G, j, none⟩ = some (.string x)) :
    Calls Tryd.prog 19 #[.slice (some ⟨G, 0, none⟩) n n] W fun e w' => e = .returned (.string F) ∧ Below W.heap.size W w' := by
  subst hn; subst hF
  refine frame_any l G l.length W hS (Nat.le_refl _) (cell_lt (hc 0 l[0] (List.getElem?_eq_getElem h0))) (fun j x hj => ?_) hlen hl
  rw [Nat.zero_add]
  exact hc j x hj

theorem cat_parts (s : ByteArray) (a b : Nat) (h1 : a ≤ b) (h2 : b ≤ s.size) : cat [s.extract 0 a, s.extract a b, s.extract b s.size] = s.data.toList := by
  have hl : s.data.toList.length = s.size := size_list s
  simp only [cat, List.flatMap_cons, List.flatMap_nil, List.append_nil, ByteArray.data_extract, Array.toList_extract, List.extract_eq_take_drop, List.drop_zero, Nat.sub_zero]
  rw [List.take_of_length_le (l := List.drop b s.data.toList) (by rw [List.length_drop]; omega)]
  have e : List.drop b s.data.toList = List.drop (b - a) (List.drop a s.data.toList) := by rw [List.drop_drop]; congr 1; omega
  rw [e, List.take_append_drop, List.take_append_drop]
theorem cat_halves (s : ByteArray) (a : Nat) (h : a ≤ s.size) : cat [s.extract 0 a, s.extract a s.size] = s.data.toList := by
  have hl : s.data.toList.length = s.size := size_list s
  simp only [cat, List.flatMap_cons, List.flatMap_nil, List.append_nil, ByteArray.data_extract, Array.toList_extract, List.extract_eq_take_drop, List.drop_zero, Nat.sub_zero]
  rw [List.take_of_length_le (l := List.drop a s.data.toList) (by rw [List.length_drop]; omega), List.take_append_drop]

/-- the table stands, and nothing that was there has turned -/
def Held (w W : World) : Prop := Steps W ∧ Below w.heap.size w W
theorem held_alloc {w W : World} (h : Held w W) (o : Obj) : Held w (W.alloc o) := ⟨h.1.alloc o, h.2.alloc h.2.size o⟩
theorem held_drew {w W : World} (h : Held w W) : Held w W.drew := ⟨h.1.drewN 1, below_drewN h.2 1⟩
theorem held_below {w W W' : World} (h : Held w W) (hb : Below W.heap.size W W') : Held w W' := ⟨h.1.below hb h.1.1, h.2.trans (hb.mono h.2.size)⟩

/-- the post of a panic does not hang on the frame -/
def NoHang (Q : Exit → Act → World → Prop) : Prop := ∀ c (a : Act) (d : Option Tmp) (v : Value) (w : World), Q (.panic c) (a.put d v) w → Q (.panic c) a w

/-- a number between two -/
theorem clamp_nat (a lo hi : Int) (h0 : 0 ≤ lo) (h1 : lo ≤ hi) : ∃ n : Nat, lo ≤ (n : Int) ∧ (n : Int) ≤ hi ∧ min (max a lo) hi = (n : Int) := by
  refine ⟨(min (max a lo) hi).toNat, ?_, ?_, ?_⟩ <;> omega

/-- what the region reads, and what the calls in it answer -/
structure Env (w : World) (s p1 p2 p3 p4 c1 F : ByteArray) (a b c v u : Nat) : Prop where
  nums : s.extract 0 a = p1 ∧ s.extract a b = p2 ∧ s.extract b s.size = p3 ∧ s.extract a s.size = p4 ∧ (0 : Int) ≤ (a : Int) ∧ (a : Int) ≤ (s.size : Int) ∧ (a : Int) ≤ (b : Int) ∧ (b : Int) ≤ (s.size : Int) ∧ a ≤ b ∧ b ≤ s.size ∧ s.size ≤ 150 ∧ c1.size ≤ 150
  HA : ∀ W, Steps W → Calls Tryd.prog 15 #[] W fun e w' => e = .returned (.bool true) ∧ Below W.heap.size W w'
  K3 : ∀ (W : World) (G : Nat), Steps W → (∀ (j : Nat) x, [p1, p2, p3][j]? = some x → W.cell? ⟨G, j, none⟩ = some (.string x)) → Calls Tryd.prog 17 #[.slice (some ⟨G, 0, none⟩) 3 3] W fun e w' => e = .returned (.int .u32 (v : Nat)) ∧ W = w'
  K2 : ∀ (W : World) (G : Nat), Steps W → (∀ (j : Nat) x, [s, c1][j]? = some x → W.cell? ⟨G, j, none⟩ = some (.string x)) → Calls Tryd.prog 17 #[.slice (some ⟨G, 0, none⟩) 2 2] W fun e w' => e = .returned (.int .u32 (u : Nat)) ∧ W = w'
  K4 : ∀ (W : World) (G : Nat), Steps W → (∀ (j : Nat) x, [s ++ c1][j]? = some x → W.cell? ⟨G, j, none⟩ = some (.string x)) → Calls Tryd.prog 17 #[.slice (some ⟨G, 0, none⟩) 1 1] W fun e w' => e = .returned (.int .u32 (u : Nat)) ∧ W = w'
  M2 : ∀ (W : World) (G : Nat), Steps W → (∀ (j : Nat) x, [p1, p4][j]? = some x → W.cell? ⟨G, j, none⟩ = some (.string x)) → Calls Tryd.prog 19 #[.slice (some ⟨G, 0, none⟩) 2 2] W fun e w' => e = .returned (.string F) ∧ Below W.heap.size W w'
  M1 : ∀ (W : World) (G : Nat), Steps W → (∀ (j : Nat) x, [s][j]? = some x → W.cell? ⟨G, j, none⟩ = some (.string x)) → Calls Tryd.prog 19 #[.slice (some ⟨G, 0, none⟩) 1 1] W fun e w' => e = .returned (.string F) ∧ Below W.heap.size W w'
  hcv : ∀ (W : World) (G : Nat), W.cell? ⟨G, 0, none⟩ = some (.int .u8 (c : Int)) → (convert 45 9 (.slice (some ⟨G, 0, none⟩) 1 1)).run Tryd.prog W = .ok (.string c1) W
end Go.Proofs.YtjpdfedebemjfaaDoor
