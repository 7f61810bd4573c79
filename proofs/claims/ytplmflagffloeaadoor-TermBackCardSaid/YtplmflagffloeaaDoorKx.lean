/- maps.Keys, slices.Collect, slices.Sorted at the disk's map: the library's contracts, met by the map of files. -/
import Derived.Test.YtplmflagffloeaaDoorKn
import Derived.Test.YtplmflagffloeaaDoorP1
namespace Go.Proofs.YtplmflagffloeaaDoor
open Go.RowKit Go.Maps Go.Sort Go.Shelf
open Pm (Key Fi St Files)
set_option linter.unusedVariables false

theorem bb_lt : ∀ {a b : Key}, bytesBefore a b = true → a < b
  | [], [], h => by simp [bytesBefore] at h
  | [], _ :: _, _ => List.nil_lt_cons _ _
  | _ :: _, [], h => by simp [bytesBefore] at h
  | a :: r, b :: s, h => by
    simp only [bytesBefore, Bool.or_eq_true, decide_eq_true_eq, Bool.and_eq_true, beq_iff_eq] at h
    rcases h with h | ⟨rfl, h⟩
    · exact List.cons_lt_cons_iff.2 (.inl h)
    · exact List.cons_lt_cons_iff.2 (.inr ⟨rfl, bb_lt h⟩)
theorem bb_le {a b : Key} (h : bytesBefore a b = true) : a ≤ b := List.le_of_lt (bb_lt h)

theorem keys_dat (G : Held) : strKeys (DataW.map (dat G)) = G.map (·.1) := by
  unfold dat
  simp only [strKeys, List.map_map]
  rfl
theorem size_dat (G : Held) : Maps.size (DataW.map (dat G)) = G.length := by unfold dat; simp [Maps.size]
theorem sorted_keys {G : Held} (hs : Pm.Sorted G) {ss : List Key} (hp : ss.Perm (G.map (·.1))) : ss.mergeSort (fun x y => decide (x ≤ y)) = G.map (·.1) := by
  have h1 : (G.map (·.1)).Pairwise (fun x y => decide (x ≤ y) = true) := by
    rw [List.pairwise_map]
    exact hs.imp fun h => by simpa using bb_le h
  have h2 := mergeSort_of_perm hp
  rw [h2]
  exact List.mergeSort_of_pairwise h1

theorem maps_keys (mb : Option Nat) (W : World) : Calls Tryd.prog 34 #[.map mb] W fun e w' => e = .returned (.func (.func 59) #[] #[.pointer (some ⟨W.heap.size, 0, none⟩)]) ∧ w' = W.alloc (.cells #[.map mb] 57) :=
  callsIn_wide.1 (AnyZ.keys_in Tryd.keys34 Fence.wide 5 trivial rfl mb W)

theorem sorts (m : Nat) : AnyZ.SortsIn Tryd.prog Tryd.sorted33_ren Fence.wide m :=
  ⟨fun blk off cap ss W hH hblk hsz => callsIn_wide.2 (AnyM.slices_Sort_string Tryd.sort58 blk off cap ss W hH hblk hsz),
   fun p cap W => callsIn_wide.2 (AnyM.slices_Sort_string_none Tryd.sort58 p cap W)⟩

theorem gives {w : World} {m : Nat} {G : Held} (h : MapIs w m G) : SeqGives Fence.wide 2 Tryd.prog 59 #[.pointer (some ⟨w.heap.size, 0, none⟩)] encStr (fun ss => ss.Perm (G.map (·.1))) G.length (w.alloc (.cells #[.map (some m)] 57)) := by
  have hown : w.ownsMap Tryd.prog 9 fileR m G.length (.map (dat G)) := h
  have hg := AnyZ.keys_gives (ρ := Tryd.keys34_ren) { Tryd.keys34 with } Fence.wide 2 trivial rfl (by omega) w.heap.size m G.length (DataW.map (dat G)) (R := fileR) (w.alloc (.cells #[.map (some m)] 57)) (by simp) (by simp) (hown.alloc _)
  rw [keys_dat, size_dat] at hg
  exact hg

set_option maxHeartbeats 1000000 in
theorem sorted_call {w : World} {m : Nat} {G : Held} (h : MapIs w m G) (hs : Pm.Sorted G) (hmax : G.length ≤ 1000000) :
    Calls Tryd.prog 33 #[.func (.func 59) #[] #[.pointer (some ⟨w.heap.size, 0, none⟩)]] (w.alloc (.cells #[.map (some m)] 57)) fun e w' => ∃ v, e = .returned v ∧
      w'.ownsRow (w.heap.size + 1) 9 1 v G.length ((G.map (·.1)).map encStr) ∧ Below (w.heap.size + 1) (w.alloc (.cells #[.map (some m)] 57)) w' := by
  have hc := callsIn_wide.1 (AnyZ.sorted_in Tryd.sorted33 Fence.wide 5 trivial trivial trivial trivial rfl (by omega) (sorts _) (enters_of Tryd.func58 (by kernel_rfl) rfl) 59 #[.pointer (some ⟨w.heap.size, 0, none⟩)] trivial (enters_of Tryd.func59 (by kernel_rfl) rfl)
    (fun ss => ss.Perm (G.map (·.1))) G.length (by unfold maxLen; omega) (by omega) (w.alloc (.cells #[.map (some m)] 57)) (gives h))
  refine hc.mono ?_
  rintro e w' ⟨v, ss, rfl, hp, hrow, _, hb⟩
  rw [sorted_keys hs hp, show ss.length = G.length by rw [hp.length_eq, List.length_map]] at hrow
  rw [show (w.alloc (.cells #[.map (some m)] 57)).heap.size = w.heap.size + 1 by simp] at hrow hb
  exact ⟨v, rfl, hrow, hb⟩

set_option maxHeartbeats 1000000 in
theorem collect_call {w : World} {m : Nat} {G : Held} (h : MapIs w m G) (hmax : G.length ≤ 1000000) :
    Calls Tryd.prog 44 #[.func (.func 59) #[] #[.pointer (some ⟨w.heap.size, 0, none⟩)]] (w.alloc (.cells #[.map (some m)] 57)) fun e w' => ∃ v, ∃ ss : List Key, e = .returned v ∧ ss.Perm (G.map (·.1)) ∧
      w'.ownsRow (w.heap.size + 1) 9 1 v ss.length (ss.map encStr) ∧ Below (w.heap.size + 1) (w.alloc (.cells #[.map (some m)] 57)) w' := by
  have hc := callsIn_wide.1 (AnyZ.collect_in (ρ := Tryd.sorted33_ren) { Tryd.sorted33 with } Fence.wide 4 trivial trivial rfl (by omega) 59 #[.pointer (some ⟨w.heap.size, 0, none⟩)] trivial (enters_of Tryd.func59 (by kernel_rfl) rfl)
    (fun ss => ss.Perm (G.map (·.1))) G.length (by unfold maxLen; omega) (by omega) (w.alloc (.cells #[.map (some m)] 57)) (gives h))
  refine hc.mono ?_
  rintro e w' ⟨v, ss, rfl, hp, hrow, _, hb⟩
  rw [show (w.alloc (.cells #[.map (some m)] 57)).heap.size = w.heap.size + 1 by simp] at hrow hb
  exact ⟨v, ss, rfl, hp, hrow, hb⟩
end Go.Proofs.YtplmflagffloeaaDoor
