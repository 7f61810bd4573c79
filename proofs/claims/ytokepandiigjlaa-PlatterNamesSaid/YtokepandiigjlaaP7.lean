/- platter.New, Write, Append, Read: their walks. -/
import Derived.Test.YtokepandiigjlaaP6
import Derived.Test.YtokepandiigjlaaPm
import Derived.Test.YtokepandiigjlaaKx
namespace Go.Proofs.Ytokepandiigjlaa
open Go.RowKit Go.Sort
open Pm (Key Fi St Files)
set_option linter.unusedVariables false

/-- block g is a disk that has the files L; all that is its own lies at block B or behind -/
def Has (w : World) (B g m : Nat) (rm : Int) (lo : Bool) (lf : Int) (L : Files) : Prop := ∃ us G, Dsk w B g m rm us lo lf G ∧ abs G = L

section
variable {w w' : World} {B g m : Nat} {rm us : Int} {lo : Bool} {lf : Int} {G : Held} {L : Files}
theorem Dsk.has (h : Dsk w B g m rm us lo lf G) (e : abs G = L) : Has w B g m rm lo lf L := ⟨us, G, h, e⟩
theorem Has.below (h : Has w B g m rm lo lf L) (hb : Below w.heap.size w w') : Has w' B g m rm lo lf L := by obtain ⟨us, G, hd, e⟩ := h; exact ⟨us, G, hd.below hb, e⟩
theorem Has.alloc (h : Has w B g m rm lo lf L) (o : Obj) : Has (w.alloc o) B g m rm lo lf L := h.below ((Below.refl _ w).alloc (Nat.le_refl _) o)
theorem Has.used (h : Has w B g m rm lo lf L) : (Pm.used L : Int) ≤ rm := by obtain ⟨us, G, hd, rfl⟩ := h; rw [← hd.sum]; exact hd.le
theorem Dsk.absSorted (h : Dsk w B g m rm us lo lf G) : Pm.Sorted (abs G) := h.sorted.vmap _
theorem Dsk.absThere (h : Dsk w B g m rm us lo lf G) : Pm.AllThere (abs G) := by
  intro p hp
  unfold abs Pm.vmap at hp
  obtain ⟨q, hq, rfl⟩ := List.mem_map.1 hp
  exact ⟨(h.files q hq).2.1, (h.files q hq).1.ok⟩
theorem Has.sorted (h : Has w B g m rm lo lf L) : Pm.Sorted L := by obtain ⟨us, G, hd, rfl⟩ := h; exact hd.absSorted
theorem Has.there (h : Has w B g m rm lo lf L) : Pm.AllThere L := by obtain ⟨us, G, hd, rfl⟩ := h; exact hd.absThere
theorem abs_length (G : Held) : (abs G).length = G.length := by unfold abs Pm.vmap; simp
theorem Dsk.footB (h : Dsk w B g m rm us lo lf G) : ∀ k, Foot g m G k → B ≤ k := fun k hk => (h.foot_lt hk).1
end

set_option maxRecDepth 100000 in
set_option maxHeartbeats 1000000 in
theorem new_any (room rm : Int) (hr : room ≤ 9223372036854775807) (hrm' : max room 0 = rm) (w : World) :
    Calls Try.prog 9 #[.int .i64 room] w fun e w' => ∃ g m, e = .returned (.pointer (some ⟨g, 0, none⟩)) ∧ Has w' w.heap.size g m rm false 0 [] ∧ Below w.heap.size w w' := by
  have hmm := @run_makeMap Try.prog
  go_enter Try.func9, Try.ntmps9
  go_wp2_with fail
  refine (made_any room w).mono ?_
  rintro e w1 ⟨rfl, o, rfl⟩
  have hrm : (0 : Int) ≤ rm ∧ rm ≤ 9223372036854775807 := by omega
  rw [hrm']
  clear hrm'
  have hm0 := MapIs.made (w.alloc o)
  have hs0 : (w.alloc o).heap.size = w.heap.size + 1 := by simp
  rw [hs0] at hm0
  have hD : Dsk (((w.alloc o).alloc (.map #[] 0)).alloc (.cells (five rm 0 false 0 (.map (some (w.heap.size + 1)))) 45)) w.heap.size (w.heap.size + 2) (w.heap.size + 1) rm 0 false 0 [] := by
    have hz : ((w.alloc o).alloc (.map #[] 0)).heap.size = w.heap.size + 2 := by simp
    refine ⟨?_, hm0.alloc _, by simp, List.Pairwise.nil, List.Pairwise.nil, rfl, hrm.1, hrm.2, by decide, by decide, by omega, by omega⟩
    have := At.new ((w.alloc o).alloc (.map #[] 0)) 45 (five rm 0 false 0 (.map (some (w.heap.size + 1))))
    rw [hz] at this
    exact this
  have hB : Below w.heap.size w (((w.alloc o).alloc (.map #[] 0)).alloc (.cells (five rm 0 false 0 (.map (some (w.heap.size + 1)))) 45)) :=
    (((Below.refl _ w).alloc (Nat.le_refl _) _).alloc (by simp) _).alloc (by simp; omega) _
  have HD := Lib.hid hD; clear hD hm0
  have HB := Lib.hid hB; clear hB
  unfold five at HD HB
  go_wp2
  go_ret
  exact ⟨w.heap.size + 2, w.heap.size + 1, rfl, ⟨0, [], HD.out, rfl⟩, HB.out⟩

/-- what the calls of a disk that is armed or not, and not lost, begin with -/
theorem has_write_ok {w : World} {B g m : Nat} {rm : Int} {L : Files} (F : Bool) (h : Has w B g m rm false 0 L) (hB : B ≤ w.heap.size) (n s : ByteArray) (hn : n.size ≤ 140737488355328) (hne : n.data.toList ≠ []) (keep : Nat) (hk : keep = 0 ∨ keep = (Pm.fi L n.data.toList).now.t.length)
    (hs : (Pm.used L : Int) + s.size ≤ 140737488355328) (hL : L.length ≤ 1000000) (hfit : (keep : Int) + s.size - ((Pm.fi L n.data.toList).weight : Nat) ≤ rm - Pm.used L) :
    Calls Try.prog 45 #[.pointer (some ⟨g, 0, none⟩), .string n, .int .i64 (keep : Int), .string s] w fun e w' => e = .returned (.int .i64 0) ∧
      Has w' B g m rm false 0 (Pm.set L n.data.toList (Pm.wrote (Pm.fi L n.data.toList) keep s.data.toList)) ∧ Below B w w' := by
  obtain ⟨us, G, hd, rfl⟩ := h
  have hsl : s.data.toList.length = s.size := by simp
  have hsum := hd.sum
  refine (change_any hd hB n hn keep hk s (by rw [hsum]; exact hs) (by unfold maxLen; rw [abs_length] at hL; omega)).mono ?_
  rintro e w' ⟨hm, h1 | h1 | h1 | h1⟩
  · obtain ⟨c, hc, h2, _⟩ := h1
    exact absurd h2.symm hc
  · exact absurd h1.2.1 hne
  · obtain ⟨_, _, h2, _⟩ := h1
    rw [hsl] at h2
    omega
  · obtain ⟨_, _, _, rfl, us', G', hd', he, _⟩ := h1
    exact ⟨rfl, ⟨us', G', hd', he⟩, hm.below hB hd.footB⟩
end Go.Proofs.Ytokepandiigjlaa
