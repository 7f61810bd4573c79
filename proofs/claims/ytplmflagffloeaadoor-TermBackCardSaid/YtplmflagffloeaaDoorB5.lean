/- P7, P8, P9, Pa0, Po: merged (a claim holds few files). -/
import Derived.Test.YtplmflagffloeaaDoorP6
import Derived.Test.YtplmflagffloeaaDoorPm
import Derived.Test.YtplmflagffloeaaDoorKx
/- platter.New, Write, Append, Read: their walks. -/
namespace Go.Proofs.YtplmflagffloeaaDoor
open Go.RowKit Go.Sort
open Pm (Key Fi St Files)
set_option linter.unusedVariables false

/-- block g is a disk that has the files L; all that is its own lies at block B or behind -/
def Has (w : World) (B g m : Nat) (rm : Int) (lo : Bool) (lf : Int) (L : Files) : Prop := ∃ us G, Dsk w B g m rm us lo lf G ∧ abs G = L

section
variable {w w' : World} {B g m : Nat} {rm us : Int} {lo : Bool} {lf : Int} {G : Held} {L : Files}
theorem Dsk.has (h : Dsk w B g m rm us lo lf G) (e : abs G = L) : Has w B g m rm lo lf L := ⟨us, G, h, e⟩
theorem Has.below (h : Has w B g m rm lo lf L) (hb : Below w.heap.size w w') : Has w' B g m rm lo lf L := by obtain ⟨us, G, hd, e⟩ := h; exact ⟨us, G, hd.below hb, e⟩
theorem Has.alloc (h : Has w B g m rm lo lf L) (o : Obj) : Has (w.alloc o) B g m rm lo lf L := h.below ((Below.refl _ w).alloc (Nat.le_refl _) o)
theorem Has.used (h : Has w B g m rm lo lf L) : (Pm.used L : Int) ≤ rm := by obtain ⟨us, G, hd, rfl⟩ := h; rw [← hd.sum]; exact hd.le
theorem Dsk.absSorted (h : Dsk w B g m rm us lo lf G) : Pm.Sorted (abs G) := h.sorted.vmap _
theorem Dsk.absThere (h : Dsk w B g m rm us lo lf G) : Pm.AllThere (abs G) := by
  intro p hp
  unfold abs Pm.vmap at hp
  obtain ⟨q, hq, rfl⟩ := List.mem_map.1 hp
  exact ⟨(h.files q hq).2.1, (h.files q hq).1.ok⟩
theorem Has.sorted (h : Has w B g m rm lo lf L) : Pm.Sorted L := by obtain ⟨us, G, hd, rfl⟩ := h; exact hd.absSorted
theorem Has.there (h : Has w B g m rm lo lf L) : Pm.AllThere L := by obtain ⟨us, G, hd, rfl⟩ := h; exact hd.absThere
theorem abs_length (G : Held) : (abs G).length = G.length := by unfold abs Pm.vmap; simp
theorem Dsk.footB (h : Dsk w B g m rm us lo lf G) : ∀ k, Foot g m G k → B ≤ k := fun k hk => (h.foot_lt hk).1
end

set_option maxRecDepth 100000 in
set_option maxHeartbeats 1000000 in
theorem new_any (room rm : Int) (hr : room ≤ 9223372036854775807) (hrm' : max room 0 = rm) (w : World) :
    Calls Tryd.prog 7 #[.int .i64 room] w fun e w' => ∃ g m, e = .returned (.pointer (some ⟨g, 0, none⟩)) ∧ Has w' w.heap.size g m rm false 0 [] ∧ Below w.heap.size w w' := by
  have hmm := @run_makeMap Tryd.prog
  go_enter Tryd.func7, Tryd.ntmps7
  go_wp2_with fail
  refine (made_any room w).mono ?_
  rintro e w1 ⟨rfl, o, rfl⟩
  have hrm : (0 : Int) ≤ rm ∧ rm ≤ 9223372036854775807 := by omega
  rw [hrm']
  clear hrm'
  have hm0 := MapIs.made (w.alloc o)
  have hs0 : (w.alloc o).heap.size = w.heap.size + 1 := by simp
  rw [hs0] at hm0
  have hD : Dsk (((w.alloc o).alloc (.map #[] 0)).alloc (.cells (five rm 0 false 0 (.map (some (w.heap.size + 1)))) 61)) w.heap.size (w.heap.size + 2) (w.heap.size + 1) rm 0 false 0 [] := by
    have hz : ((w.alloc o).alloc (.map #[] 0)).heap.size = w.heap.size + 2 := by simp
    refine ⟨?_, hm0.alloc _, by simp, List.Pairwise.nil, List.Pairwise.nil, rfl, hrm.1, hrm.2, by decide, by decide, by omega, by omega⟩
    have := At.new ((w.alloc o).alloc (.map #[] 0)) 61 (five rm 0 false 0 (.map (some (w.heap.size + 1))))
    rw [hz] at this
    exact this
  have hB : Below w.heap.size w (((w.alloc o).alloc (.map #[] 0)).alloc (.cells (five rm 0 false 0 (.map (some (w.heap.size + 1)))) 61)) :=
    (((Below.refl _ w).alloc (Nat.le_refl _) _).alloc (by simp) _).alloc (by simp; omega) _
  have HD := Lib.hid hD; clear hD hm0
  have HB := Lib.hid hB; clear hB
  unfold five at HD HB
  go_wp2
  go_ret
  exact ⟨w.heap.size + 2, w.heap.size + 1, rfl, ⟨0, [], HD.out, rfl⟩, HB.out⟩

/-- what the calls of a disk that is armed or not, and not lost, begin with -/
theorem has_write_ok {w : World} {B g m : Nat} {rm : Int} {L : Files} (F : Bool) (h : Has w B g m rm false 0 L) (hB : B ≤ w.heap.size) (n s : ByteArray) (hn : n.size ≤ 140737488355328) (hne : n.data.toList ≠ []) (keep : Nat) (hk : keep = 0 ∨ keep = (Pm.fi L n.data.toList).now.t.length)
    (hs : (Pm.used L : Int) + s.size ≤ 140737488355328) (hL : L.length ≤ 1000000) (hfit : (keep : Int) + s.size - ((Pm.fi L n.data.toList).weight : Nat) ≤ rm - Pm.used L) :
    Calls Tryd.prog 40 #[.pointer (some ⟨g, 0, none⟩), .string n, .int .i64 (keep : Int), .string s] w fun e w' => e = .returned (.int .i64 0) ∧
      Has w' B g m rm false 0 (Pm.set L n.data.toList (Pm.wrote (Pm.fi L n.data.toList) keep s.data.toList)) ∧ Below B w w' := by
  obtain ⟨us, G, hd, rfl⟩ := h
  have hsl : s.data.toList.length = s.size := by simp
  have hsum := hd.sum
  refine (change_any hd hB n hn keep hk s (by rw [hsum]; exact hs) (by unfold maxLen; rw [abs_length] at hL; omega)).mono ?_
  rintro e w' ⟨hm, h1 | h1 | h1 | h1⟩
  · obtain ⟨c, hc, h2, _⟩ := h1
    exact absurd h2.symm hc
  · exact absurd h1.2.1 hne
  · obtain ⟨_, _, h2, _⟩ := h1
    rw [hsl] at h2
    omega
  · obtain ⟨_, _, _, rfl, us', G', hd', he, _⟩ := h1
    exact ⟨rfl, ⟨us', G', hd', he⟩, hm.below hB hd.footB⟩
end Go.Proofs.YtplmflagffloeaaDoor

/- Write, Append, Read, Sync, Crash of a disk that isn't lost nor armed: their walks. -/
namespace Go.Proofs.YtplmflagffloeaaDoor
open Go.RowKit Go.Sort
open Pm (Key Fi St Files)
set_option linter.unusedVariables false

theorem field_now (a b : Value) (ea eb : Bool) (W : World) : (Instr.field 83 (.agg #[a, .bool ea, b, .bool eb]) 0).run Tryd.prog W = .ok (.agg #[a, .bool ea]) W := by
  simp [Instr.field, go_sem, run_underlying Tryd.underlying83, asAgg, Result.andThen]
theorem field_sure (a b : Value) (ea eb : Bool) (W : World) : (Instr.field 83 (.agg #[a, .bool ea, b, .bool eb]) 1).run Tryd.prog W = .ok (.agg #[b, .bool eb]) W := by
  simp [Instr.field, go_sem, run_underlying Tryd.underlying83, asAgg, Result.andThen]
theorem field_text (a : Value) (ea : Bool) (W : World) : (Instr.field 81 (.agg #[a, .bool ea]) 0).run Tryd.prog W = .ok a W := by
  simp [Instr.field, go_sem, run_underlying Tryd.underlying81, asAgg, Result.andThen]
theorem field_ex (a : Value) (ea : Bool) (W : World) : (Instr.field 81 (.agg #[a, .bool ea]) 1).run Tryd.prog W = .ok (.bool ea) W := by
  simp [Instr.field, go_sem, run_underlying Tryd.underlying81, asAgg, Result.andThen]

theorem wrote_append (x : Fi) (t : List UInt8) : Pm.wrote x x.now.t.length t = ⟨⟨true, x.now.t ++ t⟩, x.sure⟩ := by
  unfold Pm.wrote
  by_cases h : x.now.t.length = 0
  · rw [if_pos h, List.eq_nil_of_length_eq_zero h]
  · rw [if_neg h]

set_option maxRecDepth 100000 in
set_option maxHeartbeats 400000 in
theorem write_ok {w : World} {B g m : Nat} {rm : Int} {L : Files} (h : Has w B g m rm false 0 L) (hB : B ≤ w.heap.size) (n s : ByteArray) (hn : n.size ≤ 140737488355328) (hne : n.data.toList ≠ [])
    (hs : (Pm.used L : Int) + s.size ≤ 140737488355328) (hL : L.length ≤ 1000000) (hfit : (s.size : Int) - ((Pm.fi L n.data.toList).weight : Nat) ≤ rm - Pm.used L) :
    Calls Tryd.prog 45 #[.pointer (some ⟨g, 0, none⟩), .string n, .string s] w fun e w' => e = .returned (.int .i64 0) ∧
      Has w' B g m rm false 0 (Pm.set L n.data.toList ⟨⟨true, s.data.toList⟩, (Pm.fi L n.data.toList).sure⟩) ∧ Below B w w' := by
  have hc := has_write_ok true h hB n s hn hne 0 (.inl rfl) hs hL (by omega)
  rw [show Pm.wrote (Pm.fi L n.data.toList) 0 s.data.toList = ⟨⟨true, s.data.toList⟩, (Pm.fi L n.data.toList).sure⟩ from rfl] at hc
  clear h
  go_enter Tryd.func45, Tryd.ntmps45
  go_wp2_with fail
  refine hc.mono ?_
  rintro e w1 ⟨rfl, hH, hb⟩
  go_wp2
  go_ret
  exact ⟨rfl, hH, hb⟩

set_option maxRecDepth 100000 in
set_option maxHeartbeats 400000 in
theorem append_ok {w : World} {B g m : Nat} {rm : Int} {L : Files} (h : Has w B g m rm false 0 L) (hB : B ≤ w.heap.size) (n s : ByteArray) (hn : n.size ≤ 140737488355328) (hne : n.data.toList ≠ [])
    (hs : (Pm.used L : Int) + s.size ≤ 140737488355328) (hL : L.length ≤ 1000000) (hfit : ((Pm.fi L n.data.toList).now.t.length : Int) + s.size - ((Pm.fi L n.data.toList).weight : Nat) ≤ rm - Pm.used L) :
    Calls Tryd.prog 21 #[.pointer (some ⟨g, 0, none⟩), .string n, .string s] w fun e w' => e = .returned (.int .i64 0) ∧
      Has w' B g m rm false 0 (Pm.set L n.data.toList ⟨⟨true, (Pm.fi L n.data.toList).now.t ++ s.data.toList⟩, (Pm.fi L n.data.toList).sure⟩) ∧ Below B w w' := by
  have hc := has_write_ok true h hB n s hn hne _ (.inr rfl) hs hL hfit
  rw [wrote_append] at hc
  obtain ⟨us, G, hd, rfl⟩ := h
  have hnm : n.size ≤ maxLen := by unfold maxLen; omega
  have hlook := hd.map.look (s := n) hnm
  have hfo := hd.fv n.data.toList
  have hlen := hfo.a.1
  have hc4 := hd.c4
  have HC := Lib.hid hc
  clear hc hfo hd
  have hfv : (fvAt G n.data.toList).val = .agg #[.slice ((fvAt G n.data.toList).a.g.map fun g => ⟨g, 0, none⟩) (fvAt G n.data.toList).a.n (fvAt G n.data.toList).a.c, .bool (fvAt G n.data.toList).ea, .slice ((fvAt G n.data.toList).b.g.map fun g => ⟨g, 0, none⟩) (fvAt G n.data.toList).b.n (fvAt G n.data.toList).b.c, .bool (fvAt G n.data.toList).eb] := rfl
  rw [hfv, hlen] at hlook
  clear hfv hlen
  generalize (fvAt G n.data.toList).a.c = ca at *
  have ff := field_now
  have ft := field_text
  go_enter Tryd.func21, Tryd.ntmps21
  go_wp2_with fail
  refine HC.out.mono ?_
  rintro e w1 ⟨rfl, hH, hb⟩
  go_wp2
  go_ret
  exact ⟨rfl, hH, hb⟩

theorem has_try {w : World} {B g m : Nat} {rm : Int} {L : Files} (h : Has w B g m rm false 0 L) : Calls Tryd.prog 43 #[.pointer (some ⟨g, 2, none⟩)] w fun e w' => e = .returned (.int .i64 0) ∧ Has w' B g m rm false 0 L ∧ Moved w w' fun b => b = g := by
  obtain ⟨us, G, hd, rfl⟩ := h
  refine (try_dsk hd).mono ?_
  rintro e w' ⟨rfl, hd', hm⟩
  exact ⟨rfl, ⟨us, G, hd', rfl⟩, hm⟩

set_option maxRecDepth 100000 in
set_option maxHeartbeats 1000000 in
theorem read_ok {w : World} {B g m : Nat} {rm : Int} {L : Files} (h : Has w B g m rm false 0 L) (hB : B ≤ w.heap.size) (n : ByteArray) (hn : n.size ≤ 140737488355328) :
    Calls Tryd.prog 75 #[.pointer (some ⟨g, 0, none⟩), .string n] w fun e w' => e = .returned (.tuple (if (Pm.fi L n.data.toList).now.ex = true then #[.string ⟨(Pm.fi L n.data.toList).now.t.toArray⟩, .int .i64 0] else #[.string ⟨#[]⟩, .int .i64 5])) ∧
      Has w' B g m rm false 0 L ∧ Below B w w' := by
  have hnm : n.size ≤ maxLen := by unfold maxLen; omega
  obtain ⟨ex, hex⟩ : ∃ ex, (Pm.fi L n.data.toList).now.ex = ex := ⟨_, rfl⟩
  rw [hex]
  obtain ⟨txt, htx⟩ : ∃ txt, (Pm.fi L n.data.toList).now.t.toArray = txt := ⟨_, rfl⟩
  rw [htx]
  go_enter Tryd.func75, Tryd.ntmps75
  go_wp2_with fail
  refine (has_try h).mono ?_
  rintro e w1 ⟨rfl, hh1, hm1⟩
  obtain ⟨us, G, hd, rfl⟩ := hh1
  have hb1 : Below B w w1 := hm1.below hB (fun k hk => by rw [hk]; exact hd.gB)
  have hlook := hd.map.look (s := n) hnm
  have hfo := hd.fv n.data.toList
  have hfv : (fvAt G n.data.toList).val = .agg #[.slice ((fvAt G n.data.toList).a.g.map fun g => ⟨g, 0, none⟩) (fvAt G n.data.toList).a.n (fvAt G n.data.toList).a.c, .bool (fvAt G n.data.toList).ea, .slice ((fvAt G n.data.toList).b.g.map fun g => ⟨g, 0, none⟩) (fvAt G n.data.toList).b.n (fvAt G n.data.toList).b.c, .bool (fvAt G n.data.toList).eb] := rfl
  rw [hfv] at hlook
  have hconv : ∀ o, (convert 79 9 (.slice ((fvAt G n.data.toList).a.g.map fun g => ⟨g, 0, none⟩) (fvAt G n.data.toList).a.n (fvAt G n.data.toList).a.c)).run Tryd.prog (w1.alloc o) = .ok (.string ⟨(Pm.fi (abs G) n.data.toList).now.t.toArray⟩) (w1.alloc o) := fun o => by
    have := (hfo.a.alloc o).conv _ (Nat.le_refl _) (fvAt G n.data.toList).a.c
    rw [List.take_length, ← hfo.a.1] at this
    exact this
  have hea := hfo.ea
  have hc4 := hd.c4
  have HD := Lib.hid hd
  have HB1 := Lib.hid hb1
  have hs1 : B ≤ w1.heap.size := by have := hm1.size; omega
  clear hb1 hm1 hfo hfv hd h
  generalize ((fvAt G n.data.toList).a.g.map fun g => (⟨g, 0, none⟩ : Addr)) = Aa at *
  generalize ((fvAt G n.data.toList).b.g.map fun g => (⟨g, 0, none⟩ : Addr)) = Ab at *
  generalize (fvAt G n.data.toList).a.n = na at *
  generalize (fvAt G n.data.toList).a.c = ca at *
  generalize (fvAt G n.data.toList).b.n = nb at *
  generalize (fvAt G n.data.toList).b.c = cb at *
  generalize (fvAt G n.data.toList).eb = eb at *
  generalize (fvAt G n.data.toList).ea = ea at *
  rw [htx] at hconv
  rw [hex] at hea
  clear htx hex
  subst hea
  have fin : Hid (∀ o, Has (w1.alloc o) B g m rm false 0 (abs G) ∧ Below B w (w1.alloc o)) := Lib.hid (fun o => ⟨⟨us, G, HD.out.alloc o, rfl⟩, HB1.out.alloc hs1 o⟩)
  clear HD HB1
  cases ea with
  | true =>
    go_wp2
    go_ret2
    exact ⟨rfl, fin.out _⟩
  | false =>
    go_wp2
    go_ret2
    exact ⟨rfl, fin.out _⟩
end Go.Proofs.YtplmflagffloeaaDoor

/- Sync of a disk that isn't lost nor armed: its walk. -/
namespace Go.Proofs.YtplmflagffloeaaDoor
open Go.RowKit Go.Sort
open Pm (Key Fi St Files)
set_option linter.unusedVariables false

theorem own_slice_p {w : World} {B n : Nat} {e : TypeId} {v : Value} {xs : List Value} (h : w.ownsRow B e 1 v n xs) : ∃ A c, v = .slice A n c ∧ Lies w w.heap.size A xs ∧ (∀ ad, A = some ad → B ≤ ad.block) ∧ n ≤ c := by
  rcases h.2 with ⟨rfl, rfl⟩ | ⟨g, cap, cur, rfl, hB, hg, hn, _⟩
  · have : xs = [] := List.eq_nil_of_length_eq_zero (by simpa using h.1)
    subst this
    exact ⟨none, 0, rfl, Lies.nil, by simp, Nat.le_refl _⟩
  · refine ⟨some ⟨g, 0, none⟩, cap, rfl, fun j u hj => ⟨_, rfl, (h.lt g rfl).2, h.cells (g := g) rfl j u hj⟩, ?_, ?_⟩
    · intro ad hA
      simp at hA
      subst hA
      exact hB
    · exact hn

/-- names, as the cells of a slice -/
def strk (ks : List Key) : List Value := ks.map encStr
theorem Lies.str {w : World} {B : Nat} {A : Option Addr} {ks : List Key} (h : Lies w B A (strk ks)) {k : Nat} (hk : k < ks.length) : ∃ ad, A = some ad ∧ ad.block < B ∧ w.cell? (ad.add k) = some (.string ⟨ks[k].toArray⟩) := by
  obtain ⟨ad, h1, h2, h3⟩ := h.round (k := k) (by simpa [strk] using hk)
  exact ⟨ad, h1, h2, by rw [h3]; simp [strk, encStr]⟩

/-- names lie in no block of a disk's own -/
theorem Lies.moved_strk {w w' : World} {Bl B g m : Nat} {rm us : Int} {lo : Bool} {lf : Int} {G : Held} {A : Option Addr} {ks : List Key} (h : Lies w Bl A (strk ks)) (hd : Dsk w B g m rm us lo lf G) (hm : Moved w w' fun b => b = g ∨ b = m) (hBl : Bl ≤ w.heap.size) : Lies w' Bl A (strk ks) := fun j u hj => by
  obtain ⟨ad, h1, h2, h3⟩ := h j u hj
  have hs : ∃ s, u = .string s := by
    unfold strk at hj
    rw [List.getElem?_map] at hj
    obtain ⟨k, _, rfl⟩ := Option.map_eq_some_iff.1 hj
    exact ⟨_, rfl⟩
  obtain ⟨s, rfl⟩ := hs
  refine ⟨ad, h1, h2, (World.cell?_of_block (hm.block (ad.add j).block (by rw [add_block]; omega) ?_)).trans h3⟩
  rw [add_block]
  have hcell := h3
  rintro (e | e)
  · have hat := hd.at_
    unfold At at hat
    unfold World.cell? at hcell
    rw [add_block, e, hat] at hcell
    simp only at hcell
    split at hcell
    · cases hcell
    · have hi := (Array.getElem?_eq_some_iff.1 hcell).1
      have : (ad.add j).off = 0 ∨ (ad.add j).off = 1 ∨ (ad.add j).off = 2 ∨ (ad.add j).off = 3 ∨ (ad.add j).off = 4 := by simp at hi; omega
      rcases this with h | h | h | h | h <;> rw [h] at hcell <;> simp at hcell
  · obtain ⟨es, clock, hmm, _⟩ := hd.map
    unfold World.cell? at hcell
    rw [add_block, e, hmm] at hcell
    simp at hcell

set_option maxRecDepth 100000 in
set_option maxHeartbeats 1000000 in
theorem sync_ok {w : World} {B g m : Nat} {rm : Int} {L : Files} (h : Has w B g m rm false 0 L) (hB : B ≤ w.heap.size) (A : Option Addr) (c : Nat) (ks : List Key) (hk1 : 1 ≤ ks.length) (hkm : ks.length ≤ 1000000) (Bl : Nat) (hBl : Bl ≤ w.heap.size) (hL : Lies w Bl A (strk ks)) (hks : ∀ k ∈ ks, k.length ≤ 140737488355328) (hLen : L.length ≤ 1000000) :
    Calls Tryd.prog 23 #[.pointer (some ⟨g, 0, none⟩), .slice A ks.length c] w fun e w' => e = .returned (.int .i64 0) ∧ Has w' B g m rm false 0 (Pm.syncs ks L) ∧ Below B w w' := by
  obtain ⟨T, hT⟩ : ∃ T, Pm.syncs ks L = T := ⟨_, rfl⟩
  rw [hT]
  go_enter Tryd.func23, Tryd.ntmps23
  go_wp2_with fail
  refine (has_try h).mono ?_
  rintro e w1 ⟨rfl, hh1, hm1⟩
  obtain ⟨us0, G0, hd0, hG0⟩ := hh1
  have HB0 := Lib.hid (hm1.below hB (fun k hk => by rw [hk]; exact hd0.gB))
  have HL0 : Hid (Lies w1 Bl A (strk ks)) := Lib.hid (by
    obtain ⟨us9, G9, hd9, _⟩ := h
    exact hL.moved_strk hd9 (hm1.mono fun k hk => .inl hk) hBl)
  have HT0 : Hid (Pm.syncs (ks.drop 0) (abs G0) = T) := Lib.hid (by rw [List.drop_zero, hG0]; exact hT)
  have HD0 := Lib.hid hd0
  have hL0 : (abs G0).length ≤ 1000000 := by rw [hG0]; exact hLen
  have hBl0 : Bl ≤ w1.heap.size := Nat.le_trans hBl hm1.size
  have hB0 : B ≤ w1.heap.size := Nat.le_trans hB hm1.size
  clear hd0 hm1 hT h hL hG0 hLen hB hBl
  have hne : ((ks.length : Int) == 0) = false := beq_eq_false_iff_ne.2 (by omega)
  go_wp2
  go_loopw [26] (fun i wr => ∃ (j : Nat) (us : Int) (G : Held), j ≤ ks.length ∧ i = .int .i64 (j : Int) ∧ Hid (Dsk wr B g m rm us false 0 G) ∧ Hid (Pm.syncs (ks.drop j) (abs G) = T) ∧ Hid (Below B w wr) ∧ Hid (Lies wr Bl A (strk ks)) ∧ Bl ≤ wr.heap.size ∧ B ≤ wr.heap.size ∧ (abs G).length ≤ 1000000)
    (fun i _ => ks.length - (intOf i).toNat)
  case atStart => exact ⟨0, us0, G0, by omega, rfl, HD0, HT0, HB0, HL0, hBl0, hB0, hL0⟩
  case round =>
    clear HD0 HT0 HB0 HL0 hBl0 hB0 hL0
    obtain ⟨j, us, G, hj, rfl, HD, HT, HB, HLi, hBl, hBw, hLen⟩ := hrel
    by_cases hlt : j < ks.length
    · obtain ⟨ad, rfl, hadB, hc⟩ := HLi.out.str hlt
      have hkz := hks _ (List.getElem_mem hlt)
      have hdrop : ks.drop j = ks[j] :: ks.drop (j + 1) := List.drop_eq_getElem_cons hlt
      obtain ⟨nm, hnm⟩ : ∃ nm : ByteArray, (⟨ks[j].toArray⟩ : ByteArray) = nm := ⟨_, rfl⟩
      have hnk : nm.data.toList = ks[j] := by rw [← hnm]
      have hnz : nm.size ≤ 140737488355328 := by rw [← hnm]; show ks[j].toArray.size ≤ _; simpa using hkz
      rw [hnm] at hc
      rw [← hnk] at hdrop
      clear hnm hnk hkz
      have hlook := HD.out.map.look (s := nm) (by unfold maxLen; omega)
      have hfo := HD.out.fv nm.data.toList
      have hfv : (fvAt G nm.data.toList).val = .agg #[(fvAt G nm.data.toList).a.val, .bool (fvAt G nm.data.toList).ea, (fvAt G nm.data.toList).b.val, .bool (fvAt G nm.data.toList).eb] := rfl
      rw [hfv] at hlook
      have hc4 := HD.out.c4
      have hS := settle_any HD.out nm hnz (t := (fvAt G nm.data.toList).a) (ex := (fvAt G nm.data.toList).ea) (x := (Pm.fi (abs G) nm.data.toList).now) ⟨hfo.a, hfo.ea, hfo.ok.1⟩
        (fun p hp hne b hb => HD.out.fo_apart hp hne (.inl hb)) (by have h1 := HD.out.le; unfold Pm.Fi.weight; omega) (by rw [abs_length] at hLen; unfold maxLen; omega)
      have HS := Lib.hid hS
      have HFA := Lib.hid (HD.out.absThere.fi nm.data.toList).1
      clear hS hfo hfv
      generalize (fvAt G nm.data.toList).a.val = va at *
      generalize (fvAt G nm.data.toList).b.val = vb at *
      generalize (fvAt G nm.data.toList).ea = ea at *
      generalize (fvAt G nm.data.toList).eb = eb at *
      have ff := field_now
      go_wp2_with fail
      refine HS.out.mono ?_
      rintro e w5 ⟨rfl, us', hD5, hM5⟩
      have R1 := Lib.hid hD5
      have R2 : Hid (Pm.syncs (ks.drop (j + 1)) (abs (setG G nm.data.toList (⟨(fvAt G nm.data.toList).a, ea, (fvAt G nm.data.toList).a, ea⟩, ⟨(Pm.fi (abs G) nm.data.toList).now, (Pm.fi (abs G) nm.data.toList).now⟩))) = T) := Lib.hid (by
        rw [abs_setG, ← HT.out, hdrop]
        rfl)
      have R3 : Hid (Below B w w5) := Lib.hid (HB.out.trans (hM5.below hBw (fun k hk => by rcases hk with rfl | rfl; exact HD.out.gB; exact HD.out.mB)))
      have R4 : Hid (Lies w5 Bl (some ad) (strk ks)) := Lib.hid (HLi.out.moved_strk HD.out hM5 hBl)
      have R5 : Bl ≤ w5.heap.size := Nat.le_trans hBl hM5.size
      have R6 : B ≤ w5.heap.size := Nat.le_trans hBw hM5.size
      have R7 : (abs (setG G nm.data.toList (⟨(fvAt G nm.data.toList).a, ea, (fvAt G nm.data.toList).a, ea⟩, ⟨(Pm.fi (abs G) nm.data.toList).now, (Pm.fi (abs G) nm.data.toList).now⟩))).length ≤ 1000000 := by
        rw [abs_setG]
        exact Nat.le_trans (Pm.length_settle_le (s := (Pm.fi (abs G) nm.data.toList).now) (fun h => by unfold Pm.Fi.there; rw [h]; rfl)) hLen
      clear hD5 hM5 HD HT HB HLi HS hlook hc hdrop hc4
      go_wp2
      go_roundw
      case rel => exact ⟨j + 1, us', _, by omega, by go_num, R1, R2, R3, R4, R5, R6, R7⟩
      case measure => simp [intOf]; omega
    · obtain rfl : j = ks.length := by omega
      rw [List.drop_length] at HT
      have HE : Hid (abs G = T) := HT
      clear HT HLi
      go_wp2
      go_ret
      exact ⟨rfl, ⟨us, G, HD.out, HE.out⟩, HB.out⟩

set_option maxRecDepth 100000 in
set_option maxHeartbeats 1000000 in
theorem syncall_ok {w : World} {B g m : Nat} {rm : Int} {L : Files} (h : Has w B g m rm false 0 L) (hB : B ≤ w.heap.size) (hks0 : ∀ k ∈ Pm.keys L, k.length ≤ 140737488355328) (hLen : L.length ≤ 1000000) :
    Calls Tryd.prog 23 #[.pointer (some ⟨g, 0, none⟩), .slice none 0 0] w fun e w' => e = .returned (.int .i64 0) ∧ Has w' B g m rm false 0 (Pm.syncs (Pm.keys L) L) ∧ Below B w w' := by
  obtain ⟨T, hT⟩ : ∃ T, Pm.syncs (Pm.keys L) L = T := ⟨_, rfl⟩
  rw [hT]
  go_enter Tryd.func23, Tryd.ntmps23
  go_wp2_with fail
  refine (has_try h).mono ?_
  rintro e w1 ⟨rfl, hh1, hm1⟩
  obtain ⟨us0, G0, hd0, hG0⟩ := hh1
  have hb1 := hm1.below hB (fun k hk => by rw [hk]; exact hd0.gB)
  have hB1 : B ≤ w1.heap.size := Nat.le_trans hB hm1.size
  have hL0 : (abs G0).length ≤ 1000000 := by rw [hG0]; exact hLen
  have hc4 := hd0.c4
  have HD := Lib.hid hd0
  have HB1 := Lib.hid hb1
  clear hd0 hb1 hm1
  go_wp2_with fail
  refine (maps_keys (some m) w1).mono ?_
  rintro e w2 ⟨rfl, rfl⟩
  go_wp2_with fail
  refine (collect_call HD.out.map (by rw [abs_length] at hL0; exact hL0)).mono ?_
  rintro e w3 ⟨v, ks, rfl, hp, hrow, hb3⟩
  have hD3 := (HD.out.alloc (.cells #[.map (some m)] 57)).below (w' := w3) (by rw [show (w1.alloc (.cells #[.map (some m)] 57)).heap.size = w1.heap.size + 1 by simp]; exact hb3)
  have hb2 : Below B w w3 := (HB1.out.alloc hB1 _).trans (hb3.mono (by omega))
  have hs3 := hb3.size
  rw [show (w1.alloc (.cells #[.map (some m)] 57)).heap.size = w1.heap.size + 1 by simp] at hs3
  have hkk : G0.map (·.1) = Pm.keys L := by rw [← hG0]; unfold Pm.keys abs Pm.vmap; rw [List.map_map]; rfl
  rw [hkk] at hp
  have hks : ∀ k ∈ ks, k.length ≤ 140737488355328 := fun k hk => hks0 k (hp.mem_iff.1 hk)
  have hkm : ks.length ≤ 1000000 := by rw [hp.length_eq]; unfold Pm.keys; rw [List.length_map]; exact hLen
  have HT0 : Hid (Pm.syncs (ks.drop 0) (abs G0) = T) := Lib.hid (by rw [List.drop_zero, hG0, Pm.syncs_perm hp h.sorted h.there]; exact hT)
  obtain ⟨A, c, rfl, hLr, _, _⟩ := own_slice_p hrow
  obtain ⟨Bl, hBlz⟩ : ∃ Bl, w3.heap.size = Bl := ⟨_, rfl⟩
  have HL0 : Hid (Lies w3 Bl A (strk ks)) := Lib.hid (by rw [← hBlz]; exact hLr)
  have hBl0 : Bl ≤ w3.heap.size := by omega
  have hB0 : B ≤ w3.heap.size := by omega
  have HD0 := Lib.hid hD3
  have HB0 := Lib.hid hb2
  clear hD3 hb2 hrow hLr hp hb3 HD HB1 hc4 hT h hkk hG0 hBlz hs3 hB1 hLen hks0 hB
  go_wp2
  go_loopw [26] (fun i wr => ∃ (j : Nat) (us : Int) (G : Held), j ≤ ks.length ∧ i = .int .i64 (j : Int) ∧ Hid (Dsk wr B g m rm us false 0 G) ∧ Hid (Pm.syncs (ks.drop j) (abs G) = T) ∧ Hid (Below B w wr) ∧ Hid (Lies wr Bl A (strk ks)) ∧ Bl ≤ wr.heap.size ∧ B ≤ wr.heap.size ∧ (abs G).length ≤ 1000000)
    (fun i _ => ks.length - (intOf i).toNat)
  case atStart => exact ⟨0, us0, G0, by omega, rfl, HD0, HT0, HB0, HL0, hBl0, hB0, hL0⟩
  case round =>
    clear HD0 HT0 HB0 HL0 hBl0 hB0 hL0
    obtain ⟨j, us, G, hj, rfl, HD, HT, HB, HLi, hBl, hBw, hLen⟩ := hrel
    by_cases hlt : j < ks.length
    · obtain ⟨ad, rfl, hadB, hc⟩ := HLi.out.str hlt
      have hkz := hks _ (List.getElem_mem hlt)
      have hdrop : ks.drop j = ks[j] :: ks.drop (j + 1) := List.drop_eq_getElem_cons hlt
      obtain ⟨nm, hnm⟩ : ∃ nm : ByteArray, (⟨ks[j].toArray⟩ : ByteArray) = nm := ⟨_, rfl⟩
      have hnk : nm.data.toList = ks[j] := by rw [← hnm]
      have hnz : nm.size ≤ 140737488355328 := by rw [← hnm]; show ks[j].toArray.size ≤ _; simpa using hkz
      rw [hnm] at hc
      rw [← hnk] at hdrop
      clear hnm hnk hkz
      have hlook := HD.out.map.look (s := nm) (by unfold maxLen; omega)
      have hfo := HD.out.fv nm.data.toList
      have hfv : (fvAt G nm.data.toList).val = .agg #[(fvAt G nm.data.toList).a.val, .bool (fvAt G nm.data.toList).ea, (fvAt G nm.data.toList).b.val, .bool (fvAt G nm.data.toList).eb] := rfl
      rw [hfv] at hlook
      have hc4 := HD.out.c4
      have hS := settle_any HD.out nm hnz (t := (fvAt G nm.data.toList).a) (ex := (fvAt G nm.data.toList).ea) (x := (Pm.fi (abs G) nm.data.toList).now) ⟨hfo.a, hfo.ea, hfo.ok.1⟩
        (fun p hp hne b hb => HD.out.fo_apart hp hne (.inl hb)) (by have h1 := HD.out.le; unfold Pm.Fi.weight; omega) (by rw [abs_length] at hLen; unfold maxLen; omega)
      have HS := Lib.hid hS
      have HFA := Lib.hid (HD.out.absThere.fi nm.data.toList).1
      clear hS hfo hfv
      generalize (fvAt G nm.data.toList).a.val = va at *
      generalize (fvAt G nm.data.toList).b.val = vb at *
      generalize (fvAt G nm.data.toList).ea = ea at *
      generalize (fvAt G nm.data.toList).eb = eb at *
      have ff := field_now
      go_wp2_with fail
      refine HS.out.mono ?_
      rintro e w5 ⟨rfl, us', hD5, hM5⟩
      have R1 := Lib.hid hD5
      have R2 : Hid (Pm.syncs (ks.drop (j + 1)) (abs (setG G nm.data.toList (⟨(fvAt G nm.data.toList).a, ea, (fvAt G nm.data.toList).a, ea⟩, ⟨(Pm.fi (abs G) nm.data.toList).now, (Pm.fi (abs G) nm.data.toList).now⟩))) = T) := Lib.hid (by
        rw [abs_setG, ← HT.out, hdrop]
        rfl)
      have R3 : Hid (Below B w w5) := Lib.hid (HB.out.trans (hM5.below hBw (fun k hk => by rcases hk with rfl | rfl; exact HD.out.gB; exact HD.out.mB)))
      have R4 : Hid (Lies w5 Bl (some ad) (strk ks)) := Lib.hid (HLi.out.moved_strk HD.out hM5 hBl)
      have R5 : Bl ≤ w5.heap.size := Nat.le_trans hBl hM5.size
      have R6 : B ≤ w5.heap.size := Nat.le_trans hBw hM5.size
      have R7 : (abs (setG G nm.data.toList (⟨(fvAt G nm.data.toList).a, ea, (fvAt G nm.data.toList).a, ea⟩, ⟨(Pm.fi (abs G) nm.data.toList).now, (Pm.fi (abs G) nm.data.toList).now⟩))).length ≤ 1000000 := by
        rw [abs_setG]
        exact Nat.le_trans (Pm.length_settle_le (s := (Pm.fi (abs G) nm.data.toList).now) (fun h => by unfold Pm.Fi.there; rw [h]; rfl)) hLen
      clear hD5 hM5 HD HT HB HLi HS hlook hc hdrop hc4
      go_wp2
      go_roundw
      case rel => exact ⟨j + 1, us', _, by omega, by go_num, R1, R2, R3, R4, R5, R6, R7⟩
      case measure => simp [intOf]; omega
    · obtain rfl : j = ks.length := by omega
      rw [List.drop_length] at HT
      have HE : Hid (abs G = T) := HT
      clear HT HLi
      go_wp2
      go_ret
      exact ⟨rfl, ⟨us, G, HD.out, HE.out⟩, HB.out⟩
end Go.Proofs.YtplmflagffloeaaDoor

/- Crash of a disk: its walk. -/
namespace Go.Proofs.YtplmflagffloeaaDoor
open Go.RowKit Go.Sort
open Pm (Key Fi St Files)
set_option linter.unusedVariables false

/-- numbers that came in lie in no block of a disk's own: below B -/
theorem Lies.moved_low {w w' : World} {Bl B g m : Nat} {rm us : Int} {lo : Bool} {lf : Int} {G : Held} {A : Option Addr} {xs : List Value} (h : Lies w Bl A xs) (hd : Dsk w B g m rm us lo lf G) (hm : Moved w w' fun b => b = g ∨ b = m) (hBl : Bl ≤ B) (hB : B ≤ w.heap.size) : Lies w' Bl A xs :=
  h.below ((hm.below hB (fun k hk => by rcases hk with rfl | rfl; exact hd.gB; exact hd.mB)).mono hBl)

set_option maxRecDepth 100000 in
set_option maxHeartbeats 2000000 in
theorem crash_any {w : World} {B g m : Nat} {rm : Int} {lo : Bool} {lf : Int} {L : Files} (h : Has w B g m rm lo lf L) (hB : B ≤ w.heap.size) (hks0 : ∀ k ∈ Pm.keys L, k.length ≤ 140737488355328) (hLen : L.length ≤ 1000000) (hrm : (Pm.used L : Int) ≤ 140737488355328)
    (A : Option Addr) (c : Nat) (l : List Int) (n : Nat) (hn : l.length = n) (Bl : Nat) (hBl : Bl ≤ w.heap.size) (hL : Lies w Bl A (ints l)) (hF : ∀ us G, Dsk w B g m rm us lo lf G → ∀ b, b = g ∨ b = m → ∀ ad, A = some ad → l ≠ [] → ad.block ≠ b) (hl : ∀ x ∈ l, -9223372036854775808 ≤ x ∧ x ≤ 9223372036854775807) (hlen : l.length ≤ 9223372036854775807) :
    Calls Tryd.prog 14 #[.pointer (some ⟨g, 0, none⟩), .slice A n c] w fun e w' => e = .returned (.tuple #[]) ∧ Has w' B g m rm lo lf (Pm.crashes (pickR l) (Pm.keys L) 0 L) ∧ Below B w w' := by
  subst hn
  have hA0 : ∀ ad, A = some ad → l ≠ [] → ad.block ≠ g ∧ ad.block ≠ m := fun ad hA hne => by
    obtain ⟨us, G, hd, _⟩ := h
    exact ⟨hF us G hd g (.inl rfl) ad hA hne, hF us G hd m (.inr rfl) ad hA hne⟩
  have hFar : ∀ W W' : World, Lies W Bl A (ints l) → Bl ≤ W.heap.size → Moved W W' (fun b => b = g ∨ b = m) → Lies W' Bl A (ints l) := fun W W' hLi hB hm j u hj => by
    obtain ⟨ad, h1, h2, h3⟩ := hLi j u hj
    have hne : l ≠ [] := by rintro rfl; simp [ints] at hj
    refine ⟨ad, h1, h2, (World.cell?_of_block (hm.block (ad.add j).block (by rw [add_block]; omega) ?_)).trans h3⟩
    rw [add_block]
    rintro (e | e)
    · exact (hA0 ad h1 hne).1 e
    · exact (hA0 ad h1 hne).2 e
  have HFAR := Lib.hid hFar
  clear hFar hF hA0
  obtain ⟨us0, G0, hd0, hG0⟩ := h
  obtain ⟨ks, hks⟩ : ∃ ks, Pm.keys L = ks := ⟨_, rfl⟩
  rw [hks] at hks0 ⊢
  have hkk : G0.map (·.1) = ks := by rw [← hks, ← hG0]; unfold Pm.keys abs Pm.vmap; rw [List.map_map]; rfl
  obtain ⟨T, hT⟩ : ∃ T, Pm.crashes (pickR l) ks 0 L = T := ⟨_, rfl⟩
  rw [hT]
  have hc4 := hd0.c4
  have hkl : ks.length = G0.length := by rw [← hkk, List.length_map]
  have hL0 : (abs G0).length ≤ 1000000 := by rw [hG0]; exact hLen
  have hu0 : us0 ≤ 140737488355328 := by rw [hd0.sum, hG0]; exact hrm
  have HD := Lib.hid hd0
  go_enter Tryd.func14, Tryd.ntmps14
  go_wp2_with fail
  refine (maps_keys (some m) w).mono ?_
  rintro e w2 ⟨rfl, rfl⟩
  go_wp2_with fail
  refine (sorted_call HD.out.map HD.out.sorted (by rw [abs_length] at hL0; exact hL0)).mono ?_
  rintro e w3 ⟨v, rfl, hrow, hb3⟩
  have hz : (w.alloc (.cells #[.map (some m)] 57)).heap.size = w.heap.size + 1 := by simp
  have hD3 := (HD.out.alloc (.cells #[.map (some m)] 57)).below (w' := w3) (by rw [hz]; exact hb3)
  have hb2 : Below B w w3 := ((Below.refl B w).alloc hB _).trans (hb3.mono (by omega))
  have hs3 := hb3.size
  rw [hz] at hs3
  rw [hkk, ← hkl] at hrow
  have hLi3 : Lies w3 Bl A (ints l) := hL.below ((((Below.refl w.heap.size w).alloc (Nat.le_refl _) _).trans (hb3.mono (by omega))).mono hBl)
  obtain ⟨Ak, ck, rfl, hLr, _, _⟩ := own_slice_p hrow
  obtain ⟨Bk, hBkz⟩ : ∃ Bk, w3.heap.size = Bk := ⟨_, rfl⟩
  have HK0 : Hid (Lies w3 Bk Ak (strk ks)) := Lib.hid (by rw [← hBkz]; exact hLr)
  have hBk0 : Bk ≤ w3.heap.size := by omega
  have hB0 : B ≤ w3.heap.size := by omega
  have hBl0 : Bl ≤ w3.heap.size := by omega
  have HD0 := Lib.hid hD3
  have HB0 := Lib.hid hb2
  have HL0 := Lib.hid hLi3
  have HT0 : Hid (Pm.crashes (pickR l) (ks.drop 0) 0 (abs G0) = T) := Lib.hid (by rw [List.drop_zero, hG0]; exact hT)
  have hkm : ks.length ≤ 1000000 := by rw [hkl]; rw [abs_length] at hL0; exact hL0
  clear hD3 hb2 hrow hLr hb3 HD hc4 hT hkk hG0 hBkz hs3 hLen hB hz hLi3 hL hd0 hks hkl hBl hrm
  go_wp2
  go_loopw [4, 15] (fun a i wr => ∃ (j at_ : Nat) (us : Int) (G : Held), j ≤ ks.length ∧ at_ ≤ j ∧ i = .int .i64 (j : Int) ∧ a = .int .i64 (at_ : Int) ∧ Hid (Dsk wr B g m rm us lo lf G) ∧ Hid (Pm.crashes (pickR l) (ks.drop j) at_ (abs G) = T) ∧ Hid (Below B w wr) ∧ Hid (Lies wr Bk Ak (strk ks)) ∧ Hid (Lies wr Bl A (ints l)) ∧ Bk ≤ wr.heap.size ∧ Bl ≤ wr.heap.size ∧ B ≤ wr.heap.size ∧ (abs G).length ≤ 1000000 ∧ us ≤ 140737488355328)
    (fun _ i _ => ks.length - (intOf i).toNat)
  case atStart => exact ⟨0, 0, us0, G0, by omega, by omega, rfl, rfl, HD0, HT0, HB0, HK0, HL0, hBk0, hBl0, hB0, hL0, hu0⟩
  case round =>
    clear HD0 HT0 HB0 HK0 HL0 hBk0 hBl0 hB0 hL0 hu0
    obtain ⟨j, at_, us, G, hj, hat, rfl, rfl, HD, HT, HB, HK, HLi, hBk, hBl, hBw, hLen, hus⟩ := hrel
    by_cases hlt : j < ks.length
    · obtain ⟨ad, rfl, hadB, hc⟩ := HK.out.str hlt
      have hkz := hks0 _ (List.getElem_mem hlt)
      have hdrop : ks.drop j = ks[j] :: ks.drop (j + 1) := List.drop_eq_getElem_cons hlt
      obtain ⟨nm, hnm⟩ : ∃ nm : ByteArray, (⟨ks[j].toArray⟩ : ByteArray) = nm := ⟨_, rfl⟩
      have hnk : nm.data.toList = ks[j] := by rw [← hnm]
      have hnz : nm.size ≤ 140737488355328 := by rw [← hnm]; show ks[j].toArray.size ≤ _; simpa using hkz
      rw [hnm] at hc
      rw [← hnk] at hdrop
      have HDR := Lib.hid hdrop
      clear hnm hnk hkz hdrop
      have hlook := HD.out.map.look (s := nm) (by unfold maxLen; omega)
      have hfo := HD.out.fv nm.data.toList
      have hfv : (fvAt G nm.data.toList).val = .agg #[.slice ((fvAt G nm.data.toList).a.g.map fun g => ⟨g, 0, none⟩) (fvAt G nm.data.toList).a.n (fvAt G nm.data.toList).a.c, .bool (fvAt G nm.data.toList).ea, .slice ((fvAt G nm.data.toList).b.g.map fun g => ⟨g, 0, none⟩) (fvAt G nm.data.toList).b.n (fvAt G nm.data.toList).b.c, .bool (fvAt G nm.data.toList).eb] := rfl
      rw [hfv] at hlook
      have hc4 := HD.out.c4
      have HFO := Lib.hid hfo
      have hwt : (Pm.fi (abs G) nm.data.toList).weight ≤ 140737488355328 := by have := weight_us HD.out nm.data.toList; omega
      have hw1 : (Pm.fi (abs G) nm.data.toList).now.t.length ≤ 140737488355328 := by unfold Pm.Fi.weight at hwt; omega
      have hw2 : (Pm.fi (abs G) nm.data.toList).sure.t.length ≤ 140737488355328 := by unfold Pm.Fi.weight at hwt; omega
      have HSAFE : Hid (∀ W, FileIs W B (fvAt G nm.data.toList) (Pm.fi (abs G) nm.data.toList) → Calls Tryd.prog 35 #[.agg #[.slice ((fvAt G nm.data.toList).a.g.map fun g => ⟨g, 0, none⟩) (fvAt G nm.data.toList).a.n (fvAt G nm.data.toList).a.c, .bool (fvAt G nm.data.toList).ea, .slice ((fvAt G nm.data.toList).b.g.map fun g => ⟨g, 0, none⟩) (fvAt G nm.data.toList).b.n (fvAt G nm.data.toList).b.c, .bool (fvAt G nm.data.toList).eb]] W fun e w' => e = .returned (.bool (Pm.fi (abs G) nm.data.toList).safe) ∧ ∃ o, w' = W.alloc o) :=
        Lib.hid (fun W hW => (safe_any hW).mono fun _ _ ⟨he, hw⟩ => ⟨he, _, hw⟩)
      have HLEFT : Hid (∀ W, FileIs W B (fvAt G nm.data.toList) (Pm.fi (abs G) nm.data.toList) → B ≤ W.heap.size → Bl ≤ W.heap.size → Lies W Bl A (ints l) → Calls Tryd.prog 37 #[.agg #[.slice ((fvAt G nm.data.toList).a.g.map fun g => ⟨g, 0, none⟩) (fvAt G nm.data.toList).a.n (fvAt G nm.data.toList).a.c, .bool (fvAt G nm.data.toList).ea, .slice ((fvAt G nm.data.toList).b.g.map fun g => ⟨g, 0, none⟩) (fvAt G nm.data.toList).b.n (fvAt G nm.data.toList).b.c, .bool (fvAt G nm.data.toList).eb], .slice A l.length c, .int .i64 (at_ : Int)] W
          (LeftEnds W B (fvAt G nm.data.toList) (Pm.left (Pm.fi (abs G) nm.data.toList) (pickR l (at_ : Int))))) :=
        Lib.hid (fun W hW hB hBl hL => left_any hW hB A c l (at_ : Int) Bl hBl hL hl hlen hw1 hw2)
      clear hfo hfv
      generalize ((fvAt G nm.data.toList).a.g.map fun g => (⟨g, 0, none⟩ : Addr)) = Aa at *
      generalize ((fvAt G nm.data.toList).b.g.map fun g => (⟨g, 0, none⟩ : Addr)) = Ab at *
      generalize (fvAt G nm.data.toList).a.n = na at *
      generalize (fvAt G nm.data.toList).a.c = ca at *
      generalize (fvAt G nm.data.toList).b.n = nb at *
      generalize (fvAt G nm.data.toList).b.c = cb at *
      generalize (fvAt G nm.data.toList).ea = ea at *
      generalize (fvAt G nm.data.toList).eb = eb at *
      go_wp2_with fail
      have hb4 : Below wr.heap.size wr (wr.alloc (.cells #[.slice Aa na ca, .bool ea, .slice Ab nb cb, .bool eb] 83)) := (Below.refl _ wr).alloc (Nat.le_refl _) _
      have hbx : At (wr.alloc (.cells #[.slice Aa na ca, .bool ea, .slice Ab nb cb, .bool eb] 83)) wr.heap.size 83 #[.slice Aa na ca, .bool ea, .slice Ab nb cb, .bool eb] := At.new _ _ _
      have hD4 := HD.out.below hb4
      have hF4 : FileIs (wr.alloc (.cells #[.slice Aa na ca, .bool ea, .slice Ab nb cb, .bool eb] 83)) B (fvAt G nm.data.toList) (Pm.fi (abs G) nm.data.toList) := hD4.fv nm.data.toList
      have hs4 := hb4.size
      generalize wr.alloc (.cells #[.slice Aa na ca, .bool ea, .slice Ab nb cb, .bool eb] 83) = w4 at *
      refine (HSAFE.out w4 hF4).mono ?_
      rintro e w5 ⟨rfl, o, rfl⟩
      have hb5 : Below wr.heap.size wr (w4.alloc o) := hb4.alloc hs4 o
      have hD5 := HD.out.below hb5
      have hbx5 := hbx.alloc o
      have hs5 := hb5.size
      generalize w4.alloc o = w5 at *
      obtain ⟨sf, hsf⟩ : ∃ sf, (Pm.fi (abs G) nm.data.toList).safe = sf := ⟨_, rfl⟩
      rw [hsf]
      have HSF := Lib.hid hsf; clear hsf
      have HD5 := Lib.hid hD5
      have HB5 := Lib.hid hb5
      have HLi5 := Lib.hid (HLi.out.below (hb5.mono hBl))
      have HK5 := Lib.hid (HK.out.below (hb5.mono hBk))
      have HBx5 := Lib.hid hbx5
      clear hD4 hF4 hb4 hD5 hb5 hbx hbx5 hlook hc hc4
      cases sf with
      | true =>
        have R2 : Hid (Pm.crashes (pickR l) (ks.drop (j + 1)) at_ (abs G) = T) := Lib.hid (by
          rw [← HT.out, HDR.out]
          conv => rhs; unfold Pm.crashes
          rw [if_pos HSF.out])
        have R3 : Hid (Below B w w5) := Lib.hid (HB.out.trans (HB5.out.mono hBw))
        clear HSAFE HLEFT HFO HT HB HD HB5 HBx5 HK HLi HSF HDR
        go_wp2
        go_roundw
        case rel => exact ⟨j + 1, at_, us, G, by omega, by omega, by go_num, rfl, HD5, R2, R3, HK5, HLi5, by omega, by omega, by omega, hLen, hus⟩
        case measure => simp [intOf]; omega
      | false =>
        have c0 := HBx5.out.cell 0
        have c1 := HBx5.out.cell 1
        have c2 := HBx5.out.cell 2
        have c3 := HBx5.out.cell 3
        have hF5 := HD5.out.fv nm.data.toList
        go_wp2_with fail
        refine (HLEFT.out w5 hF5 (by omega) (by omega) HLi5.out).mono ?_
        rintro e w6 ⟨t, ex, rfl, hSt, hgg, hb6⟩
        have hD6 := HD5.out.below hb6
        have hS := settle_any hD6 nm hnz hSt (fun p hp hne b hb => by
            rcases hgg with h | h | h
            · rw [h] at hb; cases hb
            · exact HD5.out.fo_apart hp hne (.inl (by rw [← h]; exact hb))
            · exact HD5.out.fo_apart hp hne (.inr (by rw [← h]; exact hb)))
          (by have h1 := HD5.out.le; have h2 := Pm.left_length (Pm.fi (abs G) nm.data.toList) (pickR l (at_ : Int)); omega) (by rw [abs_length] at hLen; unfold maxLen; omega)
        have HS := Lib.hid hS
        have HD6 := Lib.hid hD6
        have HB6 := Lib.hid hb6
        have hs6 := hb6.size
        clear hS hD6 hb6 hSt hF5 c0 c1 c2 c3
        generalize t.val = tv at *
        go_wp2_with fail
        refine HS.out.mono ?_
        rintro e w7 ⟨rfl, us', hD7, hM7⟩
        have R1 := Lib.hid hD7
        have R2 : Hid (Pm.crashes (pickR l) (ks.drop (j + 1)) (at_ + 1) (abs (setG G nm.data.toList (⟨t, ex, t, ex⟩, ⟨Pm.left (Pm.fi (abs G) nm.data.toList) (pickR l (at_ : Int)), Pm.left (Pm.fi (abs G) nm.data.toList) (pickR l (at_ : Int))⟩))) = T) := Lib.hid (by
          rw [abs_setG, ← HT.out, HDR.out]
          conv => rhs; unfold Pm.crashes
          rw [if_neg (by rw [HSF.out]; decide)]
          rfl)
        have R3 : Hid (Below B w w7) := Lib.hid ((HB.out.trans ((HB5.out.trans (HB6.out.mono hs5)).mono hBw)).trans (hM7.below (by omega) (fun k hk => by rcases hk with rfl | rfl; exact HD.out.gB; exact HD.out.mB)))
        have R4 : Hid (Lies w7 Bk (some ad) (strk ks)) := Lib.hid ((HK5.out.below (HB6.out.mono (by omega))).moved_strk HD6.out hM7 (by omega))
        have R5 : Hid (Lies w7 Bl A (ints l)) := Lib.hid (HFAR.out _ _ (HLi5.out.below (HB6.out.mono (by omega))) (by omega) hM7)
        have hs7 := hM7.size
        have hul : us' ≤ 140737488355328 := by
          have h0 := hD7.sum
          have h1 := used_setG HD6.out nm.data.toList ⟨t, ex, t, ex⟩ (x := ⟨Pm.left (Pm.fi (abs G) nm.data.toList) (pickR l (at_ : Int)), Pm.left (Pm.fi (abs G) nm.data.toList) (pickR l (at_ : Int))⟩) (Pm.still_ok (Pm.left_ok (HD.out.absThere.fi nm.data.toList) _))
          have h2 := Pm.left_length (Pm.fi (abs G) nm.data.toList) (pickR l (at_ : Int))
          have h3 := Pm.still_weight (Pm.left (Pm.fi (abs G) nm.data.toList) (pickR l (at_ : Int)))
          unfold Pm.still at h3
          omega
        have R7 : (abs (setG G nm.data.toList (⟨t, ex, t, ex⟩, ⟨Pm.left (Pm.fi (abs G) nm.data.toList) (pickR l (at_ : Int)), Pm.left (Pm.fi (abs G) nm.data.toList) (pickR l (at_ : Int))⟩))).length ≤ 1000000 := by
          rw [abs_setG]
          exact Nat.le_trans (Pm.length_settle_le (s := Pm.left (Pm.fi (abs G) nm.data.toList) (pickR l (at_ : Int))) (fun _ => Pm.left_there (c := pickR l (at_ : Int)) HSF.out (HD.out.absThere.fi nm.data.toList))) hLen
        have hbk7 : Bk ≤ w7.heap.size := by omega
        have hbl7 : Bl ≤ w7.heap.size := by omega
        have hbb7 : B ≤ w7.heap.size := by omega
        clear hD7 hM7 HD HT HB HLi HK HS HSAFE HLEFT HFO HD5 HB5 HLi5 HK5 HBx5 HD6 HB6 HSF HDR
        go_wp2
        go_roundw
        case rel => exact ⟨j + 1, at_ + 1, us', _, by omega, by omega, by go_num, by go_num, R1, R2, R3, R4, R5, hbk7, hbl7, hbb7, R7, hul⟩
        case measure => simp [intOf]; omega
    · obtain rfl : j = ks.length := by omega
      rw [List.drop_length] at HT
      have HE : Hid (abs G = T) := HT
      clear HT HLi HK
      go_wp2
      go_end0
      exact ⟨rfl, ⟨us, G, HD.out, HE.out⟩, HB.out⟩
end Go.Proofs.YtplmflagffloeaaDoor

/- A disk of one file; glacierlaw04.awake: its walk. -/
namespace Pm
set_option linter.unusedVariables false
theorem one_fi (k : Key) (f : Fi) : fi [(k, f)] k = f := by simp [fi, get]
theorem nil_fi (k : Key) : fi [] k = Fi.no := rfl
theorem one_set (k : Key) (f : Fi) {f' : Fi} (h : f'.there = true) : set [(k, f)] k f' = [(k, f')] := by simp [set, h, put, del, ins]
theorem one_unset (k : Key) (f : Fi) {f' : Fi} (h : f'.there = false) : set [(k, f)] k f' = [] := by simp [set, h, del]
theorem nil_set (k : Key) {f' : Fi} (h : f'.there = true) : set [] k f' = [(k, f')] := by simp [set, h, put, del, ins]
theorem nil_unset (k : Key) {f' : Fi} (h : f'.there = false) : set [] k f' = [] := by simp [set, h, del]
theorem one_used (k : Key) (f : Fi) : used [(k, f)] = f.weight := by simp [used, total]
theorem one_keys (k : Key) (f : Fi) : keys [(k, f)] = [k] := rfl
theorem still_there (s : St) : (still s).there = s.ex := by simp [still, Fi.there]
theorem one_syncs (k : Key) {f : Fi} (h : f.now.ex = true) : syncs [k] [(k, f)] = [(k, still f.now)] := by
  unfold syncs syncs settle
  rw [one_fi, one_set _ _ (by rw [still_there]; exact h)]
theorem one_syncs_gone (k : Key) {f : Fi} (h : f.now.ex = false) : syncs [k] [(k, f)] = [] := by
  unfold syncs syncs settle
  rw [one_fi, one_unset _ _ (by rw [still_there]; exact h)]
theorem one_crash_safe (c : Int → Int → Int) (k : Key) {f : Fi} (h : f.safe = true) : crashes c [k] 0 [(k, f)] = [(k, f)] := by
  unfold crashes crashes
  rw [one_fi, if_pos h]
theorem one_crash (c : Int → Int → Int) (k : Key) {f : Fi} (h : f.safe = false) (ht : (left f (c 0)).ex = true) : crashes c [k] 0 [(k, f)] = [(k, still (left f (c 0)))] := by
  unfold crashes crashes settle
  rw [one_fi, if_neg (by rw [h]; decide)]
  exact one_set _ _ (by rw [still_there]; exact ht)
theorem one_crash_gone (c : Int → Int → Int) (k : Key) {f : Fi} (h : f.safe = false) (ht : (left f (c 0)).ex = false) : crashes c [k] 0 [(k, f)] = [] := by
  unfold crashes crashes settle
  rw [one_fi, if_neg (by rw [h]; decide)]
  exact one_unset _ _ (by rw [still_there]; exact ht)
theorem left_ex {f : Fi} (h1 : f.now.ex = true) (h2 : f.sure.ex = true) (c : Int → Int) : (left f c).ex = true := by
  unfold left
  split
  · split
    · exact h2
    · rfl
  · split
    · exact h1
    · exact h2
end Pm
namespace Go.Proofs.YtplmflagffloeaaDoor
open Go.RowKit Go.Sort
open Pm (Key Fi St Files)
set_option linter.unusedVariables false

theorem pick_one (v n : Int) (hn : 1 ≤ n) : pickR [v] 0 n = v % n := by
  have := pick_in (l := [v]) (k := 0) (n := n) (by simp) hn
  simpa using this

theorem Has.lt {w : World} {B g m : Nat} {rm : Int} {lo : Bool} {lf : Int} {L : Files} (h : Has w B g m rm lo lf L) : g < w.heap.size ∧ m < w.heap.size ∧ B ≤ g ∧ B ≤ m := by
  obtain ⟨us, G, hd, _⟩ := h
  exact ⟨hd.at_.lt, hd.map.lt, hd.gB, hd.mB⟩
theorem has_used {w : World} {B g m : Nat} {rm : Int} {lo : Bool} {lf : Int} {L : Files} (h : Has w B g m rm lo lf L) : Calls Tryd.prog 81 #[.pointer (some ⟨g, 0, none⟩)] w fun e w' => e = .returned (.int .i64 (Pm.used L : Nat)) ∧ w' = w := by
  obtain ⟨us, G, hd, rfl⟩ := h
  rw [← hd.sum]
  exact used_dsk hd

/-- a crash by one choice, made for it -/
theorem crash_new {w : World} {B g m : Nat} {rm : Int} {lo : Bool} {lf : Int} {L : Files} (h : Has w B g m rm lo lf L) (hB : B ≤ w.heap.size) (hks : ∀ k ∈ Pm.keys L, k.length ≤ 140737488355328) (hLen : L.length ≤ 1000000) (hrm : (Pm.used L : Int) ≤ 140737488355328)
    (v : Int) (hv : -9223372036854775808 ≤ v ∧ v ≤ 9223372036854775807) :
    Calls Tryd.prog 14 #[.pointer (some ⟨g, 0, none⟩), .slice (some ⟨w.heap.size, 0, none⟩) 1 1] (w.alloc (.cells #[.int .i64 v] 3)) fun e w' => e = .returned (.tuple #[]) ∧ Has w' B g m rm lo lf (Pm.crashes (pickR [v]) (Pm.keys L) 0 L) ∧ Below B w w' := by
  have hlt := h.lt
  refine (crash_any (h.alloc (.cells #[.int .i64 v] 3)) (by simp; omega) hks hLen hrm (some ⟨w.heap.size, 0, none⟩) 1 [v] 1 rfl (w.heap.size + 1) (by simp) ?_ ?_ (by simpa using hv) (by simp)).mono ?_
  · exact Lies.of_at (At.new w 3 #[.int .i64 v]) rfl (by omega)
  · intro us G hd b hb ad hA _
    cases hA
    rcases hb with rfl | rfl
    · show w.heap.size ≠ _; omega
    · show w.heap.size ≠ _; omega
  · rintro e w' ⟨rfl, hh, hb⟩
    exact ⟨rfl, hh, ((Below.refl B w).alloc hB _).trans hb⟩

def fileA : Key := [97]
def F1 : Fi := ⟨⟨true, [120, 121]⟩, .no⟩
def F2 : Fi := Pm.still ⟨true, [120, 121]⟩
def F3 : Fi := ⟨⟨true, [120, 121, 122, 49]⟩, ⟨true, [120, 121]⟩⟩
def F4 : Fi := Pm.still ⟨true, [120, 121, 122]⟩
def F5 : Fi := ⟨⟨true, [113]⟩, ⟨true, [120, 121, 122]⟩⟩

end Go.Proofs.YtplmflagffloeaaDoor
