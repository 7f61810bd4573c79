/- P7, P8, Grb: merged (a claim holds few files). -/
import Derived.Test.YtejgogahkjnefaaDoorP6
import Derived.Test.YtejgogahkjnefaaDoorPm
import Derived.Test.YtejgogahkjnefaaDoorVl
/- platter.New, Write, Append, Read: their walks. -/
namespace Go.Proofs.YtejgogahkjnefaaDoor
open Go.RowKit Go.Sort
open Pm (Key Fi St Files)
set_option linter.unusedVariables false

/-- block g is a disk that has the files L; all that is its own lies at block B or behind -/
def Has (w : World) (B g m : Nat) (rm : Int) (lo : Bool) (lf : Int) (L : Files) : Prop := ∃ us G, Dsk w B g m rm us lo lf G ∧ abs G = L

section
variable {w w' : World} {B g m : Nat} {rm us : Int} {lo : Bool} {lf : Int} {G : Held} {L : Files}
theorem Dsk.has (h : Dsk w B g m rm us lo lf G) (e : abs G = L) : Has w B g m rm lo lf L := ⟨us, G, h, e⟩
theorem Has.below (h : Has w B g m rm lo lf L) (hb : Below w.heap.size w w') : Has w' B g m rm lo lf L := by obtain ⟨us, G, hd, e⟩ := h; exact ⟨us, G, hd.below hb, e⟩
theorem Has.alloc (h : Has w B g m rm lo lf L) (o : Obj) : Has (w.alloc o) B g m rm lo lf L := h.below ((Below.refl _ w).alloc (Nat.le_refl _) o)
theorem Has.used (h : Has w B g m rm lo lf L) : (Pm.used L : Int) ≤ rm := by obtain ⟨us, G, hd, rfl⟩ := h; rw [← hd.sum]; exact hd.le
theorem Dsk.absSorted (h : Dsk w B g m rm us lo lf G) : Pm.Sorted (abs G) := h.sorted.vmap _
theorem Dsk.absThere (h : Dsk w B g m rm us lo lf G) : Pm.AllThere (abs G) := by
  intro p hp
  unfold abs Pm.vmap at hp
  obtain ⟨q, hq, rfl⟩ := List.mem_map.1 hp
  exact ⟨(h.files q hq).2.1, (h.files q hq).1.ok⟩
theorem Has.sorted (h : Has w B g m rm lo lf L) : Pm.Sorted L := by obtain ⟨us, G, hd, rfl⟩ := h; exact hd.absSorted
theorem Has.there (h : Has w B g m rm lo lf L) : Pm.AllThere L := by obtain ⟨us, G, hd, rfl⟩ := h; exact hd.absThere
theorem abs_length (G : Held) : (abs G).length = G.length := by unfold abs Pm.vmap; simp
theorem Dsk.footB (h : Dsk w B g m rm us lo lf G) : ∀ k, DFoot g m G k → B ≤ k := fun k hk => (h.foot_lt hk).1
end

set_option maxRecDepth 100000 in
set_option maxHeartbeats 1000000 in
theorem new_any (room rm : Int) (hr : room ≤ 9223372036854775807) (hrm' : max room 0 = rm) (w : World) :
    Calls Tryd.prog 27 #[.int .i64 room] w fun e w' => ∃ g m, e = .returned (.pointer (some ⟨g, 0, none⟩)) ∧ Has w' w.heap.size g m rm false 0 [] ∧ Below w.heap.size w w' := by
  have hmm := @run_makeMap Tryd.prog
  go_enter Tryd.func27, Tryd.ntmps27
  go_wp2_with fail
  refine (made_any room w).mono ?_
  rintro e w1 ⟨rfl, o, rfl⟩
  have hrm : (0 : Int) ≤ rm ∧ rm ≤ 9223372036854775807 := by omega
  rw [hrm']
  clear hrm'
  have hm0 := MapIs.made (w.alloc o)
  have hs0 : (w.alloc o).heap.size = w.heap.size + 1 := by simp
  rw [hs0] at hm0
  have hD : Dsk (((w.alloc o).alloc (.map #[] 0)).alloc (.cells (five rm 0 false 0 (.map (some (w.heap.size + 1)))) 69)) w.heap.size (w.heap.size + 2) (w.heap.size + 1) rm 0 false 0 [] := by
    have hz : ((w.alloc o).alloc (.map #[] 0)).heap.size = w.heap.size + 2 := by simp
    refine ⟨?_, hm0.alloc _, by simp, List.Pairwise.nil, List.Pairwise.nil, rfl, hrm.1, hrm.2, by decide, by decide, by omega, by omega⟩
    have := At.new ((w.alloc o).alloc (.map #[] 0)) 69 (five rm 0 false 0 (.map (some (w.heap.size + 1))))
    rw [hz] at this
    exact this
  have hB : Below w.heap.size w (((w.alloc o).alloc (.map #[] 0)).alloc (.cells (five rm 0 false 0 (.map (some (w.heap.size + 1)))) 69)) :=
    (((Below.refl _ w).alloc (Nat.le_refl _) _).alloc (by simp) _).alloc (by simp; omega) _
  have HD := Lib.hid hD; clear hD hm0
  have HB := Lib.hid hB; clear hB
  unfold five at HD HB
  go_wp2
  go_ret
  exact ⟨w.heap.size + 2, w.heap.size + 1, rfl, ⟨0, [], HD.out, rfl⟩, HB.out⟩

/-- what the calls of a disk that is armed or not, and not lost, begin with -/
theorem has_write_ok {w : World} {B g m : Nat} {rm : Int} {L : Files} (F : Bool) (h : Has w B g m rm false 0 L) (hB : B ≤ w.heap.size) (n s : ByteArray) (hn : n.size ≤ 140737488355328) (hne : n.data.toList ≠ []) (keep : Nat) (hk : keep = 0 ∨ keep = (Pm.fi L n.data.toList).now.t.length)
    (hs : (Pm.used L : Int) + s.size ≤ 140737488355328) (hL : L.length ≤ 1000000) (hfit : (keep : Int) + s.size - ((Pm.fi L n.data.toList).weight : Nat) ≤ rm - Pm.used L) :
    Calls Tryd.prog 68 #[.pointer (some ⟨g, 0, none⟩), .string n, .int .i64 (keep : Int), .string s] w fun e w' => e = .returned (.int .i64 0) ∧
      Has w' B g m rm false 0 (Pm.set L n.data.toList (Pm.wrote (Pm.fi L n.data.toList) keep s.data.toList)) ∧ Below B w w' := by
  obtain ⟨us, G, hd, rfl⟩ := h
  have hsl : s.data.toList.length = s.size := by simp
  have hsum := hd.sum
  refine (change_any hd hB n hn keep hk s (by rw [hsum]; exact hs) (by unfold maxLen; rw [abs_length] at hL; omega)).mono ?_
  rintro e w' ⟨hm, h1 | h1 | h1 | h1⟩
  · obtain ⟨c, hc, h2, _⟩ := h1
    exact absurd h2.symm hc
  · exact absurd h1.2.1 hne
  · obtain ⟨_, _, h2, _⟩ := h1
    rw [hsl] at h2
    omega
  · obtain ⟨_, _, _, rfl, us', G', hd', he, _⟩ := h1
    exact ⟨rfl, ⟨us', G', hd', he⟩, hm.below hB hd.footB⟩
end Go.Proofs.YtejgogahkjnefaaDoor

/- Write, Append, Read, Sync, Crash of a disk that isn't lost nor armed: their walks. -/
namespace Go.Proofs.YtejgogahkjnefaaDoor
open Go.RowKit Go.Sort
open Pm (Key Fi St Files)
set_option linter.unusedVariables false

theorem field_now (a b : Value) (ea eb : Bool) (W : World) : (Instr.field 123 (.agg #[a, .bool ea, b, .bool eb]) 0).run Tryd.prog W = .ok (.agg #[a, .bool ea]) W := by
  simp [Instr.field, go_sem, run_underlying Tryd.underlying123, asAgg, Result.andThen]
theorem field_sure (a b : Value) (ea eb : Bool) (W : World) : (Instr.field 123 (.agg #[a, .bool ea, b, .bool eb]) 1).run Tryd.prog W = .ok (.agg #[b, .bool eb]) W := by
  simp [Instr.field, go_sem, run_underlying Tryd.underlying123, asAgg, Result.andThen]
theorem field_text (a : Value) (ea : Bool) (W : World) : (Instr.field 121 (.agg #[a, .bool ea]) 0).run Tryd.prog W = .ok a W := by
  simp [Instr.field, go_sem, run_underlying Tryd.underlying121, asAgg, Result.andThen]
theorem field_ex (a : Value) (ea : Bool) (W : World) : (Instr.field 121 (.agg #[a, .bool ea]) 1).run Tryd.prog W = .ok (.bool ea) W := by
  simp [Instr.field, go_sem, run_underlying Tryd.underlying121, asAgg, Result.andThen]

theorem wrote_append (x : Fi) (t : List UInt8) : Pm.wrote x x.now.t.length t = ⟨⟨true, x.now.t ++ t⟩, x.sure⟩ := by
  unfold Pm.wrote
  by_cases h : x.now.t.length = 0
  · rw [if_pos h, List.eq_nil_of_length_eq_zero h]
  · rw [if_neg h]

set_option maxRecDepth 100000 in
set_option maxHeartbeats 400000 in
theorem append_ok {w : World} {B g m : Nat} {rm : Int} {L : Files} (h : Has w B g m rm false 0 L) (hB : B ≤ w.heap.size) (n s : ByteArray) (hn : n.size ≤ 140737488355328) (hne : n.data.toList ≠ [])
    (hs : (Pm.used L : Int) + s.size ≤ 140737488355328) (hL : L.length ≤ 1000000) (hfit : ((Pm.fi L n.data.toList).now.t.length : Int) + s.size - ((Pm.fi L n.data.toList).weight : Nat) ≤ rm - Pm.used L) :
    Calls Tryd.prog 29 #[.pointer (some ⟨g, 0, none⟩), .string n, .string s] w fun e w' => e = .returned (.int .i64 0) ∧
      Has w' B g m rm false 0 (Pm.set L n.data.toList ⟨⟨true, (Pm.fi L n.data.toList).now.t ++ s.data.toList⟩, (Pm.fi L n.data.toList).sure⟩) ∧ Below B w w' := by
  have hc := has_write_ok true h hB n s hn hne _ (.inr rfl) hs hL hfit
  rw [wrote_append] at hc
  obtain ⟨us, G, hd, rfl⟩ := h
  have hnm : n.size ≤ maxLen := by unfold maxLen; omega
  have hlook := hd.map.look (s := n) hnm
  have hfo := hd.fv n.data.toList
  have hlen := hfo.a.1
  have hc4 := hd.c4
  have HC := Lib.hid hc
  clear hc hfo hd
  have hfv : (fvAt G n.data.toList).val = .agg #[.slice ((fvAt G n.data.toList).a.g.map fun g => ⟨g, 0, none⟩) (fvAt G n.data.toList).a.n (fvAt G n.data.toList).a.c, .bool (fvAt G n.data.toList).ea, .slice ((fvAt G n.data.toList).b.g.map fun g => ⟨g, 0, none⟩) (fvAt G n.data.toList).b.n (fvAt G n.data.toList).b.c, .bool (fvAt G n.data.toList).eb] := rfl
  rw [hfv, hlen] at hlook
  clear hfv hlen
  generalize (fvAt G n.data.toList).a.c = ca at *
  have ff := field_now
  have ft := field_text
  go_enter Tryd.func29, Tryd.ntmps29
  go_wp2_with fail
  refine HC.out.mono ?_
  rintro e w1 ⟨rfl, hH, hb⟩
  go_wp2
  go_ret
  exact ⟨rfl, hH, hb⟩

theorem has_try {w : World} {B g m : Nat} {rm : Int} {L : Files} (h : Has w B g m rm false 0 L) : Calls Tryd.prog 32 #[.pointer (some ⟨g, 2, none⟩)] w fun e w' => e = .returned (.int .i64 0) ∧ Has w' B g m rm false 0 L ∧ Moved w w' fun b => b = g := by
  obtain ⟨us, G, hd, rfl⟩ := h
  refine (try_dsk hd).mono ?_
  rintro e w' ⟨rfl, hd', hm⟩
  exact ⟨rfl, ⟨us, G, hd', rfl⟩, hm⟩

end Go.Proofs.YtejgogahkjnefaaDoor

/- A disk with one file, and a volume, beside each other. -/
namespace Pm
/-- the files of a disk to whose file a was appended: not yet, or this -/
def oneF (o : Option (List UInt8)) : Files := match o with | none => [] | some t => [([97], ⟨⟨true, t⟩, .no⟩)]
def oneT (o : Option (List UInt8)) : List UInt8 := o.getD []
theorem used_one (o : Option (List UInt8)) : used (oneF o) = (oneT o).length := by
  cases o with
  | none => rfl
  | some t => simp [oneF, oneT, used, total, Fi.weight, St.no]
theorem fi_one (o : Option (List UInt8)) : (fi (oneF o) [97]).now.t = oneT o ∧ (fi (oneF o) [97]).weight = (oneT o).length ∧ (fi (oneF o) [97]).sure = .no := by
  cases o with
  | none => exact ⟨rfl, rfl, rfl⟩
  | some t => simp [oneF, oneT, fi, get, Fi.weight, St.no]
theorem len_one (o : Option (List UInt8)) : (oneF o).length ≤ 1 := by cases o <;> simp [oneF]
theorem set_one (o : Option (List UInt8)) (t : List UInt8) : set (oneF o) [97] ⟨⟨true, oneT o ++ t⟩, .no⟩ = oneF (some (oneT o ++ t)) := by
  cases o with
  | none => rfl
  | some s => simp [oneF, oneT, set, Fi.there, put, del, ins]
end Pm
namespace Go.Proofs.YtejgogahkjnefaaDoor
open Go.RowKit Go.Sort
open Pm (Key Fi St Files)
set_option linter.unusedVariables false
set_option linter.unusedSimpArgs false

section
variable {w w' : World} {B C g m gv : Nat} {rm us : Int} {lo : Bool} {lf : Int} {G : Held} {s : VS}
/-- a disk's blocks are no volume's -/
theorem Dsk.foot_kind (h : Dsk w B g m rm us lo lf G) {b : Nat} (hb : DFoot g m G b) : ∃ o, w.heap[b]? = some o ∧ (∀ cs fz, o ≠ .cells cs 42 fz) ∧ (∀ cs fz, o ≠ .cells cs 88 fz) := by
  rcases hb with rfl | rfl | ⟨p, hp, hb⟩
  · exact ⟨_, h.at_, by rintro cs fz e; injection e with _ e _; revert e; decide, by rintro cs fz e; injection e with _ e _; revert e; decide⟩
  · obtain ⟨es, clock, hmm, _⟩ := h.map
    exact ⟨_, hmm, (by intro cs fz e; cases e), (by intro cs fz e; cases e)⟩
  · obtain ⟨cur', hc⟩ := (h.files p hp).1.bytes hb
    exact ⟨_, hc, by rintro cs fz e; injection e with _ e _; revert e; decide, by rintro cs fz e; injection e with _ e _; revert e; decide⟩
theorem Dsk.kept (h : Dsk w B g m rm us lo lf G) (hk : Kept w w') : Dsk w' B g m rm us lo lf G := h.keep fun b hb => by
  obtain ⟨o, h1, h2, h3⟩ := h.foot_kind hb
  rw [hk b o h1 h2 h3, h1]
theorem Dsk.vol (h : Dsk w B g m rm us lo lf G) (hm : Moved w w' (DFoot g m G)) (hv : Vol w C gv s) : Vol w' C gv s := by
  obtain ⟨ok, v, hv⟩ := hv
  have n1 : ¬DFoot g m G gv := fun e => by
    obtain ⟨o, h1, h2, h3⟩ := h.foot_kind e
    have := hv.at_
    unfold At at this
    rw [this] at h1
    exact h2 _ _ (Option.some.inj h1).symm
  refine ⟨ok, v, hv.of_block (hm.block gv hv.lt n1) fun k hk => hm.block k (hv.row_lt k hk).2 fun e => ?_⟩
  obtain ⟨o, h1, h2, h3⟩ := h.foot_kind e
  rcases hv.row.2 with ⟨rfl, _⟩ | ⟨k', cap, cur, rfl, _, h5, _⟩
  · cases hk
  · have e2 : k' = k := by simpa [Value.ownBlock] using hk
    subst e2
    rw [h5] at h1
    exact h3 _ _ (Option.some.inj h1).symm
end

/-- both -/
structure DV (w : World) (B C g gv m : Nat) (rm : Int) (L : Files) (s : VS) : Prop where
  disk : ∃ us G, Dsk w B g m rm us false 0 G ∧ abs G = L
  vol : Vol w C gv s
section
variable {w w' : World} {B C g m gv : Nat} {rm : Int} {L : Files} {s s' : VS}
theorem DV.below (h : DV w B C g gv m rm L s) (hb : Below w.heap.size w w') : DV w' B C g gv m rm L s := ⟨h.disk.elim fun us h => ⟨us, h.elim fun G h => ⟨G, h.1.below hb, h.2⟩⟩, h.vol.below hb⟩
theorem DV.drew (h : DV w B C g gv m rm L s) : DV w.drew B C g gv m rm L s := h.below (Below.drew (Below.refl _ w))
theorem DV.wrote (h : DV w B C g gv m rm L s) (hv : Vol w' C gv s') (hst : Stay C gv w w') : DV w' B C g gv m rm L s' := ⟨h.disk.elim fun us h => ⟨us, h.elim fun G h => ⟨G, h.1.kept hst.kept, h.2⟩⟩, hv⟩
theorem DV.used (h : DV w B C g gv m rm L s) : Calls Tryd.prog 25 #[.pointer (some ⟨g, 0, none⟩)] w fun e w' => e = .returned (.int .i64 (Pm.used L : Nat)) ∧ w' = w := by
  obtain ⟨us, G, hd, rfl⟩ := h.disk
  rw [← hd.sum]
  exact used_any hd.dev.meter
theorem DV.sum (h : DV w B C g gv m rm L s) : (Pm.used L : Int) ≤ rm := by
  obtain ⟨us, G, hd, rfl⟩ := h.disk
  rw [← hd.sum]
  exact hd.le
end

set_option maxRecDepth 100000 in
set_option maxHeartbeats 1000000 in
theorem dv_append {w : World} {B C g gv m : Nat} {rm : Int} {o : Option (List UInt8)} {s : VS} (h : DV w B C g gv m rm (Pm.oneF o) s) (hB : B ≤ w.heap.size) (t : ByteArray) (ht : t.size ≤ 1000000) (hrm : rm ≤ 1000000) (r : Int) (o2 : Option (List UInt8))
    (hc : (rm < ((Pm.oneT o).length : Int) + t.size ∧ r = 7 ∧ o2 = o) ∨ (¬rm < ((Pm.oneT o).length : Int) + t.size ∧ r = 0 ∧ o2 = some (Pm.oneT o ++ t.data.toList))) :
    Calls Tryd.prog 29 #[.pointer (some ⟨g, 0, none⟩), .string ⟨#[97]⟩, .string t] w fun e w' => e = .returned (.int .i64 r) ∧ DV w' B C g gv m rm (Pm.oneF o2) s ∧ Below B w w' := by
  obtain ⟨us, G, hd, hL⟩ := h.disk
  have hV := h.vol
  obtain ⟨f1, f2, f3⟩ := Pm.fi_one o
  have hus : us = ((Pm.oneT o).length : Nat) := by rw [hd.sum, hL, Pm.used_one]
  have hus1 := hd.le
  have hlen : G.length ≤ 1 := by rw [← abs_length, hL]; exact Pm.len_one o
  have htl : t.data.toList.length = t.size := by simp
  have hC := change_any hd hB ⟨#[97]⟩ (by decide) (Pm.oneT o).length (.inr (by rw [hL]; exact f1.symm ▸ rfl)) t (by omega) (by unfold maxLen; omega)
  have hC2 := hC.mono (R' := fun e w' => e = .returned (.int .i64 r) ∧ DV w' B C g gv m rm (Pm.oneF o2) s ∧ Below B w w') fun e w' hce => by
    obtain ⟨hm, h1⟩ := hce
    have hbl := hm.below hB hd.footB
    have hvv := hd.vol hm hV
    have hne : (⟨#[97]⟩ : ByteArray).data.toList = [97] := rfl
    rw [hne, hL, f2, htl] at h1
    rcases h1 with ⟨c, hcc, h2, _⟩ | ⟨_, h2, _⟩ | ⟨_, _, h2, he, hd'⟩ | ⟨_, _, h2, he, us', G', hd', ha, _⟩
    · exact absurd h2.symm hcc
    · cases h2
    · rcases hc with ⟨_, rfl, rfl⟩ | ⟨hf, _⟩
      · exact ⟨he, ⟨⟨us, G, hd', hL⟩, hvv⟩, hbl⟩
      · omega
    · rcases hc with ⟨hf, _⟩ | ⟨_, rfl, rfl⟩
      · omega
      refine ⟨he, ⟨⟨us', G', hd', ?_⟩, hvv⟩, hbl⟩
      rw [ha]
      have e1 : Pm.wrote (Pm.fi (Pm.oneF o) [97]) (Pm.oneT o).length t.data.toList = ⟨⟨true, Pm.oneT o ++ t.data.toList⟩, .no⟩ := by
        have := wrote_append (Pm.fi (Pm.oneF o) [97]) t.data.toList
        rw [f1, f3] at this
        exact this
      rw [e1, Pm.set_one]
  have hnm : (⟨#[97]⟩ : ByteArray).size ≤ maxLen := by decide
  have hlook := hd.map.look (s := ⟨#[97]⟩) hnm
  have hfo := hd.fv (⟨#[97]⟩ : ByteArray).data.toList
  have hlen2 := hfo.a.1
  have hln3 : (Pm.fi (abs G) (⟨#[97]⟩ : ByteArray).data.toList).now.t.length = (Pm.oneT o).length := by rw [hL]; exact congrArg List.length f1
  rw [hln3] at hlen2
  have hc4 := hd.c4
  have HC := Lib.hid hC2
  clear hC hC2 hfo hln3
  have hfv : (fvAt G (⟨#[97]⟩ : ByteArray).data.toList).val = .agg #[.slice ((fvAt G (⟨#[97]⟩ : ByteArray).data.toList).a.g.map fun g => ⟨g, 0, none⟩) (fvAt G (⟨#[97]⟩ : ByteArray).data.toList).a.n (fvAt G (⟨#[97]⟩ : ByteArray).data.toList).a.c, .bool (fvAt G (⟨#[97]⟩ : ByteArray).data.toList).ea, .slice ((fvAt G (⟨#[97]⟩ : ByteArray).data.toList).b.g.map fun g => ⟨g, 0, none⟩) (fvAt G (⟨#[97]⟩ : ByteArray).data.toList).b.n (fvAt G (⟨#[97]⟩ : ByteArray).data.toList).b.c, .bool (fvAt G (⟨#[97]⟩ : ByteArray).data.toList).eb] := rfl
  rw [hfv, hlen2] at hlook
  clear hfv hlen2
  clear hc h hd hL hV f1 f2 f3 hus hus1 hlen htl
  generalize (fvAt G (⟨#[97]⟩ : ByteArray).data.toList).a.c = ca at *
  generalize (fvAt G (⟨#[97]⟩ : ByteArray).data.toList).a.g.map (fun g => (⟨g, 0, none⟩ : Addr)) = cg at *
  generalize (Pm.oneT o).length = ln at *
  have ff := field_now
  have ft := field_text
  go_enter Tryd.func29, Tryd.ntmps29
  go_wp2_with fail
  refine HC.out.mono ?_
  rintro x w1 ⟨rfl, hx, hb⟩
  have HX := Lib.hid hx
  have HB := Lib.hid hb
  clear hx hb
  go_wp2
  go_ret
  exact ⟨rfl, HX.out, HB.out⟩
end Go.Proofs.YtejgogahkjnefaaDoor
