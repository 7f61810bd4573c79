/- Write, Append, Read, Sync, Crash of a disk that isn't lost nor armed: their walks. -/
import Derived.Test.YtokepandiigjlaaP7
namespace Go.Proofs.Ytokepandiigjlaa
open Go.RowKit Go.Sort
open Pm (Key Fi St Files)
set_option linter.unusedVariables false

theorem field_now (a b : Value) (ea eb : Bool) (W : World) : (Instr.field 86 (.agg #[a, .bool ea, b, .bool eb]) 0).run Try.prog W = .ok (.agg #[a, .bool ea]) W := by
  simp [Instr.field, go_sem, run_underlying Try.underlying86, asAgg, Result.andThen]
theorem field_sure (a b : Value) (ea eb : Bool) (W : World) : (Instr.field 86 (.agg #[a, .bool ea, b, .bool eb]) 1).run Try.prog W = .ok (.agg #[b, .bool eb]) W := by
  simp [Instr.field, go_sem, run_underlying Try.underlying86, asAgg, Result.andThen]
theorem field_text (a : Value) (ea : Bool) (W : World) : (Instr.field 84 (.agg #[a, .bool ea]) 0).run Try.prog W = .ok a W := by
  simp [Instr.field, go_sem, run_underlying Try.underlying84, asAgg, Result.andThen]
theorem field_ex (a : Value) (ea : Bool) (W : World) : (Instr.field 84 (.agg #[a, .bool ea]) 1).run Try.prog W = .ok (.bool ea) W := by
  simp [Instr.field, go_sem, run_underlying Try.underlying84, asAgg, Result.andThen]

theorem wrote_append (x : Fi) (t : List UInt8) : Pm.wrote x x.now.t.length t = ⟨⟨true, x.now.t ++ t⟩, x.sure⟩ := by
  unfold Pm.wrote
  by_cases h : x.now.t.length = 0
  · rw [if_pos h, List.eq_nil_of_length_eq_zero h]
  · rw [if_neg h]

set_option maxRecDepth 100000 in
set_option maxHeartbeats 400000 in
theorem write_ok {w : World} {B g m : Nat} {rm : Int} {L : Files} (h : Has w B g m rm false 0 L) (hB : B ≤ w.heap.size) (n s : ByteArray) (hn : n.size ≤ 140737488355328) (hne : n.data.toList ≠ [])
    (hs : (Pm.used L : Int) + s.size ≤ 140737488355328) (hL : L.length ≤ 1000000) (hfit : (s.size : Int) - ((Pm.fi L n.data.toList).weight : Nat) ≤ rm - Pm.used L) :
    Calls Try.prog 26 #[.pointer (some ⟨g, 0, none⟩), .string n, .string s] w fun e w' => e = .returned (.int .i64 0) ∧
      Has w' B g m rm false 0 (Pm.set L n.data.toList ⟨⟨true, s.data.toList⟩, (Pm.fi L n.data.toList).sure⟩) ∧ Below B w w' := by
  have hc := has_write_ok true h hB n s hn hne 0 (.inl rfl) hs hL (by omega)
  rw [show Pm.wrote (Pm.fi L n.data.toList) 0 s.data.toList = ⟨⟨true, s.data.toList⟩, (Pm.fi L n.data.toList).sure⟩ from rfl] at hc
  clear h
  go_enter Try.func26, Try.ntmps26
  go_wp2_with fail
  refine hc.mono ?_
  rintro e w1 ⟨rfl, hH, hb⟩
  go_wp2
  go_ret
  exact ⟨rfl, hH, hb⟩

set_option maxRecDepth 100000 in
set_option maxHeartbeats 400000 in
theorem append_ok {w : World} {B g m : Nat} {rm : Int} {L : Files} (h : Has w B g m rm false 0 L) (hB : B ≤ w.heap.size) (n s : ByteArray) (hn : n.size ≤ 140737488355328) (hne : n.data.toList ≠ [])
    (hs : (Pm.used L : Int) + s.size ≤ 140737488355328) (hL : L.length ≤ 1000000) (hfit : ((Pm.fi L n.data.toList).now.t.length : Int) + s.size - ((Pm.fi L n.data.toList).weight : Nat) ≤ rm - Pm.used L) :
    Calls Try.prog 28 #[.pointer (some ⟨g, 0, none⟩), .string n, .string s] w fun e w' => e = .returned (.int .i64 0) ∧
      Has w' B g m rm false 0 (Pm.set L n.data.toList ⟨⟨true, (Pm.fi L n.data.toList).now.t ++ s.data.toList⟩, (Pm.fi L n.data.toList).sure⟩) ∧ Below B w w' := by
  have hc := has_write_ok true h hB n s hn hne _ (.inr rfl) hs hL hfit
  rw [wrote_append] at hc
  obtain ⟨us, G, hd, rfl⟩ := h
  have hnm : n.size ≤ maxLen := by unfold maxLen; omega
  have hlook := hd.map.look (s := n) hnm
  have hfo := hd.fv n.data.toList
  have hlen := hfo.a.1
  have hc4 := hd.c4
  have HC := Lib.hid hc
  clear hc hfo hd
  have hfv : (fvAt G n.data.toList).val = .agg #[.slice ((fvAt G n.data.toList).a.g.map fun g => ⟨g, 0, none⟩) (fvAt G n.data.toList).a.n (fvAt G n.data.toList).a.c, .bool (fvAt G n.data.toList).ea, .slice ((fvAt G n.data.toList).b.g.map fun g => ⟨g, 0, none⟩) (fvAt G n.data.toList).b.n (fvAt G n.data.toList).b.c, .bool (fvAt G n.data.toList).eb] := rfl
  rw [hfv, hlen] at hlook
  clear hfv hlen
  generalize (fvAt G n.data.toList).a.c = ca at *
  have ff := field_now
  have ft := field_text
  go_enter Try.func28, Try.ntmps28
  go_wp2_with fail
  refine HC.out.mono ?_
  rintro e w1 ⟨rfl, hH, hb⟩
  go_wp2
  go_ret
  exact ⟨rfl, hH, hb⟩

theorem has_try {w : World} {B g m : Nat} {rm : Int} {L : Files} (h : Has w B g m rm false 0 L) : Calls Try.prog 42 #[.pointer (some ⟨g, 2, none⟩)] w fun e w' => e = .returned (.int .i64 0) ∧ Has w' B g m rm false 0 L ∧ Moved w w' fun b => b = g := by
  obtain ⟨us, G, hd, rfl⟩ := h
  refine (try_dsk hd).mono ?_
  rintro e w' ⟨rfl, hd', hm⟩
  exact ⟨rfl, ⟨us, G, hd', rfl⟩, hm⟩

set_option maxRecDepth 100000 in
set_option maxHeartbeats 1000000 in
theorem read_ok {w : World} {B g m : Nat} {rm : Int} {L : Files} (h : Has w B g m rm false 0 L) (hB : B ≤ w.heap.size) (n : ByteArray) (hn : n.size ≤ 140737488355328) :
    Calls Try.prog 23 #[.pointer (some ⟨g, 0, none⟩), .string n] w fun e w' => e = .returned (.tuple (if (Pm.fi L n.data.toList).now.ex = true then #[.string ⟨(Pm.fi L n.data.toList).now.t.toArray⟩, .int .i64 0] else #[.string ⟨#[]⟩, .int .i64 5])) ∧
      Has w' B g m rm false 0 L ∧ Below B w w' := by
  have hnm : n.size ≤ maxLen := by unfold maxLen; omega
  obtain ⟨ex, hex⟩ : ∃ ex, (Pm.fi L n.data.toList).now.ex = ex := ⟨_, rfl⟩
  rw [hex]
  obtain ⟨txt, htx⟩ : ∃ txt, (Pm.fi L n.data.toList).now.t.toArray = txt := ⟨_, rfl⟩
  rw [htx]
  go_enter Try.func23, Try.ntmps23
  go_wp2_with fail
  refine (has_try h).mono ?_
  rintro e w1 ⟨rfl, hh1, hm1⟩
  obtain ⟨us, G, hd, rfl⟩ := hh1
  have hb1 : Below B w w1 := hm1.below hB (fun k hk => by rw [hk]; exact hd.gB)
  have hlook := hd.map.look (s := n) hnm
  have hfo := hd.fv n.data.toList
  have hfv : (fvAt G n.data.toList).val = .agg #[.slice ((fvAt G n.data.toList).a.g.map fun g => ⟨g, 0, none⟩) (fvAt G n.data.toList).a.n (fvAt G n.data.toList).a.c, .bool (fvAt G n.data.toList).ea, .slice ((fvAt G n.data.toList).b.g.map fun g => ⟨g, 0, none⟩) (fvAt G n.data.toList).b.n (fvAt G n.data.toList).b.c, .bool (fvAt G n.data.toList).eb] := rfl
  rw [hfv] at hlook
  have hconv : ∀ o, (convert 82 9 (.slice ((fvAt G n.data.toList).a.g.map fun g => ⟨g, 0, none⟩) (fvAt G n.data.toList).a.n (fvAt G n.data.toList).a.c)).run Try.prog (w1.alloc o) = .ok (.string ⟨(Pm.fi (abs G) n.data.toList).now.t.toArray⟩) (w1.alloc o) := fun o => by
    have := (hfo.a.alloc o).conv _ (Nat.le_refl _) (fvAt G n.data.toList).a.c
    rw [List.take_length, ← hfo.a.1] at this
    exact this
  have hea := hfo.ea
  have hc4 := hd.c4
  have HD := Lib.hid hd
  have HB1 := Lib.hid hb1
  have hs1 : B ≤ w1.heap.size := by have := hm1.size; omega
  clear hb1 hm1 hfo hfv hd h
  generalize ((fvAt G n.data.toList).a.g.map fun g => (⟨g, 0, none⟩ : Addr)) = Aa at *
  generalize ((fvAt G n.data.toList).b.g.map fun g => (⟨g, 0, none⟩ : Addr)) = Ab at *
  generalize (fvAt G n.data.toList).a.n = na at *
  generalize (fvAt G n.data.toList).a.c = ca at *
  generalize (fvAt G n.data.toList).b.n = nb at *
  generalize (fvAt G n.data.toList).b.c = cb at *
  generalize (fvAt G n.data.toList).eb = eb at *
  generalize (fvAt G n.data.toList).ea = ea at *
  rw [htx] at hconv
  rw [hex] at hea
  clear htx hex
  subst hea
  have fin : Hid (∀ o, Has (w1.alloc o) B g m rm false 0 (abs G) ∧ Below B w (w1.alloc o)) := Lib.hid (fun o => ⟨⟨us, G, HD.out.alloc o, rfl⟩, HB1.out.alloc hs1 o⟩)
  clear HD HB1
  cases ea with
  | true =>
    go_wp2
    go_ret2
    exact ⟨rfl, fin.out _⟩
  | false =>
    go_wp2
    go_ret2
    exact ⟨rfl, fin.out _⟩
end Go.Proofs.Ytokepandiigjlaa
