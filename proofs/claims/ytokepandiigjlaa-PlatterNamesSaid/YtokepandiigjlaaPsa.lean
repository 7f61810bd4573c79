/- Safe of a disk: its walk. -/
import Derived.Test.YtokepandiigjlaaPsg
import Derived.Maps.RangeWalk
namespace Go.Proofs.Ytokepandiigjlaa
open Go.RowKit Go.Sort Go.Maps
open Pm (Key Fi St Files)
set_option linter.unusedVariables false

theorem fileR_some {v : Value} {y : DataW Unit × List MemPlace} (h : fileR v = some y) : ∃ c : FV, v = c.val := by
  unfold fileR at h
  split at h
  · rename_i h1
    exact h1
  · cases h
theorem str_inv {key : Value} {kl : Lit} (h : keyOf Try.prog 9 key = some kl) : ∃ x : ByteArray, key = .string x := by
  cases key <;> simp [keyOf, Try.underlying9, mapKey] at h
  exact ⟨_, rfl⟩
theorem str_kl {x : ByteArray} {kl : Lit} (h : keyOf Try.prog 9 (.string x) = some kl) : kl = .string x.data.toList := by
  simp [keyOf, Try.underlying9, mapKey] at h
  exact h.2.symm

/-- are all files safe? -/
def safeAll (L : Files) : Bool := L.all fun p => p.2.safe

theorem fi_safe_of_not {G : Held} {k : Key} (h : Go.Maps.has (.map (dat G)) (.string k) = false) : (Pm.fi (abs G) k).safe = true := by
  have h1 : Pm.get k G = none := by
    rw [Pm.get_none]
    intro p hp e
    have : Go.Maps.has (.map (dat G)) (.string k) = true := by
      rw [Go.Maps.has_eq]
      refine List.any_eq_true.2 ⟨(.string p.1, p.2.1.code), List.mem_map.2 ⟨p, hp, rfl⟩, ?_⟩
      rw [e]
      simp [Lit.sameKey]
    rw [this] at h
    cases h
  unfold Pm.fi abs
  rw [Pm.get_vmap, h1]
  rfl
theorem all_safe_of {L : Files} (hs : Pm.Sorted L) (h : ∀ k, (Pm.fi L k).safe = true) : safeAll L = true := by
  unfold safeAll
  refine List.all_eq_true.2 fun p hp => ?_
  have h1 := h p.1
  unfold Pm.fi at h1
  rw [Pm.get_of_mem hs.ne (show (p.1, p.2) ∈ L from hp)] at h1
  exact h1
theorem all_safe_not {L : Files} {k : Key} (h : (Pm.fi L k).safe = false) : safeAll L = false := by
  unfold Pm.fi at h
  cases hg : Pm.get k L with
  | none => rw [hg] at h; cases h
  | some f =>
    rw [hg] at h
    have hm := Pm.get_mem hg
    unfold safeAll
    refine List.all_eq_false.2 ⟨_, hm, ?_⟩
    simpa using h

set_option maxRecDepth 100000 in
set_option maxHeartbeats 1000000 in
theorem safe_disk {w : World} {B g m : Nat} {rm : Int} {lo : Bool} {lf : Int} {L : Files} (h : Has w B g m rm lo lf L) :
    Calls Try.prog 15 #[.pointer (some ⟨g, 0, none⟩)] w fun e w' => e = .returned (.bool (safeAll L)) ∧ Below w.heap.size w w' := by
  obtain ⟨us, G, hd, rfl⟩ := h
  obtain ⟨A, hA⟩ : ∃ A, safeAll (abs G) = A := ⟨_, rfl⟩
  rw [hA]
  have HA := Lib.hid hA; clear hA
  have hown : w.ownsMap Try.prog 9 fileR m G.length (.map (dat G)) := hd.map
  have hc4 := hd.c4
  have HD := Lib.hid hd; clear hd
  go_enter Try.func15, Try.ntmps15
  go_wp2_with (first
    | (at_range; refine wpList_range_own _ rfl _ 43 rfl 9 86 str_law Try.underlying43 fileR m G.length (.map (dat G)) rfl hown ?_; intro w0 hrg0 hg0 hs0)
    | go_in)
  go_frame
  have HB0 : Hid (Below w.heap.size w w0) := Lib.hid ⟨hg0.os, hg0.tape, hg0.output, hg0.size, fun k hk => hg0.block k hk (by simp)⟩
  have HR0 := Lib.hid hrg0
  clear hrg0 hg0 hs0 hown hc4
  go_loopw [4] (fun _ wr => ∃ (left : Lit → Bool) (cnt : Nat), Hid (wr.ranges Try.prog 9 fileR m w.heap.size G.length (.map (dat G)) left cnt) ∧ Hid (Below w.heap.size w wr) ∧ Hid (∀ k, left (.string k) = false → (Pm.fi (abs G) k).safe = true))
    (fun _ wr => wr.rangeLeft m w.heap.size)
  case atStart =>
    refine ⟨_, _, HR0, HB0, Lib.hid fun k hk => ?_⟩
    exact fi_safe_of_not hk
  case round =>
    clear HR0 HB0
    obtain ⟨left, cnt, HR, HB, HL⟩ := hrel
    go_wp2_with (first
      | (at_next; refine wpList_next_ranges _ rfl _ rfl 9 str_law fileR Value.string FV.val (fun _ _ h => str_inv h) (fun _ _ h => fileR_some h) m w.heap.size G.length (.map (dat G)) left cnt rfl HR.out ?_ ?_)
      | go_in)
    · intro _ hl
      have hAll : A = true := by
        rw [← HA.out]
        exact all_safe_of HD.out.absSorted fun k => HL.out k (hl _)
      subst hAll
      clear HA HL HR HD hl
      go_wp2
      go_ret
      exact ⟨rfl, HB.out⟩
    · intro x c kl y yb w1 cnt1 hkl hlk hfR hat hrg hlt hg1 hs1 hen
      obtain rfl := str_kl hkl
      have hbw : Below w.heap.size w w1 := HB.out.trans ⟨hg1.os, hg1.tape, hg1.output, hg1.size, fun k hk => hg1.block k (by have := HB.out.size; omega) (by simp; omega)⟩
      have hc : fvAt G x.data.toList = c := by
        have h1 := hat FV.no.code
        rw [atKey_dat] at h1
        rw [fileR_val] at hfR
        simp only [Option.some.injEq, Prod.mk.injEq] at hfR
        exact FV.code_inj (h1.trans hfR.1.symm)
      have hD1 := HD.out.below hbw
      have hF1 := hD1.fv x.data.toList
      rw [hc] at hF1
      have hm1 : m < w.heap.size := HD.out.map.lt
      clear hat hfR hc hkl hlk hD1
      obtain ⟨sf, hsf⟩ : ∃ sf, (Pm.fi (abs G) x.data.toList).safe = sf := ⟨_, rfl⟩
      have HSF := Lib.hid hsf
      have HSAFE : Hid (∀ W, FileIs W B c (Pm.fi (abs G) x.data.toList) → Calls Try.prog 41 #[.agg #[.slice (c.a.g.map fun g => ⟨g, 0, none⟩) c.a.n c.a.c, .bool c.ea, .slice (c.b.g.map fun g => ⟨g, 0, none⟩) c.b.n c.b.c, .bool c.eb]] W fun e w' => e = .returned (.bool sf) ∧ ∃ o, w' = W.alloc o) :=
        Lib.hid (fun W hW => (safe_any hW).mono fun _ _ ⟨he, hw⟩ => ⟨by rw [he, hsf], _, hw⟩)
      have HF1 := Lib.hid hF1
      have HBW := Lib.hid hbw
      have HRG := Lib.hid hrg
      have HM := Lib.hid hm1
      have hsz1 : w.heap.size < w1.heap.size := hrg.lt
      have HSZ := Lib.hid hsz1
      have HLT := Lib.hid hlt
      clear hF1 hbw hrg hsf hg1 hm1 hsz1 hlt HB
      unfold FV.val Tx.val at hen ⊢
      go_wp2_with fail
      obtain ⟨o1, ho1⟩ : ∃ o : Obj, (Obj.cells #[.slice (c.a.g.map fun g => ⟨g, 0, none⟩) c.a.n c.a.c, .bool c.ea, .slice (c.b.g.map fun g => ⟨g, 0, none⟩) c.b.n c.b.c, .bool c.eb] 86) = o := ⟨_, rfl⟩
      rw [ho1]
      refine (HSAFE.out _ (HF1.out.keep fun b hb => Below.heap_alloc w1 o1 b (HF1.out.lt hb).2)).mono ?_
      rintro e w2 ⟨rfl, o2, rfl⟩
      have R1 : Hid (((w1.alloc o1).alloc o2).ranges Try.prog 9 fileR m w.heap.size G.length (.map (dat G)) (fun z => left z && !z.sameKey (.string x.data.toList)) cnt1) := Lib.hid ((HRG.out.alloc o1).alloc o2)
      have R2 : Hid (Below w.heap.size w ((w1.alloc o1).alloc o2)) := Lib.hid ((HBW.out.alloc HBW.out.size o1).alloc (HBW.out.alloc HBW.out.size o1).size o2)
      have hl1 : ((w1.alloc o1).alloc o2).rangeLeft m w.heap.size = cnt1 := R1.out.left_eq
      have hl2 : wr.rangeLeft m w.heap.size = cnt := HR.out.left_eq
      have HL1 := Lib.hid hl1
      have HL2 := Lib.hid hl2
      clear hl1 hl2 ho1 hen HF1 HSAFE HRG HBW HR
      generalize (w1.alloc o1).alloc o2 = w2 at *
      cases sf with
      | true =>
        have R3 : Hid (∀ k : List UInt8, (fun z : Lit => left z && !z.sameKey (.string x.data.toList)) (.string k) = false → (Pm.fi (abs G) k).safe = true) := Lib.hid fun k hk => by
          by_cases hkx : k = x.data.toList
          · rw [hkx]; exact HSF.out
          · refine HL.out k ?_
            have hne : (Lit.string k).sameKey (.string x.data.toList) = false := by simpa [Lit.sameKey] using hkx
            simpa [hne] using hk
        clear HSF HL HD HA
        go_wp2
        go_roundw
        case rel => exact ⟨_, _, R1, R2, R3⟩
        case measure => rw [HL1.out, HL2.out]; exact HLT.out
      | false =>
        have hAll : A = false := by
          rw [← HA.out]
          exact all_safe_not HSF.out
        subst hAll
        clear HA HSF HL HD R1
        go_wp2
        go_ret
        exact ⟨rfl, R2.out⟩
end Go.Proofs.Ytokepandiigjlaa
