/- The calls of a disk that is neither armed nor lost: they write its own map and cells, and new blocks. -/
import Derived.Test.YtokepandiigjlaaPks
namespace Go.Proofs.Ytokepandiigjlaa
open Go.RowKit Go.Sort
open Pm (Key Fi St Files)
set_option linter.unusedVariables false

/-- no block of another has turned; the disk's texts lie where they lay -/
def Owned (w w' : World) (g m : Nat) (G G' : Held) : Prop := Moved w w' (fun b => b = g ∨ b = m) ∧ ∀ b, Foot g m G' b → Foot g m G b
def OwnEnds (w : World) (B g m : Nat) (rm : Int) (G : Held) (T : Files) (e : Ending) (w' : World) : Prop :=
  e = .returned (.int .i64 0) ∧ ∃ us' G', Dsk w' B g m rm us' false 0 G' ∧ abs G' = T ∧ Owned w w' g m G G'

section
variable {w w' w'' : World} {B g m : Nat} {rm us : Int} {G G' G'' : Held}
theorem Owned.refl (w : World) (g m : Nat) (G : Held) : Owned w w g m G G := ⟨Moved.refl _ _, fun _ h => h⟩
theorem Owned.trans (h : Owned w w' g m G G') (h' : Owned w' w'' g m G' G'') : Owned w w'' g m G G'' := ⟨h.1.trans h'.1 (fun _ _ h => h), fun b hb => h.2 b (h'.2 b hb)⟩
theorem Owned.of_below (h : Below w.heap.size w w') : Owned w w' g m G G := ⟨Moved.of_below h, fun _ h => h⟩
theorem Owned.of_settle {k : Key} {t : Tx} {ex : Bool} {x : St} {lo : Bool} {lf : Int} (hd : Dsk w B g m rm us lo lf G) (hm : Moved w w' fun b => b = g ∨ b = m) (ht : t = (fvAt G k).a ∨ t.g = none) : Owned w w' g m G (setG G k (⟨t, ex, t, ex⟩, ⟨x, x⟩)) := by
  refine ⟨hm, fun b hb => ?_⟩
  rcases foot_setG hb with hb | hb
  · exact hb
  · have hb' : t.g = some b := by rcases hb with h | h <;> exact h
    rcases ht with rfl | ht
    · obtain ⟨p, hp, hpb⟩ := hd.fo_foot (k := k) (b := b) (.inl hb')
      exact .inr (.inr ⟨p, hp, hpb⟩)
    · rw [ht] at hb'
      cases hb'
theorem try0 (h : Dsk w B g m rm us false 0 G) : Calls Try.prog 42 #[.pointer (some ⟨g, 2, none⟩)] w fun e w' => e = .returned (.int .i64 0) ∧ w = w' := by
  refine (try_any h.dev.luck).mono ?_
  rintro e w' (⟨h1, _⟩ | ⟨_, _, he, hw⟩ | ⟨_, h2, _⟩ | ⟨_, h2, _⟩)
  · cases h1
  · exact ⟨he, hw.symm⟩
  · exact absurd h2 (by decide)
  · exact absurd h2 (by decide)
end

set_option maxRecDepth 100000 in
set_option maxHeartbeats 1000000 in
theorem sync_own {w : World} {B g m : Nat} {rm us0 : Int} {G0 : Held} (h : Dsk w B g m rm us0 false 0 G0) (hB : B ≤ w.heap.size) (A : Option Addr) (c : Nat) (ks : List Key) (hk1 : 1 ≤ ks.length) (hkm : ks.length ≤ 1000000) (Bl : Nat) (hBl : Bl ≤ w.heap.size) (hL : Lies w Bl A (strk ks)) (hks : ∀ k ∈ ks, k.length ≤ 140737488355328) (hLen : (abs G0).length ≤ 1000000) :
    Calls Try.prog 27 #[.pointer (some ⟨g, 0, none⟩), .slice A ks.length c] w (OwnEnds w B g m rm G0 (Pm.syncs ks (abs G0))) := by
  obtain ⟨T, hT⟩ : ∃ T, Pm.syncs ks (abs G0) = T := ⟨_, rfl⟩
  rw [hT]
  go_enter Try.func27, Try.ntmps27
  go_wp2_with fail
  refine (try0 h).mono ?_
  rintro e w1 ⟨rfl, rfl⟩
  have HB0 : Hid (Owned w w g m G0 G0) := Lib.hid (Owned.refl w g m G0)
  have HL0 : Hid (Lies w Bl A (strk ks)) := Lib.hid hL
  have HT0 : Hid (Pm.syncs (ks.drop 0) (abs G0) = T) := Lib.hid (by rw [List.drop_zero]; exact hT)
  have HD0 := Lib.hid h
  have hL0 := hLen
  have hBl0 := hBl
  have hB0 := hB
  clear hT h hL hLen hB hBl
  have HDX := HD0
  have hne : ((ks.length : Int) == 0) = false := beq_eq_false_iff_ne.2 (by omega)
  go_wp2
  go_loopw [26] (fun i wr => ∃ (j : Nat) (us : Int) (G : Held), j ≤ ks.length ∧ i = .int .i64 (j : Int) ∧ Hid (Dsk wr B g m rm us false 0 G) ∧ Hid (Pm.syncs (ks.drop j) (abs G) = T) ∧ Hid (Owned w wr g m G0 G) ∧ Hid (Lies wr Bl A (strk ks)) ∧ Bl ≤ wr.heap.size ∧ B ≤ wr.heap.size ∧ (abs G).length ≤ 1000000)
    (fun i _ => ks.length - (intOf i).toNat)
  case atStart => exact ⟨0, us0, G0, by omega, rfl, HD0, HT0, HB0, HL0, hBl0, hB0, hL0⟩
  case round =>
    clear HD0 HT0 HB0 HL0 hBl0 hB0 hL0
    obtain ⟨j, us, G, hj, rfl, HD, HT, HB, HLi, hBl, hBw, hLen⟩ := hrel
    by_cases hlt : j < ks.length
    · obtain ⟨ad, rfl, hadB, hc⟩ := HLi.out.str hlt
      have hkz := hks _ (List.getElem_mem hlt)
      have hdrop : ks.drop j = ks[j] :: ks.drop (j + 1) := List.drop_eq_getElem_cons hlt
      obtain ⟨nm, hnm⟩ : ∃ nm : ByteArray, (⟨ks[j].toArray⟩ : ByteArray) = nm := ⟨_, rfl⟩
      have hnk : nm.data.toList = ks[j] := by rw [← hnm]
      have hnz : nm.size ≤ 140737488355328 := by rw [← hnm]; show ks[j].toArray.size ≤ _; simpa using hkz
      rw [hnm] at hc
      rw [← hnk] at hdrop
      clear hnm hnk hkz
      have hlook := HD.out.map.look (s := nm) (by unfold maxLen; omega)
      have hfo := HD.out.fv nm.data.toList
      have hfv : (fvAt G nm.data.toList).val = .agg #[(fvAt G nm.data.toList).a.val, .bool (fvAt G nm.data.toList).ea, (fvAt G nm.data.toList).b.val, .bool (fvAt G nm.data.toList).eb] := rfl
      rw [hfv] at hlook
      have hc4 := HD.out.c4
      have hS := settle_any HD.out nm hnz (t := (fvAt G nm.data.toList).a) (ex := (fvAt G nm.data.toList).ea) (x := (Pm.fi (abs G) nm.data.toList).now) ⟨hfo.a, hfo.ea, hfo.ok.1⟩
        (fun p hp hne b hb => HD.out.fo_apart hp hne (.inl hb)) (by have h1 := HD.out.le; unfold Pm.Fi.weight; omega) (by rw [abs_length] at hLen; unfold maxLen; omega)
      have HS := Lib.hid hS
      have HFA := Lib.hid (HD.out.absThere.fi nm.data.toList).1
      clear hS hfo hfv
      generalize (fvAt G nm.data.toList).a.val = va at *
      generalize (fvAt G nm.data.toList).b.val = vb at *
      generalize (fvAt G nm.data.toList).ea = ea at *
      generalize (fvAt G nm.data.toList).eb = eb at *
      have ff := field_now
      go_wp2_with fail
      refine HS.out.mono ?_
      rintro e w5 ⟨rfl, us', hD5, hM5⟩
      have R1 := Lib.hid hD5
      have R2 : Hid (Pm.syncs (ks.drop (j + 1)) (abs (setG G nm.data.toList (⟨(fvAt G nm.data.toList).a, ea, (fvAt G nm.data.toList).a, ea⟩, ⟨(Pm.fi (abs G) nm.data.toList).now, (Pm.fi (abs G) nm.data.toList).now⟩))) = T) := Lib.hid (by
        rw [abs_setG, ← HT.out, hdrop]
        rfl)
      have R3 := Lib.hid (HB.out.trans (Owned.of_settle HD.out hM5 (t := (fvAt G nm.data.toList).a) (ex := ea) (x := (Pm.fi (abs G) nm.data.toList).now) (.inl rfl)))
      have R4 : Hid (Lies w5 Bl (some ad) (strk ks)) := Lib.hid (HLi.out.moved_strk HD.out hM5 hBl)
      have R5 : Bl ≤ w5.heap.size := Nat.le_trans hBl hM5.size
      have R6 : B ≤ w5.heap.size := Nat.le_trans hBw hM5.size
      have R7 : (abs (setG G nm.data.toList (⟨(fvAt G nm.data.toList).a, ea, (fvAt G nm.data.toList).a, ea⟩, ⟨(Pm.fi (abs G) nm.data.toList).now, (Pm.fi (abs G) nm.data.toList).now⟩))).length ≤ 1000000 := by
        rw [abs_setG]
        exact Nat.le_trans (Pm.length_settle_le (s := (Pm.fi (abs G) nm.data.toList).now) (fun h => by unfold Pm.Fi.there; rw [h]; rfl)) hLen
      clear hD5 hM5 HD HT HB HLi HS hlook hc hdrop hc4
      go_wp2
      go_roundw
      case rel => exact ⟨j + 1, us', _, by omega, by go_num, R1, R2, R3, R4, R5, R6, R7⟩
      case measure => simp [intOf]; omega
    · obtain rfl : j = ks.length := by omega
      rw [List.drop_length] at HT
      have HE : Hid (abs G = T) := HT
      clear HT HLi
      go_wp2
      go_ret
      exact ⟨rfl, us, G, HD.out, HE.out, HB.out⟩

set_option maxRecDepth 100000 in
set_option maxHeartbeats 1000000 in
theorem syncall_own {w : World} {B g m : Nat} {rm us0 : Int} {G0 : Held} (h : Dsk w B g m rm us0 false 0 G0) (hB : B ≤ w.heap.size) (hks0 : ∀ k ∈ Pm.keys (abs G0), k.length ≤ 140737488355328) (hLen : (abs G0).length ≤ 1000000) :
    Calls Try.prog 27 #[.pointer (some ⟨g, 0, none⟩), .slice none 0 0] w (OwnEnds w B g m rm G0 (Pm.syncs (Pm.keys (abs G0)) (abs G0))) := by
  obtain ⟨T, hT⟩ : ∃ T, Pm.syncs (Pm.keys (abs G0)) (abs G0) = T := ⟨_, rfl⟩
  rw [hT]
  go_enter Try.func27, Try.ntmps27
  go_wp2_with fail
  refine (try0 h).mono ?_
  rintro e w ⟨rfl, rfl⟩
  have hB1 := hB
  have hL0 := hLen
  have hc4 := h.c4
  have HD := Lib.hid h
  go_wp2_with fail
  refine (maps_keys (some m) w).mono ?_
  rintro e w2 ⟨rfl, rfl⟩
  go_wp2_with fail
  refine (collect_call HD.out.map (by rw [abs_length] at hL0; exact hL0)).mono ?_
  rintro e w3 ⟨v, ks, rfl, hp, hrow, hb3⟩
  have hD3 := (HD.out.alloc (.cells #[.map (some m)] 43)).below (w' := w3) (by rw [show (w.alloc (.cells #[.map (some m)] 43)).heap.size = w.heap.size + 1 by simp]; exact hb3)
  have hb2 : Owned w w3 g m G0 G0 := Owned.of_below (((Below.refl w.heap.size w).alloc (Nat.le_refl _) _).trans (hb3.mono (by omega)))
  have hs3 := hb3.size
  rw [show (w.alloc (.cells #[.map (some m)] 43)).heap.size = w.heap.size + 1 by simp] at hs3
  have hkk : G0.map (·.1) = Pm.keys (abs G0) := by unfold Pm.keys abs Pm.vmap; rw [List.map_map]; rfl
  rw [hkk] at hp
  have hks : ∀ k ∈ ks, k.length ≤ 140737488355328 := fun k hk => hks0 k (hp.mem_iff.1 hk)
  have hkm : ks.length ≤ 1000000 := by rw [hp.length_eq]; unfold Pm.keys; rw [List.length_map]; exact hLen
  have HT0 : Hid (Pm.syncs (ks.drop 0) (abs G0) = T) := Lib.hid (by rw [List.drop_zero, Pm.syncs_perm hp h.absSorted h.absThere]; exact hT)
  obtain ⟨A, c, rfl, hLr, _, _⟩ := own_slice_p hrow
  obtain ⟨Bl, hBlz⟩ : ∃ Bl, w3.heap.size = Bl := ⟨_, rfl⟩
  have HL0 : Hid (Lies w3 Bl A (strk ks)) := Lib.hid (by rw [← hBlz]; exact hLr)
  have hBl0 : Bl ≤ w3.heap.size := by omega
  have hB0 : B ≤ w3.heap.size := by omega
  have HD0 := Lib.hid hD3
  have HB0 := Lib.hid hb2
  clear hD3 hb2 hrow hLr hp hb3 HD hc4 hT h hkk hBlz hs3 hB1 hLen hks0 hB
  go_wp2
  go_loopw [26] (fun i wr => ∃ (j : Nat) (us : Int) (G : Held), j ≤ ks.length ∧ i = .int .i64 (j : Int) ∧ Hid (Dsk wr B g m rm us false 0 G) ∧ Hid (Pm.syncs (ks.drop j) (abs G) = T) ∧ Hid (Owned w wr g m G0 G) ∧ Hid (Lies wr Bl A (strk ks)) ∧ Bl ≤ wr.heap.size ∧ B ≤ wr.heap.size ∧ (abs G).length ≤ 1000000)
    (fun i _ => ks.length - (intOf i).toNat)
  case atStart => exact ⟨0, us0, G0, by omega, rfl, HD0, HT0, HB0, HL0, hBl0, hB0, hL0⟩
  case round =>
    clear HD0 HT0 HB0 HL0 hBl0 hB0 hL0
    obtain ⟨j, us, G, hj, rfl, HD, HT, HB, HLi, hBl, hBw, hLen⟩ := hrel
    by_cases hlt : j < ks.length
    · obtain ⟨ad, rfl, hadB, hc⟩ := HLi.out.str hlt
      have hkz := hks _ (List.getElem_mem hlt)
      have hdrop : ks.drop j = ks[j] :: ks.drop (j + 1) := List.drop_eq_getElem_cons hlt
      obtain ⟨nm, hnm⟩ : ∃ nm : ByteArray, (⟨ks[j].toArray⟩ : ByteArray) = nm := ⟨_, rfl⟩
      have hnk : nm.data.toList = ks[j] := by rw [← hnm]
      have hnz : nm.size ≤ 140737488355328 := by rw [← hnm]; show ks[j].toArray.size ≤ _; simpa using hkz
      rw [hnm] at hc
      rw [← hnk] at hdrop
      clear hnm hnk hkz
      have hlook := HD.out.map.look (s := nm) (by unfold maxLen; omega)
      have hfo := HD.out.fv nm.data.toList
      have hfv : (fvAt G nm.data.toList).val = .agg #[(fvAt G nm.data.toList).a.val, .bool (fvAt G nm.data.toList).ea, (fvAt G nm.data.toList).b.val, .bool (fvAt G nm.data.toList).eb] := rfl
      rw [hfv] at hlook
      have hc4 := HD.out.c4
      have hS := settle_any HD.out nm hnz (t := (fvAt G nm.data.toList).a) (ex := (fvAt G nm.data.toList).ea) (x := (Pm.fi (abs G) nm.data.toList).now) ⟨hfo.a, hfo.ea, hfo.ok.1⟩
        (fun p hp hne b hb => HD.out.fo_apart hp hne (.inl hb)) (by have h1 := HD.out.le; unfold Pm.Fi.weight; omega) (by rw [abs_length] at hLen; unfold maxLen; omega)
      have HS := Lib.hid hS
      have HFA := Lib.hid (HD.out.absThere.fi nm.data.toList).1
      clear hS hfo hfv
      generalize (fvAt G nm.data.toList).a.val = va at *
      generalize (fvAt G nm.data.toList).b.val = vb at *
      generalize (fvAt G nm.data.toList).ea = ea at *
      generalize (fvAt G nm.data.toList).eb = eb at *
      have ff := field_now
      go_wp2_with fail
      refine HS.out.mono ?_
      rintro e w5 ⟨rfl, us', hD5, hM5⟩
      have R1 := Lib.hid hD5
      have R2 : Hid (Pm.syncs (ks.drop (j + 1)) (abs (setG G nm.data.toList (⟨(fvAt G nm.data.toList).a, ea, (fvAt G nm.data.toList).a, ea⟩, ⟨(Pm.fi (abs G) nm.data.toList).now, (Pm.fi (abs G) nm.data.toList).now⟩))) = T) := Lib.hid (by
        rw [abs_setG, ← HT.out, hdrop]
        rfl)
      have R3 := Lib.hid (HB.out.trans (Owned.of_settle HD.out hM5 (t := (fvAt G nm.data.toList).a) (ex := ea) (x := (Pm.fi (abs G) nm.data.toList).now) (.inl rfl)))
      have R4 : Hid (Lies w5 Bl (some ad) (strk ks)) := Lib.hid (HLi.out.moved_strk HD.out hM5 hBl)
      have R5 : Bl ≤ w5.heap.size := Nat.le_trans hBl hM5.size
      have R6 : B ≤ w5.heap.size := Nat.le_trans hBw hM5.size
      have R7 : (abs (setG G nm.data.toList (⟨(fvAt G nm.data.toList).a, ea, (fvAt G nm.data.toList).a, ea⟩, ⟨(Pm.fi (abs G) nm.data.toList).now, (Pm.fi (abs G) nm.data.toList).now⟩))).length ≤ 1000000 := by
        rw [abs_setG]
        exact Nat.le_trans (Pm.length_settle_le (s := (Pm.fi (abs G) nm.data.toList).now) (fun h => by unfold Pm.Fi.there; rw [h]; rfl)) hLen
      clear hD5 hM5 HD HT HB HLi HS hlook hc hdrop hc4
      go_wp2
      go_roundw
      case rel => exact ⟨j + 1, us', _, by omega, by go_num, R1, R2, R3, R4, R5, R6, R7⟩
      case measure => simp [intOf]; omega
    · obtain rfl : j = ks.length := by omega
      rw [List.drop_length] at HT
      have HE : Hid (abs G = T) := HT
      clear HT HLi
      go_wp2
      go_ret
      exact ⟨rfl, us, G, HD.out, HE.out, HB.out⟩

set_option maxRecDepth 100000 in
set_option maxHeartbeats 1000000 in
theorem read_low {w : World} {B g m : Nat} {rm us : Int} {G : Held} (h : Dsk w B g m rm us false 0 G) (n : ByteArray) (hn : n.size ≤ 140737488355328) :
    Calls Try.prog 23 #[.pointer (some ⟨g, 0, none⟩), .string n] w fun e w' => e = .returned (.tuple (if (Pm.fi (abs G) n.data.toList).now.ex = true then #[.string ⟨(Pm.fi (abs G) n.data.toList).now.t.toArray⟩, .int .i64 0] else #[.string ⟨#[]⟩, .int .i64 5])) ∧
      Below w.heap.size w w' := by
  have hnm : n.size ≤ maxLen := by unfold maxLen; omega
  obtain ⟨ex, hex⟩ : ∃ ex, (Pm.fi (abs G) n.data.toList).now.ex = ex := ⟨_, rfl⟩
  rw [hex]
  obtain ⟨txt, htx⟩ : ∃ txt, (Pm.fi (abs G) n.data.toList).now.t.toArray = txt := ⟨_, rfl⟩
  rw [htx]
  go_enter Try.func23, Try.ntmps23
  go_wp2_with fail
  refine (try0 h).mono ?_
  rintro e w ⟨rfl, rfl⟩
  have hd := h
  have hlook := hd.map.look (s := n) hnm
  have hfo := hd.fv n.data.toList
  have hfv : (fvAt G n.data.toList).val = .agg #[.slice ((fvAt G n.data.toList).a.g.map fun g => ⟨g, 0, none⟩) (fvAt G n.data.toList).a.n (fvAt G n.data.toList).a.c, .bool (fvAt G n.data.toList).ea, .slice ((fvAt G n.data.toList).b.g.map fun g => ⟨g, 0, none⟩) (fvAt G n.data.toList).b.n (fvAt G n.data.toList).b.c, .bool (fvAt G n.data.toList).eb] := rfl
  rw [hfv] at hlook
  have hconv : ∀ o, (convert 82 9 (.slice ((fvAt G n.data.toList).a.g.map fun g => ⟨g, 0, none⟩) (fvAt G n.data.toList).a.n (fvAt G n.data.toList).a.c)).run Try.prog (w.alloc o) = .ok (.string ⟨(Pm.fi (abs G) n.data.toList).now.t.toArray⟩) (w.alloc o) := fun o => by
    have := (hfo.a.alloc o).conv _ (Nat.le_refl _) (fvAt G n.data.toList).a.c
    rw [List.take_length, ← hfo.a.1] at this
    exact this
  have hea := hfo.ea
  have hc4 := hd.c4
  have HD := Lib.hid hd
  clear hfo hfv hd h
  generalize ((fvAt G n.data.toList).a.g.map fun g => (⟨g, 0, none⟩ : Addr)) = Aa at *
  generalize ((fvAt G n.data.toList).b.g.map fun g => (⟨g, 0, none⟩ : Addr)) = Ab at *
  generalize (fvAt G n.data.toList).a.n = na at *
  generalize (fvAt G n.data.toList).a.c = ca at *
  generalize (fvAt G n.data.toList).b.n = nb at *
  generalize (fvAt G n.data.toList).b.c = cb at *
  generalize (fvAt G n.data.toList).eb = eb at *
  generalize (fvAt G n.data.toList).ea = ea at *
  rw [htx] at hconv
  rw [hex] at hea
  clear htx hex
  subst hea
  have fin : Hid (∀ o, Below w.heap.size w (w.alloc o)) := Lib.hid (fun o => (Below.refl _ w).alloc (Nat.le_refl _) o)
  clear HD
  cases ea with
  | true =>
    go_wp2
    go_ret2
    exact ⟨rfl, fin.out _⟩
  | false =>
    go_wp2
    go_ret2
    exact ⟨rfl, fin.out _⟩
end Go.Proofs.Ytokepandiigjlaa
