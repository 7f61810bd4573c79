/- Sync and Remove of a disk, armed or lost: their walks. -/
import Derived.Test.YtokepandiigjlaaPre
namespace Go.Proofs.Ytokepandiigjlaa
open Go.RowKit Go.Sort
open Pm (Key Fi St Files)
set_option linter.unusedVariables false

/-- what a call comes to that makes T of the files L, if Try lets it -/
def Ends (w : World) (B g m : Nat) (rm : Int) (lo : Bool) (lf : Int) (L T : Files) (e : Ending) (w' : World) : Prop :=
  Below B w w' ∧ ((∃ c, c ≠ 0 ∧ (tryR lo lf).2 = c ∧ e = .returned (.int .i64 c) ∧ Has w' B g m rm lo (tryR lo lf).1 L) ∨
    ((tryR lo lf).2 = 0 ∧ e = .returned (.int .i64 0) ∧ Has w' B g m rm lo (tryR lo lf).1 T))

set_option maxRecDepth 100000 in
set_option maxHeartbeats 1000000 in
theorem sync_gen {w : World} {B g m : Nat} {rm : Int} {lo : Bool} {lf : Int} {L : Files} (h : Has w B g m rm lo lf L) (hB : B ≤ w.heap.size) (A : Option Addr) (c : Nat) (ks : List Key) (hk1 : 1 ≤ ks.length) (hkm : ks.length ≤ 1000000) (Bl : Nat) (hBl : Bl ≤ w.heap.size) (hL : Lies w Bl A (strk ks)) (hks : ∀ k ∈ ks, k.length ≤ 140737488355328) (hLen : L.length ≤ 1000000) :
    Calls Try.prog 27 #[.pointer (some ⟨g, 0, none⟩), .slice A ks.length c] w (Ends w B g m rm lo lf L (Pm.syncs ks L)) := by
  obtain ⟨T, hT⟩ : ∃ T, Pm.syncs ks L = T := ⟨_, rfl⟩
  rw [hT]
  obtain ⟨us0, G9, hd9, hG9⟩ := h
  go_enter Try.func27, Try.ntmps27
  go_wp2_with fail
  refine (try_dsk hd9).mono ?_
  rintro e w1 ⟨rfl, hd0, hm1⟩
  obtain ⟨p, hp⟩ : ∃ p, tryR lo lf = p := ⟨_, rfl⟩
  rw [hp] at hd0 ⊢
  have HTR := Lib.hid hp; clear hp
  obtain ⟨lf1, cc⟩ := p
  simp only at hd0 ⊢
  have HB0 := Lib.hid (hm1.below hB (fun k hk => by rw [hk]; exact hd0.gB))
  by_cases hc : cc = 0
  · subst hc
    have HL0 : Hid (Lies w1 Bl A (strk ks)) := Lib.hid (hL.moved_strk hd9 (hm1.mono fun k hk => .inl hk) hBl)
    obtain ⟨G0, hG0'⟩ : ∃ G0, G9 = G0 := ⟨_, rfl⟩
    subst hG0'
    have HT0 : Hid (Pm.syncs (ks.drop 0) (abs G9) = T) := Lib.hid (by rw [List.drop_zero, hG9]; exact hT)
    have HD0 := Lib.hid hd0
    have hL0 : (abs G9).length ≤ 1000000 := by rw [hG9]; exact hLen
    have hBl0 : Bl ≤ w1.heap.size := Nat.le_trans hBl hm1.size
    have hB0 : B ≤ w1.heap.size := Nat.le_trans hB hm1.size
    clear hd0 hm1 hT hL hG9 hLen hB hBl hd9
    have hne : ((ks.length : Int) == 0) = false := beq_eq_false_iff_ne.2 (by omega)
    go_wp2
    go_loopw [26] (fun i wr => ∃ (j : Nat) (us : Int) (G : Held), j ≤ ks.length ∧ i = .int .i64 (j : Int) ∧ Hid (Dsk wr B g m rm us lo lf1 G) ∧ Hid (Pm.syncs (ks.drop j) (abs G) = T) ∧ Hid (Below B w wr) ∧ Hid (Lies wr Bl A (strk ks)) ∧ Bl ≤ wr.heap.size ∧ B ≤ wr.heap.size ∧ (abs G).length ≤ 1000000)
      (fun i _ => ks.length - (intOf i).toNat)
    case atStart => exact ⟨0, us0, G9, by omega, rfl, HD0, HT0, HB0, HL0, hBl0, hB0, hL0⟩
    case round =>
      clear HD0 HT0 HB0 HL0 hBl0 hB0 hL0
      obtain ⟨j, us, G, hj, rfl, HD, HT, HB, HLi, hBl, hBw, hLen⟩ := hrel
      by_cases hlt : j < ks.length
      · obtain ⟨ad, rfl, hadB, hc⟩ := HLi.out.str hlt
        have hkz := hks _ (List.getElem_mem hlt)
        have hdrop : ks.drop j = ks[j] :: ks.drop (j + 1) := List.drop_eq_getElem_cons hlt
        obtain ⟨nm, hnm⟩ : ∃ nm : ByteArray, (⟨ks[j].toArray⟩ : ByteArray) = nm := ⟨_, rfl⟩
        have hnk : nm.data.toList = ks[j] := by rw [← hnm]
        have hnz : nm.size ≤ 140737488355328 := by rw [← hnm]; show ks[j].toArray.size ≤ _; simpa using hkz
        rw [hnm] at hc
        rw [← hnk] at hdrop
        clear hnm hnk hkz
        have hlook := HD.out.map.look (s := nm) (by unfold maxLen; omega)
        have hfo := HD.out.fv nm.data.toList
        have hfv : (fvAt G nm.data.toList).val = .agg #[(fvAt G nm.data.toList).a.val, .bool (fvAt G nm.data.toList).ea, (fvAt G nm.data.toList).b.val, .bool (fvAt G nm.data.toList).eb] := rfl
        rw [hfv] at hlook
        have hc4 := HD.out.c4
        have hS := settle_any HD.out nm hnz (t := (fvAt G nm.data.toList).a) (ex := (fvAt G nm.data.toList).ea) (x := (Pm.fi (abs G) nm.data.toList).now) ⟨hfo.a, hfo.ea, hfo.ok.1⟩
          (fun p hp hne b hb => HD.out.fo_apart hp hne (.inl hb)) (by have h1 := HD.out.le; unfold Pm.Fi.weight; omega) (by rw [abs_length] at hLen; unfold maxLen; omega)
        have HS := Lib.hid hS
        have HFA := Lib.hid (HD.out.absThere.fi nm.data.toList).1
        clear hS hfo hfv
        generalize (fvAt G nm.data.toList).a.val = va at *
        generalize (fvAt G nm.data.toList).b.val = vb at *
        generalize (fvAt G nm.data.toList).ea = ea at *
        generalize (fvAt G nm.data.toList).eb = eb at *
        have ff := field_now
        go_wp2_with fail
        refine HS.out.mono ?_
        rintro e w5 ⟨rfl, us', hD5, hM5⟩
        have R1 := Lib.hid hD5
        have R2 : Hid (Pm.syncs (ks.drop (j + 1)) (abs (setG G nm.data.toList (⟨(fvAt G nm.data.toList).a, ea, (fvAt G nm.data.toList).a, ea⟩, ⟨(Pm.fi (abs G) nm.data.toList).now, (Pm.fi (abs G) nm.data.toList).now⟩))) = T) := Lib.hid (by
          rw [abs_setG, ← HT.out, hdrop]
          rfl)
        have R3 : Hid (Below B w w5) := Lib.hid (HB.out.trans (hM5.below hBw (fun k hk => by rcases hk with rfl | rfl; exact HD.out.gB; exact HD.out.mB)))
        have R4 : Hid (Lies w5 Bl (some ad) (strk ks)) := Lib.hid (HLi.out.moved_strk HD.out hM5 hBl)
        have R5 : Bl ≤ w5.heap.size := Nat.le_trans hBl hM5.size
        have R6 : B ≤ w5.heap.size := Nat.le_trans hBw hM5.size
        have R7 : (abs (setG G nm.data.toList (⟨(fvAt G nm.data.toList).a, ea, (fvAt G nm.data.toList).a, ea⟩, ⟨(Pm.fi (abs G) nm.data.toList).now, (Pm.fi (abs G) nm.data.toList).now⟩))).length ≤ 1000000 := by
          rw [abs_setG]
          exact Nat.le_trans (Pm.length_settle_le (s := (Pm.fi (abs G) nm.data.toList).now) (fun h => by unfold Pm.Fi.there; rw [h]; rfl)) hLen
        clear hD5 hM5 HD HT HB HLi HS hlook hc hdrop hc4
        go_wp2
        go_roundw
        case rel => exact ⟨j + 1, us', _, by omega, by go_num, R1, R2, R3, R4, R5, R6, R7⟩
        case measure => simp [intOf]; omega
      · obtain rfl : j = ks.length := by omega
        rw [List.drop_length] at HT
        have HE : Hid (abs G = T) := HT
        clear HT HLi
        go_wp2
        go_ret
        exact ⟨HB.out, .inr ⟨by rw [HTR.out], rfl, by rw [HTR.out]; exact ⟨us, G, HD.out, HE.out⟩⟩⟩
  · have HD0 := Lib.hid hd0
    clear hd0 hm1 hT hL hd9
    go_wp2
    go_ret
    exact ⟨HB0.out, .inl ⟨cc, hc, by rw [HTR.out], rfl, by rw [HTR.out]; exact ⟨us0, G9, HD0.out, hG9⟩⟩⟩

set_option maxRecDepth 100000 in
set_option maxHeartbeats 1000000 in
theorem syncall_gen {w : World} {B g m : Nat} {rm : Int} {lo : Bool} {lf : Int} {L : Files} (h : Has w B g m rm lo lf L) (hB : B ≤ w.heap.size) (hks0 : ∀ k ∈ Pm.keys L, k.length ≤ 140737488355328) (hLen : L.length ≤ 1000000) :
    Calls Try.prog 27 #[.pointer (some ⟨g, 0, none⟩), .slice none 0 0] w (Ends w B g m rm lo lf L (Pm.syncs (Pm.keys L) L)) := by
  obtain ⟨T, hT⟩ : ∃ T, Pm.syncs (Pm.keys L) L = T := ⟨_, rfl⟩
  rw [hT]
  have hsrt := h.sorted
  have htr := h.there
  obtain ⟨us0, G0, hd9, hG0⟩ := h
  go_enter Try.func27, Try.ntmps27
  go_wp2_with fail
  refine (try_dsk hd9).mono ?_
  rintro e w1 ⟨rfl, hd0, hm1⟩
  obtain ⟨p, hp⟩ : ∃ p, tryR lo lf = p := ⟨_, rfl⟩
  rw [hp] at hd0 ⊢
  have HTR := Lib.hid hp; clear hp
  obtain ⟨lf1, cc⟩ := p
  simp only at hd0 ⊢
  have hb1 := hm1.below hB (fun k hk => by rw [hk]; exact hd0.gB)
  have hB1 : B ≤ w1.heap.size := Nat.le_trans hB hm1.size
  have HB1 := Lib.hid hb1
  by_cases hc : cc = 0
  · subst hc
    have hL0 : (abs G0).length ≤ 1000000 := by rw [hG0]; exact hLen
    have hc4 := hd0.c4
    have HD := Lib.hid hd0
    clear hd0 hb1 hm1 hd9
    go_wp2_with fail
    refine (maps_keys (some m) w1).mono ?_
    rintro e w2 ⟨rfl, rfl⟩
    go_wp2_with fail
    refine (collect_call HD.out.map (by rw [abs_length] at hL0; exact hL0)).mono ?_
    rintro e w3 ⟨v, ks, rfl, hp, hrow, hb3⟩
    have hD3 := (HD.out.alloc (.cells #[.map (some m)] 43)).below (w' := w3) (by rw [show (w1.alloc (.cells #[.map (some m)] 43)).heap.size = w1.heap.size + 1 by simp]; exact hb3)
    have hb2 : Below B w w3 := (HB1.out.alloc hB1 _).trans (hb3.mono (by omega))
    have hs3 := hb3.size
    rw [show (w1.alloc (.cells #[.map (some m)] 43)).heap.size = w1.heap.size + 1 by simp] at hs3
    have hkk : G0.map (·.1) = Pm.keys L := by rw [← hG0]; unfold Pm.keys abs Pm.vmap; rw [List.map_map]; rfl
    rw [hkk] at hp
    have hks : ∀ k ∈ ks, k.length ≤ 140737488355328 := fun k hk => hks0 k (hp.mem_iff.1 hk)
    have hkm : ks.length ≤ 1000000 := by rw [hp.length_eq]; unfold Pm.keys; rw [List.length_map]; exact hLen
    have HT0 : Hid (Pm.syncs (ks.drop 0) (abs G0) = T) := Lib.hid (by rw [List.drop_zero, hG0, Pm.syncs_perm hp hsrt htr]; exact hT)
    obtain ⟨A, c, rfl, hLr, _, _⟩ := own_slice_p hrow
    obtain ⟨Bl, hBlz⟩ : ∃ Bl, w3.heap.size = Bl := ⟨_, rfl⟩
    have HL0 : Hid (Lies w3 Bl A (strk ks)) := Lib.hid (by rw [← hBlz]; exact hLr)
    have hBl0 : Bl ≤ w3.heap.size := by omega
    have hB0 : B ≤ w3.heap.size := by omega
    have HD0 := Lib.hid hD3
    have HB0 := Lib.hid hb2
    clear hD3 hb2 hrow hLr hp hb3 HD HB1 hc4 hT hkk hG0 hBlz hs3 hB1 hLen hks0 hB hsrt htr
    go_wp2
    go_loopw [26] (fun i wr => ∃ (j : Nat) (us : Int) (G : Held), j ≤ ks.length ∧ i = .int .i64 (j : Int) ∧ Hid (Dsk wr B g m rm us lo lf1 G) ∧ Hid (Pm.syncs (ks.drop j) (abs G) = T) ∧ Hid (Below B w wr) ∧ Hid (Lies wr Bl A (strk ks)) ∧ Bl ≤ wr.heap.size ∧ B ≤ wr.heap.size ∧ (abs G).length ≤ 1000000)
      (fun i _ => ks.length - (intOf i).toNat)
    case atStart => exact ⟨0, us0, G0, by omega, rfl, HD0, HT0, HB0, HL0, hBl0, hB0, hL0⟩
    case round =>
      clear HD0 HT0 HB0 HL0 hBl0 hB0 hL0
      obtain ⟨j, us, G, hj, rfl, HD, HT, HB, HLi, hBl, hBw, hLen⟩ := hrel
      by_cases hlt : j < ks.length
      · obtain ⟨ad, rfl, hadB, hc⟩ := HLi.out.str hlt
        have hkz := hks _ (List.getElem_mem hlt)
        have hdrop : ks.drop j = ks[j] :: ks.drop (j + 1) := List.drop_eq_getElem_cons hlt
        obtain ⟨nm, hnm⟩ : ∃ nm : ByteArray, (⟨ks[j].toArray⟩ : ByteArray) = nm := ⟨_, rfl⟩
        have hnk : nm.data.toList = ks[j] := by rw [← hnm]
        have hnz : nm.size ≤ 140737488355328 := by rw [← hnm]; show ks[j].toArray.size ≤ _; simpa using hkz
        rw [hnm] at hc
        rw [← hnk] at hdrop
        clear hnm hnk hkz
        have hlook := HD.out.map.look (s := nm) (by unfold maxLen; omega)
        have hfo := HD.out.fv nm.data.toList
        have hfv : (fvAt G nm.data.toList).val = .agg #[(fvAt G nm.data.toList).a.val, .bool (fvAt G nm.data.toList).ea, (fvAt G nm.data.toList).b.val, .bool (fvAt G nm.data.toList).eb] := rfl
        rw [hfv] at hlook
        have hc4 := HD.out.c4
        have hS := settle_any HD.out nm hnz (t := (fvAt G nm.data.toList).a) (ex := (fvAt G nm.data.toList).ea) (x := (Pm.fi (abs G) nm.data.toList).now) ⟨hfo.a, hfo.ea, hfo.ok.1⟩
          (fun p hp hne b hb => HD.out.fo_apart hp hne (.inl hb)) (by have h1 := HD.out.le; unfold Pm.Fi.weight; omega) (by rw [abs_length] at hLen; unfold maxLen; omega)
        have HS := Lib.hid hS
        have HFA := Lib.hid (HD.out.absThere.fi nm.data.toList).1
        clear hS hfo hfv
        generalize (fvAt G nm.data.toList).a.val = va at *
        generalize (fvAt G nm.data.toList).b.val = vb at *
        generalize (fvAt G nm.data.toList).ea = ea at *
        generalize (fvAt G nm.data.toList).eb = eb at *
        have ff := field_now
        go_wp2_with fail
        refine HS.out.mono ?_
        rintro e w5 ⟨rfl, us', hD5, hM5⟩
        have R1 := Lib.hid hD5
        have R2 : Hid (Pm.syncs (ks.drop (j + 1)) (abs (setG G nm.data.toList (⟨(fvAt G nm.data.toList).a, ea, (fvAt G nm.data.toList).a, ea⟩, ⟨(Pm.fi (abs G) nm.data.toList).now, (Pm.fi (abs G) nm.data.toList).now⟩))) = T) := Lib.hid (by
          rw [abs_setG, ← HT.out, hdrop]
          rfl)
        have R3 : Hid (Below B w w5) := Lib.hid (HB.out.trans (hM5.below hBw (fun k hk => by rcases hk with rfl | rfl; exact HD.out.gB; exact HD.out.mB)))
        have R4 : Hid (Lies w5 Bl (some ad) (strk ks)) := Lib.hid (HLi.out.moved_strk HD.out hM5 hBl)
        have R5 : Bl ≤ w5.heap.size := Nat.le_trans hBl hM5.size
        have R6 : B ≤ w5.heap.size := Nat.le_trans hBw hM5.size
        have R7 : (abs (setG G nm.data.toList (⟨(fvAt G nm.data.toList).a, ea, (fvAt G nm.data.toList).a, ea⟩, ⟨(Pm.fi (abs G) nm.data.toList).now, (Pm.fi (abs G) nm.data.toList).now⟩))).length ≤ 1000000 := by
          rw [abs_setG]
          exact Nat.le_trans (Pm.length_settle_le (s := (Pm.fi (abs G) nm.data.toList).now) (fun h => by unfold Pm.Fi.there; rw [h]; rfl)) hLen
        clear hD5 hM5 HD HT HB HLi HS hlook hc hdrop hc4
        go_wp2
        go_roundw
        case rel => exact ⟨j + 1, us', _, by omega, by go_num, R1, R2, R3, R4, R5, R6, R7⟩
        case measure => simp [intOf]; omega
      · obtain rfl : j = ks.length := by omega
        rw [List.drop_length] at HT
        have HE : Hid (abs G = T) := HT
        clear HT HLi
        go_wp2
        go_ret
        exact ⟨HB.out, .inr ⟨by rw [HTR.out], rfl, by rw [HTR.out]; exact ⟨us, G, HD.out, HE.out⟩⟩⟩
  · have HD0 := Lib.hid hd0
    clear hd0 hm1 hT hd9 hb1
    go_wp2
    go_ret
    exact ⟨HB1.out, .inl ⟨cc, hc, by rw [HTR.out], rfl, by rw [HTR.out]; exact ⟨us0, G0, HD0.out, hG0⟩⟩⟩
end Go.Proofs.Ytokepandiigjlaa
