/- Sync of a disk that isn't lost nor armed: its walk. -/
import Derived.Test.YtokepandiigjlaaP8
namespace Go.Proofs.Ytokepandiigjlaa
open Go.RowKit Go.Sort
open Pm (Key Fi St Files)
set_option linter.unusedVariables false

theorem own_slice_p {w : World} {B n : Nat} {e : TypeId} {v : Value} {xs : List Value} (h : w.ownsRow B e 1 v n xs) : ∃ A c, v = .slice A n c ∧ Lies w w.heap.size A xs ∧ (∀ ad, A = some ad → B ≤ ad.block) ∧ n ≤ c := by
  rcases h.2 with ⟨rfl, rfl⟩ | ⟨g, cap, cur, rfl, hB, hg, hn, _⟩
  · have : xs = [] := List.eq_nil_of_length_eq_zero (by simpa using h.1)
    subst this
    exact ⟨none, 0, rfl, Lies.nil, by simp, Nat.le_refl _⟩
  · refine ⟨some ⟨g, 0, none⟩, cap, rfl, fun j u hj => ⟨_, rfl, (h.lt g rfl).2, h.cells (g := g) rfl j u hj⟩, ?_, ?_⟩
    · intro ad hA
      simp at hA
      subst hA
      exact hB
    · exact hn

/-- names, as the cells of a slice -/
def strk (ks : List Key) : List Value := ks.map encStr
theorem Lies.str {w : World} {B : Nat} {A : Option Addr} {ks : List Key} (h : Lies w B A (strk ks)) {k : Nat} (hk : k < ks.length) : ∃ ad, A = some ad ∧ ad.block < B ∧ w.cell? (ad.add k) = some (.string ⟨ks[k].toArray⟩) := by
  obtain ⟨ad, h1, h2, h3⟩ := h.round (k := k) (by simpa [strk] using hk)
  exact ⟨ad, h1, h2, by rw [h3]; simp [strk, encStr]⟩

/-- names lie in no block of a disk's own -/
theorem Lies.moved_strk {w w' : World} {Bl B g m : Nat} {rm us : Int} {lo : Bool} {lf : Int} {G : Held} {A : Option Addr} {ks : List Key} (h : Lies w Bl A (strk ks)) (hd : Dsk w B g m rm us lo lf G) (hm : Moved w w' fun b => b = g ∨ b = m) (hBl : Bl ≤ w.heap.size) : Lies w' Bl A (strk ks) := fun j u hj => by
  obtain ⟨ad, h1, h2, h3⟩ := h j u hj
  have hs : ∃ s, u = .string s := by
    unfold strk at hj
    rw [List.getElem?_map] at hj
    obtain ⟨k, _, rfl⟩ := Option.map_eq_some_iff.1 hj
    exact ⟨_, rfl⟩
  obtain ⟨s, rfl⟩ := hs
  refine ⟨ad, h1, h2, (World.cell?_of_block (hm.block (ad.add j).block (by rw [add_block]; omega) ?_)).trans h3⟩
  rw [add_block]
  have hcell := h3
  rintro (e | e)
  · have hat := hd.at_
    unfold At at hat
    unfold World.cell? at hcell
    rw [add_block, e, hat] at hcell
    simp only at hcell
    split at hcell
    · cases hcell
    · have hi := (Array.getElem?_eq_some_iff.1 hcell).1
      have : (ad.add j).off = 0 ∨ (ad.add j).off = 1 ∨ (ad.add j).off = 2 ∨ (ad.add j).off = 3 ∨ (ad.add j).off = 4 := by simp at hi; omega
      rcases this with h | h | h | h | h <;> rw [h] at hcell <;> simp at hcell
  · obtain ⟨es, clock, hmm, _⟩ := hd.map
    unfold World.cell? at hcell
    rw [add_block, e, hmm] at hcell
    simp at hcell

set_option maxRecDepth 100000 in
set_option maxHeartbeats 1000000 in
theorem sync_ok {w : World} {B g m : Nat} {rm : Int} {L : Files} (h : Has w B g m rm false 0 L) (hB : B ≤ w.heap.size) (A : Option Addr) (c : Nat) (ks : List Key) (hk1 : 1 ≤ ks.length) (hkm : ks.length ≤ 1000000) (Bl : Nat) (hBl : Bl ≤ w.heap.size) (hL : Lies w Bl A (strk ks)) (hks : ∀ k ∈ ks, k.length ≤ 140737488355328) (hLen : L.length ≤ 1000000) :
    Calls Try.prog 27 #[.pointer (some ⟨g, 0, none⟩), .slice A ks.length c] w fun e w' => e = .returned (.int .i64 0) ∧ Has w' B g m rm false 0 (Pm.syncs ks L) ∧ Below B w w' := by
  obtain ⟨T, hT⟩ : ∃ T, Pm.syncs ks L = T := ⟨_, rfl⟩
  rw [hT]
  go_enter Try.func27, Try.ntmps27
  go_wp2_with fail
  refine (has_try h).mono ?_
  rintro e w1 ⟨rfl, hh1, hm1⟩
  obtain ⟨us0, G0, hd0, hG0⟩ := hh1
  have HB0 := Lib.hid (hm1.below hB (fun k hk => by rw [hk]; exact hd0.gB))
  have HL0 : Hid (Lies w1 Bl A (strk ks)) := Lib.hid (by
    obtain ⟨us9, G9, hd9, _⟩ := h
    exact hL.moved_strk hd9 (hm1.mono fun k hk => .inl hk) hBl)
  have HT0 : Hid (Pm.syncs (ks.drop 0) (abs G0) = T) := Lib.hid (by rw [List.drop_zero, hG0]; exact hT)
  have HD0 := Lib.hid hd0
  have hL0 : (abs G0).length ≤ 1000000 := by rw [hG0]; exact hLen
  have hBl0 : Bl ≤ w1.heap.size := Nat.le_trans hBl hm1.size
  have hB0 : B ≤ w1.heap.size := Nat.le_trans hB hm1.size
  clear hd0 hm1 hT h hL hG0 hLen hB hBl
  have hne : ((ks.length : Int) == 0) = false := beq_eq_false_iff_ne.2 (by omega)
  go_wp2
  go_loopw [26] (fun i wr => ∃ (j : Nat) (us : Int) (G : Held), j ≤ ks.length ∧ i = .int .i64 (j : Int) ∧ Hid (Dsk wr B g m rm us false 0 G) ∧ Hid (Pm.syncs (ks.drop j) (abs G) = T) ∧ Hid (Below B w wr) ∧ Hid (Lies wr Bl A (strk ks)) ∧ Bl ≤ wr.heap.size ∧ B ≤ wr.heap.size ∧ (abs G).length ≤ 1000000)
    (fun i _ => ks.length - (intOf i).toNat)
  case atStart => exact ⟨0, us0, G0, by omega, rfl, HD0, HT0, HB0, HL0, hBl0, hB0, hL0⟩
  case round =>
    clear HD0 HT0 HB0 HL0 hBl0 hB0 hL0
    obtain ⟨j, us, G, hj, rfl, HD, HT, HB, HLi, hBl, hBw, hLen⟩ := hrel
    by_cases hlt : j < ks.length
    · obtain ⟨ad, rfl, hadB, hc⟩ := HLi.out.str hlt
      have hkz := hks _ (List.getElem_mem hlt)
      have hdrop : ks.drop j = ks[j] :: ks.drop (j + 1) := List.drop_eq_getElem_cons hlt
      obtain ⟨nm, hnm⟩ : ∃ nm : ByteArray, (⟨ks[j].toArray⟩ : ByteArray) = nm := ⟨_, rfl⟩
      have hnk : nm.data.toList = ks[j] := by rw [← hnm]
      have hnz : nm.size ≤ 140737488355328 := by rw [← hnm]; show ks[j].toArray.size ≤ _; simpa using hkz
      rw [hnm] at hc
      rw [← hnk] at hdrop
      clear hnm hnk hkz
      have hlook := HD.out.map.look (s := nm) (by unfold maxLen; omega)
      have hfo := HD.out.fv nm.data.toList
      have hfv : (fvAt G nm.data.toList).val = .agg #[(fvAt G nm.data.toList).a.val, .bool (fvAt G nm.data.toList).ea, (fvAt G nm.data.toList).b.val, .bool (fvAt G nm.data.toList).eb] := rfl
      rw [hfv] at hlook
      have hc4 := HD.out.c4
      have hS := settle_any HD.out nm hnz (t := (fvAt G nm.data.toList).a) (ex := (fvAt G nm.data.toList).ea) (x := (Pm.fi (abs G) nm.data.toList).now) ⟨hfo.a, hfo.ea, hfo.ok.1⟩
        (fun p hp hne b hb => HD.out.fo_apart hp hne (.inl hb)) (by have h1 := HD.out.le; unfold Pm.Fi.weight; omega) (by rw [abs_length] at hLen; unfold maxLen; omega)
      have HS := Lib.hid hS
      have HFA := Lib.hid (HD.out.absThere.fi nm.data.toList).1
      clear hS hfo hfv
      generalize (fvAt G nm.data.toList).a.val = va at *
      generalize (fvAt G nm.data.toList).b.val = vb at *
      generalize (fvAt G nm.data.toList).ea = ea at *
      generalize (fvAt G nm.data.toList).eb = eb at *
      have ff := field_now
      go_wp2_with fail
      refine HS.out.mono ?_
      rintro e w5 ⟨rfl, us', hD5, hM5⟩
      have R1 := Lib.hid hD5
      have R2 : Hid (Pm.syncs (ks.drop (j + 1)) (abs (setG G nm.data.toList (⟨(fvAt G nm.data.toList).a, ea, (fvAt G nm.data.toList).a, ea⟩, ⟨(Pm.fi (abs G) nm.data.toList).now, (Pm.fi (abs G) nm.data.toList).now⟩))) = T) := Lib.hid (by
        rw [abs_setG, ← HT.out, hdrop]
        rfl)
      have R3 : Hid (Below B w w5) := Lib.hid (HB.out.trans (hM5.below hBw (fun k hk => by rcases hk with rfl | rfl; exact HD.out.gB; exact HD.out.mB)))
      have R4 : Hid (Lies w5 Bl (some ad) (strk ks)) := Lib.hid (HLi.out.moved_strk HD.out hM5 hBl)
      have R5 : Bl ≤ w5.heap.size := Nat.le_trans hBl hM5.size
      have R6 : B ≤ w5.heap.size := Nat.le_trans hBw hM5.size
      have R7 : (abs (setG G nm.data.toList (⟨(fvAt G nm.data.toList).a, ea, (fvAt G nm.data.toList).a, ea⟩, ⟨(Pm.fi (abs G) nm.data.toList).now, (Pm.fi (abs G) nm.data.toList).now⟩))).length ≤ 1000000 := by
        rw [abs_setG]
        exact Nat.le_trans (Pm.length_settle_le (s := (Pm.fi (abs G) nm.data.toList).now) (fun h => by unfold Pm.Fi.there; rw [h]; rfl)) hLen
      clear hD5 hM5 HD HT HB HLi HS hlook hc hdrop hc4
      go_wp2
      go_roundw
      case rel => exact ⟨j + 1, us', _, by omega, by go_num, R1, R2, R3, R4, R5, R6, R7⟩
      case measure => simp [intOf]; omega
    · obtain rfl : j = ks.length := by omega
      rw [List.drop_length] at HT
      have HE : Hid (abs G = T) := HT
      clear HT HLi
      go_wp2
      go_ret
      exact ⟨rfl, ⟨us, G, HD.out, HE.out⟩, HB.out⟩

set_option maxRecDepth 100000 in
set_option maxHeartbeats 1000000 in
theorem syncall_ok {w : World} {B g m : Nat} {rm : Int} {L : Files} (h : Has w B g m rm false 0 L) (hB : B ≤ w.heap.size) (hks0 : ∀ k ∈ Pm.keys L, k.length ≤ 140737488355328) (hLen : L.length ≤ 1000000) :
    Calls Try.prog 27 #[.pointer (some ⟨g, 0, none⟩), .slice none 0 0] w fun e w' => e = .returned (.int .i64 0) ∧ Has w' B g m rm false 0 (Pm.syncs (Pm.keys L) L) ∧ Below B w w' := by
  obtain ⟨T, hT⟩ : ∃ T, Pm.syncs (Pm.keys L) L = T := ⟨_, rfl⟩
  rw [hT]
  go_enter Try.func27, Try.ntmps27
  go_wp2_with fail
  refine (has_try h).mono ?_
  rintro e w1 ⟨rfl, hh1, hm1⟩
  obtain ⟨us0, G0, hd0, hG0⟩ := hh1
  have hb1 := hm1.below hB (fun k hk => by rw [hk]; exact hd0.gB)
  have hB1 : B ≤ w1.heap.size := Nat.le_trans hB hm1.size
  have hL0 : (abs G0).length ≤ 1000000 := by rw [hG0]; exact hLen
  have hc4 := hd0.c4
  have HD := Lib.hid hd0
  have HB1 := Lib.hid hb1
  clear hd0 hb1 hm1
  go_wp2_with fail
  refine (maps_keys (some m) w1).mono ?_
  rintro e w2 ⟨rfl, rfl⟩
  go_wp2_with fail
  refine (collect_call HD.out.map (by rw [abs_length] at hL0; exact hL0)).mono ?_
  rintro e w3 ⟨v, ks, rfl, hp, hrow, hb3⟩
  have hD3 := (HD.out.alloc (.cells #[.map (some m)] 43)).below (w' := w3) (by rw [show (w1.alloc (.cells #[.map (some m)] 43)).heap.size = w1.heap.size + 1 by simp]; exact hb3)
  have hb2 : Below B w w3 := (HB1.out.alloc hB1 _).trans (hb3.mono (by omega))
  have hs3 := hb3.size
  rw [show (w1.alloc (.cells #[.map (some m)] 43)).heap.size = w1.heap.size + 1 by simp] at hs3
  have hkk : G0.map (·.1) = Pm.keys L := by rw [← hG0]; unfold Pm.keys abs Pm.vmap; rw [List.map_map]; rfl
  rw [hkk] at hp
  have hks : ∀ k ∈ ks, k.length ≤ 140737488355328 := fun k hk => hks0 k (hp.mem_iff.1 hk)
  have hkm : ks.length ≤ 1000000 := by rw [hp.length_eq]; unfold Pm.keys; rw [List.length_map]; exact hLen
  have HT0 : Hid (Pm.syncs (ks.drop 0) (abs G0) = T) := Lib.hid (by rw [List.drop_zero, hG0, Pm.syncs_perm hp h.sorted h.there]; exact hT)
  obtain ⟨A, c, rfl, hLr, _, _⟩ := own_slice_p hrow
  obtain ⟨Bl, hBlz⟩ : ∃ Bl, w3.heap.size = Bl := ⟨_, rfl⟩
  have HL0 : Hid (Lies w3 Bl A (strk ks)) := Lib.hid (by rw [← hBlz]; exact hLr)
  have hBl0 : Bl ≤ w3.heap.size := by omega
  have hB0 : B ≤ w3.heap.size := by omega
  have HD0 := Lib.hid hD3
  have HB0 := Lib.hid hb2
  clear hD3 hb2 hrow hLr hp hb3 HD HB1 hc4 hT h hkk hG0 hBlz hs3 hB1 hLen hks0 hB
  go_wp2
  go_loopw [26] (fun i wr => ∃ (j : Nat) (us : Int) (G : Held), j ≤ ks.length ∧ i = .int .i64 (j : Int) ∧ Hid (Dsk wr B g m rm us false 0 G) ∧ Hid (Pm.syncs (ks.drop j) (abs G) = T) ∧ Hid (Below B w wr) ∧ Hid (Lies wr Bl A (strk ks)) ∧ Bl ≤ wr.heap.size ∧ B ≤ wr.heap.size ∧ (abs G).length ≤ 1000000)
    (fun i _ => ks.length - (intOf i).toNat)
  case atStart => exact ⟨0, us0, G0, by omega, rfl, HD0, HT0, HB0, HL0, hBl0, hB0, hL0⟩
  case round =>
    clear HD0 HT0 HB0 HL0 hBl0 hB0 hL0
    obtain ⟨j, us, G, hj, rfl, HD, HT, HB, HLi, hBl, hBw, hLen⟩ := hrel
    by_cases hlt : j < ks.length
    · obtain ⟨ad, rfl, hadB, hc⟩ := HLi.out.str hlt
      have hkz := hks _ (List.getElem_mem hlt)
      have hdrop : ks.drop j = ks[j] :: ks.drop (j + 1) := List.drop_eq_getElem_cons hlt
      obtain ⟨nm, hnm⟩ : ∃ nm : ByteArray, (⟨ks[j].toArray⟩ : ByteArray) = nm := ⟨_, rfl⟩
      have hnk : nm.data.toList = ks[j] := by rw [← hnm]
      have hnz : nm.size ≤ 140737488355328 := by rw [← hnm]; show ks[j].toArray.size ≤ _; simpa using hkz
      rw [hnm] at hc
      rw [← hnk] at hdrop
      clear hnm hnk hkz
      have hlook := HD.out.map.look (s := nm) (by unfold maxLen; omega)
      have hfo := HD.out.fv nm.data.toList
      have hfv : (fvAt G nm.data.toList).val = .agg #[(fvAt G nm.data.toList).a.val, .bool (fvAt G nm.data.toList).ea, (fvAt G nm.data.toList).b.val, .bool (fvAt G nm.data.toList).eb] := rfl
      rw [hfv] at hlook
      have hc4 := HD.out.c4
      have hS := settle_any HD.out nm hnz (t := (fvAt G nm.data.toList).a) (ex := (fvAt G nm.data.toList).ea) (x := (Pm.fi (abs G) nm.data.toList).now) ⟨hfo.a, hfo.ea, hfo.ok.1⟩
        (fun p hp hne b hb => HD.out.fo_apart hp hne (.inl hb)) (by have h1 := HD.out.le; unfold Pm.Fi.weight; omega) (by rw [abs_length] at hLen; unfold maxLen; omega)
      have HS := Lib.hid hS
      have HFA := Lib.hid (HD.out.absThere.fi nm.data.toList).1
      clear hS hfo hfv
      generalize (fvAt G nm.data.toList).a.val = va at *
      generalize (fvAt G nm.data.toList).b.val = vb at *
      generalize (fvAt G nm.data.toList).ea = ea at *
      generalize (fvAt G nm.data.toList).eb = eb at *
      have ff := field_now
      go_wp2_with fail
      refine HS.out.mono ?_
      rintro e w5 ⟨rfl, us', hD5, hM5⟩
      have R1 := Lib.hid hD5
      have R2 : Hid (Pm.syncs (ks.drop (j + 1)) (abs (setG G nm.data.toList (⟨(fvAt G nm.data.toList).a, ea, (fvAt G nm.data.toList).a, ea⟩, ⟨(Pm.fi (abs G) nm.data.toList).now, (Pm.fi (abs G) nm.data.toList).now⟩))) = T) := Lib.hid (by
        rw [abs_setG, ← HT.out, hdrop]
        rfl)
      have R3 : Hid (Below B w w5) := Lib.hid (HB.out.trans (hM5.below hBw (fun k hk => by rcases hk with rfl | rfl; exact HD.out.gB; exact HD.out.mB)))
      have R4 : Hid (Lies w5 Bl (some ad) (strk ks)) := Lib.hid (HLi.out.moved_strk HD.out hM5 hBl)
      have R5 : Bl ≤ w5.heap.size := Nat.le_trans hBl hM5.size
      have R6 : B ≤ w5.heap.size := Nat.le_trans hBw hM5.size
      have R7 : (abs (setG G nm.data.toList (⟨(fvAt G nm.data.toList).a, ea, (fvAt G nm.data.toList).a, ea⟩, ⟨(Pm.fi (abs G) nm.data.toList).now, (Pm.fi (abs G) nm.data.toList).now⟩))).length ≤ 1000000 := by
        rw [abs_setG]
        exact Nat.le_trans (Pm.length_settle_le (s := (Pm.fi (abs G) nm.data.toList).now) (fun h => by unfold Pm.Fi.there; rw [h]; rfl)) hLen
      clear hD5 hM5 HD HT HB HLi HS hlook hc hdrop hc4
      go_wp2
      go_roundw
      case rel => exact ⟨j + 1, us', _, by omega, by go_num, R1, R2, R3, R4, R5, R6, R7⟩
      case measure => simp [intOf]; omega
    · obtain rfl : j = ks.length := by omega
      rw [List.drop_length] at HT
      have HE : Hid (abs G = T) := HT
      clear HT HLi
      go_wp2
      go_ret
      exact ⟨rfl, ⟨us, G, HD.out, HE.out⟩, HB.out⟩
end Go.Proofs.Ytokepandiigjlaa
