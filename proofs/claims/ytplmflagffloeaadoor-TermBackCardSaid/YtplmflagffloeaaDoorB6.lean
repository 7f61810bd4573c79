/- Pn, Pre, Psg, Psa, Pka: merged (a claim holds few files). -/
import Derived.Test.YtplmflagffloeaaDoorB5
import Derived.Maps.RangeWalk
/- Sync of one file by its name. -/
namespace Go.Proofs.YtplmflagffloeaaDoor
open Go.RowKit Go.Sort
open Pm (Key Fi St Files)
set_option linter.unusedVariables false

/-- Sync of one name, in a slice made for it -/
theorem sync_new {w : World} {B g m : Nat} {rm : Int} {L : Files} (h : Has w B g m rm false 0 L) (hB : B ≤ w.heap.size) (n : ByteArray) (hn : n.size ≤ 140737488355328) (hLen : L.length ≤ 1000000) :
    Calls Tryd.prog 23 #[.pointer (some ⟨g, 0, none⟩), .slice (some ⟨w.heap.size, 0, none⟩) 1 1] (w.alloc (.cells #[.string n] 9)) fun e w' => e = .returned (.int .i64 0) ∧ Has w' B g m rm false 0 (Pm.syncs [n.data.toList] L) ∧ Below B w w' := by
  have hz : n.data.toList.length = n.size := by simp
  refine (sync_ok (h.alloc (.cells #[.string n] 9)) (by simp; omega) (some ⟨w.heap.size, 0, none⟩) 1 [n.data.toList] (by simp) (by simp) (w.heap.size + 1) (by simp) (Lies.of_at (At.new w 9 #[.string n]) rfl (by omega)) (by simp [hz]; omega) hLen).mono ?_
  rintro e w' ⟨rfl, hh, hb⟩
  exact ⟨rfl, hh, ((Below.refl B w).alloc hB _).trans hb⟩
end Go.Proofs.YtplmflagffloeaaDoor

/- Remove of a disk that isn't lost nor armed, of files that are there: its walk. -/
namespace Pm
/-- a file that has been removed, and isn't synced -/
def gone (f : Fi) : Fi := ⟨St.no, f.sure⟩
theorem gone_ok {f : Fi} (h : f.ok) : (gone f).ok := ⟨fun _ => rfl, h.2⟩
theorem gone_weight (f : Fi) : (gone f).weight = f.sure.t.length := by unfold gone Fi.weight St.no; simp
theorem length_gone_le (L : Files) (k : Key) : (set L k (gone (fi L k))).length ≤ L.length := by
  refine length_set_le (fun h => ?_)
  unfold gone Fi.there St.no
  unfold Fi.there at h
  simp only [Bool.or_eq_false_iff] at h
  simp [h.2]
end Pm
namespace Go.Proofs.YtplmflagffloeaaDoor
open Go.RowKit Go.Sort
open Pm (Key Fi St Files)
set_option linter.unusedVariables false

end Go.Proofs.YtplmflagffloeaaDoor

/- Sync and Remove of a disk, armed or lost: their walks. -/
namespace Go.Proofs.YtplmflagffloeaaDoor
open Go.RowKit Go.Sort
open Pm (Key Fi St Files)
set_option linter.unusedVariables false

/-- what a call comes to that makes T of the files L, if Try lets it -/
def Ends (w : World) (B g m : Nat) (rm : Int) (lo : Bool) (lf : Int) (L T : Files) (e : Ending) (w' : World) : Prop :=
  Below B w w' ∧ ((∃ c, c ≠ 0 ∧ (tryR lo lf).2 = c ∧ e = .returned (.int .i64 c) ∧ Has w' B g m rm lo (tryR lo lf).1 L) ∨
    ((tryR lo lf).2 = 0 ∧ e = .returned (.int .i64 0) ∧ Has w' B g m rm lo (tryR lo lf).1 T))

set_option maxRecDepth 100000 in
set_option maxHeartbeats 1000000 in
theorem sync_gen {w : World} {B g m : Nat} {rm : Int} {lo : Bool} {lf : Int} {L : Files} (h : Has w B g m rm lo lf L) (hB : B ≤ w.heap.size) (A : Option Addr) (c : Nat) (ks : List Key) (hk1 : 1 ≤ ks.length) (hkm : ks.length ≤ 1000000) (Bl : Nat) (hBl : Bl ≤ w.heap.size) (hL : Lies w Bl A (strk ks)) (hks : ∀ k ∈ ks, k.length ≤ 140737488355328) (hLen : L.length ≤ 1000000) :
    Calls Tryd.prog 23 #[.pointer (some ⟨g, 0, none⟩), .slice A ks.length c] w (Ends w B g m rm lo lf L (Pm.syncs ks L)) := by
  obtain ⟨T, hT⟩ : ∃ T, Pm.syncs ks L = T := ⟨_, rfl⟩
  rw [hT]
  obtain ⟨us0, G9, hd9, hG9⟩ := h
  go_enter Tryd.func23, Tryd.ntmps23
  go_wp2_with fail
  refine (try_dsk hd9).mono ?_
  rintro e w1 ⟨rfl, hd0, hm1⟩
  obtain ⟨p, hp⟩ : ∃ p, tryR lo lf = p := ⟨_, rfl⟩
  rw [hp] at hd0 ⊢
  have HTR := Lib.hid hp; clear hp
  obtain ⟨lf1, cc⟩ := p
  simp only at hd0 ⊢
  have HB0 := Lib.hid (hm1.below hB (fun k hk => by rw [hk]; exact hd0.gB))
  by_cases hc : cc = 0
  · subst hc
    have HL0 : Hid (Lies w1 Bl A (strk ks)) := Lib.hid (hL.moved_strk hd9 (hm1.mono fun k hk => .inl hk) hBl)
    obtain ⟨G0, hG0'⟩ : ∃ G0, G9 = G0 := ⟨_, rfl⟩
    subst hG0'
    have HT0 : Hid (Pm.syncs (ks.drop 0) (abs G9) = T) := Lib.hid (by rw [List.drop_zero, hG9]; exact hT)
    have HD0 := Lib.hid hd0
    have hL0 : (abs G9).length ≤ 1000000 := by rw [hG9]; exact hLen
    have hBl0 : Bl ≤ w1.heap.size := Nat.le_trans hBl hm1.size
    have hB0 : B ≤ w1.heap.size := Nat.le_trans hB hm1.size
    clear hd0 hm1 hT hL hG9 hLen hB hBl hd9
    have hne : ((ks.length : Int) == 0) = false := beq_eq_false_iff_ne.2 (by omega)
    go_wp2
    go_loopw [26] (fun i wr => ∃ (j : Nat) (us : Int) (G : Held), j ≤ ks.length ∧ i = .int .i64 (j : Int) ∧ Hid (Dsk wr B g m rm us lo lf1 G) ∧ Hid (Pm.syncs (ks.drop j) (abs G) = T) ∧ Hid (Below B w wr) ∧ Hid (Lies wr Bl A (strk ks)) ∧ Bl ≤ wr.heap.size ∧ B ≤ wr.heap.size ∧ (abs G).length ≤ 1000000)
      (fun i _ => ks.length - (intOf i).toNat)
    case atStart => exact ⟨0, us0, G9, by omega, rfl, HD0, HT0, HB0, HL0, hBl0, hB0, hL0⟩
    case round =>
      clear HD0 HT0 HB0 HL0 hBl0 hB0 hL0
      obtain ⟨j, us, G, hj, rfl, HD, HT, HB, HLi, hBl, hBw, hLen⟩ := hrel
      by_cases hlt : j < ks.length
      · obtain ⟨ad, rfl, hadB, hc⟩ := HLi.out.str hlt
        have hkz := hks _ (List.getElem_mem hlt)
        have hdrop : ks.drop j = ks[j] :: ks.drop (j + 1) := List.drop_eq_getElem_cons hlt
        obtain ⟨nm, hnm⟩ : ∃ nm : ByteArray, (⟨ks[j].toArray⟩ : ByteArray) = nm := ⟨_, rfl⟩
        have hnk : nm.data.toList = ks[j] := by rw [← hnm]
        have hnz : nm.size ≤ 140737488355328 := by rw [← hnm]; show ks[j].toArray.size ≤ _; simpa using hkz
        rw [hnm] at hc
        rw [← hnk] at hdrop
        clear hnm hnk hkz
        have hlook := HD.out.map.look (s := nm) (by unfold maxLen; omega)
        have hfo := HD.out.fv nm.data.toList
        have hfv : (fvAt G nm.data.toList).val = .agg #[(fvAt G nm.data.toList).a.val, .bool (fvAt G nm.data.toList).ea, (fvAt G nm.data.toList).b.val, .bool (fvAt G nm.data.toList).eb] := rfl
        rw [hfv] at hlook
        have hc4 := HD.out.c4
        have hS := settle_any HD.out nm hnz (t := (fvAt G nm.data.toList).a) (ex := (fvAt G nm.data.toList).ea) (x := (Pm.fi (abs G) nm.data.toList).now) ⟨hfo.a, hfo.ea, hfo.ok.1⟩
          (fun p hp hne b hb => HD.out.fo_apart hp hne (.inl hb)) (by have h1 := HD.out.le; unfold Pm.Fi.weight; omega) (by rw [abs_length] at hLen; unfold maxLen; omega)
        have HS := Lib.hid hS
        have HFA := Lib.hid (HD.out.absThere.fi nm.data.toList).1
        clear hS hfo hfv
        generalize (fvAt G nm.data.toList).a.val = va at *
        generalize (fvAt G nm.data.toList).b.val = vb at *
        generalize (fvAt G nm.data.toList).ea = ea at *
        generalize (fvAt G nm.data.toList).eb = eb at *
        have ff := field_now
        go_wp2_with fail
        refine HS.out.mono ?_
        rintro e w5 ⟨rfl, us', hD5, hM5⟩
        have R1 := Lib.hid hD5
        have R2 : Hid (Pm.syncs (ks.drop (j + 1)) (abs (setG G nm.data.toList (⟨(fvAt G nm.data.toList).a, ea, (fvAt G nm.data.toList).a, ea⟩, ⟨(Pm.fi (abs G) nm.data.toList).now, (Pm.fi (abs G) nm.data.toList).now⟩))) = T) := Lib.hid (by
          rw [abs_setG, ← HT.out, hdrop]
          rfl)
        have R3 : Hid (Below B w w5) := Lib.hid (HB.out.trans (hM5.below hBw (fun k hk => by rcases hk with rfl | rfl; exact HD.out.gB; exact HD.out.mB)))
        have R4 : Hid (Lies w5 Bl (some ad) (strk ks)) := Lib.hid (HLi.out.moved_strk HD.out hM5 hBl)
        have R5 : Bl ≤ w5.heap.size := Nat.le_trans hBl hM5.size
        have R6 : B ≤ w5.heap.size := Nat.le_trans hBw hM5.size
        have R7 : (abs (setG G nm.data.toList (⟨(fvAt G nm.data.toList).a, ea, (fvAt G nm.data.toList).a, ea⟩, ⟨(Pm.fi (abs G) nm.data.toList).now, (Pm.fi (abs G) nm.data.toList).now⟩))).length ≤ 1000000 := by
          rw [abs_setG]
          exact Nat.le_trans (Pm.length_settle_le (s := (Pm.fi (abs G) nm.data.toList).now) (fun h => by unfold Pm.Fi.there; rw [h]; rfl)) hLen
        clear hD5 hM5 HD HT HB HLi HS hlook hc hdrop hc4
        go_wp2
        go_roundw
        case rel => exact ⟨j + 1, us', _, by omega, by go_num, R1, R2, R3, R4, R5, R6, R7⟩
        case measure => simp [intOf]; omega
      · obtain rfl : j = ks.length := by omega
        rw [List.drop_length] at HT
        have HE : Hid (abs G = T) := HT
        clear HT HLi
        go_wp2
        go_ret
        exact ⟨HB.out, .inr ⟨by rw [HTR.out], rfl, by rw [HTR.out]; exact ⟨us, G, HD.out, HE.out⟩⟩⟩
  · have HD0 := Lib.hid hd0
    clear hd0 hm1 hT hL hd9
    go_wp2
    go_ret
    exact ⟨HB0.out, .inl ⟨cc, hc, by rw [HTR.out], rfl, by rw [HTR.out]; exact ⟨us0, G9, HD0.out, hG9⟩⟩⟩

set_option maxRecDepth 100000 in
set_option maxHeartbeats 1000000 in
theorem syncall_gen {w : World} {B g m : Nat} {rm : Int} {lo : Bool} {lf : Int} {L : Files} (h : Has w B g m rm lo lf L) (hB : B ≤ w.heap.size) (hks0 : ∀ k ∈ Pm.keys L, k.length ≤ 140737488355328) (hLen : L.length ≤ 1000000) :
    Calls Tryd.prog 23 #[.pointer (some ⟨g, 0, none⟩), .slice none 0 0] w (Ends w B g m rm lo lf L (Pm.syncs (Pm.keys L) L)) := by
  obtain ⟨T, hT⟩ : ∃ T, Pm.syncs (Pm.keys L) L = T := ⟨_, rfl⟩
  rw [hT]
  have hsrt := h.sorted
  have htr := h.there
  obtain ⟨us0, G0, hd9, hG0⟩ := h
  go_enter Tryd.func23, Tryd.ntmps23
  go_wp2_with fail
  refine (try_dsk hd9).mono ?_
  rintro e w1 ⟨rfl, hd0, hm1⟩
  obtain ⟨p, hp⟩ : ∃ p, tryR lo lf = p := ⟨_, rfl⟩
  rw [hp] at hd0 ⊢
  have HTR := Lib.hid hp; clear hp
  obtain ⟨lf1, cc⟩ := p
  simp only at hd0 ⊢
  have hb1 := hm1.below hB (fun k hk => by rw [hk]; exact hd0.gB)
  have hB1 : B ≤ w1.heap.size := Nat.le_trans hB hm1.size
  have HB1 := Lib.hid hb1
  by_cases hc : cc = 0
  · subst hc
    have hL0 : (abs G0).length ≤ 1000000 := by rw [hG0]; exact hLen
    have hc4 := hd0.c4
    have HD := Lib.hid hd0
    clear hd0 hb1 hm1 hd9
    go_wp2_with fail
    refine (maps_keys (some m) w1).mono ?_
    rintro e w2 ⟨rfl, rfl⟩
    go_wp2_with fail
    refine (collect_call HD.out.map (by rw [abs_length] at hL0; exact hL0)).mono ?_
    rintro e w3 ⟨v, ks, rfl, hp, hrow, hb3⟩
    have hD3 := (HD.out.alloc (.cells #[.map (some m)] 57)).below (w' := w3) (by rw [show (w1.alloc (.cells #[.map (some m)] 57)).heap.size = w1.heap.size + 1 by simp]; exact hb3)
    have hb2 : Below B w w3 := (HB1.out.alloc hB1 _).trans (hb3.mono (by omega))
    have hs3 := hb3.size
    rw [show (w1.alloc (.cells #[.map (some m)] 57)).heap.size = w1.heap.size + 1 by simp] at hs3
    have hkk : G0.map (·.1) = Pm.keys L := by rw [← hG0]; unfold Pm.keys abs Pm.vmap; rw [List.map_map]; rfl
    rw [hkk] at hp
    have hks : ∀ k ∈ ks, k.length ≤ 140737488355328 := fun k hk => hks0 k (hp.mem_iff.1 hk)
    have hkm : ks.length ≤ 1000000 := by rw [hp.length_eq]; unfold Pm.keys; rw [List.length_map]; exact hLen
    have HT0 : Hid (Pm.syncs (ks.drop 0) (abs G0) = T) := Lib.hid (by rw [List.drop_zero, hG0, Pm.syncs_perm hp hsrt htr]; exact hT)
    obtain ⟨A, c, rfl, hLr, _, _⟩ := own_slice_p hrow
    obtain ⟨Bl, hBlz⟩ : ∃ Bl, w3.heap.size = Bl := ⟨_, rfl⟩
    have HL0 : Hid (Lies w3 Bl A (strk ks)) := Lib.hid (by rw [← hBlz]; exact hLr)
    have hBl0 : Bl ≤ w3.heap.size := by omega
    have hB0 : B ≤ w3.heap.size := by omega
    have HD0 := Lib.hid hD3
    have HB0 := Lib.hid hb2
    clear hD3 hb2 hrow hLr hp hb3 HD HB1 hc4 hT hkk hG0 hBlz hs3 hB1 hLen hks0 hB hsrt htr
    go_wp2
    go_loopw [26] (fun i wr => ∃ (j : Nat) (us : Int) (G : Held), j ≤ ks.length ∧ i = .int .i64 (j : Int) ∧ Hid (Dsk wr B g m rm us lo lf1 G) ∧ Hid (Pm.syncs (ks.drop j) (abs G) = T) ∧ Hid (Below B w wr) ∧ Hid (Lies wr Bl A (strk ks)) ∧ Bl ≤ wr.heap.size ∧ B ≤ wr.heap.size ∧ (abs G).length ≤ 1000000)
      (fun i _ => ks.length - (intOf i).toNat)
    case atStart => exact ⟨0, us0, G0, by omega, rfl, HD0, HT0, HB0, HL0, hBl0, hB0, hL0⟩
    case round =>
      clear HD0 HT0 HB0 HL0 hBl0 hB0 hL0
      obtain ⟨j, us, G, hj, rfl, HD, HT, HB, HLi, hBl, hBw, hLen⟩ := hrel
      by_cases hlt : j < ks.length
      · obtain ⟨ad, rfl, hadB, hc⟩ := HLi.out.str hlt
        have hkz := hks _ (List.getElem_mem hlt)
        have hdrop : ks.drop j = ks[j] :: ks.drop (j + 1) := List.drop_eq_getElem_cons hlt
        obtain ⟨nm, hnm⟩ : ∃ nm : ByteArray, (⟨ks[j].toArray⟩ : ByteArray) = nm := ⟨_, rfl⟩
        have hnk : nm.data.toList = ks[j] := by rw [← hnm]
        have hnz : nm.size ≤ 140737488355328 := by rw [← hnm]; show ks[j].toArray.size ≤ _; simpa using hkz
        rw [hnm] at hc
        rw [← hnk] at hdrop
        clear hnm hnk hkz
        have hlook := HD.out.map.look (s := nm) (by unfold maxLen; omega)
        have hfo := HD.out.fv nm.data.toList
        have hfv : (fvAt G nm.data.toList).val = .agg #[(fvAt G nm.data.toList).a.val, .bool (fvAt G nm.data.toList).ea, (fvAt G nm.data.toList).b.val, .bool (fvAt G nm.data.toList).eb] := rfl
        rw [hfv] at hlook
        have hc4 := HD.out.c4
        have hS := settle_any HD.out nm hnz (t := (fvAt G nm.data.toList).a) (ex := (fvAt G nm.data.toList).ea) (x := (Pm.fi (abs G) nm.data.toList).now) ⟨hfo.a, hfo.ea, hfo.ok.1⟩
          (fun p hp hne b hb => HD.out.fo_apart hp hne (.inl hb)) (by have h1 := HD.out.le; unfold Pm.Fi.weight; omega) (by rw [abs_length] at hLen; unfold maxLen; omega)
        have HS := Lib.hid hS
        have HFA := Lib.hid (HD.out.absThere.fi nm.data.toList).1
        clear hS hfo hfv
        generalize (fvAt G nm.data.toList).a.val = va at *
        generalize (fvAt G nm.data.toList).b.val = vb at *
        generalize (fvAt G nm.data.toList).ea = ea at *
        generalize (fvAt G nm.data.toList).eb = eb at *
        have ff := field_now
        go_wp2_with fail
        refine HS.out.mono ?_
        rintro e w5 ⟨rfl, us', hD5, hM5⟩
        have R1 := Lib.hid hD5
        have R2 : Hid (Pm.syncs (ks.drop (j + 1)) (abs (setG G nm.data.toList (⟨(fvAt G nm.data.toList).a, ea, (fvAt G nm.data.toList).a, ea⟩, ⟨(Pm.fi (abs G) nm.data.toList).now, (Pm.fi (abs G) nm.data.toList).now⟩))) = T) := Lib.hid (by
          rw [abs_setG, ← HT.out, hdrop]
          rfl)
        have R3 : Hid (Below B w w5) := Lib.hid (HB.out.trans (hM5.below hBw (fun k hk => by rcases hk with rfl | rfl; exact HD.out.gB; exact HD.out.mB)))
        have R4 : Hid (Lies w5 Bl (some ad) (strk ks)) := Lib.hid (HLi.out.moved_strk HD.out hM5 hBl)
        have R5 : Bl ≤ w5.heap.size := Nat.le_trans hBl hM5.size
        have R6 : B ≤ w5.heap.size := Nat.le_trans hBw hM5.size
        have R7 : (abs (setG G nm.data.toList (⟨(fvAt G nm.data.toList).a, ea, (fvAt G nm.data.toList).a, ea⟩, ⟨(Pm.fi (abs G) nm.data.toList).now, (Pm.fi (abs G) nm.data.toList).now⟩))).length ≤ 1000000 := by
          rw [abs_setG]
          exact Nat.le_trans (Pm.length_settle_le (s := (Pm.fi (abs G) nm.data.toList).now) (fun h => by unfold Pm.Fi.there; rw [h]; rfl)) hLen
        clear hD5 hM5 HD HT HB HLi HS hlook hc hdrop hc4
        go_wp2
        go_roundw
        case rel => exact ⟨j + 1, us', _, by omega, by go_num, R1, R2, R3, R4, R5, R6, R7⟩
        case measure => simp [intOf]; omega
      · obtain rfl : j = ks.length := by omega
        rw [List.drop_length] at HT
        have HE : Hid (abs G = T) := HT
        clear HT HLi
        go_wp2
        go_ret
        exact ⟨HB.out, .inr ⟨by rw [HTR.out], rfl, by rw [HTR.out]; exact ⟨us, G, HD.out, HE.out⟩⟩⟩
  · have HD0 := Lib.hid hd0
    clear hd0 hm1 hT hd9 hb1
    go_wp2
    go_ret
    exact ⟨HB1.out, .inl ⟨cc, hc, by rw [HTR.out], rfl, by rw [HTR.out]; exact ⟨us0, G0, HD0.out, hG0⟩⟩⟩
end Go.Proofs.YtplmflagffloeaaDoor

/- Safe of a disk: its walk. -/
namespace Go.Proofs.YtplmflagffloeaaDoor
open Go.RowKit Go.Sort Go.Maps
open Pm (Key Fi St Files)
set_option linter.unusedVariables false

theorem fileR_some {v : Value} {y : DataW Unit × List MemPlace} (h : fileR v = some y) : ∃ c : FV, v = c.val := by
  unfold fileR at h
  split at h
  · rename_i h1
    exact h1
  · cases h
theorem str_inv {key : Value} {kl : Lit} (h : keyOf Tryd.prog 9 key = some kl) : ∃ x : ByteArray, key = .string x := by
  cases key <;> simp [keyOf, Tryd.underlying9, mapKey] at h
  exact ⟨_, rfl⟩
theorem str_kl {x : ByteArray} {kl : Lit} (h : keyOf Tryd.prog 9 (.string x) = some kl) : kl = .string x.data.toList := by
  simp [keyOf, Tryd.underlying9, mapKey] at h
  exact h.2.symm

/-- are all files safe? -/
def safeAll (L : Files) : Bool := L.all fun p => p.2.safe

theorem fi_safe_of_not {G : Held} {k : Key} (h : Go.Maps.has (.map (dat G)) (.string k) = false) : (Pm.fi (abs G) k).safe = true := by
  have h1 : Pm.get k G = none := by
    rw [Pm.get_none]
    intro p hp e
    have : Go.Maps.has (.map (dat G)) (.string k) = true := by
      rw [Go.Maps.has_eq]
      refine List.any_eq_true.2 ⟨(.string p.1, p.2.1.code), List.mem_map.2 ⟨p, hp, rfl⟩, ?_⟩
      rw [e]
      simp [Lit.sameKey]
    rw [this] at h
    cases h
  unfold Pm.fi abs
  rw [Pm.get_vmap, h1]
  rfl
theorem all_safe_of {L : Files} (hs : Pm.Sorted L) (h : ∀ k, (Pm.fi L k).safe = true) : safeAll L = true := by
  unfold safeAll
  refine List.all_eq_true.2 fun p hp => ?_
  have h1 := h p.1
  unfold Pm.fi at h1
  rw [Pm.get_of_mem hs.ne (show (p.1, p.2) ∈ L from hp)] at h1
  exact h1
theorem all_safe_not {L : Files} {k : Key} (h : (Pm.fi L k).safe = false) : safeAll L = false := by
  unfold Pm.fi at h
  cases hg : Pm.get k L with
  | none => rw [hg] at h; cases h
  | some f =>
    rw [hg] at h
    have hm := Pm.get_mem hg
    unfold safeAll
    refine List.all_eq_false.2 ⟨_, hm, ?_⟩
    simpa using h

end Go.Proofs.YtplmflagffloeaaDoor

/- What no call on other files touches: the mathematics. The calls of a disk that is armed or not, on other files. -/
namespace Pm
/-- the file K is still s; there are at most n files, of short names -/
structure Keep (K : Key) (s : St) (n : Nat) (L : Files) : Prop where
  mine : fi L K = still s
  len : L.length ≤ n
  keys : ∀ k ∈ keys L, k.length ≤ 6

theorem keys_set {L : Files} {k : Key} {f : Fi} {j : Key} (h : j ∈ keys (set L k f)) : j = k ∨ j ∈ keys L := by
  unfold keys at *
  obtain ⟨p, hp, rfl⟩ := List.mem_map.1 h
  unfold set at hp
  split at hp
  · rcases mem_put.1 hp with rfl | ⟨hp, _⟩
    · exact .inl rfl
    · exact .inr (List.mem_map.2 ⟨p, hp, rfl⟩)
  · exact .inr (List.mem_map.2 ⟨p, (mem_del.1 hp).1, rfl⟩)

section
variable {K : Key} {s : St} {n : Nat} {L : Files}
theorem Keep.mono (h : Keep K s n L) {n' : Nat} (hn : n ≤ n') : Keep K s n' L := ⟨h.mine, Nat.le_trans h.len hn, h.keys⟩
theorem Keep.set (h : Keep K s n L) {k : Key} (hk : k ≠ K) (hl : k.length ≤ 6) (f : Fi) : Keep K s (n + 1) (set L k f) :=
  ⟨(fi_set_other L f hk.symm).trans h.mine, Nat.le_trans (length_set L k f) (by have := h.len; omega), fun j hj => by
    rcases keys_set hj with rfl | hj
    · exact hl
    · exact h.keys j hj⟩
theorem Keep.syncs : ∀ (ks : List Key) {L : Files}, Keep K s n L → (s.ex = false → s.t = []) → (∀ k ∈ ks, k.length ≤ 6) → Keep K s n (syncs ks L)
  | [], L, h, _, _ => h
  | k :: r, L, h, hs, hk => by
    unfold Pm.syncs
    refine Keep.syncs r ?_ hs (fun j hj => hk j (by simp [hj]))
    refine ⟨?_, Nat.le_trans (length_settle_le (fun he => ?_)) h.len, fun j hj => ?_⟩
    · by_cases e : K = k
      · subst e
        rw [h.mine]
        exact fi_settle_same L K hs
      · rw [fi_settle_other L _ e]
        exact h.mine
    · unfold Fi.there
      rw [he]
      rfl
    · rcases keys_set hj with rfl | hj
      · exact hk j (by simp)
      · exact h.keys j hj
theorem Keep.removes : ∀ (ks : List Key) {L : Files}, Keep K s n L → (∀ k ∈ ks, k ≠ K ∧ k.length ≤ 6) → Keep K s n (removes ks L)
  | [], L, h, _ => h
  | k :: r, L, h, hk => by
    unfold Pm.removes
    refine Keep.removes r ?_ (fun j hj => hk j (by simp [hj]))
    refine ⟨?_, Nat.le_trans (length_gone_le L k) h.len, fun j hj => ?_⟩
    · exact (fi_set_other L _ (hk k (by simp)).1.symm).trans h.mine
    · rcases keys_set hj with rfl | hj
      · exact (hk j (by simp)).2
      · exact h.keys j hj
theorem fi_crashes_safe (c : Int → Int → Int) : ∀ (ks : List Key) (i : Nat) {L : Files} (k : Key), (fi L k).safe = true → fi (crashes c ks i L) k = fi L k
  | [], i, L, k, h => rfl
  | a :: r, i, L, k, h => by
    unfold crashes
    by_cases hs : (fi L a).safe = true
    · rw [if_pos hs]
      exact fi_crashes_safe c r i k h
    · rw [if_neg hs]
      have e : k ≠ a := fun e => hs (e ▸ h)
      have h2 := fi_settle_other L (left (fi L a) (c i)) e
      rw [fi_crashes_safe c r (i + 1) k (by rw [h2]; exact h), h2]
theorem still_safe (s : St) : (still s).safe = true := by simp [still, Fi.safe]
theorem crashes_safe (c : Int → Int → Int) : ∀ (ks : List Key) (i : Nat) {L : Files}, AllThere L → ∀ k, k ∈ ks ∨ (fi L k).safe = true → (fi (crashes c ks i L) k).safe = true
  | [], i, L, _, k, h => by
    rcases h with h | h
    · cases h
    · exact h
  | a :: r, i, L, ha, k, h => by
    unfold crashes
    by_cases hs : (fi L a).safe = true
    · rw [if_pos hs]
      refine crashes_safe c r i ha k ?_
      rcases h with h | h
      · rcases List.mem_cons.1 h with rfl | h
        · exact .inr hs
        · exact .inl h
      · exact .inr h
    · rw [if_neg hs]
      have hl := left_ok (ha.fi a) (c i)
      refine crashes_safe c r (i + 1) (settle_there ha a hl) k ?_
      by_cases e : k = a
      · subst e
        rw [fi_settle_same L k hl]
        exact .inr (still_safe _)
      · rw [fi_settle_other L _ e]
        rcases h with h | h
        · rcases List.mem_cons.1 h with h | h
          · exact absurd h e
          · exact .inl h
        · exact .inr h
theorem fi_not_key {L : Files} {k : Key} (h : k ∉ keys L) : fi L k = Fi.no := by
  unfold fi
  rw [get_none.2 (fun p hp e => h (List.mem_map.2 ⟨p, hp, e⟩))]
  rfl
theorem crashes_all (c : Int → Int → Int) {L : Files} (h : AllThere L) (k : Key) : (fi (crashes c (keys L) 0 L) k).safe = true := by
  refine crashes_safe c _ 0 h k ?_
  by_cases hk : k ∈ keys L
  · exact .inl hk
  · right
    rw [fi_not_key hk]
    rfl
end
end Pm
namespace Go.Proofs.YtplmflagffloeaaDoor
open Go.RowKit Go.Sort
open Pm (Key Fi St Files)
set_option linter.unusedVariables false

/-- a call has ended with some error or none, and the file K is what it was -/
def Stays (w : World) (B g m : Nat) (rm : Int) (K : Key) (s : St) (n : Nat) (e : Ending) (w' : World) : Prop :=
  ∃ c lf' L', e = .returned (.int .i64 c) ∧ Has w' B g m rm false lf' L' ∧ Pm.Keep K s n L' ∧ Below B w w'

theorem change_stays {w : World} {B g m : Nat} {rm lf : Int} {L : Files} {K : Key} {st : St} {k : Nat} (h : Has w B g m rm false lf L) (hK : Pm.Keep K st k L) (hB : B ≤ w.heap.size) (n : ByteArray) (hn : n.size ≤ 6) (hne : n.data.toList ≠ K) (hk : k ≤ 1000000) (hrm : rm ≤ 1000000) (keep : Nat) (hkp : keep = 0 ∨ keep = (Pm.fi L n.data.toList).now.t.length)
    (s : ByteArray) (hs : s.size ≤ 1000000) :
    Calls Tryd.prog 40 #[.pointer (some ⟨g, 0, none⟩), .string n, .int .i64 (keep : Int), .string s] w (Stays w B g m rm K st (k + 1)) := by
  obtain ⟨us, G, hd, rfl⟩ := h
  have h1 := hd.le
  have h2 := hK.len
  refine (change_any hd hB n (by omega) keep hkp s (by omega) (by rw [abs_length] at h2; unfold maxLen; omega)).mono ?_
  rintro e w' ⟨hm, h1 | h1 | h1 | h1⟩
  · obtain ⟨c, _, _, he, hd'⟩ := h1
    exact ⟨_, _, _, he, ⟨us, G, hd', rfl⟩, hK.mono (by omega), hm.below hB hd.footB⟩
  · obtain ⟨_, _, he, hd'⟩ := h1
    exact ⟨_, _, _, he, ⟨us, G, hd', rfl⟩, hK.mono (by omega), hm.below hB hd.footB⟩
  · obtain ⟨_, _, _, he, hd'⟩ := h1
    exact ⟨_, _, _, he, ⟨us, G, hd', rfl⟩, hK.mono (by omega), hm.below hB hd.footB⟩
  · obtain ⟨_, _, _, he, us', G', hd', ha, _⟩ := h1
    exact ⟨_, _, _, he, ⟨us', G', hd', ha⟩, hK.set hne (by simpa using hn) _, hm.below hB hd.footB⟩

end Go.Proofs.YtplmflagffloeaaDoor
