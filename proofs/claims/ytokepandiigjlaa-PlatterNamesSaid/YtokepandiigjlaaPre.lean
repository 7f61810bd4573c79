/- Remove of a disk that isn't lost nor armed, of files that are there: its walk. -/
import Derived.Test.YtokepandiigjlaaPn
namespace Pm
/-- a file that has been removed, and isn't synced -/
def gone (f : Fi) : Fi := ⟨St.no, f.sure⟩
theorem gone_ok {f : Fi} (h : f.ok) : (gone f).ok := ⟨fun _ => rfl, h.2⟩
theorem gone_weight (f : Fi) : (gone f).weight = f.sure.t.length := by unfold gone Fi.weight St.no; simp
theorem length_gone_le (L : Files) (k : Key) : (set L k (gone (fi L k))).length ≤ L.length := by
  refine length_set_le (fun h => ?_)
  unfold gone Fi.there St.no
  unfold Fi.there at h
  simp only [Bool.or_eq_false_iff] at h
  simp [h.2]
end Pm
namespace Go.Proofs.Ytokepandiigjlaa
open Go.RowKit Go.Sort
open Pm (Key Fi St Files)
set_option linter.unusedVariables false

set_option maxRecDepth 100000 in
set_option maxHeartbeats 1000000 in
theorem remove_ok {w : World} {B g m : Nat} {rm : Int} {L : Files} (h : Has w B g m rm false 0 L) (hB : B ≤ w.heap.size) (A : Option Addr) (c : Nat) (ks : List Key) (n : Nat) (hn : ks.length = n) (hkm : ks.length ≤ 1000000) (Bl : Nat) (hBl : Bl ≤ w.heap.size) (hL : Lies w Bl A (strk ks)) (hks : ∀ k ∈ ks, k.length ≤ 140737488355328) (hex : ∀ k ∈ ks, (Pm.fi L k).now.ex = true) (hLen : L.length ≤ 1000000) :
    Calls Try.prog 29 #[.pointer (some ⟨g, 0, none⟩), .slice A n c] w fun e w' => e = .returned (.int .i64 0) ∧ Has w' B g m rm false 0 (Pm.removes ks L) ∧ Below B w w' := by
  subst hn
  obtain ⟨T, hT⟩ : ∃ T, Pm.removes ks L = T := ⟨_, rfl⟩
  rw [hT]
  go_enter Try.func29, Try.ntmps29
  go_wp2_with fail
  refine (has_try h).mono ?_
  rintro e w1 ⟨rfl, hh1, hm1⟩
  obtain ⟨us0, G0, hd0, hG0⟩ := hh1
  have HB0 := Lib.hid (hm1.below hB (fun k hk => by rw [hk]; exact hd0.gB))
  have HL0 : Hid (Lies w1 Bl A (strk ks)) := Lib.hid (by
    obtain ⟨us9, G9, hd9, _⟩ := h
    exact hL.moved_strk hd9 (hm1.mono fun k hk => .inl hk) hBl)
  have HT0 : Hid (Pm.removes (ks.drop 0) (abs G0) = T) := Lib.hid (by rw [List.drop_zero, hG0]; exact hT)
  have HEX : Hid (∀ k ∈ ks, (Pm.fi (abs G0) k).now.ex = true) := Lib.hid (by rw [hG0]; exact hex)
  have HD0 := Lib.hid hd0
  have hL0 : (abs G0).length ≤ 1000000 := by rw [hG0]; exact hLen
  have hBl0 : Bl ≤ w1.heap.size := Nat.le_trans hBl hm1.size
  have hB0 : B ≤ w1.heap.size := Nat.le_trans hB hm1.size
  clear hd0 hm1 hT h hL hG0 hLen hB hBl hex
  go_wp2
  go_loopw [19] (fun i wr => ∃ (j : Nat), j ≤ ks.length ∧ i = .int .i64 (j : Int) ∧ w1 = wr)
    (fun i _ => ks.length - (intOf i).toNat)
  case atStart => exact ⟨0, by omega, rfl, by simp⟩
  case round =>
    obtain ⟨j, hj, rfl, rfl⟩ := hrel
    by_cases hlt : j < ks.length
    · have HLi := HL0
      have HD := HD0
      generalize hG : G0 = G at *
      obtain ⟨ad, rfl, hadB, hc⟩ := HLi.out.str hlt
      have hkz := hks _ (List.getElem_mem hlt)
      have hdrop : ks.drop j = ks[j] :: ks.drop (j + 1) := List.drop_eq_getElem_cons hlt
      obtain ⟨nm, hnm⟩ : ∃ nm : ByteArray, (⟨ks[j].toArray⟩ : ByteArray) = nm := ⟨_, rfl⟩
      have hnk : nm.data.toList = ks[j] := by rw [← hnm]
      have hnz : nm.size ≤ 140737488355328 := by rw [← hnm]; show ks[j].toArray.size ≤ _; simpa using hkz
      rw [hnm] at hc
      rw [← hnk] at hdrop
      have hall := HEX.out _ (List.getElem_mem hlt)
      rw [← hnk] at hall
      have HDR := Lib.hid hdrop
      clear hnm hnk hkz hdrop
      have hlook := HD.out.map.look (s := nm) (by unfold maxLen; omega)
      have hfo := HD.out.fv nm.data.toList
      have hfv : (fvAt G nm.data.toList).val = .agg #[(fvAt G nm.data.toList).a.val, .bool (fvAt G nm.data.toList).ea, (fvAt G nm.data.toList).b.val, .bool (fvAt G nm.data.toList).eb] := rfl
      rw [hfv] at hlook
      have hc4 := HD.out.c4
      have hea := hfo.ea
      rw [hall] at hea
      rw [hea] at hlook
      clear hfo hfv hea hall
      generalize (fvAt G nm.data.toList).a.val = va at *
      generalize (fvAt G nm.data.toList).b.val = vb at *
      generalize (fvAt G nm.data.toList).eb = eb at *
      have ff := field_now
      have fx := field_ex
      go_wp2
      go_roundw
      case rel => exact ⟨j + 1, by omega, by go_num, by simp⟩
      case measure => simp [intOf]; omega
    · obtain rfl : j = ks.length := by omega
      clear HEX
      go_wp2
      go_loopw [35] (fun i wr => ∃ (j : Nat) (us : Int) (G : Held), j ≤ ks.length ∧ i = .int .i64 (j : Int) ∧ Hid (Dsk wr B g m rm us false 0 G) ∧ Hid (Pm.removes (ks.drop j) (abs G) = T) ∧ Hid (Below B w wr) ∧ Hid (Lies wr Bl A (strk ks)) ∧ Bl ≤ wr.heap.size ∧ B ≤ wr.heap.size ∧ (abs G).length ≤ 1000000)
        (fun i _ => ks.length - (intOf i).toNat)
      case atStart => exact ⟨0, us0, G0, by omega, rfl, HD0, HT0, HB0, HL0, hBl0, hB0, hL0⟩
      case round =>
        clear HD0 HT0 HB0 HL0 hBl0 hB0 hL0
        obtain ⟨j, us, G, hj, rfl, HD, HT, HB, HLi, hBl, hBw, hLen⟩ := hrel
        by_cases hlt : j < ks.length
        · obtain ⟨ad, rfl, hadB, hc⟩ := HLi.out.str hlt
          have hkz := hks _ (List.getElem_mem hlt)
          have hdrop : ks.drop j = ks[j] :: ks.drop (j + 1) := List.drop_eq_getElem_cons hlt
          obtain ⟨nm, hnm⟩ : ∃ nm : ByteArray, (⟨ks[j].toArray⟩ : ByteArray) = nm := ⟨_, rfl⟩
          have hnk : nm.data.toList = ks[j] := by rw [← hnm]
          have hnz : nm.size ≤ 140737488355328 := by rw [← hnm]; show ks[j].toArray.size ≤ _; simpa using hkz
          rw [hnm] at hc
          rw [← hnk] at hdrop
          have HDR := Lib.hid hdrop
          clear hnm hnk hkz hdrop
          have hlook := HD.out.map.look (s := nm) (by unfold maxLen; omega)
          have hfo := HD.out.fv nm.data.toList
          have hfv : (fvAt G nm.data.toList).val = .agg #[(fvAt G nm.data.toList).a.val, .bool (fvAt G nm.data.toList).ea, (fvAt G nm.data.toList).b.val, .bool (fvAt G nm.data.toList).eb] := rfl
          rw [hfv] at hlook
          have hc4 := HD.out.c4
          have hnew : FileIs wr B ⟨Tx.no, false, (fvAt G nm.data.toList).b, (fvAt G nm.data.toList).eb⟩ (Pm.gone (Pm.fi (abs G) nm.data.toList)) :=
            ⟨TxIs.no wr B, hfo.b, rfl, hfo.eb, Pm.gone_ok hfo.ok, fun _ h => absurd rfl h⟩
          have hS := put_any HD.out nm hnz hnew (fun p hp hne b hb => HD.out.fo_apart hp hne (by rcases hb with hb | hb; cases hb; exact .inr hb))
            (by have h1 := HD.out.le; rw [Pm.gone_weight]; unfold Pm.Fi.weight; omega) (by rw [abs_length] at hLen; unfold maxLen; omega)
          have hval : (FV.mk Tx.no false (fvAt G nm.data.toList).b (fvAt G nm.data.toList).eb).val = .agg #[.slice none 0 0, .bool false, (fvAt G nm.data.toList).b.val, .bool (fvAt G nm.data.toList).eb] := rfl
          rw [hval] at hS
          have HS := Lib.hid hS
          clear hS hfo hfv hnew hval
          generalize (fvAt G nm.data.toList).a.val = va at *
          generalize (fvAt G nm.data.toList).ea = ea at *
          obtain ⟨nb, cb, Ab, hvb⟩ : ∃ nb cb Ab, (fvAt G nm.data.toList).b.val = .slice Ab nb cb := ⟨_, _, _, rfl⟩
          rw [hvb] at hlook HS
          clear hvb
          have ff := field_sure
          go_wp2_with fail
          refine HS.out.mono ?_
          rintro e w5 ⟨rfl, us', hD5, hM5⟩
          have R1 := Lib.hid hD5
          have R2 : Hid (Pm.removes (ks.drop (j + 1)) (abs (setG G nm.data.toList (⟨Tx.no, false, (fvAt G nm.data.toList).b, (fvAt G nm.data.toList).eb⟩, Pm.gone (Pm.fi (abs G) nm.data.toList)))) = T) := Lib.hid (by
            rw [abs_setG, ← HT.out, HDR.out]
            rfl)
          have R3 : Hid (Below B w w5) := Lib.hid (HB.out.trans (hM5.below hBw (fun k hk => by rcases hk with rfl | rfl; exact HD.out.gB; exact HD.out.mB)))
          have R4 : Hid (Lies w5 Bl (some ad) (strk ks)) := Lib.hid (HLi.out.moved_strk HD.out hM5 hBl)
          have R5 : Bl ≤ w5.heap.size := Nat.le_trans hBl hM5.size
          have R6 : B ≤ w5.heap.size := Nat.le_trans hBw hM5.size
          have R7 : (abs (setG G nm.data.toList (⟨Tx.no, false, (fvAt G nm.data.toList).b, (fvAt G nm.data.toList).eb⟩, Pm.gone (Pm.fi (abs G) nm.data.toList)))).length ≤ 1000000 := by
            rw [abs_setG]
            exact Nat.le_trans (Pm.length_gone_le (abs G) nm.data.toList) hLen
          clear hD5 hM5 HD HT HB HLi HS hlook hc HDR hc4
          go_wp2
          go_roundw
          case rel => exact ⟨j + 1, us', _, by omega, by go_num, R1, R2, R3, R4, R5, R6, R7⟩
          case measure => simp [intOf]; omega
        · obtain rfl : j = ks.length := by omega
          rw [List.drop_length] at HT
          have HE : Hid (abs G = T) := HT
          clear HT HLi
          go_wp2
          go_ret
          exact ⟨rfl, ⟨us, G, HD.out, HE.out⟩, HB.out⟩
end Go.Proofs.Ytokepandiigjlaa
