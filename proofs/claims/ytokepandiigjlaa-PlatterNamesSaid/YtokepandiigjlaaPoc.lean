/- A crash of a disk of which every file is safe; Append: what they leave of other blocks. -/
import Derived.Test.YtokepandiigjlaaPow
namespace Go.Proofs.Ytokepandiigjlaa
open Go.RowKit Go.Sort
open Pm (Key Fi St Files)
set_option linter.unusedVariables false

set_option maxRecDepth 100000 in
set_option maxHeartbeats 2000000 in
theorem crash_safe {w : World} {B g m : Nat} {rm us : Int} {lo : Bool} {lf : Int} {G : Held} (h : Dsk w B g m rm us lo lf G) (hks0 : ∀ k ∈ Pm.keys (abs G), k.length ≤ 140737488355328) (hLen : (abs G).length ≤ 1000000) (hsafe : ∀ k, (Pm.fi (abs G) k).safe = true) (A : Option Addr) (n c : Nat) :
    Calls Try.prog 30 #[.pointer (some ⟨g, 0, none⟩), .slice A n c] w fun e w' => e = .returned (.tuple #[]) ∧ Below w.heap.size w w' := by
  have HSA := Lib.hid hsafe; clear hsafe
  obtain ⟨ks, hks⟩ : ∃ ks, Pm.keys (abs G) = ks := ⟨_, rfl⟩
  rw [hks] at hks0
  have hkk : G.map (·.1) = ks := by rw [← hks]; unfold Pm.keys abs Pm.vmap; rw [List.map_map]; rfl
  have hc4 := h.c4
  have hkl : ks.length = G.length := by rw [← hkk, List.length_map]
  have hL0 : G.length ≤ 1000000 := by rw [← abs_length]; exact hLen
  have HD := Lib.hid h
  go_enter Try.func30, Try.ntmps30
  go_wp2_with fail
  refine (maps_keys (some m) w).mono ?_
  rintro e w2 ⟨rfl, rfl⟩
  go_wp2_with fail
  refine (sorted_call HD.out.map HD.out.sorted hL0).mono ?_
  rintro e w3 ⟨v, rfl, hrow, hb3⟩
  have hz : (w.alloc (.cells #[.map (some m)] 43)).heap.size = w.heap.size + 1 := by simp
  have hb2 : Below w.heap.size w w3 := ((Below.refl w.heap.size w).alloc (Nat.le_refl _) _).trans (hb3.mono (by omega))
  have hs3 := hb3.size
  rw [hz] at hs3
  rw [hkk, ← hkl] at hrow
  obtain ⟨Ak, ck, rfl, hLr, _, _⟩ := own_slice_p hrow
  obtain ⟨Bk, hBkz⟩ : ∃ Bk, w3.heap.size = Bk := ⟨_, rfl⟩
  have HK0 : Hid (Lies w3 Bk Ak (strk ks)) := Lib.hid (by rw [← hBkz]; exact hLr)
  have hBk0 : Bk ≤ w3.heap.size := by omega
  have HB0 := Lib.hid hb2
  have hkm : ks.length ≤ 1000000 := by omega
  clear hb2 hrow hLr hb3 hc4 hkk hBkz hs3 hLen hz h hks hkl
  go_wp2
  go_loopw [4, 15] (fun a i wr => ∃ (j : Nat), j ≤ ks.length ∧ a = .int .i64 0 ∧ i = .int .i64 (j : Int) ∧ Hid (Below w.heap.size w wr) ∧ Hid (Lies wr Bk Ak (strk ks)) ∧ Bk ≤ wr.heap.size)
    (fun _ i _ => ks.length - (intOf i).toNat)
  case atStart => exact ⟨0, by omega, rfl, rfl, HB0, HK0, hBk0⟩
  case round =>
    clear HB0 HK0 hBk0
    obtain ⟨j, hj, rfl, rfl, HB, HK, hBk⟩ := hrel
    by_cases hlt : j < ks.length
    · have HDW := Lib.hid (HD.out.below HB.out)
      obtain ⟨ad, rfl, hadB, hc⟩ := HK.out.str hlt
      have hkz := hks0 _ (List.getElem_mem hlt)
      have hdrop : ks.drop j = ks[j] :: ks.drop (j + 1) := List.drop_eq_getElem_cons hlt
      obtain ⟨nm, hnm⟩ : ∃ nm : ByteArray, (⟨ks[j].toArray⟩ : ByteArray) = nm := ⟨_, rfl⟩
      have hnk : nm.data.toList = ks[j] := by rw [← hnm]
      have hnz : nm.size ≤ 140737488355328 := by rw [← hnm]; show ks[j].toArray.size ≤ _; simpa using hkz
      rw [hnm] at hc
      rw [← hnk] at hdrop
      have HDR := Lib.hid hdrop
      clear hnm hnk hkz hdrop
      have hlook := HDW.out.map.look (s := nm) (by unfold maxLen; omega)
      have hfo := HDW.out.fv nm.data.toList
      have hfv : (fvAt G nm.data.toList).val = .agg #[.slice ((fvAt G nm.data.toList).a.g.map fun g => ⟨g, 0, none⟩) (fvAt G nm.data.toList).a.n (fvAt G nm.data.toList).a.c, .bool (fvAt G nm.data.toList).ea, .slice ((fvAt G nm.data.toList).b.g.map fun g => ⟨g, 0, none⟩) (fvAt G nm.data.toList).b.n (fvAt G nm.data.toList).b.c, .bool (fvAt G nm.data.toList).eb] := rfl
      rw [hfv] at hlook
      have hc4 := HDW.out.c4
      have HFO := Lib.hid hfo
      have HSAFE : Hid (∀ W, FileIs W B (fvAt G nm.data.toList) (Pm.fi (abs G) nm.data.toList) → Calls Try.prog 41 #[.agg #[.slice ((fvAt G nm.data.toList).a.g.map fun g => ⟨g, 0, none⟩) (fvAt G nm.data.toList).a.n (fvAt G nm.data.toList).a.c, .bool (fvAt G nm.data.toList).ea, .slice ((fvAt G nm.data.toList).b.g.map fun g => ⟨g, 0, none⟩) (fvAt G nm.data.toList).b.n (fvAt G nm.data.toList).b.c, .bool (fvAt G nm.data.toList).eb]] W fun e w' => e = .returned (.bool (Pm.fi (abs G) nm.data.toList).safe) ∧ ∃ o, w' = W.alloc o) :=
        Lib.hid (fun W hW => (safe_any hW).mono fun _ _ ⟨he, hw⟩ => ⟨he, _, hw⟩)
      clear hfo hfv
      generalize ((fvAt G nm.data.toList).a.g.map fun g => (⟨g, 0, none⟩ : Addr)) = Aa at *
      generalize ((fvAt G nm.data.toList).b.g.map fun g => (⟨g, 0, none⟩ : Addr)) = Ab at *
      generalize (fvAt G nm.data.toList).a.n = na at *
      generalize (fvAt G nm.data.toList).a.c = ca at *
      generalize (fvAt G nm.data.toList).b.n = nb at *
      generalize (fvAt G nm.data.toList).b.c = cb at *
      generalize (fvAt G nm.data.toList).ea = ea at *
      generalize (fvAt G nm.data.toList).eb = eb at *
      go_wp2_with fail
      have hb4 : Below wr.heap.size wr (wr.alloc (.cells #[.slice Aa na ca, .bool ea, .slice Ab nb cb, .bool eb] 86)) := (Below.refl _ wr).alloc (Nat.le_refl _) _
      have hbx : At (wr.alloc (.cells #[.slice Aa na ca, .bool ea, .slice Ab nb cb, .bool eb] 86)) wr.heap.size 86 #[.slice Aa na ca, .bool ea, .slice Ab nb cb, .bool eb] := At.new _ _ _
      have hD4 := HDW.out.below hb4
      have hF4 : FileIs (wr.alloc (.cells #[.slice Aa na ca, .bool ea, .slice Ab nb cb, .bool eb] 86)) B (fvAt G nm.data.toList) (Pm.fi (abs G) nm.data.toList) := hD4.fv nm.data.toList
      have hs4 := hb4.size
      generalize wr.alloc (.cells #[.slice Aa na ca, .bool ea, .slice Ab nb cb, .bool eb] 86) = w4 at *
      refine (HSAFE.out w4 hF4).mono ?_
      rintro e w5 ⟨rfl, o, rfl⟩
      rw [HSA.out]
      have R3 : Hid (Below w.heap.size w (w4.alloc o)) := Lib.hid (HB.out.trans ((hb4.alloc hs4 o).mono HB.out.size))
      have R4 : Hid (Lies (w4.alloc o) Bk (some ad) (strk ks)) := Lib.hid (HK.out.below ((hb4.alloc hs4 o).mono hBk))
      have R5 : Bk ≤ (w4.alloc o).heap.size := by simp; omega
      clear hD4 hF4 hb4 hlook hc hc4 HSAFE HFO HB HK HDW HDR hbx
      generalize w4.alloc o = w5 at *
      go_wp2
      go_roundw
      case rel => exact ⟨j + 1, by omega, rfl, by go_num, R3, R4, R5⟩
      case measure => simp [intOf]; omega
    · obtain rfl : j = ks.length := by omega
      go_wp2
      go_end0
      exact ⟨rfl, HB.out⟩

/-- Append: what is written lies in new blocks, or in the disk's own -/
theorem append_own {w : World} {B g m : Nat} {rm us : Int} {G : Held} (h : Dsk w B g m rm us false 0 G) (hB : B ≤ w.heap.size) (n s : ByteArray) (hn : n.size ≤ 140737488355328) (hne : n.data.toList ≠ [])
    (hs : us + s.size ≤ 140737488355328) (hL : (abs G).length ≤ 1000000) (hfit : ((Pm.fi (abs G) n.data.toList).now.t.length : Int) + s.size - ((Pm.fi (abs G) n.data.toList).weight : Nat) ≤ rm - us) :
    Calls Try.prog 28 #[.pointer (some ⟨g, 0, none⟩), .string n, .string s] w fun e w' => e = .returned (.int .i64 0) ∧
      ∃ us' G', Dsk w' B g m rm us' false 0 G' ∧ abs G' = Pm.set (abs G) n.data.toList ⟨⟨true, (Pm.fi (abs G) n.data.toList).now.t ++ s.data.toList⟩, (Pm.fi (abs G) n.data.toList).sure⟩ ∧ Moved w w' (Foot g m G) ∧ ∀ b, Foot g m G' b → Foot g m G b ∨ w.heap.size ≤ b := by
  have hsl : s.data.toList.length = s.size := by simp
  have hc : Calls Try.prog 45 #[.pointer (some ⟨g, 0, none⟩), .string n, .int .i64 ((Pm.fi (abs G) n.data.toList).now.t.length : Int), .string s] w fun e w' => e = .returned (.int .i64 0) ∧
      ∃ us' G', Dsk w' B g m rm us' false 0 G' ∧ abs G' = Pm.set (abs G) n.data.toList ⟨⟨true, (Pm.fi (abs G) n.data.toList).now.t ++ s.data.toList⟩, (Pm.fi (abs G) n.data.toList).sure⟩ ∧ Moved w w' (Foot g m G) ∧ ∀ b, Foot g m G' b → Foot g m G b ∨ w.heap.size ≤ b := by
    refine (change_any h hB n hn _ (.inr rfl) s hs (by unfold maxLen; rw [abs_length] at hL; omega)).mono ?_
    rintro e w' ⟨hm, h1 | h1 | h1 | h1⟩
    · obtain ⟨c, hc, h2, _⟩ := h1
      exact absurd h2.symm hc
    · exact absurd h1.2.1 hne
    · obtain ⟨_, _, h2, _⟩ := h1
      rw [hsl] at h2
      omega
    · obtain ⟨_, _, _, rfl, us', G', hd', he, hf⟩ := h1
      rw [wrote_append] at he
      exact ⟨rfl, us', G', hd', he, hm, hf⟩
  have hnm : n.size ≤ maxLen := by unfold maxLen; omega
  have hlook := h.map.look (s := n) hnm
  have hfo := h.fv n.data.toList
  have hlen := hfo.a.1
  have hc4 := h.c4
  have HC := Lib.hid hc
  clear hc hfo
  have hfv : (fvAt G n.data.toList).val = .agg #[.slice ((fvAt G n.data.toList).a.g.map fun g => ⟨g, 0, none⟩) (fvAt G n.data.toList).a.n (fvAt G n.data.toList).a.c, .bool (fvAt G n.data.toList).ea, .slice ((fvAt G n.data.toList).b.g.map fun g => ⟨g, 0, none⟩) (fvAt G n.data.toList).b.n (fvAt G n.data.toList).b.c, .bool (fvAt G n.data.toList).eb] := rfl
  rw [hfv, hlen] at hlook
  clear hfv hlen h
  generalize (fvAt G n.data.toList).a.c = ca at *
  have ff := field_now
  have ft := field_text
  go_enter Try.func28, Try.ntmps28
  go_wp2_with fail
  refine HC.out.mono ?_
  rintro e w1 ⟨rfl, hH⟩
  have HH := Lib.hid hH
  clear hH HC
  go_wp2
  go_ret
  exact ⟨rfl, HH.out⟩
end Go.Proofs.Ytokepandiigjlaa
