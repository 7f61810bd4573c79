/- Crash of a disk: its walk. -/
import Derived.Test.YtokepandiigjlaaP9
namespace Go.Proofs.Ytokepandiigjlaa
open Go.RowKit Go.Sort
open Pm (Key Fi St Files)
set_option linter.unusedVariables false

/-- numbers that came in lie in no block of a disk's own: below B -/
theorem Lies.moved_low {w w' : World} {Bl B g m : Nat} {rm us : Int} {lo : Bool} {lf : Int} {G : Held} {A : Option Addr} {xs : List Value} (h : Lies w Bl A xs) (hd : Dsk w B g m rm us lo lf G) (hm : Moved w w' fun b => b = g ∨ b = m) (hBl : Bl ≤ B) (hB : B ≤ w.heap.size) : Lies w' Bl A xs :=
  h.below ((hm.below hB (fun k hk => by rcases hk with rfl | rfl; exact hd.gB; exact hd.mB)).mono hBl)

set_option maxRecDepth 100000 in
set_option maxHeartbeats 2000000 in
theorem crash_any {w : World} {B g m : Nat} {rm : Int} {lo : Bool} {lf : Int} {L : Files} (h : Has w B g m rm lo lf L) (hB : B ≤ w.heap.size) (hks0 : ∀ k ∈ Pm.keys L, k.length ≤ 140737488355328) (hLen : L.length ≤ 1000000) (hrm : (Pm.used L : Int) ≤ 140737488355328)
    (A : Option Addr) (c : Nat) (l : List Int) (n : Nat) (hn : l.length = n) (Bl : Nat) (hBl : Bl ≤ w.heap.size) (hL : Lies w Bl A (ints l)) (hF : ∀ us G, Dsk w B g m rm us lo lf G → ∀ b, b = g ∨ b = m → ∀ ad, A = some ad → l ≠ [] → ad.block ≠ b) (hl : ∀ x ∈ l, -9223372036854775808 ≤ x ∧ x ≤ 9223372036854775807) (hlen : l.length ≤ 9223372036854775807) :
    Calls Try.prog 30 #[.pointer (some ⟨g, 0, none⟩), .slice A n c] w fun e w' => e = .returned (.tuple #[]) ∧ Has w' B g m rm lo lf (Pm.crashes (pickR l) (Pm.keys L) 0 L) ∧ Below B w w' := by
  subst hn
  have hA0 : ∀ ad, A = some ad → l ≠ [] → ad.block ≠ g ∧ ad.block ≠ m := fun ad hA hne => by
    obtain ⟨us, G, hd, _⟩ := h
    exact ⟨hF us G hd g (.inl rfl) ad hA hne, hF us G hd m (.inr rfl) ad hA hne⟩
  have hFar : ∀ W W' : World, Lies W Bl A (ints l) → Bl ≤ W.heap.size → Moved W W' (fun b => b = g ∨ b = m) → Lies W' Bl A (ints l) := fun W W' hLi hB hm j u hj => by
    obtain ⟨ad, h1, h2, h3⟩ := hLi j u hj
    have hne : l ≠ [] := by rintro rfl; simp [ints] at hj
    refine ⟨ad, h1, h2, (World.cell?_of_block (hm.block (ad.add j).block (by rw [add_block]; omega) ?_)).trans h3⟩
    rw [add_block]
    rintro (e | e)
    · exact (hA0 ad h1 hne).1 e
    · exact (hA0 ad h1 hne).2 e
  have HFAR := Lib.hid hFar
  clear hFar hF hA0
  obtain ⟨us0, G0, hd0, hG0⟩ := h
  obtain ⟨ks, hks⟩ : ∃ ks, Pm.keys L = ks := ⟨_, rfl⟩
  rw [hks] at hks0 ⊢
  have hkk : G0.map (·.1) = ks := by rw [← hks, ← hG0]; unfold Pm.keys abs Pm.vmap; rw [List.map_map]; rfl
  obtain ⟨T, hT⟩ : ∃ T, Pm.crashes (pickR l) ks 0 L = T := ⟨_, rfl⟩
  rw [hT]
  have hc4 := hd0.c4
  have hkl : ks.length = G0.length := by rw [← hkk, List.length_map]
  have hL0 : (abs G0).length ≤ 1000000 := by rw [hG0]; exact hLen
  have hu0 : us0 ≤ 140737488355328 := by rw [hd0.sum, hG0]; exact hrm
  have HD := Lib.hid hd0
  go_enter Try.func30, Try.ntmps30
  go_wp2_with fail
  refine (maps_keys (some m) w).mono ?_
  rintro e w2 ⟨rfl, rfl⟩
  go_wp2_with fail
  refine (sorted_call HD.out.map HD.out.sorted (by rw [abs_length] at hL0; exact hL0)).mono ?_
  rintro e w3 ⟨v, rfl, hrow, hb3⟩
  have hz : (w.alloc (.cells #[.map (some m)] 43)).heap.size = w.heap.size + 1 := by simp
  have hD3 := (HD.out.alloc (.cells #[.map (some m)] 43)).below (w' := w3) (by rw [hz]; exact hb3)
  have hb2 : Below B w w3 := ((Below.refl B w).alloc hB _).trans (hb3.mono (by omega))
  have hs3 := hb3.size
  rw [hz] at hs3
  rw [hkk, ← hkl] at hrow
  have hLi3 : Lies w3 Bl A (ints l) := hL.below ((((Below.refl w.heap.size w).alloc (Nat.le_refl _) _).trans (hb3.mono (by omega))).mono hBl)
  obtain ⟨Ak, ck, rfl, hLr, _, _⟩ := own_slice_p hrow
  obtain ⟨Bk, hBkz⟩ : ∃ Bk, w3.heap.size = Bk := ⟨_, rfl⟩
  have HK0 : Hid (Lies w3 Bk Ak (strk ks)) := Lib.hid (by rw [← hBkz]; exact hLr)
  have hBk0 : Bk ≤ w3.heap.size := by omega
  have hB0 : B ≤ w3.heap.size := by omega
  have hBl0 : Bl ≤ w3.heap.size := by omega
  have HD0 := Lib.hid hD3
  have HB0 := Lib.hid hb2
  have HL0 := Lib.hid hLi3
  have HT0 : Hid (Pm.crashes (pickR l) (ks.drop 0) 0 (abs G0) = T) := Lib.hid (by rw [List.drop_zero, hG0]; exact hT)
  have hkm : ks.length ≤ 1000000 := by rw [hkl]; rw [abs_length] at hL0; exact hL0
  clear hD3 hb2 hrow hLr hb3 HD hc4 hT hkk hG0 hBkz hs3 hLen hB hz hLi3 hL hd0 hks hkl hBl hrm
  go_wp2
  go_loopw [4, 15] (fun a i wr => ∃ (j at_ : Nat) (us : Int) (G : Held), j ≤ ks.length ∧ at_ ≤ j ∧ i = .int .i64 (j : Int) ∧ a = .int .i64 (at_ : Int) ∧ Hid (Dsk wr B g m rm us lo lf G) ∧ Hid (Pm.crashes (pickR l) (ks.drop j) at_ (abs G) = T) ∧ Hid (Below B w wr) ∧ Hid (Lies wr Bk Ak (strk ks)) ∧ Hid (Lies wr Bl A (ints l)) ∧ Bk ≤ wr.heap.size ∧ Bl ≤ wr.heap.size ∧ B ≤ wr.heap.size ∧ (abs G).length ≤ 1000000 ∧ us ≤ 140737488355328)
    (fun _ i _ => ks.length - (intOf i).toNat)
  case atStart => exact ⟨0, 0, us0, G0, by omega, by omega, rfl, rfl, HD0, HT0, HB0, HK0, HL0, hBk0, hBl0, hB0, hL0, hu0⟩
  case round =>
    clear HD0 HT0 HB0 HK0 HL0 hBk0 hBl0 hB0 hL0 hu0
    obtain ⟨j, at_, us, G, hj, hat, rfl, rfl, HD, HT, HB, HK, HLi, hBk, hBl, hBw, hLen, hus⟩ := hrel
    by_cases hlt : j < ks.length
    · obtain ⟨ad, rfl, hadB, hc⟩ := HK.out.str hlt
      have hkz := hks0 _ (List.getElem_mem hlt)
      have hdrop : ks.drop j = ks[j] :: ks.drop (j + 1) := List.drop_eq_getElem_cons hlt
      obtain ⟨nm, hnm⟩ : ∃ nm : ByteArray, (⟨ks[j].toArray⟩ : ByteArray) = nm := ⟨_, rfl⟩
      have hnk : nm.data.toList = ks[j] := by rw [← hnm]
      have hnz : nm.size ≤ 140737488355328 := by rw [← hnm]; show ks[j].toArray.size ≤ _; simpa using hkz
      rw [hnm] at hc
      rw [← hnk] at hdrop
      have HDR := Lib.hid hdrop
      clear hnm hnk hkz hdrop
      have hlook := HD.out.map.look (s := nm) (by unfold maxLen; omega)
      have hfo := HD.out.fv nm.data.toList
      have hfv : (fvAt G nm.data.toList).val = .agg #[.slice ((fvAt G nm.data.toList).a.g.map fun g => ⟨g, 0, none⟩) (fvAt G nm.data.toList).a.n (fvAt G nm.data.toList).a.c, .bool (fvAt G nm.data.toList).ea, .slice ((fvAt G nm.data.toList).b.g.map fun g => ⟨g, 0, none⟩) (fvAt G nm.data.toList).b.n (fvAt G nm.data.toList).b.c, .bool (fvAt G nm.data.toList).eb] := rfl
      rw [hfv] at hlook
      have hc4 := HD.out.c4
      have HFO := Lib.hid hfo
      have hwt : (Pm.fi (abs G) nm.data.toList).weight ≤ 140737488355328 := by have := weight_us HD.out nm.data.toList; omega
      have hw1 : (Pm.fi (abs G) nm.data.toList).now.t.length ≤ 140737488355328 := by unfold Pm.Fi.weight at hwt; omega
      have hw2 : (Pm.fi (abs G) nm.data.toList).sure.t.length ≤ 140737488355328 := by unfold Pm.Fi.weight at hwt; omega
      have HSAFE : Hid (∀ W, FileIs W B (fvAt G nm.data.toList) (Pm.fi (abs G) nm.data.toList) → Calls Try.prog 41 #[.agg #[.slice ((fvAt G nm.data.toList).a.g.map fun g => ⟨g, 0, none⟩) (fvAt G nm.data.toList).a.n (fvAt G nm.data.toList).a.c, .bool (fvAt G nm.data.toList).ea, .slice ((fvAt G nm.data.toList).b.g.map fun g => ⟨g, 0, none⟩) (fvAt G nm.data.toList).b.n (fvAt G nm.data.toList).b.c, .bool (fvAt G nm.data.toList).eb]] W fun e w' => e = .returned (.bool (Pm.fi (abs G) nm.data.toList).safe) ∧ ∃ o, w' = W.alloc o) :=
        Lib.hid (fun W hW => (safe_any hW).mono fun _ _ ⟨he, hw⟩ => ⟨he, _, hw⟩)
      have HLEFT : Hid (∀ W, FileIs W B (fvAt G nm.data.toList) (Pm.fi (abs G) nm.data.toList) → B ≤ W.heap.size → Bl ≤ W.heap.size → Lies W Bl A (ints l) → Calls Try.prog 51 #[.agg #[.slice ((fvAt G nm.data.toList).a.g.map fun g => ⟨g, 0, none⟩) (fvAt G nm.data.toList).a.n (fvAt G nm.data.toList).a.c, .bool (fvAt G nm.data.toList).ea, .slice ((fvAt G nm.data.toList).b.g.map fun g => ⟨g, 0, none⟩) (fvAt G nm.data.toList).b.n (fvAt G nm.data.toList).b.c, .bool (fvAt G nm.data.toList).eb], .slice A l.length c, .int .i64 (at_ : Int)] W
          (LeftEnds W B (fvAt G nm.data.toList) (Pm.left (Pm.fi (abs G) nm.data.toList) (pickR l (at_ : Int))))) :=
        Lib.hid (fun W hW hB hBl hL => left_any hW hB A c l (at_ : Int) Bl hBl hL hl hlen hw1 hw2)
      clear hfo hfv
      generalize ((fvAt G nm.data.toList).a.g.map fun g => (⟨g, 0, none⟩ : Addr)) = Aa at *
      generalize ((fvAt G nm.data.toList).b.g.map fun g => (⟨g, 0, none⟩ : Addr)) = Ab at *
      generalize (fvAt G nm.data.toList).a.n = na at *
      generalize (fvAt G nm.data.toList).a.c = ca at *
      generalize (fvAt G nm.data.toList).b.n = nb at *
      generalize (fvAt G nm.data.toList).b.c = cb at *
      generalize (fvAt G nm.data.toList).ea = ea at *
      generalize (fvAt G nm.data.toList).eb = eb at *
      go_wp2_with fail
      have hb4 : Below wr.heap.size wr (wr.alloc (.cells #[.slice Aa na ca, .bool ea, .slice Ab nb cb, .bool eb] 86)) := (Below.refl _ wr).alloc (Nat.le_refl _) _
      have hbx : At (wr.alloc (.cells #[.slice Aa na ca, .bool ea, .slice Ab nb cb, .bool eb] 86)) wr.heap.size 86 #[.slice Aa na ca, .bool ea, .slice Ab nb cb, .bool eb] := At.new _ _ _
      have hD4 := HD.out.below hb4
      have hF4 : FileIs (wr.alloc (.cells #[.slice Aa na ca, .bool ea, .slice Ab nb cb, .bool eb] 86)) B (fvAt G nm.data.toList) (Pm.fi (abs G) nm.data.toList) := hD4.fv nm.data.toList
      have hs4 := hb4.size
      generalize wr.alloc (.cells #[.slice Aa na ca, .bool ea, .slice Ab nb cb, .bool eb] 86) = w4 at *
      refine (HSAFE.out w4 hF4).mono ?_
      rintro e w5 ⟨rfl, o, rfl⟩
      have hb5 : Below wr.heap.size wr (w4.alloc o) := hb4.alloc hs4 o
      have hD5 := HD.out.below hb5
      have hbx5 := hbx.alloc o
      have hs5 := hb5.size
      generalize w4.alloc o = w5 at *
      obtain ⟨sf, hsf⟩ : ∃ sf, (Pm.fi (abs G) nm.data.toList).safe = sf := ⟨_, rfl⟩
      rw [hsf]
      have HSF := Lib.hid hsf; clear hsf
      have HD5 := Lib.hid hD5
      have HB5 := Lib.hid hb5
      have HLi5 := Lib.hid (HLi.out.below (hb5.mono hBl))
      have HK5 := Lib.hid (HK.out.below (hb5.mono hBk))
      have HBx5 := Lib.hid hbx5
      clear hD4 hF4 hb4 hD5 hb5 hbx hbx5 hlook hc hc4
      cases sf with
      | true =>
        have R2 : Hid (Pm.crashes (pickR l) (ks.drop (j + 1)) at_ (abs G) = T) := Lib.hid (by
          rw [← HT.out, HDR.out]
          conv => rhs; unfold Pm.crashes
          rw [if_pos HSF.out])
        have R3 : Hid (Below B w w5) := Lib.hid (HB.out.trans (HB5.out.mono hBw))
        clear HSAFE HLEFT HFO HT HB HD HB5 HBx5 HK HLi HSF HDR
        go_wp2
        go_roundw
        case rel => exact ⟨j + 1, at_, us, G, by omega, by omega, by go_num, rfl, HD5, R2, R3, HK5, HLi5, by omega, by omega, by omega, hLen, hus⟩
        case measure => simp [intOf]; omega
      | false =>
        have c0 := HBx5.out.cell 0
        have c1 := HBx5.out.cell 1
        have c2 := HBx5.out.cell 2
        have c3 := HBx5.out.cell 3
        have hF5 := HD5.out.fv nm.data.toList
        go_wp2_with fail
        refine (HLEFT.out w5 hF5 (by omega) (by omega) HLi5.out).mono ?_
        rintro e w6 ⟨t, ex, rfl, hSt, hgg, hb6⟩
        have hD6 := HD5.out.below hb6
        have hS := settle_any hD6 nm hnz hSt (fun p hp hne b hb => by
            rcases hgg with h | h | h
            · rw [h] at hb; cases hb
            · exact HD5.out.fo_apart hp hne (.inl (by rw [← h]; exact hb))
            · exact HD5.out.fo_apart hp hne (.inr (by rw [← h]; exact hb)))
          (by have h1 := HD5.out.le; have h2 := Pm.left_length (Pm.fi (abs G) nm.data.toList) (pickR l (at_ : Int)); omega) (by rw [abs_length] at hLen; unfold maxLen; omega)
        have HS := Lib.hid hS
        have HD6 := Lib.hid hD6
        have HB6 := Lib.hid hb6
        have hs6 := hb6.size
        clear hS hD6 hb6 hSt hF5 c0 c1 c2 c3
        generalize t.val = tv at *
        go_wp2_with fail
        refine HS.out.mono ?_
        rintro e w7 ⟨rfl, us', hD7, hM7⟩
        have R1 := Lib.hid hD7
        have R2 : Hid (Pm.crashes (pickR l) (ks.drop (j + 1)) (at_ + 1) (abs (setG G nm.data.toList (⟨t, ex, t, ex⟩, ⟨Pm.left (Pm.fi (abs G) nm.data.toList) (pickR l (at_ : Int)), Pm.left (Pm.fi (abs G) nm.data.toList) (pickR l (at_ : Int))⟩))) = T) := Lib.hid (by
          rw [abs_setG, ← HT.out, HDR.out]
          conv => rhs; unfold Pm.crashes
          rw [if_neg (by rw [HSF.out]; decide)]
          rfl)
        have R3 : Hid (Below B w w7) := Lib.hid ((HB.out.trans ((HB5.out.trans (HB6.out.mono hs5)).mono hBw)).trans (hM7.below (by omega) (fun k hk => by rcases hk with rfl | rfl; exact HD.out.gB; exact HD.out.mB)))
        have R4 : Hid (Lies w7 Bk (some ad) (strk ks)) := Lib.hid ((HK5.out.below (HB6.out.mono (by omega))).moved_strk HD6.out hM7 (by omega))
        have R5 : Hid (Lies w7 Bl A (ints l)) := Lib.hid (HFAR.out _ _ (HLi5.out.below (HB6.out.mono (by omega))) (by omega) hM7)
        have hs7 := hM7.size
        have hul : us' ≤ 140737488355328 := by
          have h0 := hD7.sum
          have h1 := used_setG HD6.out nm.data.toList ⟨t, ex, t, ex⟩ (x := ⟨Pm.left (Pm.fi (abs G) nm.data.toList) (pickR l (at_ : Int)), Pm.left (Pm.fi (abs G) nm.data.toList) (pickR l (at_ : Int))⟩) (Pm.still_ok (Pm.left_ok (HD.out.absThere.fi nm.data.toList) _))
          have h2 := Pm.left_length (Pm.fi (abs G) nm.data.toList) (pickR l (at_ : Int))
          have h3 := Pm.still_weight (Pm.left (Pm.fi (abs G) nm.data.toList) (pickR l (at_ : Int)))
          unfold Pm.still at h3
          omega
        have R7 : (abs (setG G nm.data.toList (⟨t, ex, t, ex⟩, ⟨Pm.left (Pm.fi (abs G) nm.data.toList) (pickR l (at_ : Int)), Pm.left (Pm.fi (abs G) nm.data.toList) (pickR l (at_ : Int))⟩))).length ≤ 1000000 := by
          rw [abs_setG]
          exact Nat.le_trans (Pm.length_settle_le (s := Pm.left (Pm.fi (abs G) nm.data.toList) (pickR l (at_ : Int))) (fun _ => Pm.left_there (c := pickR l (at_ : Int)) HSF.out (HD.out.absThere.fi nm.data.toList))) hLen
        have hbk7 : Bk ≤ w7.heap.size := by omega
        have hbl7 : Bl ≤ w7.heap.size := by omega
        have hbb7 : B ≤ w7.heap.size := by omega
        clear hD7 hM7 HD HT HB HLi HK HS HSAFE HLEFT HFO HD5 HB5 HLi5 HK5 HBx5 HD6 HB6 HSF HDR
        go_wp2
        go_roundw
        case rel => exact ⟨j + 1, at_ + 1, us', _, by omega, by omega, by go_num, by go_num, R1, R2, R3, R4, R5, hbk7, hbl7, hbb7, R7, hul⟩
        case measure => simp [intOf]; omega
    · obtain rfl : j = ks.length := by omega
      rw [List.drop_length] at HT
      have HE : Hid (abs G = T) := HT
      clear HT HLi HK
      go_wp2
      go_end0
      exact ⟨rfl, ⟨us, G, HD.out, HE.out⟩, HB.out⟩
end Go.Proofs.Ytokepandiigjlaa
