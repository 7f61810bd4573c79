/- Prg, Pac, Pks, Pow, Poc, Yk, Yt: merged (a claim holds few files). -/
import Derived.Test.YtplmflagffloeaaDoorB6
import Derived.Test.YtplmflagffloeaaDoorOp
/- Remove of a disk, armed or lost, of any names: its walk. -/
namespace Go.Proofs.YtplmflagffloeaaDoor
open Go.RowKit Go.Sort
open Pm (Key Fi St Files)
set_option linter.unusedVariables false

/-- what Remove comes to -/
def RemoveEnds (w : World) (B g m : Nat) (rm : Int) (lo : Bool) (lf : Int) (ks : List Key) (L T : Files) (e : Ending) (w' : World) : Prop :=
  Below B w w' ∧ ((∃ c, c ≠ 0 ∧ (tryR lo lf).2 = c ∧ e = .returned (.int .i64 c) ∧ Has w' B g m rm lo (tryR lo lf).1 L) ∨
    ((tryR lo lf).2 = 0 ∧ (∃ k ∈ ks, (Pm.fi L k).now.ex = false) ∧ e = .returned (.int .i64 5) ∧ Has w' B g m rm lo (tryR lo lf).1 L) ∨
    ((tryR lo lf).2 = 0 ∧ (∀ k ∈ ks, (Pm.fi L k).now.ex = true) ∧ e = .returned (.int .i64 0) ∧ Has w' B g m rm lo (tryR lo lf).1 T))

end Go.Proofs.YtplmflagffloeaaDoor

/- A []Act that came in, opened. -/
namespace Go.Proofs.YtplmflagffloeaaDoor
open Go.ChangeShapes Go.WideShapes Go.ChangeAt Go.RowKit
set_option linter.unusedVariables false

/-- an act -/
structure Ac where
  K : Int
  N : Int
  A : ByteArray
  B : ByteArray
  mA : Option Addr
  ml : List ByteArray
  mc : Nat
  cA : Option Addr
  cl : List Int
  cc : Nat
  by_ : Int
def Ac.cells (t : Ac) : List Value := [.int .i64 t.K, .int .i64 t.N, .string t.A, .string t.B, .slice t.mA t.ml.length t.mc, .slice t.cA t.cl.length t.cc, .int .u8 t.by_]
/-- it can be read in w -/
structure Ac.ok (w : World) (B : Nat) (t : Ac) : Prop where
  n : -9223372036854775808 ≤ t.N ∧ t.N ≤ 9223372036854775807
  mc : t.ml.length ≤ t.mc
  mL : Lies w B t.mA (t.ml.map Value.string)
  cc : t.cl.length ≤ t.cc
  cL : Lies w B t.cA (ints t.cl)
  cb : ∀ x ∈ t.cl, -9223372036854775808 ≤ x ∧ x ≤ 9223372036854775807
  by_ : 0 ≤ t.by_ ∧ t.by_ ≤ 255
theorem Ac.ok.keep {w w' : World} {B : Nat} {t : Ac} (h : t.ok w B) (hb : Below B w w') : t.ok w' B := ⟨h.n, h.mc, h.mL.below hb, h.cc, h.cL.below hb, h.cb, h.by_⟩

/-- the acts of a slice, where they lie -/
def Acts (w : World) (B : Nat) (A : Option Addr) (l : List Ac) : Prop :=
  ∀ i (h : i < l.length), ∃ ad, A = some ad ∧ ad.block < B ∧ (∀ j u, (l[i].cells)[j]? = some u → w.cell? (ad.add (i * 7 + j)) = some u) ∧ l[i].ok w B
theorem Acts.below {w w' : World} {B : Nat} {A : Option Addr} {l : List Ac} (h : Acts w B A l) (hb : Below B w w') : Acts w' B A l := fun i hi => by
  obtain ⟨ad, e, hlt, hc, hok⟩ := h i hi
  exact ⟨ad, e, hlt, fun j u hj => (hb.cell (p := ad.add (i * 7 + j)) (by rw [add_block]; exact hlt)).trans (hc j u hj), hok.keep hb⟩
theorem addr_at (ad : Addr) (m j : Nat) : ad.add (m + (j + 1)) = ⟨(ad.add m).block, (ad.add m).off + (j + 1), none⟩ := by
  unfold Addr.add
  by_cases hm : m = 0
  · subst hm; simp
  · simp [hm, Nat.add_assoc]

theorem seven {cs : List Value} (h : cs.length = 7) : ∃ a b c d e f g, cs = [a, b, c, d, e, f, g] := by
  match cs, h with
  | [a, b, c, d, e, f, g], _ => exact ⟨a, b, c, d, e, f, g, rfl⟩

end Go.Proofs.YtplmflagffloeaaDoor

/- The calls of a disk on other files, armed or not: what they leave. -/
namespace Go.Proofs.YtplmflagffloeaaDoor
open Go.RowKit Go.Sort
open Pm (Key Fi St Files)
set_option linter.unusedVariables false

section
variable {w : World} {B g m : Nat} {rm lf : Int} {L : Files} {K : Key} {st : St} {k : Nat}
theorem Ends.stays {T : Files} {e : Ending} {w' : World} (h : Ends w B g m rm false lf L T e w') (hK : Pm.Keep K st k L) (hT : Pm.Keep K st k T) : Stays w B g m rm K st (k + 1) e w' := by
  obtain ⟨hb, h | h⟩ := h
  · obtain ⟨c, _, _, he, hh⟩ := h
    exact ⟨c, _, L, he, hh, hK.mono (by omega), hb⟩
  · obtain ⟨_, he, hh⟩ := h
    exact ⟨0, _, T, he, hh, hT.mono (by omega), hb⟩

set_option maxRecDepth 100000 in
set_option maxHeartbeats 400000 in
theorem write_stays (h : Has w B g m rm false lf L) (hK : Pm.Keep K st k L) (hB : B ≤ w.heap.size) (n s : ByteArray) (hn : n.size ≤ 6) (hne : n.data.toList ≠ K) (hk : k ≤ 1000000) (hrm : rm ≤ 1000000) (hs : s.size ≤ 1000000) :
    Calls Tryd.prog 45 #[.pointer (some ⟨g, 0, none⟩), .string n, .string s] w (Stays w B g m rm K st (k + 1)) := by
  have hc := change_stays h hK hB n hn hne hk hrm 0 (.inl rfl) s hs
  have HC := Lib.hid hc
  clear hc h hK
  go_enter Tryd.func45, Tryd.ntmps45
  go_wp2_with fail
  refine HC.out.mono ?_
  rintro e w1 h1
  have H1 := Lib.hid h1
  obtain ⟨c, lf', L', rfl, _⟩ := h1
  clear HC
  go_wp2
  go_ret
  exact H1.out

set_option maxRecDepth 100000 in
set_option maxHeartbeats 400000 in
theorem append_stays (h : Has w B g m rm false lf L) (hK : Pm.Keep K st k L) (hB : B ≤ w.heap.size) (n s : ByteArray) (hn : n.size ≤ 6) (hne : n.data.toList ≠ K) (hk : k ≤ 1000000) (hrm : rm ≤ 1000000) (hs : s.size ≤ 1000000) :
    Calls Tryd.prog 21 #[.pointer (some ⟨g, 0, none⟩), .string n, .string s] w (Stays w B g m rm K st (k + 1)) := by
  have hc := change_stays h hK hB n hn hne hk hrm _ (.inr rfl) s hs
  obtain ⟨us, G, hd, rfl⟩ := h
  have hnm : n.size ≤ maxLen := by unfold maxLen; omega
  have hlook := hd.map.look (s := n) hnm
  have hfo := hd.fv n.data.toList
  have hlen := hfo.a.1
  have hc4 := hd.c4
  have HC := Lib.hid hc
  clear hc hfo hd hK
  have hfv : (fvAt G n.data.toList).val = .agg #[.slice ((fvAt G n.data.toList).a.g.map fun g => ⟨g, 0, none⟩) (fvAt G n.data.toList).a.n (fvAt G n.data.toList).a.c, .bool (fvAt G n.data.toList).ea, .slice ((fvAt G n.data.toList).b.g.map fun g => ⟨g, 0, none⟩) (fvAt G n.data.toList).b.n (fvAt G n.data.toList).b.c, .bool (fvAt G n.data.toList).eb] := rfl
  rw [hfv, hlen] at hlook
  clear hfv hlen
  generalize (fvAt G n.data.toList).a.c = ca at *
  have ff := field_now
  have ft := field_text
  go_enter Tryd.func21, Tryd.ntmps21
  go_wp2_with fail
  refine HC.out.mono ?_
  rintro e w1 h1
  have H1 := Lib.hid h1
  obtain ⟨c, lf', L', rfl, _⟩ := h1
  clear HC
  go_wp2
  go_ret
  exact H1.out

theorem one_name (n : ByteArray) (W : World) {G : Nat} (hG : W.heap.size = G) : Lies (W.alloc (.cells #[.string n] 9)) (G + 1) (some ⟨G, 0, none⟩) (strk [n.data.toList]) := by
  subst hG
  exact Lies.of_at (At.new W 9 #[.string n]) rfl (by omega)

theorem Stays.from {w0 : World} {e : Ending} {w' : World} (h : Stays w B g m rm K st k e w') (hb : Below B w0 w) : Stays w0 B g m rm K st k e w' := by
  obtain ⟨c, lf', L', he, hh, hK, hb'⟩ := h
  exact ⟨c, lf', L', he, hh, hK, hb.trans hb'⟩

theorem sync_stays (h : Has w B g m rm false lf L) (hK : Pm.Keep K st k L) (hB : B ≤ w.heap.size) (hst : st.ex = false → st.t = []) (n : ByteArray) (hn : n.size ≤ 6) (hk : k ≤ 1000000) {G : Nat} (hG : w.heap.size = G) :
    Calls Tryd.prog 23 #[.pointer (some ⟨g, 0, none⟩), .slice (some ⟨G, 0, none⟩) 1 1] (w.alloc (.cells #[.string n] 9)) (Stays w B g m rm K st (k + 1)) := by
  have hz : n.data.toList.length = n.size := by simp
  have hl := hK.len
  refine (sync_gen (h.alloc (.cells #[.string n] 9)) (by simp; omega) (some ⟨G, 0, none⟩) 1 [n.data.toList] (by simp) (by simp) (G + 1) (by simp; omega) (one_name n w hG) (by simp [hz]; omega) (by omega)).mono ?_
  intro e w' he
  exact (he.stays hK (hK.syncs _ hst (by simp [hz]; omega))).from ((Below.refl B w).alloc hB _)

theorem syncall_stays (h : Has w B g m rm false lf L) (hK : Pm.Keep K st k L) (hB : B ≤ w.heap.size) (hst : st.ex = false → st.t = []) (hk : k ≤ 1000000) :
    Calls Tryd.prog 23 #[.pointer (some ⟨g, 0, none⟩), .slice none 0 0] w (Stays w B g m rm K st (k + 1)) := by
  have hl := hK.len
  refine (syncall_gen h hB (fun j hj => by have := hK.keys j hj; omega) (by omega)).mono ?_
  intro e w' he
  exact he.stays hK (hK.syncs _ hst hK.keys)

end
end Go.Proofs.YtplmflagffloeaaDoor

/- The calls of a disk that is neither armed nor lost: they write its own map and cells, and new blocks. -/
namespace Go.Proofs.YtplmflagffloeaaDoor
open Go.RowKit Go.Sort
open Pm (Key Fi St Files)
set_option linter.unusedVariables false

/-- no block of another has turned; the disk's texts lie where they lay -/
def Owned (w w' : World) (g m : Nat) (G G' : Held) : Prop := Moved w w' (fun b => b = g ∨ b = m) ∧ ∀ b, Foot g m G' b → Foot g m G b
def OwnEnds (w : World) (B g m : Nat) (rm : Int) (G : Held) (T : Files) (e : Ending) (w' : World) : Prop :=
  e = .returned (.int .i64 0) ∧ ∃ us' G', Dsk w' B g m rm us' false 0 G' ∧ abs G' = T ∧ Owned w w' g m G G'

section
variable {w w' w'' : World} {B g m : Nat} {rm us : Int} {G G' G'' : Held}
theorem Owned.refl (w : World) (g m : Nat) (G : Held) : Owned w w g m G G := ⟨Moved.refl _ _, fun _ h => h⟩
theorem Owned.trans (h : Owned w w' g m G G') (h' : Owned w' w'' g m G' G'') : Owned w w'' g m G G'' := ⟨h.1.trans h'.1 (fun _ _ h => h), fun b hb => h.2 b (h'.2 b hb)⟩
theorem Owned.of_below (h : Below w.heap.size w w') : Owned w w' g m G G := ⟨Moved.of_below h, fun _ h => h⟩
theorem Owned.of_settle {k : Key} {t : Tx} {ex : Bool} {x : St} {lo : Bool} {lf : Int} (hd : Dsk w B g m rm us lo lf G) (hm : Moved w w' fun b => b = g ∨ b = m) (ht : t = (fvAt G k).a ∨ t.g = none) : Owned w w' g m G (setG G k (⟨t, ex, t, ex⟩, ⟨x, x⟩)) := by
  refine ⟨hm, fun b hb => ?_⟩
  rcases foot_setG hb with hb | hb
  · exact hb
  · have hb' : t.g = some b := by rcases hb with h | h <;> exact h
    rcases ht with rfl | ht
    · obtain ⟨p, hp, hpb⟩ := hd.fo_foot (k := k) (b := b) (.inl hb')
      exact .inr (.inr ⟨p, hp, hpb⟩)
    · rw [ht] at hb'
      cases hb'
theorem try0 (h : Dsk w B g m rm us false 0 G) : Calls Tryd.prog 43 #[.pointer (some ⟨g, 2, none⟩)] w fun e w' => e = .returned (.int .i64 0) ∧ w = w' := by
  refine (try_any h.dev.luck).mono ?_
  rintro e w' (⟨h1, _⟩ | ⟨_, _, he, hw⟩ | ⟨_, h2, _⟩ | ⟨_, h2, _⟩)
  · cases h1
  · exact ⟨he, hw.symm⟩
  · exact absurd h2 (by decide)
  · exact absurd h2 (by decide)
end

set_option maxRecDepth 100000 in
set_option maxHeartbeats 1000000 in
theorem sync_own {w : World} {B g m : Nat} {rm us0 : Int} {G0 : Held} (h : Dsk w B g m rm us0 false 0 G0) (hB : B ≤ w.heap.size) (A : Option Addr) (c : Nat) (ks : List Key) (hk1 : 1 ≤ ks.length) (hkm : ks.length ≤ 1000000) (Bl : Nat) (hBl : Bl ≤ w.heap.size) (hL : Lies w Bl A (strk ks)) (hks : ∀ k ∈ ks, k.length ≤ 140737488355328) (hLen : (abs G0).length ≤ 1000000) :
    Calls Tryd.prog 23 #[.pointer (some ⟨g, 0, none⟩), .slice A ks.length c] w (OwnEnds w B g m rm G0 (Pm.syncs ks (abs G0))) := by
  obtain ⟨T, hT⟩ : ∃ T, Pm.syncs ks (abs G0) = T := ⟨_, rfl⟩
  rw [hT]
  go_enter Tryd.func23, Tryd.ntmps23
  go_wp2_with fail
  refine (try0 h).mono ?_
  rintro e w1 ⟨rfl, rfl⟩
  have HB0 : Hid (Owned w w g m G0 G0) := Lib.hid (Owned.refl w g m G0)
  have HL0 : Hid (Lies w Bl A (strk ks)) := Lib.hid hL
  have HT0 : Hid (Pm.syncs (ks.drop 0) (abs G0) = T) := Lib.hid (by rw [List.drop_zero]; exact hT)
  have HD0 := Lib.hid h
  have hL0 := hLen
  have hBl0 := hBl
  have hB0 := hB
  clear hT h hL hLen hB hBl
  have HDX := HD0
  have hne : ((ks.length : Int) == 0) = false := beq_eq_false_iff_ne.2 (by omega)
  go_wp2
  go_loopw [26] (fun i wr => ∃ (j : Nat) (us : Int) (G : Held), j ≤ ks.length ∧ i = .int .i64 (j : Int) ∧ Hid (Dsk wr B g m rm us false 0 G) ∧ Hid (Pm.syncs (ks.drop j) (abs G) = T) ∧ Hid (Owned w wr g m G0 G) ∧ Hid (Lies wr Bl A (strk ks)) ∧ Bl ≤ wr.heap.size ∧ B ≤ wr.heap.size ∧ (abs G).length ≤ 1000000)
    (fun i _ => ks.length - (intOf i).toNat)
  case atStart => exact ⟨0, us0, G0, by omega, rfl, HD0, HT0, HB0, HL0, hBl0, hB0, hL0⟩
  case round =>
    clear HD0 HT0 HB0 HL0 hBl0 hB0 hL0
    obtain ⟨j, us, G, hj, rfl, HD, HT, HB, HLi, hBl, hBw, hLen⟩ := hrel
    by_cases hlt : j < ks.length
    · obtain ⟨ad, rfl, hadB, hc⟩ := HLi.out.str hlt
      have hkz := hks _ (List.getElem_mem hlt)
      have hdrop : ks.drop j = ks[j] :: ks.drop (j + 1) := List.drop_eq_getElem_cons hlt
      obtain ⟨nm, hnm⟩ : ∃ nm : ByteArray, (⟨ks[j].toArray⟩ : ByteArray) = nm := ⟨_, rfl⟩
      have hnk : nm.data.toList = ks[j] := by rw [← hnm]
      have hnz : nm.size ≤ 140737488355328 := by rw [← hnm]; show ks[j].toArray.size ≤ _; simpa using hkz
      rw [hnm] at hc
      rw [← hnk] at hdrop
      clear hnm hnk hkz
      have hlook := HD.out.map.look (s := nm) (by unfold maxLen; omega)
      have hfo := HD.out.fv nm.data.toList
      have hfv : (fvAt G nm.data.toList).val = .agg #[(fvAt G nm.data.toList).a.val, .bool (fvAt G nm.data.toList).ea, (fvAt G nm.data.toList).b.val, .bool (fvAt G nm.data.toList).eb] := rfl
      rw [hfv] at hlook
      have hc4 := HD.out.c4
      have hS := settle_any HD.out nm hnz (t := (fvAt G nm.data.toList).a) (ex := (fvAt G nm.data.toList).ea) (x := (Pm.fi (abs G) nm.data.toList).now) ⟨hfo.a, hfo.ea, hfo.ok.1⟩
        (fun p hp hne b hb => HD.out.fo_apart hp hne (.inl hb)) (by have h1 := HD.out.le; unfold Pm.Fi.weight; omega) (by rw [abs_length] at hLen; unfold maxLen; omega)
      have HS := Lib.hid hS
      have HFA := Lib.hid (HD.out.absThere.fi nm.data.toList).1
      clear hS hfo hfv
      generalize (fvAt G nm.data.toList).a.val = va at *
      generalize (fvAt G nm.data.toList).b.val = vb at *
      generalize (fvAt G nm.data.toList).ea = ea at *
      generalize (fvAt G nm.data.toList).eb = eb at *
      have ff := field_now
      go_wp2_with fail
      refine HS.out.mono ?_
      rintro e w5 ⟨rfl, us', hD5, hM5⟩
      have R1 := Lib.hid hD5
      have R2 : Hid (Pm.syncs (ks.drop (j + 1)) (abs (setG G nm.data.toList (⟨(fvAt G nm.data.toList).a, ea, (fvAt G nm.data.toList).a, ea⟩, ⟨(Pm.fi (abs G) nm.data.toList).now, (Pm.fi (abs G) nm.data.toList).now⟩))) = T) := Lib.hid (by
        rw [abs_setG, ← HT.out, hdrop]
        rfl)
      have R3 := Lib.hid (HB.out.trans (Owned.of_settle HD.out hM5 (t := (fvAt G nm.data.toList).a) (ex := ea) (x := (Pm.fi (abs G) nm.data.toList).now) (.inl rfl)))
      have R4 : Hid (Lies w5 Bl (some ad) (strk ks)) := Lib.hid (HLi.out.moved_strk HD.out hM5 hBl)
      have R5 : Bl ≤ w5.heap.size := Nat.le_trans hBl hM5.size
      have R6 : B ≤ w5.heap.size := Nat.le_trans hBw hM5.size
      have R7 : (abs (setG G nm.data.toList (⟨(fvAt G nm.data.toList).a, ea, (fvAt G nm.data.toList).a, ea⟩, ⟨(Pm.fi (abs G) nm.data.toList).now, (Pm.fi (abs G) nm.data.toList).now⟩))).length ≤ 1000000 := by
        rw [abs_setG]
        exact Nat.le_trans (Pm.length_settle_le (s := (Pm.fi (abs G) nm.data.toList).now) (fun h => by unfold Pm.Fi.there; rw [h]; rfl)) hLen
      clear hD5 hM5 HD HT HB HLi HS hlook hc hdrop hc4
      go_wp2
      go_roundw
      case rel => exact ⟨j + 1, us', _, by omega, by go_num, R1, R2, R3, R4, R5, R6, R7⟩
      case measure => simp [intOf]; omega
    · obtain rfl : j = ks.length := by omega
      rw [List.drop_length] at HT
      have HE : Hid (abs G = T) := HT
      clear HT HLi
      go_wp2
      go_ret
      exact ⟨rfl, us, G, HD.out, HE.out, HB.out⟩

set_option maxRecDepth 100000 in
set_option maxHeartbeats 1000000 in
theorem syncall_own {w : World} {B g m : Nat} {rm us0 : Int} {G0 : Held} (h : Dsk w B g m rm us0 false 0 G0) (hB : B ≤ w.heap.size) (hks0 : ∀ k ∈ Pm.keys (abs G0), k.length ≤ 140737488355328) (hLen : (abs G0).length ≤ 1000000) :
    Calls Tryd.prog 23 #[.pointer (some ⟨g, 0, none⟩), .slice none 0 0] w (OwnEnds w B g m rm G0 (Pm.syncs (Pm.keys (abs G0)) (abs G0))) := by
  obtain ⟨T, hT⟩ : ∃ T, Pm.syncs (Pm.keys (abs G0)) (abs G0) = T := ⟨_, rfl⟩
  rw [hT]
  go_enter Tryd.func23, Tryd.ntmps23
  go_wp2_with fail
  refine (try0 h).mono ?_
  rintro e w ⟨rfl, rfl⟩
  have hB1 := hB
  have hL0 := hLen
  have hc4 := h.c4
  have HD := Lib.hid h
  go_wp2_with fail
  refine (maps_keys (some m) w).mono ?_
  rintro e w2 ⟨rfl, rfl⟩
  go_wp2_with fail
  refine (collect_call HD.out.map (by rw [abs_length] at hL0; exact hL0)).mono ?_
  rintro e w3 ⟨v, ks, rfl, hp, hrow, hb3⟩
  have hD3 := (HD.out.alloc (.cells #[.map (some m)] 57)).below (w' := w3) (by rw [show (w.alloc (.cells #[.map (some m)] 57)).heap.size = w.heap.size + 1 by simp]; exact hb3)
  have hb2 : Owned w w3 g m G0 G0 := Owned.of_below (((Below.refl w.heap.size w).alloc (Nat.le_refl _) _).trans (hb3.mono (by omega)))
  have hs3 := hb3.size
  rw [show (w.alloc (.cells #[.map (some m)] 57)).heap.size = w.heap.size + 1 by simp] at hs3
  have hkk : G0.map (·.1) = Pm.keys (abs G0) := by unfold Pm.keys abs Pm.vmap; rw [List.map_map]; rfl
  rw [hkk] at hp
  have hks : ∀ k ∈ ks, k.length ≤ 140737488355328 := fun k hk => hks0 k (hp.mem_iff.1 hk)
  have hkm : ks.length ≤ 1000000 := by rw [hp.length_eq]; unfold Pm.keys; rw [List.length_map]; exact hLen
  have HT0 : Hid (Pm.syncs (ks.drop 0) (abs G0) = T) := Lib.hid (by rw [List.drop_zero, Pm.syncs_perm hp h.absSorted h.absThere]; exact hT)
  obtain ⟨A, c, rfl, hLr, _, _⟩ := own_slice_p hrow
  obtain ⟨Bl, hBlz⟩ : ∃ Bl, w3.heap.size = Bl := ⟨_, rfl⟩
  have HL0 : Hid (Lies w3 Bl A (strk ks)) := Lib.hid (by rw [← hBlz]; exact hLr)
  have hBl0 : Bl ≤ w3.heap.size := by omega
  have hB0 : B ≤ w3.heap.size := by omega
  have HD0 := Lib.hid hD3
  have HB0 := Lib.hid hb2
  clear hD3 hb2 hrow hLr hp hb3 HD hc4 hT h hkk hBlz hs3 hB1 hLen hks0 hB
  go_wp2
  go_loopw [26] (fun i wr => ∃ (j : Nat) (us : Int) (G : Held), j ≤ ks.length ∧ i = .int .i64 (j : Int) ∧ Hid (Dsk wr B g m rm us false 0 G) ∧ Hid (Pm.syncs (ks.drop j) (abs G) = T) ∧ Hid (Owned w wr g m G0 G) ∧ Hid (Lies wr Bl A (strk ks)) ∧ Bl ≤ wr.heap.size ∧ B ≤ wr.heap.size ∧ (abs G).length ≤ 1000000)
    (fun i _ => ks.length - (intOf i).toNat)
  case atStart => exact ⟨0, us0, G0, by omega, rfl, HD0, HT0, HB0, HL0, hBl0, hB0, hL0⟩
  case round =>
    clear HD0 HT0 HB0 HL0 hBl0 hB0 hL0
    obtain ⟨j, us, G, hj, rfl, HD, HT, HB, HLi, hBl, hBw, hLen⟩ := hrel
    by_cases hlt : j < ks.length
    · obtain ⟨ad, rfl, hadB, hc⟩ := HLi.out.str hlt
      have hkz := hks _ (List.getElem_mem hlt)
      have hdrop : ks.drop j = ks[j] :: ks.drop (j + 1) := List.drop_eq_getElem_cons hlt
      obtain ⟨nm, hnm⟩ : ∃ nm : ByteArray, (⟨ks[j].toArray⟩ : ByteArray) = nm := ⟨_, rfl⟩
      have hnk : nm.data.toList = ks[j] := by rw [← hnm]
      have hnz : nm.size ≤ 140737488355328 := by rw [← hnm]; show ks[j].toArray.size ≤ _; simpa using hkz
      rw [hnm] at hc
      rw [← hnk] at hdrop
      clear hnm hnk hkz
      have hlook := HD.out.map.look (s := nm) (by unfold maxLen; omega)
      have hfo := HD.out.fv nm.data.toList
      have hfv : (fvAt G nm.data.toList).val = .agg #[(fvAt G nm.data.toList).a.val, .bool (fvAt G nm.data.toList).ea, (fvAt G nm.data.toList).b.val, .bool (fvAt G nm.data.toList).eb] := rfl
      rw [hfv] at hlook
      have hc4 := HD.out.c4
      have hS := settle_any HD.out nm hnz (t := (fvAt G nm.data.toList).a) (ex := (fvAt G nm.data.toList).ea) (x := (Pm.fi (abs G) nm.data.toList).now) ⟨hfo.a, hfo.ea, hfo.ok.1⟩
        (fun p hp hne b hb => HD.out.fo_apart hp hne (.inl hb)) (by have h1 := HD.out.le; unfold Pm.Fi.weight; omega) (by rw [abs_length] at hLen; unfold maxLen; omega)
      have HS := Lib.hid hS
      have HFA := Lib.hid (HD.out.absThere.fi nm.data.toList).1
      clear hS hfo hfv
      generalize (fvAt G nm.data.toList).a.val = va at *
      generalize (fvAt G nm.data.toList).b.val = vb at *
      generalize (fvAt G nm.data.toList).ea = ea at *
      generalize (fvAt G nm.data.toList).eb = eb at *
      have ff := field_now
      go_wp2_with fail
      refine HS.out.mono ?_
      rintro e w5 ⟨rfl, us', hD5, hM5⟩
      have R1 := Lib.hid hD5
      have R2 : Hid (Pm.syncs (ks.drop (j + 1)) (abs (setG G nm.data.toList (⟨(fvAt G nm.data.toList).a, ea, (fvAt G nm.data.toList).a, ea⟩, ⟨(Pm.fi (abs G) nm.data.toList).now, (Pm.fi (abs G) nm.data.toList).now⟩))) = T) := Lib.hid (by
        rw [abs_setG, ← HT.out, hdrop]
        rfl)
      have R3 := Lib.hid (HB.out.trans (Owned.of_settle HD.out hM5 (t := (fvAt G nm.data.toList).a) (ex := ea) (x := (Pm.fi (abs G) nm.data.toList).now) (.inl rfl)))
      have R4 : Hid (Lies w5 Bl (some ad) (strk ks)) := Lib.hid (HLi.out.moved_strk HD.out hM5 hBl)
      have R5 : Bl ≤ w5.heap.size := Nat.le_trans hBl hM5.size
      have R6 : B ≤ w5.heap.size := Nat.le_trans hBw hM5.size
      have R7 : (abs (setG G nm.data.toList (⟨(fvAt G nm.data.toList).a, ea, (fvAt G nm.data.toList).a, ea⟩, ⟨(Pm.fi (abs G) nm.data.toList).now, (Pm.fi (abs G) nm.data.toList).now⟩))).length ≤ 1000000 := by
        rw [abs_setG]
        exact Nat.le_trans (Pm.length_settle_le (s := (Pm.fi (abs G) nm.data.toList).now) (fun h => by unfold Pm.Fi.there; rw [h]; rfl)) hLen
      clear hD5 hM5 HD HT HB HLi HS hlook hc hdrop hc4
      go_wp2
      go_roundw
      case rel => exact ⟨j + 1, us', _, by omega, by go_num, R1, R2, R3, R4, R5, R6, R7⟩
      case measure => simp [intOf]; omega
    · obtain rfl : j = ks.length := by omega
      rw [List.drop_length] at HT
      have HE : Hid (abs G = T) := HT
      clear HT HLi
      go_wp2
      go_ret
      exact ⟨rfl, us, G, HD.out, HE.out, HB.out⟩

set_option maxRecDepth 100000 in
set_option maxHeartbeats 1000000 in
theorem read_low {w : World} {B g m : Nat} {rm us : Int} {G : Held} (h : Dsk w B g m rm us false 0 G) (n : ByteArray) (hn : n.size ≤ 140737488355328) :
    Calls Tryd.prog 75 #[.pointer (some ⟨g, 0, none⟩), .string n] w fun e w' => e = .returned (.tuple (if (Pm.fi (abs G) n.data.toList).now.ex = true then #[.string ⟨(Pm.fi (abs G) n.data.toList).now.t.toArray⟩, .int .i64 0] else #[.string ⟨#[]⟩, .int .i64 5])) ∧
      Below w.heap.size w w' := by
  have hnm : n.size ≤ maxLen := by unfold maxLen; omega
  obtain ⟨ex, hex⟩ : ∃ ex, (Pm.fi (abs G) n.data.toList).now.ex = ex := ⟨_, rfl⟩
  rw [hex]
  obtain ⟨txt, htx⟩ : ∃ txt, (Pm.fi (abs G) n.data.toList).now.t.toArray = txt := ⟨_, rfl⟩
  rw [htx]
  go_enter Tryd.func75, Tryd.ntmps75
  go_wp2_with fail
  refine (try0 h).mono ?_
  rintro e w ⟨rfl, rfl⟩
  have hd := h
  have hlook := hd.map.look (s := n) hnm
  have hfo := hd.fv n.data.toList
  have hfv : (fvAt G n.data.toList).val = .agg #[.slice ((fvAt G n.data.toList).a.g.map fun g => ⟨g, 0, none⟩) (fvAt G n.data.toList).a.n (fvAt G n.data.toList).a.c, .bool (fvAt G n.data.toList).ea, .slice ((fvAt G n.data.toList).b.g.map fun g => ⟨g, 0, none⟩) (fvAt G n.data.toList).b.n (fvAt G n.data.toList).b.c, .bool (fvAt G n.data.toList).eb] := rfl
  rw [hfv] at hlook
  have hconv : ∀ o, (convert 79 9 (.slice ((fvAt G n.data.toList).a.g.map fun g => ⟨g, 0, none⟩) (fvAt G n.data.toList).a.n (fvAt G n.data.toList).a.c)).run Tryd.prog (w.alloc o) = .ok (.string ⟨(Pm.fi (abs G) n.data.toList).now.t.toArray⟩) (w.alloc o) := fun o => by
    have := (hfo.a.alloc o).conv _ (Nat.le_refl _) (fvAt G n.data.toList).a.c
    rw [List.take_length, ← hfo.a.1] at this
    exact this
  have hea := hfo.ea
  have hc4 := hd.c4
  have HD := Lib.hid hd
  clear hfo hfv hd h
  generalize ((fvAt G n.data.toList).a.g.map fun g => (⟨g, 0, none⟩ : Addr)) = Aa at *
  generalize ((fvAt G n.data.toList).b.g.map fun g => (⟨g, 0, none⟩ : Addr)) = Ab at *
  generalize (fvAt G n.data.toList).a.n = na at *
  generalize (fvAt G n.data.toList).a.c = ca at *
  generalize (fvAt G n.data.toList).b.n = nb at *
  generalize (fvAt G n.data.toList).b.c = cb at *
  generalize (fvAt G n.data.toList).eb = eb at *
  generalize (fvAt G n.data.toList).ea = ea at *
  rw [htx] at hconv
  rw [hex] at hea
  clear htx hex
  subst hea
  have fin : Hid (∀ o, Below w.heap.size w (w.alloc o)) := Lib.hid (fun o => (Below.refl _ w).alloc (Nat.le_refl _) o)
  clear HD
  cases ea with
  | true =>
    go_wp2
    go_ret2
    exact ⟨rfl, fin.out _⟩
  | false =>
    go_wp2
    go_ret2
    exact ⟨rfl, fin.out _⟩
end Go.Proofs.YtplmflagffloeaaDoor

/- A crash of a disk of which every file is safe; Append: what they leave of other blocks. -/
namespace Go.Proofs.YtplmflagffloeaaDoor
open Go.RowKit Go.Sort
open Pm (Key Fi St Files)
set_option linter.unusedVariables false

set_option maxRecDepth 100000 in
set_option maxHeartbeats 2000000 in
theorem crash_safe {w : World} {B g m : Nat} {rm us : Int} {lo : Bool} {lf : Int} {G : Held} (h : Dsk w B g m rm us lo lf G) (hks0 : ∀ k ∈ Pm.keys (abs G), k.length ≤ 140737488355328) (hLen : (abs G).length ≤ 1000000) (hsafe : ∀ k, (Pm.fi (abs G) k).safe = true) (A : Option Addr) (n c : Nat) :
    Calls Tryd.prog 14 #[.pointer (some ⟨g, 0, none⟩), .slice A n c] w fun e w' => e = .returned (.tuple #[]) ∧ Below w.heap.size w w' := by
  have HSA := Lib.hid hsafe; clear hsafe
  obtain ⟨ks, hks⟩ : ∃ ks, Pm.keys (abs G) = ks := ⟨_, rfl⟩
  rw [hks] at hks0
  have hkk : G.map (·.1) = ks := by rw [← hks]; unfold Pm.keys abs Pm.vmap; rw [List.map_map]; rfl
  have hc4 := h.c4
  have hkl : ks.length = G.length := by rw [← hkk, List.length_map]
  have hL0 : G.length ≤ 1000000 := by rw [← abs_length]; exact hLen
  have HD := Lib.hid h
  go_enter Tryd.func14, Tryd.ntmps14
  go_wp2_with fail
  refine (maps_keys (some m) w).mono ?_
  rintro e w2 ⟨rfl, rfl⟩
  go_wp2_with fail
  refine (sorted_call HD.out.map HD.out.sorted hL0).mono ?_
  rintro e w3 ⟨v, rfl, hrow, hb3⟩
  have hz : (w.alloc (.cells #[.map (some m)] 57)).heap.size = w.heap.size + 1 := by simp
  have hb2 : Below w.heap.size w w3 := ((Below.refl w.heap.size w).alloc (Nat.le_refl _) _).trans (hb3.mono (by omega))
  have hs3 := hb3.size
  rw [hz] at hs3
  rw [hkk, ← hkl] at hrow
  obtain ⟨Ak, ck, rfl, hLr, _, _⟩ := own_slice_p hrow
  obtain ⟨Bk, hBkz⟩ : ∃ Bk, w3.heap.size = Bk := ⟨_, rfl⟩
  have HK0 : Hid (Lies w3 Bk Ak (strk ks)) := Lib.hid (by rw [← hBkz]; exact hLr)
  have hBk0 : Bk ≤ w3.heap.size := by omega
  have HB0 := Lib.hid hb2
  have hkm : ks.length ≤ 1000000 := by omega
  clear hb2 hrow hLr hb3 hc4 hkk hBkz hs3 hLen hz h hks hkl
  go_wp2
  go_loopw [4, 15] (fun a i wr => ∃ (j : Nat), j ≤ ks.length ∧ a = .int .i64 0 ∧ i = .int .i64 (j : Int) ∧ Hid (Below w.heap.size w wr) ∧ Hid (Lies wr Bk Ak (strk ks)) ∧ Bk ≤ wr.heap.size)
    (fun _ i _ => ks.length - (intOf i).toNat)
  case atStart => exact ⟨0, by omega, rfl, rfl, HB0, HK0, hBk0⟩
  case round =>
    clear HB0 HK0 hBk0
    obtain ⟨j, hj, rfl, rfl, HB, HK, hBk⟩ := hrel
    by_cases hlt : j < ks.length
    · have HDW := Lib.hid (HD.out.below HB.out)
      obtain ⟨ad, rfl, hadB, hc⟩ := HK.out.str hlt
      have hkz := hks0 _ (List.getElem_mem hlt)
      have hdrop : ks.drop j = ks[j] :: ks.drop (j + 1) := List.drop_eq_getElem_cons hlt
      obtain ⟨nm, hnm⟩ : ∃ nm : ByteArray, (⟨ks[j].toArray⟩ : ByteArray) = nm := ⟨_, rfl⟩
      have hnk : nm.data.toList = ks[j] := by rw [← hnm]
      have hnz : nm.size ≤ 140737488355328 := by rw [← hnm]; show ks[j].toArray.size ≤ _; simpa using hkz
      rw [hnm] at hc
      rw [← hnk] at hdrop
      have HDR := Lib.hid hdrop
      clear hnm hnk hkz hdrop
      have hlook := HDW.out.map.look (s := nm) (by unfold maxLen; omega)
      have hfo := HDW.out.fv nm.data.toList
      have hfv : (fvAt G nm.data.toList).val = .agg #[.slice ((fvAt G nm.data.toList).a.g.map fun g => ⟨g, 0, none⟩) (fvAt G nm.data.toList).a.n (fvAt G nm.data.toList).a.c, .bool (fvAt G nm.data.toList).ea, .slice ((fvAt G nm.data.toList).b.g.map fun g => ⟨g, 0, none⟩) (fvAt G nm.data.toList).b.n (fvAt G nm.data.toList).b.c, .bool (fvAt G nm.data.toList).eb] := rfl
      rw [hfv] at hlook
      have hc4 := HDW.out.c4
      have HFO := Lib.hid hfo
      have HSAFE : Hid (∀ W, FileIs W B (fvAt G nm.data.toList) (Pm.fi (abs G) nm.data.toList) → Calls Tryd.prog 35 #[.agg #[.slice ((fvAt G nm.data.toList).a.g.map fun g => ⟨g, 0, none⟩) (fvAt G nm.data.toList).a.n (fvAt G nm.data.toList).a.c, .bool (fvAt G nm.data.toList).ea, .slice ((fvAt G nm.data.toList).b.g.map fun g => ⟨g, 0, none⟩) (fvAt G nm.data.toList).b.n (fvAt G nm.data.toList).b.c, .bool (fvAt G nm.data.toList).eb]] W fun e w' => e = .returned (.bool (Pm.fi (abs G) nm.data.toList).safe) ∧ ∃ o, w' = W.alloc o) :=
        Lib.hid (fun W hW => (safe_any hW).mono fun _ _ ⟨he, hw⟩ => ⟨he, _, hw⟩)
      clear hfo hfv
      generalize ((fvAt G nm.data.toList).a.g.map fun g => (⟨g, 0, none⟩ : Addr)) = Aa at *
      generalize ((fvAt G nm.data.toList).b.g.map fun g => (⟨g, 0, none⟩ : Addr)) = Ab at *
      generalize (fvAt G nm.data.toList).a.n = na at *
      generalize (fvAt G nm.data.toList).a.c = ca at *
      generalize (fvAt G nm.data.toList).b.n = nb at *
      generalize (fvAt G nm.data.toList).b.c = cb at *
      generalize (fvAt G nm.data.toList).ea = ea at *
      generalize (fvAt G nm.data.toList).eb = eb at *
      go_wp2_with fail
      have hb4 : Below wr.heap.size wr (wr.alloc (.cells #[.slice Aa na ca, .bool ea, .slice Ab nb cb, .bool eb] 83)) := (Below.refl _ wr).alloc (Nat.le_refl _) _
      have hbx : At (wr.alloc (.cells #[.slice Aa na ca, .bool ea, .slice Ab nb cb, .bool eb] 83)) wr.heap.size 83 #[.slice Aa na ca, .bool ea, .slice Ab nb cb, .bool eb] := At.new _ _ _
      have hD4 := HDW.out.below hb4
      have hF4 : FileIs (wr.alloc (.cells #[.slice Aa na ca, .bool ea, .slice Ab nb cb, .bool eb] 83)) B (fvAt G nm.data.toList) (Pm.fi (abs G) nm.data.toList) := hD4.fv nm.data.toList
      have hs4 := hb4.size
      generalize wr.alloc (.cells #[.slice Aa na ca, .bool ea, .slice Ab nb cb, .bool eb] 83) = w4 at *
      refine (HSAFE.out w4 hF4).mono ?_
      rintro e w5 ⟨rfl, o, rfl⟩
      rw [HSA.out]
      have R3 : Hid (Below w.heap.size w (w4.alloc o)) := Lib.hid (HB.out.trans ((hb4.alloc hs4 o).mono HB.out.size))
      have R4 : Hid (Lies (w4.alloc o) Bk (some ad) (strk ks)) := Lib.hid (HK.out.below ((hb4.alloc hs4 o).mono hBk))
      have R5 : Bk ≤ (w4.alloc o).heap.size := by simp; omega
      clear hD4 hF4 hb4 hlook hc hc4 HSAFE HFO HB HK HDW HDR hbx
      generalize w4.alloc o = w5 at *
      go_wp2
      go_roundw
      case rel => exact ⟨j + 1, by omega, rfl, by go_num, R3, R4, R5⟩
      case measure => simp [intOf]; omega
    · obtain rfl : j = ks.length := by omega
      go_wp2
      go_end0
      exact ⟨rfl, HB.out⟩

/-- Append: what is written lies in new blocks, or in the disk's own -/
theorem append_own {w : World} {B g m : Nat} {rm us : Int} {G : Held} (h : Dsk w B g m rm us false 0 G) (hB : B ≤ w.heap.size) (n s : ByteArray) (hn : n.size ≤ 140737488355328) (hne : n.data.toList ≠ [])
    (hs : us + s.size ≤ 140737488355328) (hL : (abs G).length ≤ 1000000) (hfit : ((Pm.fi (abs G) n.data.toList).now.t.length : Int) + s.size - ((Pm.fi (abs G) n.data.toList).weight : Nat) ≤ rm - us) :
    Calls Tryd.prog 21 #[.pointer (some ⟨g, 0, none⟩), .string n, .string s] w fun e w' => e = .returned (.int .i64 0) ∧
      ∃ us' G', Dsk w' B g m rm us' false 0 G' ∧ abs G' = Pm.set (abs G) n.data.toList ⟨⟨true, (Pm.fi (abs G) n.data.toList).now.t ++ s.data.toList⟩, (Pm.fi (abs G) n.data.toList).sure⟩ ∧ Moved w w' (Foot g m G) ∧ ∀ b, Foot g m G' b → Foot g m G b ∨ w.heap.size ≤ b := by
  have hsl : s.data.toList.length = s.size := by simp
  have hc : Calls Tryd.prog 40 #[.pointer (some ⟨g, 0, none⟩), .string n, .int .i64 ((Pm.fi (abs G) n.data.toList).now.t.length : Int), .string s] w fun e w' => e = .returned (.int .i64 0) ∧
      ∃ us' G', Dsk w' B g m rm us' false 0 G' ∧ abs G' = Pm.set (abs G) n.data.toList ⟨⟨true, (Pm.fi (abs G) n.data.toList).now.t ++ s.data.toList⟩, (Pm.fi (abs G) n.data.toList).sure⟩ ∧ Moved w w' (Foot g m G) ∧ ∀ b, Foot g m G' b → Foot g m G b ∨ w.heap.size ≤ b := by
    refine (change_any h hB n hn _ (.inr rfl) s hs (by unfold maxLen; rw [abs_length] at hL; omega)).mono ?_
    rintro e w' ⟨hm, h1 | h1 | h1 | h1⟩
    · obtain ⟨c, hc, h2, _⟩ := h1
      exact absurd h2.symm hc
    · exact absurd h1.2.1 hne
    · obtain ⟨_, _, h2, _⟩ := h1
      rw [hsl] at h2
      omega
    · obtain ⟨_, _, _, rfl, us', G', hd', he, hf⟩ := h1
      rw [wrote_append] at he
      exact ⟨rfl, us', G', hd', he, hm, hf⟩
  have hnm : n.size ≤ maxLen := by unfold maxLen; omega
  have hlook := h.map.look (s := n) hnm
  have hfo := h.fv n.data.toList
  have hlen := hfo.a.1
  have hc4 := h.c4
  have HC := Lib.hid hc
  clear hc hfo
  have hfv : (fvAt G n.data.toList).val = .agg #[.slice ((fvAt G n.data.toList).a.g.map fun g => ⟨g, 0, none⟩) (fvAt G n.data.toList).a.n (fvAt G n.data.toList).a.c, .bool (fvAt G n.data.toList).ea, .slice ((fvAt G n.data.toList).b.g.map fun g => ⟨g, 0, none⟩) (fvAt G n.data.toList).b.n (fvAt G n.data.toList).b.c, .bool (fvAt G n.data.toList).eb] := rfl
  rw [hfv, hlen] at hlook
  clear hfv hlen h
  generalize (fvAt G n.data.toList).a.c = ca at *
  have ff := field_now
  have ft := field_text
  go_enter Tryd.func21, Tryd.ntmps21
  go_wp2_with fail
  refine HC.out.mono ?_
  rintro e w1 ⟨rfl, hH⟩
  have HH := Lib.hid hH
  clear hH HC
  go_wp2
  go_ret
  exact ⟨rfl, HH.out⟩
end Go.Proofs.YtplmflagffloeaaDoor

/- A disk that is neither armed nor lost: Write, Append, Sync, Read, and what they leave of other blocks. -/
namespace Go.Proofs.YtplmflagffloeaaDoor
open Go.RowKit Go.Sort
open Pm (Key Fi St Files)
set_option linter.unusedVariables false

/-- blocks of cells that are neither a disk's nor bytes stay -/
structure PKeep (w w' : World) : Prop where
  os : w'.os = w.os
  tape : w'.tape = w.tape
  output : w'.output = w.output
  size : w.heap.size ≤ w'.heap.size
  block : ∀ (k : Nat) (cs : Array Value) (ty : TypeId) (fz : Nat × Nat), w.heap[k]? = some (Obj.cells cs ty fz) → ty ≠ 61 → ty ≠ 5 → w'.heap[k]? = w.heap[k]?
section
variable {w w' w'' : World}
theorem PKeep.refl (w : World) : PKeep w w := ⟨rfl, rfl, rfl, Nat.le_refl _, fun _ _ _ _ _ _ _ => rfl⟩
theorem PKeep.trans (h : PKeep w w') (h' : PKeep w' w'') : PKeep w w'' :=
  ⟨h'.os.trans h.os, h'.tape.trans h.tape, h'.output.trans h.output, Nat.le_trans h.size h'.size, fun k cs ty fz hk h1 h2 => (h'.block k cs ty fz ((h.block k cs ty fz hk h1 h2).trans hk) h1 h2).trans (h.block k cs ty fz hk h1 h2)⟩
theorem PKeep.of_below (h : Below w.heap.size w w') : PKeep w w' := ⟨h.os, h.tape, h.output, h.size, fun k cs ty fz hk _ _ => h.block k (Array.getElem?_eq_some_iff.1 hk).1⟩
theorem PKeep.alloc (w : World) (o : Obj) : PKeep w (w.alloc o) := PKeep.of_below ((Below.refl _ w).alloc (Nat.le_refl _) o)
theorem PKeep.at_ (h : PKeep w w') {g : Nat} {t : TypeId} {cs : Array Value} (ha : At w g t cs) (h1 : t ≠ 61) (h2 : t ≠ 5) : At w' g t cs := (h.block g cs t (0, 0) ha h1 h2).trans ha
theorem PKeep.row (h : PKeep w w') {B n z : Nat} {e : TypeId} {v : Value} {xs : List Value} (hr : w.ownsRow B e z v n xs) (h1 : e ≠ 61) (h2 : e ≠ 5) : w'.ownsRow B e z v n xs := by
  refine ⟨hr.1, hr.2.imp id ?_⟩
  rintro ⟨k, cap, cur, rfl, hk, hat, r⟩
  exact ⟨k, cap, cur, rfl, hk, (h.block k _ _ _ hat h1 h2).trans hat, r⟩
theorem Dsk.keeps {B g m : Nat} {rm us : Int} {lo : Bool} {lf : Int} {G : Held} (h : Dsk w B g m rm us lo lf G) (hm : Moved w w' (Foot g m G)) : PKeep w w' := by
  refine ⟨hm.os, hm.tape, hm.output, hm.size, fun k cs ty fz hk h1 h2 => hm.block k (Array.getElem?_eq_some_iff.1 hk).1 ?_⟩
  rintro (rfl | rfl | ⟨p, hp, hb⟩)
  · have ha := h.at_
    unfold At at ha
    rw [hk] at ha
    injection ha with ha
    injection ha with _ ha _
    exact h1 ha
  · obtain ⟨es, clock, hb, _⟩ := h.map
    rw [hk] at hb
    injection hb with hb
    cases hb
  · obtain ⟨cur, hc⟩ := (h.files p hp).1.bytes hb
    rw [hk] at hc
    injection hc with hc
    injection hc with _ hc _
    exact h2 hc
end

set_option maxRecDepth 100000 in
set_option maxHeartbeats 400000 in
theorem write_kp {w : World} {B g m : Nat} {rm : Int} {L : Files} (h : Has w B g m rm false 0 L) (hB : B ≤ w.heap.size) (n s : ByteArray) (hn : n.size ≤ 140737488355328) (hne : n.data.toList ≠ [])
    (hs : (Pm.used L : Int) + s.size ≤ 140737488355328) (hL : L.length ≤ 1000000) (hfit : (s.size : Int) - ((Pm.fi L n.data.toList).weight : Nat) ≤ rm - Pm.used L) :
    Calls Tryd.prog 45 #[.pointer (some ⟨g, 0, none⟩), .string n, .string s] w fun e w' => e = .returned (.int .i64 0) ∧
      (Has w' B g m rm false 0 (Pm.set L n.data.toList ⟨⟨true, s.data.toList⟩, (Pm.fi L n.data.toList).sure⟩) ∧ Below B w w' ∧ PKeep w w') := by
  have hsl : s.data.toList.length = s.size := by simp
  have hc : Calls Tryd.prog 40 #[.pointer (some ⟨g, 0, none⟩), .string n, .int .i64 0, .string s] w fun e w' => e = .returned (.int .i64 0) ∧
      (Has w' B g m rm false 0 (Pm.set L n.data.toList ⟨⟨true, s.data.toList⟩, (Pm.fi L n.data.toList).sure⟩) ∧ Below B w w' ∧ PKeep w w') := by
    obtain ⟨us, G, hd, rfl⟩ := h
    have hsum := hd.sum
    refine (change_any hd hB n hn 0 (.inl rfl) s (by rw [hsum]; exact hs) (by unfold maxLen; rw [abs_length] at hL; omega)).mono ?_
    rintro e w' ⟨hm, h1 | h1 | h1 | h1⟩
    · obtain ⟨c, hc, h2, _⟩ := h1
      exact absurd h2.symm hc
    · exact absurd h1.2.1 hne
    · obtain ⟨_, _, h2, _⟩ := h1
      rw [hsl] at h2
      omega
    · obtain ⟨_, _, _, rfl, us', G', hd', he, hf⟩ := h1
      exact ⟨rfl, ⟨us', G', hd', he⟩, hm.below hB hd.footB, hd.keeps hm⟩
  clear h
  go_enter Tryd.func45, Tryd.ntmps45
  go_wp2_with fail
  refine hc.mono ?_
  rintro e w1 ⟨rfl, hH⟩
  have HH := Lib.hid hH
  clear hH hc
  go_wp2
  go_ret
  exact ⟨rfl, HH.out⟩

theorem append_kp {w : World} {B g m : Nat} {rm : Int} {L : Files} (h : Has w B g m rm false 0 L) (hB : B ≤ w.heap.size) (n s : ByteArray) (hn : n.size ≤ 140737488355328) (hne : n.data.toList ≠ [])
    (hs : (Pm.used L : Int) + s.size ≤ 140737488355328) (hL : L.length ≤ 1000000) (hfit : ((Pm.fi L n.data.toList).now.t.length : Int) + s.size - ((Pm.fi L n.data.toList).weight : Nat) ≤ rm - Pm.used L) :
    Calls Tryd.prog 21 #[.pointer (some ⟨g, 0, none⟩), .string n, .string s] w fun e w' => e = .returned (.int .i64 0) ∧
      (Has w' B g m rm false 0 (Pm.set L n.data.toList ⟨⟨true, (Pm.fi L n.data.toList).now.t ++ s.data.toList⟩, (Pm.fi L n.data.toList).sure⟩) ∧ Below B w w' ∧ PKeep w w') := by
  obtain ⟨us, G, hd, rfl⟩ := h
  have hsum := hd.sum
  refine (append_own hd hB n s hn hne (by rw [hsum]; exact hs) hL (by rw [hsum]; exact hfit)).mono ?_
  rintro e w' ⟨rfl, us', G', hd', he, hm, _⟩
  exact ⟨rfl, ⟨us', G', hd', he⟩, hm.below hB hd.footB, hd.keeps hm⟩

theorem sync_kp {w : World} {B g m : Nat} {rm : Int} {L : Files} (h : Has w B g m rm false 0 L) (hB : B ≤ w.heap.size) (A : Option Addr) (c : Nat) (ks : List Key) (hk1 : 1 ≤ ks.length) (hkm : ks.length ≤ 1000000) (Bl : Nat) (hBl : Bl ≤ w.heap.size) (hL : Lies w Bl A (strk ks)) (hks : ∀ k ∈ ks, k.length ≤ 140737488355328) (hLen : L.length ≤ 1000000) :
    Calls Tryd.prog 23 #[.pointer (some ⟨g, 0, none⟩), .slice A ks.length c] w fun e w' => e = .returned (.int .i64 0) ∧ (Has w' B g m rm false 0 (Pm.syncs ks L) ∧ Below B w w' ∧ PKeep w w') := by
  obtain ⟨us, G, hd, rfl⟩ := h
  refine (sync_own hd hB A c ks hk1 hkm Bl hBl hL hks hLen).mono ?_
  rintro e w' ⟨rfl, us', G', hd', he, hm, _⟩
  have hm' : Moved w w' (Foot g m G) := hm.mono fun b hb => by
    rcases hb with hb | hb
    · exact .inl hb
    · exact .inr (.inl hb)
  exact ⟨rfl, ⟨us', G', hd', he⟩, hm'.below hB hd.footB, hd.keeps hm'⟩

set_option maxRecDepth 100000 in
set_option maxHeartbeats 1000000 in
theorem read_kp {w : World} {B g m : Nat} {rm : Int} {L : Files} (h : Has w B g m rm false 0 L) (n : ByteArray) (hn : n.size ≤ 140737488355328) :
    Calls Tryd.prog 75 #[.pointer (some ⟨g, 0, none⟩), .string n] w fun e w' => e = .returned (.tuple (if (Pm.fi L n.data.toList).now.ex = true then #[.string ⟨(Pm.fi L n.data.toList).now.t.toArray⟩, .int .i64 0] else #[.string ⟨#[]⟩, .int .i64 5])) ∧
      Below w.heap.size w w' := by
  have hnm : n.size ≤ maxLen := by unfold maxLen; omega
  obtain ⟨us, G, hd, rfl⟩ := h
  obtain ⟨ex, hex⟩ : ∃ ex, (Pm.fi (abs G) n.data.toList).now.ex = ex := ⟨_, rfl⟩
  rw [hex]
  obtain ⟨txt, htx⟩ : ∃ txt, (Pm.fi (abs G) n.data.toList).now.t.toArray = txt := ⟨_, rfl⟩
  rw [htx]
  have hlook := hd.map.look (s := n) hnm
  have hfo := hd.fv n.data.toList
  have hfv : (fvAt G n.data.toList).val = .agg #[.slice ((fvAt G n.data.toList).a.g.map fun g => ⟨g, 0, none⟩) (fvAt G n.data.toList).a.n (fvAt G n.data.toList).a.c, .bool (fvAt G n.data.toList).ea, .slice ((fvAt G n.data.toList).b.g.map fun g => ⟨g, 0, none⟩) (fvAt G n.data.toList).b.n (fvAt G n.data.toList).b.c, .bool (fvAt G n.data.toList).eb] := rfl
  rw [hfv] at hlook
  have hconv : ∀ o, (convert 79 9 (.slice ((fvAt G n.data.toList).a.g.map fun g => ⟨g, 0, none⟩) (fvAt G n.data.toList).a.n (fvAt G n.data.toList).a.c)).run Tryd.prog (w.alloc o) = .ok (.string ⟨(Pm.fi (abs G) n.data.toList).now.t.toArray⟩) (w.alloc o) := fun o => by
    have := (hfo.a.alloc o).conv _ (Nat.le_refl _) (fvAt G n.data.toList).a.c
    rw [List.take_length, ← hfo.a.1] at this
    exact this
  have hea := hfo.ea
  have hc4 := hd.c4
  have hT := try0 hd
  clear hfo hfv hd
  generalize ((fvAt G n.data.toList).a.g.map fun g => (⟨g, 0, none⟩ : Addr)) = Aa at *
  generalize ((fvAt G n.data.toList).b.g.map fun g => (⟨g, 0, none⟩ : Addr)) = Ab at *
  generalize (fvAt G n.data.toList).a.n = na at *
  generalize (fvAt G n.data.toList).a.c = ca at *
  generalize (fvAt G n.data.toList).b.n = nb at *
  generalize (fvAt G n.data.toList).b.c = cb at *
  generalize (fvAt G n.data.toList).eb = eb at *
  generalize (fvAt G n.data.toList).ea = ea at *
  rw [htx] at hconv
  rw [hex] at hea
  clear htx hex
  subst hea
  have fin : Hid (∀ o, Below w.heap.size w (w.alloc o)) := Lib.hid (fun o => (Below.refl _ w).alloc (Nat.le_refl _) o)
  go_enter Tryd.func75, Tryd.ntmps75
  go_wp2_with fail
  refine hT.mono ?_
  rintro e w1 ⟨rfl, rfl⟩
  cases ea with
  | true =>
    go_wp2
    go_ret2
    exact ⟨rfl, fin.out _⟩
  | false =>
    go_wp2
    go_ret2
    exact ⟨rfl, fin.out _⟩
end Go.Proofs.YtplmflagffloeaaDoor

/- A calm disk that has at most the files term, snap and log, each synced: its contents, as a function of the name. -/
namespace Go.Proofs.YtplmflagffloeaaDoor
open Go.RowKit Go.Sort
open Pm (Key Fi St Files)
set_option linter.unusedVariables false

def kTerm : Key := [116, 101, 114, 109]
def kSnap : Key := [115, 110, 97, 112]
def kLog : Key := [108, 111, 103]
def Three (k : Key) : Prop := k = kTerm ∨ k = kSnap ∨ k = kLog
/-- how many bytes there are -/
def tdUsed (F : Key → St) : Nat := (F kTerm).t.length + (F kSnap).t.length + (F kLog).t.length
def updT (F : Key → St) (k : Key) (t : List UInt8) : Key → St := fun j => if j = k then ⟨true, t⟩ else F j
structure Fs3 (F : Key → St) : Prop where
  ok : ∀ k, (F k).ex = false → (F k).t = []
  only : ∀ k, ¬ Three k → F k = Pm.St.no
theorem Fs3.upd {F : Key → St} (h : Fs3 F) {k : Key} (hk : Three k) (t : List UInt8) : Fs3 (updT F k t) := by
  refine ⟨fun j hj => ?_, fun j hj => ?_⟩
  · unfold updT at hj ⊢
    split at hj
    · cases hj
    · rename_i hne; rw [if_neg hne]; exact h.ok j hj
  · unfold updT
    rw [if_neg (by rintro rfl; exact hj hk)]
    exact h.only j hj
theorem updT_same (F : Key → St) (k : Key) (t : List UInt8) : updT F k t k = ⟨true, t⟩ := by unfold updT; rw [if_pos rfl]
theorem updT_other (F : Key → St) {k j : Key} (h : j ≠ k) (t : List UInt8) : updT F k t j = F j := by unfold updT; rw [if_neg h]
theorem tdUsed_upd (F : Key → St) {k : Key} (hk : Three k) (t : List UInt8) : tdUsed (updT F k t) ≤ tdUsed F + t.length := by
  unfold tdUsed
  rcases hk with rfl | rfl | rfl
  · rw [updT_same, updT_other F (by decide), updT_other F (by decide)]; simp only; omega
  · rw [updT_same, updT_other F (by decide), updT_other F (by decide)]; simp only; omega
  · rw [updT_same, updT_other F (by decide), updT_other F (by decide)]; simp only; omega
/-- files that are what F says, synced -/
def filesT (F : Key → St) : Files := Pm.set (Pm.set (Pm.set [] kTerm (Pm.still (F kTerm))) kSnap (Pm.still (F kSnap))) kLog (Pm.still (F kLog))
theorem still_no : Pm.still Pm.St.no = Fi.no := rfl
section
variable {F : Key → St}
theorem Fs3.fi (h : Fs3 F) (k : Key) : Pm.fi (filesT F) k = Pm.still (F k) := by
  unfold filesT
  by_cases h3 : k = kLog
  · subst h3; exact Pm.fi_set_same _ _ (Pm.still_ok (h.ok _))
  · rw [Pm.fi_set_other _ _ h3]
    by_cases h2 : k = kSnap
    · subst h2; exact Pm.fi_set_same _ _ (Pm.still_ok (h.ok _))
    · rw [Pm.fi_set_other _ _ h2]
      by_cases h1 : k = kTerm
      · subst h1; exact Pm.fi_set_same _ _ (Pm.still_ok (h.ok _))
      · rw [Pm.fi_set_other _ _ h1, h.only k (by rintro (e | e | e); exact h1 e; exact h2 e; exact h3 e)]
        rfl
theorem Fs3.sorted (h : Fs3 F) : Pm.Sorted (filesT F) := Pm.set_sorted (Pm.set_sorted (Pm.set_sorted List.Pairwise.nil _ _) _ _) _ _
theorem Fs3.there (h : Fs3 F) : Pm.AllThere (filesT F) := by
  have h0 : Pm.AllThere ([] : Files) := fun p hp => by cases hp
  exact ((h0.set _ (Pm.still_ok (h.ok _))).set _ (Pm.still_ok (h.ok _))).set _ (Pm.still_ok (h.ok _))
theorem Fs3.used (h : Fs3 F) : Pm.used (filesT F) = tdUsed F := by
  have s0 : Pm.Sorted ([] : Files) := List.Pairwise.nil
  have s1 := Pm.set_sorted s0 kTerm (Pm.still (F kTerm))
  have s2 := Pm.set_sorted s1 kSnap (Pm.still (F kSnap))
  have e1 := Pm.used_set s0 kTerm (Pm.still_ok (h.ok kTerm))
  have e2 := Pm.used_set s1 kSnap (Pm.still_ok (h.ok kSnap))
  have e3 := Pm.used_set s2 kLog (Pm.still_ok (h.ok kLog))
  rw [Pm.fi_set_other _ _ (show kSnap ≠ kTerm by decide)] at e2
  rw [Pm.fi_set_other _ _ (show kLog ≠ kSnap by decide), Pm.fi_set_other _ _ (show kLog ≠ kTerm by decide)] at e3
  have z : ∀ k, Pm.fi [] k = Fi.no := fun _ => rfl
  have zw : Fi.no.weight = 0 := rfl
  have zu : Pm.used ([] : Files) = 0 := rfl
  rw [z, zw] at e1 e2 e3
  rw [Pm.still_weight] at e1 e2 e3
  unfold filesT tdUsed
  omega
theorem Fs3.len (h : Fs3 F) : (filesT F).length ≤ 3 := by
  have a1 := Pm.length_set ([] : Files) kTerm (Pm.still (F kTerm))
  have a2 := Pm.length_set (Pm.set ([] : Files) kTerm (Pm.still (F kTerm))) kSnap (Pm.still (F kSnap))
  have a3 := Pm.length_set (Pm.set (Pm.set ([] : Files) kTerm (Pm.still (F kTerm))) kSnap (Pm.still (F kSnap))) kLog (Pm.still (F kLog))
  unfold filesT
  simp only [List.length_nil] at a1
  omega
theorem Fs3.keys (h : Fs3 F) {k : Key} (hk : k ∈ Pm.keys (filesT F)) : k.length ≤ 4 := by
  unfold filesT at hk
  rcases Pm.keys_set hk with rfl | hk
  · decide
  · rcases Pm.keys_set hk with rfl | hk
    · decide
    · rcases Pm.keys_set hk with rfl | hk
      · decide
      · cases hk
theorem Fs3.set (h : Fs3 F) {k : Key} (hk : Three k) (t : List UInt8) {f : Fi} {ks : List Key} : (∀ L : Files, Pm.Sorted L → Pm.AllThere L → (∀ j, Pm.fi L j = Pm.still (updT F k t j)) → L = filesT (updT F k t)) := fun L h1 h2 h3 =>
  Pm.files_ext h1 (h.upd hk t).sorted h2 (h.upd hk t).there fun j => by rw [h3, (h.upd hk t).fi]
end

/-- block g is a calm disk that has the files F -/
structure TD (w : World) (B g m : Nat) (rm : Int) (F : Key → St) : Prop where
  has : Has w B g m rm false 0 (filesT F)
  tf : Fs3 F
theorem TD.below {w w' : World} {B g m : Nat} {rm : Int} {F : Key → St} (h : TD w B g m rm F) (hb : Below w.heap.size w w') : TD w' B g m rm F := ⟨h.has.below hb, h.tf⟩
theorem TD.alloc {w : World} {B g m : Nat} {rm : Int} {F : Key → St} (h : TD w B g m rm F) (o : Obj) : TD (w.alloc o) B g m rm F := ⟨h.has.alloc o, h.tf⟩
theorem three_len {k : Key} (h : Three k) : k.length ≤ 4 ∧ k ≠ [] := by rcases h with rfl | rfl | rfl <;> decide

/-- what an operation leaves that succeeds -/
def TdEnds (w : World) (B g m : Nat) (rm : Int) (F : Key → St) (e : Ending) (w' : World) : Prop := e = .returned (.int .i64 0) ∧ (TD w' B g m rm F ∧ Below B w w' ∧ PKeep w w')

theorem synced_one {F : Key → St} (hF : Fs3 F) {k : Key} (hk : Three k) (t : List UInt8) {L : Files} (h1 : Pm.Sorted L) (h2 : Pm.AllThere L) (s : St) (he : L = Pm.set (filesT F) k ⟨⟨true, t⟩, s⟩) (hs : s.ex = false → s.t = []) : Pm.syncs [k] L = filesT (updT F k t) := by
  have hok : (⟨⟨true, t⟩, s⟩ : Fi).ok := ⟨fun e => (by cases e), hs⟩
  obtain ⟨a1, a2⟩ := Pm.syncs_inv [k] h1 h2
  refine Pm.files_ext a1 (hF.upd hk t).sorted a2 (hF.upd hk t).there fun j => ?_
  rw [Pm.fi_syncs [k] h2, (hF.upd hk t).fi, he]
  by_cases hj : j = k
  · subst hj
    rw [if_pos (by simp), Pm.fi_set_same _ _ hok, updT_same]
  · rw [if_neg (by simpa using hj), Pm.fi_set_other _ _ hj, updT_other F hj, hF.fi]

set_option maxRecDepth 100000 in
set_option maxHeartbeats 400000 in
theorem tsync_any {w : World} {B g m : Nat} {rm : Int} {F : Key → St} (hF : Fs3 F) (hB : B ≤ w.heap.size) (n : ByteArray) (hk : Three n.data.toList) (t : List UInt8) (s : St) (hs : s.ex = false → s.t = []) (A : Option Addr) (hA : Lies w w.heap.size A [.string n])
    (h : Has w B g m rm false 0 (Pm.set (filesT F) n.data.toList ⟨⟨true, t⟩, s⟩)) :
    Calls Tryd.prog 23 #[.pointer (some ⟨g, 0, none⟩), .slice A 1 1] w (TdEnds w B g m rm (updT F n.data.toList t)) := by
  have hl := three_len hk
  have he : strk [n.data.toList] = [.string n] := by simp [strk, encStr]
  have := sync_kp h hB A 1 [n.data.toList] (by simp) (by simp) w.heap.size (Nat.le_refl _) (by rw [he]; exact hA) (by intro k hk; simp at hk; subst hk; omega) (by have := Pm.length_set (filesT F) n.data.toList ⟨⟨true, t⟩, s⟩; have := hF.len; omega)
  rw [synced_one hF hk t h.sorted h.there s rfl hs] at this
  refine this.mono ?_
  rintro e w' ⟨rfl, h1, h2, h3⟩
  exact ⟨rfl, ⟨h1, hF.upd hk t⟩, h2, h3⟩

set_option maxRecDepth 100000 in
set_option maxHeartbeats 400000 in
theorem tsave_any {w : World} {B g m : Nat} {rm : Int} {F : Key → St} (h : TD w B g m rm F) (hB : B ≤ w.heap.size) (n s : ByteArray) (hk : Three n.data.toList) (hs : (tdUsed F : Int) + s.size ≤ rm) (hrm : rm ≤ 1000000000) :
    Calls Tryd.prog 24 #[.pointer (some ⟨g, 0, none⟩), .string n, .string s] w (TdEnds w B g m rm (updT F n.data.toList s.data.toList)) := by
  have hl := three_len hk
  have hn : n.size ≤ 4 := by rw [← size_list]; exact hl.1
  have hu := h.tf.used
  have hW := write_kp h.has hB n s (by omega) hl.2 (by rw [hu]; omega) (by have := h.tf.len; omega) (by rw [hu]; omega)
  have hok := h.tf.ok n.data.toList
  rw [h.tf.fi] at hW
  have hF := h.tf
  have HF := Lib.hid hF
  clear h hu hF
  go_enter Tryd.func24, Tryd.ntmps24
  go_wp2_with fail
  refine hW.mono ?_
  rintro e w1 ⟨rfl, h1, hb1, hk1⟩
  have hs1 := hb1.size
  have hY := tsync_any (w := w1.alloc (.cells #[.string n] 9)) HF.out (by simp; omega) n hk s.data.toList (Pm.still (F n.data.toList)).sure hok (some ⟨w1.heap.size, 0, none⟩) (Lies.of_at (At.new w1 9 #[.string n]) rfl (by simp)) (h1.alloc _)
  have HB1 := Lib.hid (hb1.alloc (by omega : B ≤ w1.heap.size) (.cells #[.string n] 9))
  have HK1 := Lib.hid (hk1.trans (PKeep.alloc w1 (.cells #[.string n] 9)))
  clear hW h1 hb1 hk1
  go_wp2_with fail
  refine hY.mono ?_
  rintro e w2 ⟨rfl, h2, hb2, hk2⟩
  have H2 := Lib.hid h2
  have HB2 := Lib.hid (HB1.out.trans hb2)
  have HK2 := Lib.hid (HK1.out.trans hk2)
  clear h2 hb2 hk2 hY
  go_wp2
  go_ret
  exact ⟨rfl, H2.out, HB2.out, HK2.out⟩
end Go.Proofs.YtplmflagffloeaaDoor
