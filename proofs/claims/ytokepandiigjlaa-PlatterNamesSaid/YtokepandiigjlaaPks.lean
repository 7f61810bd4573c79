/- The calls of a disk on other files, armed or not: what they leave. -/
import Derived.Test.YtokepandiigjlaaPac
namespace Go.Proofs.Ytokepandiigjlaa
open Go.RowKit Go.Sort
open Pm (Key Fi St Files)
set_option linter.unusedVariables false

section
variable {w : World} {B g m : Nat} {rm lf : Int} {L : Files} {K : Key} {st : St} {k : Nat}
theorem Ends.stays {T : Files} {e : Ending} {w' : World} (h : Ends w B g m rm false lf L T e w') (hK : Pm.Keep K st k L) (hT : Pm.Keep K st k T) : Stays w B g m rm K st (k + 1) e w' := by
  obtain ⟨hb, h | h⟩ := h
  · obtain ⟨c, _, _, he, hh⟩ := h
    exact ⟨c, _, L, he, hh, hK.mono (by omega), hb⟩
  · obtain ⟨_, he, hh⟩ := h
    exact ⟨0, _, T, he, hh, hT.mono (by omega), hb⟩

set_option maxRecDepth 100000 in
set_option maxHeartbeats 400000 in
theorem write_stays (h : Has w B g m rm false lf L) (hK : Pm.Keep K st k L) (hB : B ≤ w.heap.size) (n s : ByteArray) (hn : n.size ≤ 6) (hne : n.data.toList ≠ K) (hk : k ≤ 1000000) (hrm : rm ≤ 1000000) (hs : s.size ≤ 1000000) :
    Calls Try.prog 26 #[.pointer (some ⟨g, 0, none⟩), .string n, .string s] w (Stays w B g m rm K st (k + 1)) := by
  have hc := change_stays h hK hB n hn hne hk hrm 0 (.inl rfl) s hs
  have HC := Lib.hid hc
  clear hc h hK
  go_enter Try.func26, Try.ntmps26
  go_wp2_with fail
  refine HC.out.mono ?_
  rintro e w1 h1
  have H1 := Lib.hid h1
  obtain ⟨c, lf', L', rfl, _⟩ := h1
  clear HC
  go_wp2
  go_ret
  exact H1.out

set_option maxRecDepth 100000 in
set_option maxHeartbeats 400000 in
theorem append_stays (h : Has w B g m rm false lf L) (hK : Pm.Keep K st k L) (hB : B ≤ w.heap.size) (n s : ByteArray) (hn : n.size ≤ 6) (hne : n.data.toList ≠ K) (hk : k ≤ 1000000) (hrm : rm ≤ 1000000) (hs : s.size ≤ 1000000) :
    Calls Try.prog 28 #[.pointer (some ⟨g, 0, none⟩), .string n, .string s] w (Stays w B g m rm K st (k + 1)) := by
  have hc := change_stays h hK hB n hn hne hk hrm _ (.inr rfl) s hs
  obtain ⟨us, G, hd, rfl⟩ := h
  have hnm : n.size ≤ maxLen := by unfold maxLen; omega
  have hlook := hd.map.look (s := n) hnm
  have hfo := hd.fv n.data.toList
  have hlen := hfo.a.1
  have hc4 := hd.c4
  have HC := Lib.hid hc
  clear hc hfo hd hK
  have hfv : (fvAt G n.data.toList).val = .agg #[.slice ((fvAt G n.data.toList).a.g.map fun g => ⟨g, 0, none⟩) (fvAt G n.data.toList).a.n (fvAt G n.data.toList).a.c, .bool (fvAt G n.data.toList).ea, .slice ((fvAt G n.data.toList).b.g.map fun g => ⟨g, 0, none⟩) (fvAt G n.data.toList).b.n (fvAt G n.data.toList).b.c, .bool (fvAt G n.data.toList).eb] := rfl
  rw [hfv, hlen] at hlook
  clear hfv hlen
  generalize (fvAt G n.data.toList).a.c = ca at *
  have ff := field_now
  have ft := field_text
  go_enter Try.func28, Try.ntmps28
  go_wp2_with fail
  refine HC.out.mono ?_
  rintro e w1 h1
  have H1 := Lib.hid h1
  obtain ⟨c, lf', L', rfl, _⟩ := h1
  clear HC
  go_wp2
  go_ret
  exact H1.out

theorem one_name (n : ByteArray) (W : World) {G : Nat} (hG : W.heap.size = G) : Lies (W.alloc (.cells #[.string n] 9)) (G + 1) (some ⟨G, 0, none⟩) (strk [n.data.toList]) := by
  subst hG
  exact Lies.of_at (At.new W 9 #[.string n]) rfl (by omega)

theorem Stays.from {w0 : World} {e : Ending} {w' : World} (h : Stays w B g m rm K st k e w') (hb : Below B w0 w) : Stays w0 B g m rm K st k e w' := by
  obtain ⟨c, lf', L', he, hh, hK, hb'⟩ := h
  exact ⟨c, lf', L', he, hh, hK, hb.trans hb'⟩

theorem sync_stays (h : Has w B g m rm false lf L) (hK : Pm.Keep K st k L) (hB : B ≤ w.heap.size) (hst : st.ex = false → st.t = []) (n : ByteArray) (hn : n.size ≤ 6) (hk : k ≤ 1000000) {G : Nat} (hG : w.heap.size = G) :
    Calls Try.prog 27 #[.pointer (some ⟨g, 0, none⟩), .slice (some ⟨G, 0, none⟩) 1 1] (w.alloc (.cells #[.string n] 9)) (Stays w B g m rm K st (k + 1)) := by
  have hz : n.data.toList.length = n.size := by simp
  have hl := hK.len
  refine (sync_gen (h.alloc (.cells #[.string n] 9)) (by simp; omega) (some ⟨G, 0, none⟩) 1 [n.data.toList] (by simp) (by simp) (G + 1) (by simp; omega) (one_name n w hG) (by simp [hz]; omega) (by omega)).mono ?_
  intro e w' he
  exact (he.stays hK (hK.syncs _ hst (by simp [hz]; omega))).from ((Below.refl B w).alloc hB _)

theorem syncall_stays (h : Has w B g m rm false lf L) (hK : Pm.Keep K st k L) (hB : B ≤ w.heap.size) (hst : st.ex = false → st.t = []) (hk : k ≤ 1000000) :
    Calls Try.prog 27 #[.pointer (some ⟨g, 0, none⟩), .slice none 0 0] w (Stays w B g m rm K st (k + 1)) := by
  have hl := hK.len
  refine (syncall_gen h hB (fun j hj => by have := hK.keys j hj; omega) (by omega)).mono ?_
  intro e w' he
  exact he.stays hK (hK.syncs _ hst hK.keys)

theorem remove_stays (h : Has w B g m rm false lf L) (hK : Pm.Keep K st k L) (hB : B ≤ w.heap.size) (n : ByteArray) (hn : n.size ≤ 6) (hne : n.data.toList ≠ K) (hk : k ≤ 1000000) {G : Nat} (hG : w.heap.size = G) :
    Calls Try.prog 29 #[.pointer (some ⟨g, 0, none⟩), .slice (some ⟨G, 0, none⟩) 1 1] (w.alloc (.cells #[.string n] 9)) (Stays w B g m rm K st (k + 1)) := by
  have hz : n.data.toList.length = n.size := by simp
  have hl := hK.len
  refine (remove_gen (h.alloc (.cells #[.string n] 9)) (by simp; omega) (some ⟨G, 0, none⟩) 1 [n.data.toList] 1 rfl (by simp) (G + 1) (by simp; omega) (one_name n w hG) (by simp [hz]; omega) (by omega)).mono ?_
  have hb0 : Below B w (w.alloc (.cells #[.string n] 9)) := (Below.refl B w).alloc hB _
  rintro e w' ⟨hb, h1 | h1 | h1⟩
  · obtain ⟨c, _, _, he, hh⟩ := h1
    exact ⟨c, _, L, he, hh, hK.mono (by omega), hb0.trans hb⟩
  · obtain ⟨_, _, he, hh⟩ := h1
    exact ⟨5, _, L, he, hh, hK.mono (by omega), hb0.trans hb⟩
  · obtain ⟨_, _, he, hh⟩ := h1
    exact ⟨0, _, _, he, hh, (hK.removes _ (by simp [hz]; exact ⟨hne, hn⟩)).mono (by omega), hb0.trans hb⟩
end
end Go.Proofs.Ytokepandiigjlaa
