/- A disk of one file; glacierlaw04.awake: its walk. -/
import Derived.Test.YtokepandiigjlaaPa0
namespace Pm
set_option linter.unusedVariables false
theorem one_fi (k : Key) (f : Fi) : fi [(k, f)] k = f := by simp [fi, get]
theorem nil_fi (k : Key) : fi [] k = Fi.no := rfl
theorem one_set (k : Key) (f : Fi) {f' : Fi} (h : f'.there = true) : set [(k, f)] k f' = [(k, f')] := by simp [set, h, put, del, ins]
theorem one_unset (k : Key) (f : Fi) {f' : Fi} (h : f'.there = false) : set [(k, f)] k f' = [] := by simp [set, h, del]
theorem nil_set (k : Key) {f' : Fi} (h : f'.there = true) : set [] k f' = [(k, f')] := by simp [set, h, put, del, ins]
theorem nil_unset (k : Key) {f' : Fi} (h : f'.there = false) : set [] k f' = [] := by simp [set, h, del]
theorem one_used (k : Key) (f : Fi) : used [(k, f)] = f.weight := by simp [used, total]
theorem one_keys (k : Key) (f : Fi) : keys [(k, f)] = [k] := rfl
theorem still_there (s : St) : (still s).there = s.ex := by simp [still, Fi.there]
theorem one_syncs (k : Key) {f : Fi} (h : f.now.ex = true) : syncs [k] [(k, f)] = [(k, still f.now)] := by
  unfold syncs syncs settle
  rw [one_fi, one_set _ _ (by rw [still_there]; exact h)]
theorem one_syncs_gone (k : Key) {f : Fi} (h : f.now.ex = false) : syncs [k] [(k, f)] = [] := by
  unfold syncs syncs settle
  rw [one_fi, one_unset _ _ (by rw [still_there]; exact h)]
theorem one_crash_safe (c : Int → Int → Int) (k : Key) {f : Fi} (h : f.safe = true) : crashes c [k] 0 [(k, f)] = [(k, f)] := by
  unfold crashes crashes
  rw [one_fi, if_pos h]
theorem one_crash (c : Int → Int → Int) (k : Key) {f : Fi} (h : f.safe = false) (ht : (left f (c 0)).ex = true) : crashes c [k] 0 [(k, f)] = [(k, still (left f (c 0)))] := by
  unfold crashes crashes settle
  rw [one_fi, if_neg (by rw [h]; decide)]
  exact one_set _ _ (by rw [still_there]; exact ht)
theorem one_crash_gone (c : Int → Int → Int) (k : Key) {f : Fi} (h : f.safe = false) (ht : (left f (c 0)).ex = false) : crashes c [k] 0 [(k, f)] = [] := by
  unfold crashes crashes settle
  rw [one_fi, if_neg (by rw [h]; decide)]
  exact one_unset _ _ (by rw [still_there]; exact ht)
theorem left_ex {f : Fi} (h1 : f.now.ex = true) (h2 : f.sure.ex = true) (c : Int → Int) : (left f c).ex = true := by
  unfold left
  split
  · split
    · exact h2
    · rfl
  · split
    · exact h1
    · exact h2
end Pm
namespace Go.Proofs.Ytokepandiigjlaa
open Go.RowKit Go.Sort
open Pm (Key Fi St Files)
set_option linter.unusedVariables false

theorem pick_one (v n : Int) (hn : 1 ≤ n) : pickR [v] 0 n = v % n := by
  have := pick_in (l := [v]) (k := 0) (n := n) (by simp) hn
  simpa using this

theorem Has.lt {w : World} {B g m : Nat} {rm : Int} {lo : Bool} {lf : Int} {L : Files} (h : Has w B g m rm lo lf L) : g < w.heap.size ∧ m < w.heap.size ∧ B ≤ g ∧ B ≤ m := by
  obtain ⟨us, G, hd, _⟩ := h
  exact ⟨hd.at_.lt, hd.map.lt, hd.gB, hd.mB⟩
theorem has_used {w : World} {B g m : Nat} {rm : Int} {lo : Bool} {lf : Int} {L : Files} (h : Has w B g m rm lo lf L) : Calls Try.prog 13 #[.pointer (some ⟨g, 0, none⟩)] w fun e w' => e = .returned (.int .i64 (Pm.used L : Nat)) ∧ w' = w := by
  obtain ⟨us, G, hd, rfl⟩ := h
  rw [← hd.sum]
  exact used_dsk hd

/-- a crash by one choice, made for it -/
theorem crash_new {w : World} {B g m : Nat} {rm : Int} {lo : Bool} {lf : Int} {L : Files} (h : Has w B g m rm lo lf L) (hB : B ≤ w.heap.size) (hks : ∀ k ∈ Pm.keys L, k.length ≤ 140737488355328) (hLen : L.length ≤ 1000000) (hrm : (Pm.used L : Int) ≤ 140737488355328)
    (v : Int) (hv : -9223372036854775808 ≤ v ∧ v ≤ 9223372036854775807) :
    Calls Try.prog 30 #[.pointer (some ⟨g, 0, none⟩), .slice (some ⟨w.heap.size, 0, none⟩) 1 1] (w.alloc (.cells #[.int .i64 v] 3)) fun e w' => e = .returned (.tuple #[]) ∧ Has w' B g m rm lo lf (Pm.crashes (pickR [v]) (Pm.keys L) 0 L) ∧ Below B w w' := by
  have hlt := h.lt
  refine (crash_any (h.alloc (.cells #[.int .i64 v] 3)) (by simp; omega) hks hLen hrm (some ⟨w.heap.size, 0, none⟩) 1 [v] 1 rfl (w.heap.size + 1) (by simp) ?_ ?_ (by simpa using hv) (by simp)).mono ?_
  · exact Lies.of_at (At.new w 3 #[.int .i64 v]) rfl (by omega)
  · intro us G hd b hb ad hA _
    cases hA
    rcases hb with rfl | rfl
    · show w.heap.size ≠ _; omega
    · show w.heap.size ≠ _; omega
  · rintro e w' ⟨rfl, hh, hb⟩
    exact ⟨rfl, hh, ((Below.refl B w).alloc hB _).trans hb⟩

def fileA : Key := [97]
def F1 : Fi := ⟨⟨true, [120, 121]⟩, .no⟩
def F2 : Fi := Pm.still ⟨true, [120, 121]⟩
def F3 : Fi := ⟨⟨true, [120, 121, 122, 49]⟩, ⟨true, [120, 121]⟩⟩
def F4 : Fi := Pm.still ⟨true, [120, 121, 122]⟩
def F5 : Fi := ⟨⟨true, [113]⟩, ⟨true, [120, 121, 122]⟩⟩

set_option maxRecDepth 100000 in
set_option maxHeartbeats 2000000 in
theorem awake4_any (w : World) : Calls Try.prog 11 #[] w fun e w' => e = .returned (.bool true) ∧ Below w.heap.size w w' := by
  go_enter Try.func11, Try.ntmps11
  go_wp2_with fail
  refine (new_any 100 100 (by omega) rfl w).mono ?_
  rintro e w1 ⟨g, m, rfl, h1, hb1⟩
  have hs1 := hb1.size
  generalize hB : w.heap.size = B at *
  have HB := Lib.hid hB; clear hB
  have H1 := Lib.hid h1
  have HB1 := Lib.hid hb1
  clear h1 hb1
  go_wp2_with fail
  refine (append_ok H1.out hs1 ⟨#[97]⟩ ⟨#[120, 121]⟩ (by decide) (by decide) (by decide) (by decide) (by decide)).mono ?_
  rintro e w2 ⟨rfl, h2, hb2⟩
  rw [show Pm.set [] (⟨#[97]⟩ : ByteArray).data.toList ⟨⟨true, (Pm.fi [] (⟨#[97]⟩ : ByteArray).data.toList).now.t ++ (⟨#[120, 121]⟩ : ByteArray).data.toList⟩, (Pm.fi [] (⟨#[97]⟩ : ByteArray).data.toList).sure⟩ = [(fileA, F1)] from rfl] at h2
  have hs2 : B ≤ w2.heap.size := Nat.le_trans h2.lt.2.2.1 (Nat.le_of_lt h2.lt.1)
  have H2 := Lib.hid h2
  have HB2 := Lib.hid (HB1.out.trans hb2)
  clear h2 hb2 H1 HB1 hs1
  go_wp2_with fail
  refine (syncall_ok H2.out hs2 (by decide) (by decide)).mono ?_
  rintro e w3 ⟨rfl, h3, hb3⟩
  rw [show Pm.syncs (Pm.keys [(fileA, F1)]) [(fileA, F1)] = [(fileA, F2)] from rfl] at h3
  have hs3 : B ≤ w3.heap.size := Nat.le_trans h3.lt.2.2.1 (Nat.le_of_lt h3.lt.1)
  have H3 := Lib.hid h3
  have HB3 := Lib.hid (HB2.out.trans hb3)
  clear h3 hb3 H2 HB2 hs2
  go_wp2_with fail
  refine (append_ok H3.out hs3 ⟨#[97]⟩ ⟨#[122, 49]⟩ (by decide) (by decide) (by decide) (by decide) (by decide)).mono ?_
  rintro e w4 ⟨rfl, h4, hb4⟩
  rw [show Pm.set [(fileA, F2)] (⟨#[97]⟩ : ByteArray).data.toList ⟨⟨true, (Pm.fi [(fileA, F2)] (⟨#[97]⟩ : ByteArray).data.toList).now.t ++ (⟨#[122, 49]⟩ : ByteArray).data.toList⟩, (Pm.fi [(fileA, F2)] (⟨#[97]⟩ : ByteArray).data.toList).sure⟩ = [(fileA, F3)] from rfl] at h4
  have hs4 : B ≤ w4.heap.size := Nat.le_trans h4.lt.2.2.1 (Nat.le_of_lt h4.lt.1)
  have H4 := Lib.hid h4
  have HB4 := Lib.hid (HB3.out.trans hb4)
  clear h4 hb4 H3 HB3 hs3
  go_wp2_with fail
  refine (crash_new H4.out hs4 (by decide) (by decide) (by decide) 1 (by decide)).mono ?_
  rintro e w5 ⟨rfl, h5, hb5⟩
  rw [show Pm.crashes (pickR [1]) (Pm.keys [(fileA, F3)]) 0 [(fileA, F3)] = [(fileA, F4)] by kernel_rfl] at h5
  have hs5 : B ≤ w5.heap.size := Nat.le_trans h5.lt.2.2.1 (Nat.le_of_lt h5.lt.1)
  have H5 := Lib.hid h5
  have HB5 := Lib.hid (HB4.out.trans hb5)
  clear h5 hb5 H4 HB4 hs4
  go_wp2_with fail
  refine (read_ok H5.out hs5 ⟨#[97]⟩ (by decide)).mono ?_
  rintro e w6 ⟨he, h6, hb6⟩
  have he' : e = .returned (.tuple #[.string ⟨#[120, 121, 122]⟩, .int .i64 0]) := by rw [he]; rfl
  subst he'
  clear he
  have hs6 : B ≤ w6.heap.size := Nat.le_trans h6.lt.2.2.1 (Nat.le_of_lt h6.lt.1)
  have H6 := Lib.hid h6
  have HB6 := Lib.hid (HB5.out.trans hb6)
  clear h6 hb6 H5 HB5 hs5
  go_wp2_with fail
  refine (write_ok H6.out hs6 ⟨#[97]⟩ ⟨#[113]⟩ (by decide) (by decide) (by decide) (by decide) (by decide)).mono ?_
  rintro e w7 ⟨rfl, h7, hb7⟩
  rw [show Pm.set [(fileA, F4)] (⟨#[97]⟩ : ByteArray).data.toList ⟨⟨true, (⟨#[113]⟩ : ByteArray).data.toList⟩, (Pm.fi [(fileA, F4)] (⟨#[97]⟩ : ByteArray).data.toList).sure⟩ = [(fileA, F5)] from rfl] at h7
  have hs7 : B ≤ w7.heap.size := Nat.le_trans h7.lt.2.2.1 (Nat.le_of_lt h7.lt.1)
  have H7 := Lib.hid h7
  have HB7 := Lib.hid (HB6.out.trans hb7)
  clear h7 hb7 H6 HB6 hs6
  go_wp2_with fail
  refine (crash_new H7.out hs7 (by decide) (by decide) (by decide) 2 (by decide)).mono ?_
  rintro e w8 ⟨rfl, h8, hb8⟩
  rw [show Pm.crashes (pickR [2]) (Pm.keys [(fileA, F5)]) 0 [(fileA, F5)] = [(fileA, F4)] by kernel_rfl] at h8
  have hs8 : B ≤ w8.heap.size := Nat.le_trans h8.lt.2.2.1 (Nat.le_of_lt h8.lt.1)
  have H8 := Lib.hid h8
  have HB8 := Lib.hid (HB7.out.trans hb8)
  clear h8 hb8 H7 HB7 hs7
  go_wp2_with fail
  refine (read_ok H8.out hs8 ⟨#[97]⟩ (by decide)).mono ?_
  rintro e w9 ⟨he, h9, hb9⟩
  have he' : e = .returned (.tuple #[.string ⟨#[120, 121, 122]⟩, .int .i64 0]) := by rw [he]; rfl
  subst he'
  clear he
  have H9 := Lib.hid h9
  have HB9 := Lib.hid (HB8.out.trans hb9)
  clear h9 hb9 H8 HB8 hs8
  go_wp2_with fail
  refine (has_used H9.out).mono ?_
  rintro e w10 ⟨he, rfl⟩
  have he' : e = .returned (.int .i64 3) := by rw [he]; rfl
  subst he'
  clear he
  go_wp2
  go_ret
  exact ⟨rfl, by rw [HB.out]; exact HB9.out⟩
end Go.Proofs.Ytokepandiigjlaa
