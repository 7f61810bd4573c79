/- (*Dec).I, B, S: their walks. -/
import Derived.Test.YtniecodpdmjppaaDoorDu
namespace Go.Proofs.YtniecodpdmjppaaDoor
open Go.RowKit
open Wm (tk)

/-- a whole number of at most most -/
def tkI (l : List UInt8) (most : Nat) : List UInt8 × Nat × Nat := if most < (tk l 0 true).2.2 then ((tk l 0 true).1, 11, 0) else tk l 0 true
/-- a text of at most most bytes -/
def tkS (l : List UInt8) (most : Nat) : List UInt8 × Nat × List UInt8 :=
  if (tkI l most).2.1 ≠ 0 then ((tkI l most).1, (tkI l most).2.1, [])
  else if (tkI l most).1.length < (tkI l most).2.2 then ((tkI l most).1, 2, [])
  else ((tkI l most).1.drop (tkI l most).2.2, 0, (tkI l most).1.take (tkI l most).2.2)

theorem tk_bad : ∀ (l : List UInt8) (v : Nat) (f : Bool), (tk l v f).2.1 ≠ 0 → (tk l v f).2.2 = 0 := by
  intro l
  induction l with
  | nil => intro v f _; simp [tk]
  | cons b r ih =>
    intro v f h
    rw [tk] at h ⊢
    split
    · rfl
    · rename_i h1
      rw [if_neg h1] at h
      split
      · rename_i h2
        rw [if_pos h2] at h
        exact absurd rfl h
      · rename_i h2
        rw [if_neg h2] at h
        exact ih _ _ h
theorem tkI_bad (l : List UInt8) (most : Nat) (h : (tkI l most).2.1 ≠ 0) : (tkI l most).2.2 = 0 := by
  unfold tkI at h ⊢
  split
  · rfl
  · rename_i h1
    rw [if_neg h1] at h
    exact tk_bad _ _ _ h
theorem tkI_most (l : List UInt8) (most : Nat) : (tkI l most).2.2 ≤ most := by
  unfold tkI
  split
  · exact Nat.zero_le _
  · omega
theorem tkI_len (l : List UInt8) (most : Nat) : (tkI l most).1.length ≤ l.length := by unfold tkI; split <;> exact Wm.tk_len _ _ _

set_option maxHeartbeats 400000 in
theorem decI_bad (g : Nat) (l : List UInt8) (e : Nat) (h0 : e ≠ 0) (most : Int) (w : World) (hd : DecIs w g l e) (hm : most ≤ 9223372036854775807) :
    Calls Tryd.prog 78 #[.pointer (some ⟨g, 0, none⟩), .int .i64 most] w (DecRet g l e (.int .i64 0) w) := by
  have hN := decU_bad g l e h0 w hd
  have H0 := Lib.hid h0; clear h0 hd
  by_cases hneg : most < 0
  all_goals
    go_enter Tryd.func78, Tryd.ntmps78
    go_wp2_with fail
    refine hN.mono ?_
    rintro x w1 ⟨rfl, hd1, hg⟩
    have H1 := Lib.hid hd1; clear hd1 hN
    go_wp2
    go_ret
    exact ⟨rfl, H1.out, hg⟩

set_option maxHeartbeats 400000 in
theorem decI_any (g : Nat) (l : List UInt8) (most : Int) (w : World) (hd : DecIs w g l 0) (hm : most ≤ 9223372036854775807) :
    Calls Tryd.prog 78 #[.pointer (some ⟨g, 0, none⟩), .int .i64 most] w (DecRet g (tkI l most.toNat).1 (tkI l most.toNat).2.1 (.int .i64 ((tkI l most.toNat).2.2 : Nat)) w) := by
  have hU := decU_any g l w hd
  have hbd := Wm.tk_bound l 0 true (by omega)
  have hbad := tk_bad l 0 true
  unfold tkI
  clear hd
  generalize tk l 0 true = t at *
  obtain ⟨r, e, v⟩ := t
  simp only at hU hbd hbad ⊢
  by_cases hbig : most.toNat < v
  · rw [if_pos hbig]
    have he : e = 0 := by
      rcases Nat.eq_zero_or_pos e with h | h
      · exact h
      · have := hbad (by omega); omega
    subst he
    clear hbad
    by_cases hneg : most < 0
    all_goals
      have hv0 : 0 < v := by omega
      go_enter Tryd.func78, Tryd.ntmps78
      go_wp2_with fail
      refine hU.mono ?_
      rintro x w1 ⟨rfl, hd1, hg⟩
      have hF := dfail_any g 11 r 0 w1 hd1
      rw [if_pos rfl] at hF
      clear hd1 hU
      go_wp2_with fail
      refine hF.mono ?_
      rintro x w2 ⟨rfl, hd2, hg2⟩
      have H2 := Lib.hid hd2; clear hd2 hF
      go_wp2
      go_ret
      exact ⟨rfl, H2.out, grownBy_trans hg hg2⟩
  · rw [if_neg hbig]
    have hle : v ≤ most.toNat := by omega
    clear hbad hbig
    by_cases hneg : most < 0
    · obtain rfl : v = 0 := by omega
      go_enter Tryd.func78, Tryd.ntmps78
      go_wp2_with fail
      refine hU.mono ?_
      rintro x w1 ⟨rfl, hd1, hg⟩
      have H1 := Lib.hid hd1; clear hd1 hU
      go_wp2
      go_ret
      exact ⟨rfl, H1.out, hg⟩
    · have hle2 : (v : Int) ≤ most := by omega
      go_enter Tryd.func78, Tryd.ntmps78
      go_wp2_with fail
      refine hU.mono ?_
      rintro x w1 ⟨rfl, hd1, hg⟩
      have H1 := Lib.hid hd1; clear hd1 hU
      go_wp2
      go_ret
      exact ⟨rfl, H1.out, hg⟩

/-- a truth -/
def tkB : List UInt8 → List UInt8 × Nat × Bool
  | [] => ([], 2, false)
  | b :: r => if 1 < b.toNat then (r, 3, false) else (r, 0, b == 1)

set_option maxHeartbeats 400000 in
theorem decS_bad (g : Nat) (l : List UInt8) (e : Nat) (h0 : e ≠ 0) (most : Int) (w : World) (hd : DecIs w g l e) (hm : most ≤ 9223372036854775807) :
    Calls Tryd.prog 77 #[.pointer (some ⟨g, 0, none⟩), .int .i64 most] w (DecRet g l e (.string ⟨#[]⟩) w) := by
  have hN := decI_bad g l e h0 most w hd hm
  have ht : ((e : Int) != 0) = true := by rw [bne_iff_ne]; omega
  have H0 := Lib.hid h0; clear h0 hd
  have hz : ¬ (⟨l.toArray⟩ : ByteArray).size < 0 := by omega
  generalize hs : (⟨l.toArray⟩ : ByteArray) = s at *
  have HS := Lib.hid hs; clear hs
  go_enter Tryd.func77, Tryd.ntmps77
  go_wp2_with fail
  refine hN.mono ?_
  rintro x w1 ⟨rfl, hd1, hg⟩
  have hk0 : w1.cell? ⟨g, 0, none⟩ = some (.string s) := by have h : w1.cell? ⟨g, 0, none⟩ = some (.string ⟨l.toArray⟩) := At.cell hd1 0; rw [← HS.out]; exact h
  have hk1 : w1.cell? ⟨g, 1, none⟩ = some (.int .i64 (e : Nat)) := At.cell hd1 1
  have H1 := Lib.hid hd1; clear hd1 hN
  go_wp2
  go_ret
  exact ⟨rfl, H1.out, hg⟩

theorem list_of_string {l : List UInt8} {s : ByteArray} (h : (⟨l.toArray⟩ : ByteArray) = s) : s.size = l.length ∧ s.data.toList = l := by
  subst h
  simp [ByteArray.size]

set_option maxHeartbeats 400000 in
theorem decS_any (g : Nat) (l : List UInt8) (most : Int) (w : World) (hd : DecIs w g l 0) (hm : most ≤ 9223372036854775807) (hl : l.length ≤ 140737488355328) :
    Calls Tryd.prog 77 #[.pointer (some ⟨g, 0, none⟩), .int .i64 most] w (DecRet g (tkS l most.toNat).1 (tkS l most.toNat).2.1 (.string ⟨(tkS l most.toNat).2.2.toArray⟩) w) := by
  have hI := decI_any g l most w hd hm
  have hbad := tkI_bad l most.toNat
  have hmost := tkI_most l most.toNat
  have hlen := tkI_len l most.toNat
  unfold tkS
  clear hd
  generalize tkI l most.toNat = t at *
  obtain ⟨r, e, n⟩ := t
  simp only at hI hbad hmost hlen ⊢
  generalize hs : (⟨r.toArray⟩ : ByteArray) = s at *
  obtain ⟨hsz, hsl⟩ := list_of_string hs
  by_cases he : e ≠ 0
  · rw [if_pos he]
    obtain rfl : n = 0 := hbad he
    have ht : ((e : Int) != 0) = true := by rw [bne_iff_ne]; omega
    have hz : ¬ s.size < 0 := by omega
    have HS := Lib.hid hs; clear hs
    clear hbad hsz hsl
    have H0 := Lib.hid he; clear he
    go_enter Tryd.func77, Tryd.ntmps77
    go_wp2_with fail
    refine hI.mono ?_
    rintro x w1 ⟨rfl, hd1, hg⟩
    have hk0 : w1.cell? ⟨g, 0, none⟩ = some (.string s) := by have h : w1.cell? ⟨g, 0, none⟩ = some (.string ⟨r.toArray⟩) := At.cell hd1 0; rw [← HS.out]; exact h
    have hk1 : w1.cell? ⟨g, 1, none⟩ = some (.int .i64 (e : Nat)) := At.cell hd1 1
    have H1 := Lib.hid hd1; clear hd1 hI
    go_wp2
    go_ret
    exact ⟨rfl, H1.out, hg⟩
  · obtain rfl : e = 0 := by omega
    rw [if_neg he]
    clear hbad he
    by_cases hcut : r.length < n
    · rw [if_pos hcut]
      have hlt : s.size < n := by omega
      have HS := Lib.hid hs; clear hs
      have HZ := Lib.hid hsz; clear hsz hsl hcut
      go_enter Tryd.func77, Tryd.ntmps77
      go_wp2_with fail
      refine hI.mono ?_
      rintro x w1 ⟨rfl, hd1, hg⟩
      have hk0 : w1.cell? ⟨g, 0, none⟩ = some (.string s) := by have h : w1.cell? ⟨g, 0, none⟩ = some (.string ⟨r.toArray⟩) := At.cell hd1 0; rw [← HS.out]; exact h
      have hF := dfail_any g 2 r 0 w1 hd1
      rw [if_pos rfl] at hF
      clear hd1 hI
      go_wp2_with fail
      refine hF.mono ?_
      rintro x w2 ⟨rfl, hd2, hg2⟩
      have hk1 : w2.cell? ⟨g, 1, none⟩ = some (.int .i64 ((2 : Nat) : Nat)) := At.cell hd2 1
      have H2 := Lib.hid hd2; clear hd2 hF hk0
      go_wp2
      go_ret
      exact ⟨rfl, H2.out, grownBy_trans hg hg2⟩
    · rw [if_neg hcut]
      have hle : n ≤ s.size := by omega
      have e1 : Hid (s.extract 0 n = ⟨(r.take n).toArray⟩) := Lib.hid (by apply ByteArray.ext; apply Array.toList_inj.1; rw [Lib.extract_data, hsl]; simp)
      have e2 : Hid (s.extract n s.size = ⟨(r.drop n).toArray⟩) := Lib.hid (by apply ByteArray.ext; apply Array.toList_inj.1; rw [Lib.extract_data, hsl, hsz, List.take_of_length_le (by simp)])
      have hbd : s.size ≤ 140737488355328 := by omega
      have HS := Lib.hid hs; clear hs
      have HZ := Lib.hid hsz; clear hsz hsl hcut
      go_enter Tryd.func77, Tryd.ntmps77
      go_wp2_with fail
      refine hI.mono ?_
      rintro x w1 ⟨rfl, hd1, hg⟩
      have hk0 : w1.cell? ⟨g, 0, none⟩ = some (.string s) := by have h : w1.cell? ⟨g, 0, none⟩ = some (.string ⟨r.toArray⟩) := At.cell hd1 0; rw [← HS.out]; exact h
      have hk1 : w1.cell? ⟨g, 1, none⟩ = some (.int .i64 ((0 : Nat) : Nat)) := At.cell hd1 1
      have hf0 : w1.frozen? ⟨g, 0, none⟩ = false := At.frozen hd1 0
      have H1 := Lib.hid hd1; clear hd1 hI
      have hS : Hid (DecIs (w1.setCell ⟨g, 0, none⟩ (.string (s.extract n s.size))) g (r.drop n) 0) := Lib.hid (by rw [e2.out]; exact At.set H1.out 0 _)
      have hgs := grownBy_set hg 0 (.string (s.extract n s.size))
      have hxs : (s.extract 0 n).size ≤ 140737488355328 := by rw [ByteArray.size_extract]; omega
      go_wp2_with fail
      refine (clone_any _ _ hxs).mono ?_
      rintro x w2 ⟨rfl, hb2⟩
      have hn := grownBy_of_below (row := none) hb2 rfl
      have hn2 := grownBy_of_below (row := some g) hb2 rfl
      clear hb2 hk0 hk1 hf0
      go_wp2
      go_ret
      exact ⟨by rw [← e1.out]; rfl, At.grown hS.out hn (by simp), grownBy_trans hgs hn2⟩

end Go.Proofs.YtniecodpdmjppaaDoor
