/- (*Dec).List: its walk. -/
import Derived.Test.YtfapnblajcfjfaaDs
import Derived.Test.YtfapnblajcfjfaaIn
namespace Go.Proofs.Ytfapnblajcfjfaa
open Go.RowKit
open Wm (tk)

/-- k whole numbers of at most each, behind acc: what is left, the error, the list -/
def tkInts (each : Nat) : Nat → List UInt8 → List Int → List UInt8 × Nat × List Int
  | 0, l, acc => (l, 0, acc)
  | k + 1, l, acc => if (tkI l each).2.1 ≠ 0 then ((tkI l each).1, (tkI l each).2.1, []) else tkInts each k (tkI l each).1 (acc ++ [((tkI l each).2.2 : Int)])
def tkList (l : List UInt8) (most each : Nat) : List UInt8 × Nat × List Int :=
  if (tkI l most).2.1 ≠ 0 then ((tkI l most).1, (tkI l most).2.1, []) else tkInts each (tkI l most).2.2 (tkI l most).1 []

theorem info_int : (Try.prog.info? 3).map (fun i => (i.zero, i.size, i.bytes)) = some (some (.int .i64 0), 1, 8) := by kernel_rfl

/-- a list is handed back, in a slice of the call's own; the Dec in block g is as told; nothing else that was there has turned -/
def ListRet (g : Nat) (l : List UInt8) (e : Nat) (xs : List Int) (w : World) (x : Ending) (w' : World) : Prop :=
  ∃ A c, x = .returned (.slice A xs.length c) ∧ Lies w' w'.heap.size A (ints xs) ∧ (∀ ad, A = some ad → w.heap.size ≤ ad.block) ∧ DecIs w' g l e ∧ w.grownBy w' (some g)

theorem own_ints {w : World} {B n : Nat} {v : Value} {xs : List Int} (h : w.ownsRow B 3 1 v n (ints xs)) : ∃ A c, v = .slice A xs.length c ∧ Lies w w.heap.size A (ints xs) ∧ ∀ ad, A = some ad → B ≤ ad.block := by
  have hn : n = xs.length := by have := h.1; simp [ints] at this; omega
  subst hn
  rcases h.2 with ⟨rfl, h0⟩ | ⟨g, cap, cur, rfl, hB, hg, _⟩
  · have : xs = [] := List.eq_nil_of_length_eq_zero h0
    subst this
    exact ⟨none, 0, rfl, Lies.nil, by simp⟩
  · refine ⟨some ⟨g, 0, none⟩, cap, rfl, fun j u hj => ⟨_, rfl, (h.lt g rfl).2, h.cells (g := g) rfl j u hj⟩, ?_⟩
    intro ad hA
    simp at hA
    subst hA
    exact hB

set_option maxRecDepth 100000 in
set_option maxHeartbeats 2000000 in
theorem decList_any (g : Nat) (l : List UInt8) (most each : Int) (w : World) (hd : DecIs w g l 0) (hm : most ≤ 1000000) (he : each ≤ 9223372036854775807) :
    Calls Try.prog 23 #[.pointer (some ⟨g, 0, none⟩), .int .i64 most, .int .i64 each] w (ListRet g (tkList l most.toNat each.toNat).1 (tkList l most.toNat each.toNat).2.1 (tkList l most.toNat each.toNat).2.2 w) := by
  obtain ⟨i0, hie, hz0, hz1, hz2⟩ := info_parts info_int
  have hI := decI_any g l most w hd (by omega)
  have hbad := tkI_bad l most.toNat
  have hmost := tkI_most l most.toNat
  have hgl : g < w.heap.size := At.lt hd
  unfold tkList
  clear hd
  generalize tkI l most.toNat = t at *
  obtain ⟨r, e, n⟩ := t
  simp only at hI hbad hmost ⊢
  by_cases he0 : e ≠ 0
  · rw [if_pos he0]
    obtain rfl : n = 0 := hbad he0
    clear hbad
    have H0 := Lib.hid he0; clear he0
    go_enter Try.func23, Try.ntmps23
    go_wp2_with fail
    refine hI.mono ?_
    rintro x w1 ⟨rfl, hd1, hg⟩
    have H1 := Lib.hid hd1; clear hd1 hI
    go_wp2
    refine wp_loop_rounds 1 ?_
    rw [rounds_succ]
    go_wp2
    go_ret
    exact ⟨none, 0, rfl, Lies.nil, by simp, H1.out, hg⟩
  · obtain rfl : e = 0 := by omega
    rw [if_neg he0]
    clear hbad he0
    go_enter Try.func23, Try.ntmps23
    go_wp2_with fail
    refine hI.mono ?_
    rintro x w1 ⟨rfl, hd1, hg⟩
    have hs1 := hg.size
    have H1 := Lib.hid hd1; clear hd1 hI
    have HG := Lib.hid hg; clear hg
    go_wp2
    go_loopw [8, 14] (fun v i wr => ∃ (k : Nat) (r' : List UInt8) (acc : List Int), k ≤ n ∧ i = .int .i64 (k : Int) ∧ acc.length = k ∧ Hid (wr.ownsRow w.heap.size 3 1 v acc.length (ints acc)) ∧ Hid (DecIs wr g r' 0) ∧ Hid (tkInts each.toNat (n - k) r' acc = tkInts each.toNat n r []) ∧ Hid (w.grownBy wr (some g)))
      (fun _ i _ => n - (intOf i).toNat)
    case atStart => exact ⟨0, r, [], by omega, rfl, rfl, Lib.hid (World.ownsRow_nil _ _ _ _), H1, Lib.hid rfl, HG⟩
    case round =>
      obtain ⟨k, r', acc, hk, rfl, hacc, HO, HD, HT, HGr⟩ := hrel
      have hsr := HGr.out.size
      by_cases hlt : k < n
      · have hI := decI_any g r' each wr HD.out he
        have hT := HT.out
        have hnk : n - k = (n - (k + 1)) + 1 := by omega
        rw [hnk, tkInts] at hT
        clear hnk
        have hgr : g < wr.heap.size := At.lt HD.out
        generalize tkI r' each.toNat = t at *
        obtain ⟨r2, e2, v2⟩ := t
        simp only at hI hT
        have HA := Lib.hid hacc
        by_cases he2 : e2 ≠ 0
        · rw [if_pos he2] at hT
          have HT2 := Lib.hid hT; clear hT
          have ht : ((e2 : Int) != 0) = true := by rw [bne_iff_ne]; omega
          have H2 := Lib.hid he2; clear he2 hacc
          go_wp2_with fail
          refine hI.mono ?_
          rintro x w2 ⟨rfl, hd2, hg2⟩
          have hk1 : w2.cell? ⟨g, 1, none⟩ = some (.int .i64 (e2 : Nat)) := At.cell hd2 1
          have H3 := Lib.hid hd2; clear hd2 hI
          go_wp2
          go_ret
          rw [← HT2.out]
          exact ⟨none, 0, rfl, Lies.nil, by simp, H3.out, grownBy_trans HGr.out hg2⟩
        · obtain rfl : e2 = 0 := by omega
          rw [if_neg he2] at hT
          have HT2 := Lib.hid hT; clear hT he2
          have hal : acc.length ≤ k := by omega
          clear hacc
          go_wp2_with fail
          refine hI.mono ?_
          rintro x w2 ⟨rfl, hd2, hg2⟩
          have hk1 : w2.cell? ⟨g, 1, none⟩ = some (.int .i64 ((0 : Nat) : Nat)) := At.cell hd2 1
          have hs2 := hg2.size
          have HO2 : Hid (w2.ownsRow w.heap.size 3 1 u8 acc.length (ints acc)) := Lib.hid (HO.out.kept hg2 (by
            rcases HO.out.2 with ⟨rfl, _⟩ | ⟨gr, cap, cur, rfl, hb, _⟩
            · exact .inl rfl
            · right; simp [Value.ownBlock]; omega))
          have H3 := Lib.hid hd2; clear hd2 hI HO HD
          have HG3 := Lib.hid (grownBy_trans HGr.out hg2); clear hg2 HGr
          go_wp2_with (at_builtin; refine wpList_append_own _ rfl _ _ 29 rfl w.heap.size 3 i0 (.int .i64 0) 1 8 Try.underlying29 hie hz0 hz1 hz2 rfl (by decide) _ _ _ rfl (HO2.out.alloc _) ⟨w2.heap.size, 0, none⟩ 1 1 [.int .i64 (v2 : Nat)] rfl rfl ?c1 ?c2 ?c3 ?c4 ?c5 ?_)
          case c1 => exact cell_one_new _ _ _
          case c2 => intro u hu; simp at hu; subst hu; rfl
          case c3 => unfold maxLen; omega
          case c4 => omega
          case c5 => simp; omega
          intro v' w3 hown' hgrow _
          have R1 : Hid (w3.ownsRow w.heap.size 3 1 v' (acc ++ [(v2 : Int)]).length (ints (acc ++ [(v2 : Int)]))) := Lib.hid (by
            rw [List.length_append]
            unfold ints at hown' ⊢
            rw [List.map_append]
            exact hown')
          have hob : ∀ kb, u8.ownBlock = some kb → w.heap.size ≤ kb := fun kb hkb => (HO2.out.lt kb hkb).1
          have R2 : Hid (DecIs w3 g r2 0) := Lib.hid (At.grown (At.alloc H3.out _) hgrow (by
            intro e
            have := hob g e.symm
            omega))
          have R3 : Hid (w.grownBy w3 (some g)) := Lib.hid ⟨hgrow.os.trans HG3.out.os, hgrow.tape.trans HG3.out.tape, hgrow.output.trans HG3.out.output, by have := hgrow.size; simp at this; omega, fun kb hkb hne => by
            have h1 := hgrow.block kb (by simp; omega) (by
              intro e
              have := hob kb e.symm
              omega)
            exact h1.trans ((Below.heap_alloc w2 _ kb (by omega)).trans (HG3.out.block kb hkb hne))⟩
          have HT3 : Hid (tkInts each.toNat (n - (k + 1)) r2 (acc ++ [(v2 : Int)]) = tkInts each.toNat n r []) := HT2
          clear hown' hgrow HO2 H3 HG3 hk1 hob
          go_wp2
          go_roundw
          case rel => exact ⟨k + 1, r2, acc ++ [(v2 : Int)], by omega, by go_num, by rw [List.length_append, HA.out]; rfl, R1, R2, HT3, R3⟩
          case measure => simp [intOf]; omega
      · obtain rfl : k = n := by omega
        have hT := HT.out
        rw [Nat.sub_self, tkInts] at hT
        have HT2 := Lib.hid hT; clear hT
        clear hacc
        obtain ⟨A, c, rfl, hL, hA⟩ := own_ints HO.out
        have HL := Lib.hid hL; clear hL
        go_wp2
        go_ret
        rw [← HT2.out]
        exact ⟨A, c, rfl, HL.out, hA, HD.out, HGr.out⟩
end Go.Proofs.Ytfapnblajcfjfaa
