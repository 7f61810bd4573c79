/- glacierlaw01.put: its walk. -/
import Derived.Test.YtfapnblajcfjfaaRf
import Derived.Test.YtfapnblajcfjfaaCu
import Derived.Test.YtfapnblajcfjfaaAw
namespace Go.Proofs.Ytfapnblajcfjfaa
open Go.RowKit
open Wm (num)

/-- a thing, as it is written -/
structure Th where
  K : Int
  N : Int
  M : Int
  U : Nat
  I : Bool
  S : ByteArray
  A : Option Addr
  L : List Int
  c : Nat

def Th.val (t : Th) : Value := .agg #[.int .i64 t.K, .int .i64 t.N, .int .i64 t.M, .int .u64 (t.U : Nat), .bool t.I, .string t.S, .slice t.A t.L.length t.c]
/-- its cells -/
def Th.cells (t : Th) : List Value := [.int .i64 t.K, .int .i64 t.N, .int .i64 t.M, .int .u64 (t.U : Nat), .bool t.I, .string t.S, .slice t.A t.L.length t.c]
/-- it can be read in w -/
def Th.ok (w : World) (B : Nat) (t : Th) : Prop := t.N ≤ 9223372036854775807 ∧ t.U < 18446744073709551616 ∧ (∀ n ∈ t.L.take 20, n ≤ 9223372036854775807) ∧ t.L.length ≤ t.c ∧ Lies w B t.A (ints (t.L.take 20))
def Th.bytes (t : Th) : List UInt8 :=
  if t.K = 1 then num t.U else if t.K = 2 then num t.N.toNat else if t.K = 3 then [flag t.I] else if t.K = 4 then text (cutTo t.S 200)
  else if t.K = 5 then num (t.L.take 20).length ++ nums (t.L.take 20) else []

theorem Th.ok.keep {w w' : World} {B : Nat} {t : Th} (h : t.ok w B) (hL : ∀ A xs, Lies w B A xs → Lies w' B A xs) : t.ok w' B := ⟨h.1, h.2.1, h.2.2.1, h.2.2.2.1, hL _ _ h.2.2.2.2⟩

/-- what 'put' leaves -/
def PutRet (g : Nat) (bs l : List UInt8) (w : World) (e : Ending) (w' : World) : Prop := e = .returned (.string ⟨l.toArray⟩) ∧ EncIs w' g (bs ++ l) ∧ w.grownBy w' (some g)

theorem PutRet.mk' {g : Nat} {bs l : List UInt8} {w W0 W1 W2 : World} {o : Obj} (h0 : w.grownBy W0 (some g)) (hg : (W0.alloc o).grownBy W1 (some g)) (hi : EncIs W1 g (bs ++ l)) (hb : Below W1.heap.size W1 W2) : EncIs W2 g (bs ++ l) ∧ w.grownBy W2 (some g) :=
  ⟨hi.below hb rfl, grownBy_trans (grownBy_trans (grownBy_trans h0 (World.grownBy_alloc _ _ _)) hg) (grownBy_of_below hb rfl)⟩

set_option maxRecDepth 100000 in
set_option maxHeartbeats 4000000 in
theorem put_any (g : Nat) (bs : List UInt8) (t : Th) (w : World) (he : EncIs w g bs) (ht : t.ok w g) (hlen : bs.length ≤ 1000000) :
    Calls Try.prog 8 #[.pointer (some ⟨g, 0, none⟩), t.val] w (PutRet g bs t.bytes w) := by
  obtain ⟨K, N, M, U, I, S, A, L, c⟩ := t
  obtain ⟨hN, hU, hL, hc, hLies⟩ := ht
  simp only at hN hU hL hc hLies
  unfold Th.val Th.bytes
  simp only
  have hgl := he.lt
  have hW0 : ∃ W0, W0 = w.alloc (.cells #[.int .i64 K, .int .i64 N, .int .i64 M, .int .u64 (U : Nat), .bool I, .string S, .slice A L.length c] 31) := ⟨_, rfl⟩
  obtain ⟨W0, hW0⟩ := hW0
  have he1 : EncIs W0 g bs := by rw [hW0]; exact he.alloc _
  have hL1 : Lies W0 g A (ints (L.take 20)) := by rw [hW0]; exact hLies.below (((Below.refl w.heap.size w).alloc (Nat.le_refl _) _).mono (by omega))
  have hT : At W0 w.heap.size 31 #[.int .i64 K, .int .i64 N, .int .i64 M, .int .u64 (U : Nat), .bool I, .string S, .slice A L.length c] := by rw [hW0]; exact At.new _ _ _
  have hg0 : w.grownBy W0 (some g) := by rw [hW0]; exact World.grownBy_alloc _ _ _
  have hz : W0.heap.size = w.heap.size + 1 := by rw [hW0]; simp
  have HZ := Lib.hid hz; clear hz
  have HE := Lib.hid he1; clear he1
  have HLi := Lib.hid hL1; clear hL1
  have HT := Lib.hid hT; clear hT
  have HL := Lib.hid hL; clear hL
  have HW := Lib.hid hW0; clear hW0
  have hne : w.heap.size ≠ g := by omega
  have HNE := Lib.hid hne; clear hne
  clear he hLies
  by_cases h1 : K = 1
  · subst h1
    rw [if_pos rfl]
    go_enter Try.func8, Try.ntmps8
    go_wp2_with fail
    rw [← HW.out]
    have eu : bs ++ unums [U] = bs ++ num U := by simp [unums]
    have hE := encU_any g bs [U] (by simpa using hU) _ 1 _ (HE.out.alloc (.cells #[.int .u64 (U : Nat)] 23)) (Lies.new W0 23 #[.int .u64 (U : Nat)] _ _ HZ.out.symm rfl) (by simp; omega)
    rw [eu] at hE
    clear eu
    refine hE.mono ?_
    rintro x W1 ⟨rfl, hi, hg⟩
    have hk : W1.cell? ⟨w.heap.size, 3, none⟩ = some (.int .u64 (U : Nat)) := ((HT.out.alloc _).grown hg (by simpa using HNE.out)).cell 3
    have hR := refU_any U (by omega) W1
    clear hE
    go_wp2_with fail
    refine hR.mono ?_
    rintro x W2 ⟨rfl, hb⟩
    have R := PutRet.mk' hg0 hg hi hb
    clear hR hk hg hi hb hg0
    go_wp2
    go_ret
    exact ⟨rfl, R.1, R.2⟩
  rw [if_neg h1]
  have t1 : (K == 1) = false := beq_eq_false_iff_ne.2 h1
  by_cases h2 : K = 2
  · subst h2
    rw [if_pos rfl]
    clear t1 h1
    go_enter Try.func8, Try.ntmps8
    go_wp2_with fail
    rw [← HW.out]
    have eu : bs ++ nums [N] = bs ++ num N.toNat := by simp [nums]
    have hE := encI_any g bs [N] (by simpa using hN) _ 1 _ (HE.out.alloc (.cells #[.int .i64 N] 3)) (Lies.new W0 3 #[.int .i64 N] _ _ HZ.out.symm rfl) (by simp; omega)
    rw [eu] at hE
    clear eu
    refine hE.mono ?_
    rintro x W1 ⟨rfl, hi, hg⟩
    have hk : W1.cell? ⟨w.heap.size, 1, none⟩ = some (.int .i64 N) := ((HT.out.alloc _).grown hg (by simpa using HNE.out)).cell 1
    have hR := refI_any N hN W1
    clear hE
    go_wp2_with fail
    refine hR.mono ?_
    rintro x W2 ⟨rfl, hb⟩
    have R := PutRet.mk' hg0 hg hi hb
    clear hR hk hg hi hb hg0
    go_wp2
    go_ret
    exact ⟨rfl, R.1, R.2⟩
  rw [if_neg h2]
  have t2 : (K == 2) = false := beq_eq_false_iff_ne.2 h2
  by_cases h3 : K = 3
  · subst h3
    rw [if_pos rfl]
    clear t1 h1 t2 h2
    go_enter Try.func8, Try.ntmps8
    go_wp2_with fail
    rw [← HW.out]
    have eu : bs ++ flags [I] = bs ++ [flag I] := by simp [flags]
    have hE := encB_any g bs [I] _ 1 _ (HE.out.alloc (.cells #[.bool I] 4)) (Lies.new W0 4 #[.bool I] _ _ HZ.out.symm rfl) (by simp; omega)
    rw [eu] at hE
    clear eu
    refine hE.mono ?_
    rintro x W1 ⟨rfl, hi, hg⟩
    have hk : W1.cell? ⟨w.heap.size, 4, none⟩ = some (.bool I) := ((HT.out.alloc _).grown hg (by simpa using HNE.out)).cell 4
    have hR := refB_any I W1
    clear hE
    go_wp2_with fail
    refine hR.mono ?_
    rintro x W2 ⟨rfl, rfl⟩
    have R := PutRet.mk' hg0 hg hi (Below.refl _ _)
    clear hR hk hg hi hg0
    go_wp2
    go_ret
    exact ⟨rfl, R.1, R.2⟩
  rw [if_neg h3]
  have t3 : (K == 3) = false := beq_eq_false_iff_ne.2 h3
  by_cases h4 : K = 4
  · subst h4
    rw [if_pos rfl]
    clear t1 h1 t2 h2 t3 h3
    have hC := fun W => cut_any S 200 W
    have hle := cutTo_le S 200
    generalize cutTo S 200 = X at *
    go_enter Try.func8, Try.ntmps8
    go_wp2_with fail
    rw [← HW.out]
    refine (hC _).mono ?_
    rintro x W' ⟨rfl, rfl⟩
    go_wp2_with fail
    have eu : bs ++ texts [X] = bs ++ text X := by simp [texts]
    have hxl : (text X).length ≤ 210 := by unfold text; rw [List.length_append, size_list]; have := Wm.num_len X.size (by omega); omega
    have hg4 : w.heap.size + 1 = W0.heap.size := HZ.out.symm
    rw [← hg4]
    have hE := encS_any g bs [X] _ 1 _ (HE.out.alloc (.cells #[.string X] 9)) (Lies.new W0 9 #[.string X] _ (w.heap.size + 1) hg4 rfl) (by simp [texts]; omega)
    rw [eu] at hE
    clear eu hg4
    refine hE.mono ?_
    rintro x W1 ⟨rfl, hi, hg⟩
    have hk : W1.cell? ⟨w.heap.size, 5, none⟩ = some (.string S) := ((HT.out.alloc _).grown hg (by simpa using HNE.out)).cell 5
    clear hE
    go_wp2_with fail
    refine (hC _).mono ?_
    rintro x W' ⟨rfl, rfl⟩
    have hR := refS_any X (by omega) W1
    go_wp2_with fail
    refine hR.mono ?_
    rintro x W2 ⟨rfl, hb⟩
    have R := PutRet.mk' hg0 hg hi hb
    clear hR hk hg hi hb hg0
    go_wp2
    go_ret
    exact ⟨rfl, R.1, R.2⟩
  rw [if_neg h4]
  have t4 : (K == 4) = false := beq_eq_false_iff_ne.2 h4
  by_cases h5 : K = 5
  · subst h5
    rw [if_pos rfl]
    clear t1 h1 t2 h2 t3 h3 t4 h4
    by_cases h20 : 20 < L.length
    · have hl20 : (L.take 20).length = 20 := by rw [List.length_take]; omega
      have hE := encList_any g bs (L.take 20) HL.out A c W0 HE.out (HLi.out.more (by have := HZ.out; omega)) (by rw [hl20]; omega)
      have hR := fun W h => refList_any (L.take 20) HL.out (by rw [hl20]; omega) A c W h
      have hLk : ∀ W1, W0.grownBy W1 (some g) → Lies W1 W1.heap.size A (ints (L.take 20)) := fun W1 hg => (HLi.out.grown hg (by have := HZ.out; omega) (Nat.le_refl _)).more (by have := hg.size; have := HZ.out; omega)
      generalize L.take 20 = L' at *
      rw [hl20] at hE hR ⊢
      have HL20 := Lib.hid hl20; clear hl20
      have HLk := Lib.hid hLk; clear hLk
      go_enter Try.func8, Try.ntmps8
      go_wp2_with fail
      rw [← HW.out]
      refine hE.mono ?_
      rintro x W1 ⟨rfl, hi, hg⟩
      have hR1 := hR W1 (HLk.out W1 hg)
      clear hE hR
      go_wp2_with fail
      refine hR1.mono ?_
      rintro x W2 ⟨rfl, hb⟩
      have R1 := hi.below hb rfl
      have R2 := grownBy_trans (grownBy_trans hg0 hg) (grownBy_of_below hb rfl)
      clear hR1 hg hi hb hg0
      go_wp2
      go_ret
      exact ⟨rfl, R1, R2⟩
    · have hl20 : (L.take 20).length = L.length := by rw [List.length_take]; omega
      have hE := encList_any g bs (L.take 20) HL.out A c W0 HE.out (HLi.out.more (by have := HZ.out; omega)) (by rw [hl20]; omega)
      have hR := fun W h => refList_any (L.take 20) HL.out (by rw [hl20]; omega) A c W h
      have hLk : ∀ W1, W0.grownBy W1 (some g) → Lies W1 W1.heap.size A (ints (L.take 20)) := fun W1 hg => (HLi.out.grown hg (by have := HZ.out; omega) (Nat.le_refl _)).more (by have := hg.size; have := HZ.out; omega)
      generalize L.take 20 = L' at *
      rw [hl20] at hE hR ⊢
      have HL20 := Lib.hid hl20; clear hl20
      have HLk := Lib.hid hLk; clear hLk
      go_enter Try.func8, Try.ntmps8
      go_wp2_with fail
      rw [← HW.out]
      refine hE.mono ?_
      rintro x W1 ⟨rfl, hi, hg⟩
      have hR1 := hR W1 (HLk.out W1 hg)
      clear hE hR
      go_wp2_with fail
      refine hR1.mono ?_
      rintro x W2 ⟨rfl, hb⟩
      have R1 := hi.below hb rfl
      have R2 := grownBy_trans (grownBy_trans hg0 hg) (grownBy_of_below hb rfl)
      clear hR1 hg hi hb hg0
      go_wp2
      go_ret
      exact ⟨rfl, R1, R2⟩
  rw [if_neg h5]
  have t5 : (K == 5) = false := beq_eq_false_iff_ne.2 h5
  clear h1 h2 h3 h4 h5
  go_enter Try.func8, Try.ntmps8
  go_wp2
  go_ret
  rw [← HW.out]
  exact ⟨rfl, by rw [List.append_nil]; exact HE.out, hg0⟩
end Go.Proofs.Ytfapnblajcfjfaa
