/- glacierref02.Scan, glacierlaw02.Same: their walks. -/
import Derived.Test.YtjpdfedebemjfaaDoorR3
import Derived.Test.YtjpdfedebemjfaaDoorSc
import Derived.BigQuiet
namespace Go.Proofs.YtjpdfedebemjfaaDoor
open Go.RowKit
open Sm

set_option maxRecDepth 100000 in
set_option maxHeartbeats 2000000 in
theorem refScan_any (s : ByteArray) (hs : s.size ≤ 1000) (w : World) : Calls Tryd.prog 13 #[.string s] w (ScanRet (scanL s.data.toList) w) := by
  obtain ⟨i0, hie, hz0, hz1, hz2⟩ := info_parts info_str
  go_enter Tryd.func13, Tryd.ntmps13
  go_wp2
  go_loopw [4, 5, 6] (fun v a tt wr => ∃ (k j : Nat) (acc : List (List UInt8)), k ≤ s.size ∧ acc.length ≤ k ∧ a = .int .i64 (k : Int) ∧ tt = .int .i64 (j : Int) ∧ 8 * j ≤ k ∧ Hid (wr.ownsRow w.heap.size 9 1 v acc.length (parts acc)) ∧ Hid (Below w.heap.size w wr) ∧
      Hid (acc ++ (scanL (s.data.toList.drop k)).1 = (scanL s.data.toList).1) ∧ Hid (k + (scanL (s.data.toList.drop k)).2 = (scanL s.data.toList).2))
    (fun _ a _ _ => s.size - (intOf a).toNat)
  case atStart => exact ⟨0, 0, [], by omega, by simp, rfl, rfl, by omega, Lib.hid (World.ownsRow_made w #[] 0 (Nat.le_refl _) (by unfold maxLen; omega) rfl), Lib.hid ((Below.refl _ w).alloc (Nat.le_refl _) _), Lib.hid (by simp), Lib.hid (by simp)⟩
  case round =>
    obtain ⟨k, j, acc, hk, hak, rfl, rfl, hj, HO, HB, H1, H2⟩ := hrel
    have hjs : (j : Int) ≤ (s.size : Int) := by omega
    obtain ⟨sr, hsr⟩ : ∃ x, s.extract k s.size = x := ⟨_, rfl⟩
    have lr : sr.data.toList = s.data.toList.drop k := by rw [← hsr, Lib.extract_data, List.take_of_length_le (by simp)]
    have zr : sr.size ≤ 1000 := by rw [← size_list, lr, List.length_drop, size_list]; omega
    have zr2 : sr.size + k = s.size := by rw [← size_list, lr, List.length_drop, size_list]; omega
    have hO := refOpen_any sr (by omega) wr
    rw [lr] at hO
    have hok := fun h => openL_ok (l := s.data.toList.drop k) h
    have hst := fun h => scanL_stop (l := s.data.toList.drop k) h
    have hgo := fun h => scanL_go (l := s.data.toList.drop k) h
    have hrl : (s.data.toList.drop k).length = sr.size := by rw [← lr, size_list]
    rw [hrl] at hok
    clear lr hrl
    have hds := HB.out.size
    generalize openL (s.data.toList.drop k) = t at *
    obtain ⟨x, n, e⟩ := t
    simp only at hO hok hst hgo
    unfold OpenRet at hO
    simp only at hO
    have HR := Lib.hid hsr
    by_cases he : e ≠ 0
    · have hst1 := hst he
      have HST := Lib.hid hst1; clear hst1
      have ht : ((e : Int) != 0) = true := by rw [bne_iff_ne]; omega
      clear hok hst hgo he zr2
      go_wp2_with fail
      refine hO.mono ?_
      rintro z w1 ⟨rfl, hb⟩
      have B2 := Lib.hid (HB.out.trans (hb.mono hds))
      have O2 := Lib.hid (HO.out.kept (grownBy_of_below (row := none) hb rfl) (by
        rcases HO.out.2 with ⟨rfl, _⟩ | ⟨g, c, cur, rfl, _⟩
        · exact .inl rfl
        · exact .inr (by simp [Value.ownBlock])))
      clear hO hb HO HB
      have e1 : (scanL s.data.toList).1 = acc := by rw [← H1.out, HST.out]; simp
      have e2 : (scanL s.data.toList).2 = k := by rw [← H2.out, HST.out]; rfl
      have E1 := Lib.hid e1; clear e1
      have E2 := Lib.hid e2; clear e2
      obtain ⟨A, c, rfl, hL, hA⟩ := own_parts O2.out
      have HL := Lib.hid hL; clear hL
      go_wp2
      go_ret2
      unfold ScanRet
      rw [E1.out, E2.out]
      exact ⟨A, c, rfl, HL.out, hA, B2.out⟩
    · obtain ⟨h8, hle⟩ := hok he
      have hgo1 := hgo he
      have HGO := Lib.hid hgo1; clear hgo1
      obtain rfl : e = 0 := by omega
      clear hok hst hgo he
      obtain ⟨sx, hsx⟩ : ∃ s, (⟨x.toArray⟩ : ByteArray) = s := ⟨_, rfl⟩
      rw [hsx] at hO
      have HX := Lib.hid hsx; clear hsx
      go_wp2_with fail
      refine hO.mono ?_
      rintro z w1 ⟨rfl, hb⟩
      have hb1 := hb.size
      have B2 := Lib.hid (HB.out.trans (hb.mono hds))
      have O2 := Lib.hid (HO.out.kept (grownBy_of_below (row := none) hb rfl) (by
        rcases HO.out.2 with ⟨rfl, _⟩ | ⟨g, c, cur, rfl, _⟩
        · exact .inl rfl
        · exact .inr (by simp [Value.ownBlock])))
      clear hO hb HO HB
      go_wp2_with (at_builtin; refine wpList_append_own _ rfl _ _ 28 rfl w.heap.size 9 i0 (.string ⟨#[]⟩) 1 16 Tryd.underlying28 hie hz0 hz1 hz2 rfl (by decide) _ _ _ rfl (O2.out.alloc _) ⟨w1.heap.size, 0, none⟩ 1 1 [.string sx] rfl rfl ?c1 ?c2 ?c3 ?c4 ?c5 ?_)
      case c1 => exact cell_one_new _ _ _
      case c2 => intro u hu; simp at hu; subst hu; rfl
      case c3 => unfold maxLen; omega
      case c4 => omega
      case c5 => simp; omega
      intro v' w3 hown' hgrow _
      have R1 : Hid (w3.ownsRow w.heap.size 9 1 v' (acc ++ [x]).length (parts (acc ++ [x]))) := Lib.hid (by
        rw [List.length_append]
        unfold parts at hown' ⊢
        rw [List.map_append, List.map_cons, HX.out]
        exact hown')
      have R2 : Hid (Below w.heap.size w w3) := Lib.hid ((B2.out.alloc B2.out.size _).grown hgrow (by have := B2.out.size; simp; omega) (fun k hk => (O2.out.lt k hk).1))
      have hdd : (s.data.toList.drop k).drop n = s.data.toList.drop (k + n) := by rw [List.drop_drop]
      have R3 : Hid ((acc ++ [x]) ++ (scanL (s.data.toList.drop (k + n))).1 = (scanL s.data.toList).1) := Lib.hid (by rw [← H1.out, HGO.out, hdd]; simp)
      have R4 : Hid (k + n + (scanL (s.data.toList.drop (k + n))).2 = (scanL s.data.toList).2) := Lib.hid (by rw [← H2.out, HGO.out, hdd, Nat.add_assoc])
      clear hown' hgrow O2 B2 hdd
      go_wp2
      go_roundw
      case rel => exact ⟨k + n, j + 1, acc ++ [x], by omega, by rw [List.length_append]; simp; omega, by go_num, by go_num, by omega, R1, R2, R3, R4⟩
      case measure => simp [intOf]; omega

set_option maxRecDepth 100000 in
set_option maxHeartbeats 2000000 in
/-- two lists of the same texts are the same -/
theorem same_any (xs : List (List UInt8)) (hx : xs.length ≤ 1000000000) (A B : Option Addr) (c d : Nat) (w : World) (hA : Lies w w.heap.size A (parts xs)) (hB : Lies w w.heap.size B (parts xs)) :
    Calls Tryd.prog 16 #[.slice A xs.length c, .slice B xs.length d] w fun e w' => e = .returned (.int .i64 0) ∧ Below w.heap.size w w' := by
  have HA := Lib.hid hA; clear hA
  have HB := Lib.hid hB; clear hB
  go_enter Tryd.func16, Tryd.ntmps16
  go_wp2
  go_loopw [13] (fun i wr => ∃ k : Nat, k ≤ xs.length ∧ i = .int .i64 (k : Int) ∧ Hid (Below w.heap.size w wr) ∧ Hid (Lies wr w.heap.size A (parts xs)) ∧ Hid (Lies wr w.heap.size B (parts xs)))
    (fun i _ => xs.length - (intOf i).toNat)
  case atStart => exact ⟨0, by omega, rfl, Lib.hid (Below.refl _ w), HA, HB⟩
  case round =>
    obtain ⟨k, hk, rfl, B4, LA, LB⟩ := hrel
    by_cases hlt : k < xs.length
    · have hp : k < (parts xs).length := by unfold parts; rw [List.length_map]; exact hlt
      obtain ⟨ad, rfl, hadB, hc⟩ := LA.out.round hp
      obtain ⟨ad2, rfl, hadB2, hc2⟩ := LB.out.round hp
      have hv : (parts xs)[k] = .string ⟨(xs[k]).toArray⟩ := by simp [parts]
      rw [hv] at hc hc2
      obtain ⟨y, hy⟩ : ∃ y : ByteArray, (⟨(xs[k]).toArray⟩ : ByteArray) = y := ⟨_, rfl⟩
      rw [hy] at hc hc2
      clear hv hy
      go_wp2
      go_quiet (fail)
      go_wp2
      go_roundw
      case rel => exact ⟨k + 1, by omega, by go_num, Lib.hid (below_drewN B4.out _), Lib.hid (fun j u hj => LA.out j u hj), Lib.hid (fun j u hj => LB.out j u hj)⟩
      case measure => simp [intOf]; omega
    · obtain rfl : k = xs.length := by omega
      go_wp2
      go_ret
      exact ⟨rfl, B4.out⟩
end Go.Proofs.YtjpdfedebemjfaaDoor
