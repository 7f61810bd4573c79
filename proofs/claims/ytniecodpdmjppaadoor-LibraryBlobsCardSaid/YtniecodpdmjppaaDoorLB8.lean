/- Lhe, Lhg, Lhd: merged (a claim holds few files). -/
import Derived.Test.YtniecodpdmjppaaDoorLB6
import Derived.Test.YtniecodpdmjppaaDoorLB7
import Derived.Test.YtniecodpdmjppaaDoorOb
import Derived.Test.YtniecodpdmjppaaDoorLB3
import Derived.Lib.RabinKarpLaws
import Derived.Test.YtniecodpdmjppaaDoorOp
import Derived.Test.YtniecodpdmjppaaDoorSy
import Derived.Test.YtniecodpdmjppaaDoorLw
import Derived.Test.YtniecodpdmjppaaDoorTie
import Derived.Test.YtniecodpdmjppaaDoorCards
import Derived.SevenTiedAt
/- glacierlaw08.LibraryErased: its walk. -/
namespace Go.Proofs.YtniecodpdmjppaaDoor
open Go.RowKit
open Sm
set_option linter.unusedVariables false
set_option linter.unusedSimpArgs false

theorem bit_one (x : Int) : ∃ v u : Nat, v + u = 1 ∧ Go.bits BinOp.and IntKind.i64 x 1 = (v : Int) := by
  have h : Go.bits BinOp.and IntKind.i64 x 1 = (((BitVec.ofInt 64 x).toNat % 2 : Nat) : Int) := by
    have e : Go.bits BinOp.and IntKind.i64 x 1 = IntKind.i64.wrap ((BitVec.ofInt 64 x &&& BitVec.ofInt 64 1).toNat) := rfl
    rw [e, BitVec.toNat_and]
    have e1 : (BitVec.ofInt 64 1).toNat = 1 := rfl
    rw [e1, Nat.and_one_is_mod]
    exact IntWalk.i64_in _ ⟨by omega, by omega⟩
  rw [h]
  exact ⟨(BitVec.ofInt 64 x).toNat % 2, 1 - (BitVec.ofInt 64 x).toNat % 2, by omega, rfl⟩

/-- two new volumes -/
theorem LB.new {W : World} {B g : Nat} {v1 v2 : Value} {gs : List Nat} {k3 : Nat} {l : List Int} {R : Int} (h1 : LibAt W B g v1 v2 gs (List.replicate k3 (Dr.no false)) 0 0) (h2 : Vols W B gs (freshOf l)) (h0 : 0 < k3) (h3 : k3 ≤ 3) (hl : ∀ x ∈ l, x = R) (hR : 0 ≤ R) :
    LB W B g R l.length 0 (List.replicate l.length (⟨#[]⟩, [])) := by
  have e : (freshOf l).length = l.length := by simp [freshOf]
  refine ⟨v1, v2, gs, _, 0, 0, _, h1, h2, FreeD.new h0 h3, ⟨Int.le_refl _, Int.le_refl _⟩, ⟨Int.le_refl _, Int.le_refl _⟩, by rw [h2.len, e], e, by simp, fun i hi hi2 => ?_⟩
  have hx : (freshOf l)[i] = VS.new R := by
    have := hl _ (List.getElem_mem (show i < l.length by omega))
    simp only [freshOf, List.getElem_map]
    rw [this, Int.max_eq_left hR]
  rw [List.getElem_replicate, hx]
  exact ⟨VS.BlobsR.new R, Int.le_refl _⟩

/-- what holds of the lists of blobs -/
structure Few (k : Nat) (Ms : List (ByteArray × List (Nat × List UInt8))) : Prop where
  len : Ms.length = 2
  lab : ∀ i (h : i < Ms.length), Ms[i].1 = ⟨#[]⟩
  few : ∀ i (h : i < Ms.length), Ms[i].2.length ≤ k

set_option maxRecDepth 100000 in
set_option maxHeartbeats 8000000 in
theorem walk_erased (A : Option Addr) (cap : Nat) (m : List Bl) (hcap : m.length ≤ cap) (hmx : m.length ≤ 9223372036854775807) (which : Int) (w : World) (hS : Steps w) (hL : BlobsAt w w.heap.size A m) :
    Calls Tryd.prog 4 #[.slice A m.length cap, .int .i64 which] w fun e w' => e = .returned (.bool true) ∧ Below w.heap.size w w' := by
  have hS0 := hS.1
  have hAw := awake8_any w
  obtain ⟨B, hB⟩ : ∃ B, w.heap.size = B := ⟨_, rfl⟩
  rw [hB] at hAw hL hS0 ⊢
  obtain ⟨N, hNN⟩ : ∃ N : Nat, min m.length 5 = N := ⟨_, rfl⟩
  have hmin : min (m.length : Int) 5 = (N : Int) := by omega
  have hNm : N ≤ m.length := by omega
  have hN5 : N ≤ 5 := by omega
  have HCELL : Hid (∀ k (h : k < m.length), ∃ ad, A = some ad ∧ (∀ w', Below B w w' → w'.cell? (ad.add (k * 3)) = some (.int .u64 (m[k].id : Int)) ∧ w'.cell? ⟨(ad.add (k * 3)).block, (ad.add (k * 3)).off + 1, none⟩ = some (.string m[k].s) ∧ w'.cell? ⟨(ad.add (k * 3)).block, (ad.add (k * 3)).off + 2, none⟩ = some (.int .i64 m[k].n)) ∧ m[k].id < 18446744073709551616) := Lib.hid fun k h => hL.get h
  have HST : Hid (∀ W, Below B w W → Steps W) := Lib.hid fun W h => hS.below h hS0
  clear hL hS
  obtain ⟨v, u, hvu, hbit⟩ := bit_one which
  have hv2 : v < 2 := by omega
  have hu2 : u < 2 := by omega
  have hwv : IntKind.i64.wrap (v : Int) = (v : Int) := IntWalk.i64_in _ ⟨by omega, by omega⟩
  have HVU := Lib.hid hvu
  clear hvu
  go_enter Tryd.func4, Tryd.ntmps4
  go_upto_region 1 with fail
  go_wp2_with fail
  refine hAw.mono ?_
  rintro e w1 ⟨rfl, hb1⟩
  clear hAw
  have hR : Lies (w1.alloc (.cells #[.int .i64 20000, .int .i64 20000] 3)) (w1.alloc (.cells #[.int .i64 20000, .int .i64 20000] 3)).heap.size (some ⟨w1.heap.size, 0, none⟩) (ints [20000, 20000]) := Lies.of_at (At.new w1 _ _) rfl (by simp)
  have hN := newlib_any (some ⟨w1.heap.size, 0, none⟩) 2 [20000, 20000] 1 _ hR (by simp) (by simp) 1 rfl
  have hb0 : Below B w (w1.alloc (.cells #[.int .i64 20000, .int .i64 20000] 3)) := hb1.trans ((Below.refl _ w1).alloc (by have := hb1.size; omega) _)
  rw [show ([20000, 20000] : List Int).length = 2 from rfl] at hN
  have HB0 := Lib.hid hb0
  clear hR hb0
  go_upto_region 3 with fail
  go_wp2_with fail
  generalize w1.alloc (.cells #[.int .i64 20000, .int .i64 20000] 3) = w0 at *
  clear hb1
  refine hN.mono ?_
  rintro e w2 ⟨g, v1, v2, gs, rfl, h1, hv1, hb2⟩
  have hB0 : B ≤ w0.heap.size := by have := HB0.out.size; omega
  have hlb := LB.new (R := 20000) h1 hv1 (by omega) (by omega) (by simp) (by omega)
  rw [show ([20000, 20000] : List Int).length = 2 from rfl] at hlb
  have HLB := Lib.hid hlb
  have HF0 : Hid (Few 0 (List.replicate 2 (⟨#[]⟩, []))) := Lib.hid ⟨List.length_replicate, fun i h => by rw [List.getElem_replicate], fun i h => by rw [List.getElem_replicate]; exact Nat.le_refl _⟩
  have HB2 := Lib.hid (HB0.out.trans (hb2.mono hB0))
  generalize List.replicate 2 ((⟨#[]⟩ : ByteArray), ([] : List (Nat × List UInt8))) = Ms0 at *
  clear hN h1 hv1 hlb hb2 HB0
  have hC0 : 0 < w0.heap.size := by omega
  generalize w0.heap.size = C at *
  have HSTC : Hid (∀ W W', Below B w W → Below C W W' → Steps W') := Lib.hid fun W W' h h' => HST.out _ (h.trans (h'.mono hB0))
  go_wp2
  go_loopw [7] (fun i wr => ∃ (k : Nat) (Ms : List (ByteArray × List (Nat × List UInt8))), k ≤ N ∧ i = .int .i64 (k : Int) ∧ Hid (LB wr C g 20000 2 k Ms) ∧ Hid (Few k Ms) ∧ Hid (Below B w wr))
    (fun i _ => N - (intOf i).toNat)
  case atStart => exact ⟨0, Ms0, by omega, rfl, HLB, HF0, HB2⟩
  case round =>
    clear HLB HF0 HB2
    obtain ⟨k, Ms, hk, rfl, HG, HF, HB⟩ := hrel
    by_cases hlt : k < N
    · have q1 : decide ((k : Int) < (N : Int)) = true := by simpa using hlt
      have hkm : k < m.length := by omega
      obtain ⟨ad, rfl, hcl, hid⟩ := HCELL.out k hkm
      have hds : m[k].data.size ≤ 600 := longOf_size _ _
      have hLo : ∀ W, Calls Tryd.prog 8 #[.string m[k].s, .int .i64 m[k].n] W fun e w' => e = .returned (.string m[k].data) ∧ W = w' := fun W => long_any m[k].s m[k].n W
      generalize m[k].data = d at *
      generalize m[k].s = sx at *
      generalize m[k].n = nx at *
      generalize m[k].id = id at *
      obtain ⟨j, hj⟩ : ∃ j, k % 2 = j := ⟨_, rfl⟩
      have hj2 : j < 2 := by omega
      have hmd : (k : Int).tmod 2 = (j : Int) := by rw [Int.tmod_eq_emod_of_nonneg (by omega)]; omega
      have hjl : j < Ms.length := by rw [HF.out.len]; exact hj2
      obtain ⟨r1, hr1⟩ : ∃ r, tapeN Ms[j].2 = r := ⟨_, rfl⟩
      have hWr : ∀ W, LB W C g 20000 2 k Ms ∧ Below B w W → Calls Tryd.prog 7 #[.pointer (some ⟨g, 0, none⟩), .int .i64 (j : Int), .int .u64 (id : Int), .string d] W fun e w' => e = .returned (.tuple #[.int .i64 (r1 : Int), .int .i64 0]) ∧ ∃ Ms', LB w' C g 20000 2 (k + 1) Ms' ∧ Few (k + 1) Ms' ∧ Below B w w' := fun W h => by
        have hl : Ms[j].1.size ≤ 32 := by rw [HF.out.lab j hjl]; decide
        have hn : Ms[j].2.length ≤ 20 := by have := HF.out.few j hjl; omega
        have := h.1.write (fun W' hb => HSTC.out W W' h.2 hb) hC0 (by omega) (by omega) j hj2 hjl hl hn id hid d hds
        rw [hr1] at this
        refine this.mono ?_
        rintro e w' ⟨rfl, h1, h2⟩
        refine ⟨rfl, _, h1, ⟨by rw [List.length_set]; exact HF.out.len, fun i hi => ?_, fun i hi => ?_⟩, h.2.trans (h2.mono hB0)⟩
        · rw [List.length_set] at hi
          rw [List.getElem_set]
          split
          · exact HF.out.lab j hjl
          · exact HF.out.lab i hi
        · rw [List.length_set] at hi
          rw [List.getElem_set]
          split
          · have := HF.out.few j hjl
            simp
            omega
          · have := HF.out.few i hi
            omega
      have HWR := Lib.hid hWr
      have HLO := Lib.hid hLo
      have HCL := Lib.hid hcl
      clear hWr hLo hcl hr1 hj
      go_upto_region 8 with fail
      refine lgx_region (Pre := fun W => LB W C g 20000 2 k Ms ∧ Below B w W) (Post := fun W => ∃ Ms', LB W C g 20000 2 (k + 1) Ms' ∧ Few (k + 1) Ms' ∧ Below B w W) rfl ⟨rfl, rfl, rfl, hkm, hmd, fun W hW => HCL.out W (by rcases hW with hW | ⟨Ms', hW⟩; exact hW.2; exact hW.2.2), HLO.out, HWR.out⟩ ⟨HG.out.below (Below.drew (Below.refl _ _)), Below.drew HB.out⟩ ?_
      intro w7 hw7
      simp only [List.setIfInBounds_toArray, List.set_cons_zero, List.set_cons_succ]
      obtain ⟨Ms', hl7, hf7, hb7⟩ := hw7
      have HG7 := Lib.hid hl7
      have HF7 := Lib.hid hf7
      have HB7 := Lib.hid hb7
      clear HWR HLO HCL HG HF HB hl7 hf7 hb7 hmd
      go_wp2
      go_roundw
      case rel => exact ⟨k + 1, Ms', by omega, by go_num, HG7, HF7, HB7⟩
      case measure => simp [intOf]; omega
    · have q1 : decide ((k : Int) < (N : Int)) = false := by simpa using hlt
      obtain rfl : k = N := by omega
      have hul : u < Ms.length := by rw [HF.out.len]; exact hu2
      have hvl : v < Ms.length := by rw [HF.out.len]; exact hv2
      have hvu := HVU.out
      have huv : (1 : Int) - (v : Int) = (u : Int) := by omega
      have HUV := Lib.hid huv
      have hne : v ≠ u := by omega
      have HNE := Lib.hid hne
      have hws : IntKind.i64.wrap (1 - (v : Int)) = 1 - (v : Int) := IntWalk.i64_in _ ⟨by omega, by omega⟩
      obtain ⟨gu, hVo, hUs, hLa⟩ := HG.out.volume u hu2 hul
      obtain ⟨ow, how⟩ : ∃ ow, wsum (tapeL Ms[u].1 0 Ms[u].2) = ow := ⟨_, rfl⟩
      rw [how] at hUs
      rw [← HUV.out] at hVo
      have hVo1 := hVo wr (Below.refl _ _)
      have hUs1 := hUs wr (Below.refl _ _)
      have HOW := Lib.hid how
      clear hVo hUs hLa hvu huv hne how
      go_upto_region 11 with fail
      go_upto_region 12 with fail
      go_wp2_with fail
      refine hVo1.mono ?_
      rintro e w3 ⟨rfl, rfl⟩
      go_wp2_with fail
      refine hUs1.mono ?_
      rintro e w3 ⟨rfl, rfl⟩
      clear hVo1 hUs1
      have hE := HG.out.erase (by omega) v hv2 hvl ⟨#[97, 103, 97, 105, 110]⟩ (by decide)
      go_upto_region 13 with fail
      go_wp2_with fail
      refine hE.mono ?_
      rintro e w4 ⟨rfl, h4, b4⟩
      have HB4 := Lib.hid (HB.out.trans (b4.mono hB0))
      clear hE b4 HB
      have hM4 : (Ms.set v (⟨#[97, 103, 97, 105, 110]⟩, [])).length = 2 := by rw [List.length_set]; exact HF.out.len
      have hMv : ∀ h, (Ms.set v (⟨#[97, 103, 97, 105, 110]⟩, []))[v]'h = (⟨#[97, 103, 97, 105, 110]⟩, []) := fun h => by rw [List.getElem_set, if_pos rfl]
      have hMu : ∀ h, (Ms.set v (⟨#[97, 103, 97, 105, 110]⟩, []))[u]'h = Ms[u] := fun h => by rw [List.getElem_set, if_neg HNE.out]
      have HM4 := Lib.hid hM4
      have HMV := Lib.hid hMv
      have HMU := Lib.hid hMu
      clear hM4 hMv hMu
      generalize Ms.set v (⟨#[97, 103, 97, 105, 110]⟩, []) = M4 at *
      obtain ⟨ga, hVo, hUs, hLa⟩ := h4.volume v hv2 (by rw [HM4.out]; exact hv2)
      obtain ⟨gb, hVo2, hUs2, hLa2⟩ := h4.volume u hu2 (by rw [HM4.out]; exact hu2)
      have hVo1 := hVo w4 (Below.refl _ _)
      have hUs1 := hUs w4 (Below.refl _ _)
      have hVo3 := hVo2 w4 (Below.refl _ _)
      have hUs3 := hUs2 w4 (Below.refl _ _)
      rw [HMV.out] at hUs1
      rw [HMU.out, HOW.out] at hUs3
      rw [← HUV.out] at hVo3
      have hUs1 : Calls Tryd.prog 14 #[.pointer (some ⟨ga, 0, none⟩)] w4 fun e w' => e = .returned (.int .i64 0) ∧ w4 = w' := hUs1
      have H4 := Lib.hid h4
      clear hVo hUs hLa hVo2 hUs2 hLa2 h4 HG
      go_wp2_with fail
      refine hVo1.mono ?_
      rintro e w5 ⟨rfl, rfl⟩
      go_wp2_with fail
      refine hUs1.mono ?_
      rintro e w5 ⟨rfl, rfl⟩
      go_wp2_with fail
      refine hVo3.mono ?_
      rintro e w5 ⟨rfl, rfl⟩
      go_wp2_with fail
      refine hUs3.mono ?_
      rintro e w5 ⟨rfl, rfl⟩
      clear hVo1 hUs1 hVo3 hUs3
      have hv4 : v < M4.length := by rw [HM4.out]; exact hv2
      have hW := H4.out.write (fun W' hb => HSTC.out w4 W' HB4.out hb) hC0 (by omega) (by omega) v hv2 hv4 (by rw [HMV.out]; decide) (by rw [HMV.out]; simp) 5 (by omega) ⟨#[102, 105, 118, 101]⟩ (by decide)
      rw [HMV.out] at hW
      have hW : Calls Tryd.prog 7 #[.pointer (some ⟨g, 0, none⟩), .int .i64 (v : Int), .int .u64 5, .string ⟨#[102, 105, 118, 101]⟩] w4 fun e w' => e = .returned (.tuple #[.int .i64 0, .int .i64 0]) ∧ LB w' C g 20000 2 (k + 1 + 1) (M4.set v (⟨#[97, 103, 97, 105, 110]⟩, [(5, [102, 105, 118, 101])])) ∧ Below C w4 w' := hW
      go_upto_region 15 with fail
      go_wp2_with fail
      refine hW.mono ?_
      rintro e w6 ⟨rfl, h6, b6⟩
      have HB6 := Lib.hid (HB4.out.trans (b6.mono hB0))
      clear hW b6 HB4 H4
      have hM6 : (M4.set v (⟨#[97, 103, 97, 105, 110]⟩, [(5, [102, 105, 118, 101])])).length = 2 := by rw [List.length_set]; exact HM4.out
      have hM6v : ∀ h, (M4.set v (⟨#[97, 103, 97, 105, 110]⟩, [(5, [102, 105, 118, 101])]))[v]'h = (⟨#[97, 103, 97, 105, 110]⟩, [(5, [102, 105, 118, 101])]) := fun h => by rw [List.getElem_set, if_pos rfl]
      generalize M4.set v (⟨#[97, 103, 97, 105, 110]⟩, [(5, [102, 105, 118, 101])]) = M6 at *
      have hv6 : v < M6.length := by omega
      have hRd : Calls Tryd.prog 9 #[.pointer (some ⟨g, 0, none⟩), .int .i64 (v : Int), .int .i64 0, .int .u64 5] w6 fun e w' => e = .returned (.tuple #[.string ⟨#[102, 105, 118, 101]⟩, .int .i64 0]) ∧ LB w' C g 20000 2 (k + 1 + 1 + 1) M6 ∧ Below C w6 w' := by
        have := h6.read (fun W' hb => HSTC.out w6 W' HB6.out hb) hC0 (by omega) v hv2 hv6 (by rw [hM6v]; decide) (by rw [hM6v]; simp) 0 (by rw [hM6v]; simp)
        simp only [hM6v] at this
        exact this
      have HM6V := Lib.hid hM6v
      clear h6 hM6 hM6v
      go_upto_region 16 with fail
      go_wp2_with fail
      refine hRd.mono ?_
      rintro e w8 ⟨rfl, h8, b8⟩
      have HB8 := Lib.hid (HB6.out.trans (b8.mono hB0))
      obtain ⟨ga, hVo, hUs, hLa⟩ := h8.volume v hv2 hv6
      have hVo1 := hVo w8 (Below.refl _ _)
      have hLa1 := hLa w8 (Below.refl _ _)
      rw [HM6V.out] at hLa1
      have hB8 : B ≤ w8.heap.size := by have := HB8.out.size; omega
      clear hRd b8 HB6 h8 hVo hUs hLa
      go_upto_region 17 with fail
      go_wp2_with fail
      refine hVo1.mono ?_
      rintro e w9 ⟨rfl, rfl⟩
      go_wp2_with fail
      refine hLa1.mono ?_
      rintro e w9 ⟨rfl, b9⟩
      have HB9 := Lib.hid (HB8.out.trans (b9.mono hB8))
      clear hVo1 hLa1 b9 HB8
      go_wp2
      go_ret
      exact ⟨rfl, HB9.out⟩
end Go.Proofs.YtniecodpdmjppaaDoor

/- glacierlaw08.LibraryBlobs: its walk. -/
namespace Go.Proofs.YtniecodpdmjppaaDoor
open Go.RowKit
open Sm
set_option linter.unusedVariables false
set_option linter.unusedSimpArgs false

theorem info_int9 : (Tryd.prog.info? 3).map (fun i => (i.zero, i.size, i.bytes)) = some (some (.int .i64 0), 1, 8) := by kernel_rfl
theorem make_three : ∃ M : Array Value, M.toList = [.int .i64 0, .int .i64 0, .int .i64 0] ∧ ∀ W : World, (Instr.makeSlice 23 (.int .i64 3) (.int .i64 3)).run Tryd.prog W = .ok (.slice (some ⟨W.heap.size, 0, none⟩) 3 3) (W.alloc (.cells M 3)) := by
  obtain ⟨i0, hie, hz0, hz1, hz2⟩ := info_parts info_int9
  refine ⟨madeCells (Value.int .i64 0).cells ((3 : Int).toNat * i0.size), ?_, fun W => ?_⟩
  · rw [hz1]
    exact toList_madeCells_one (.int .i64 0) 3
  · have h := run_make (P := Tryd.prog) W 23 3 i0 (.int .i64 0) Tryd.underlying23 hie hz0 .i64 .i64 (3 : Int) (3 : Int) (by omega) (by omega) (by rw [hz2]; omega) (by omega)
    simpa using h
/-- the numbers of a slice of ints -/
theorem int_at {w : World} {B : Nat} {A : Option Addr} {l : List Int} (h : Lies w B A (ints l)) {k : Nat} (hk : k < l.length) : ∃ ad, A = some ad ∧ ad.block < B ∧ w.cell? (ad.add k) = some (.int .i64 l[k]) := by
  obtain ⟨ad, h1, h2, h3⟩ := h.round (k := k) (by simpa [ints] using hk)
  exact ⟨ad, h1, h2, by rw [h3]; simp [ints]⟩

set_option maxRecDepth 100000 in
set_option maxHeartbeats 8000000 in
theorem walk_blobs (drives : Int) (A : Option Addr) (cap : Nat) (m : List Bl) (hcap : m.length ≤ cap) (hmx : m.length ≤ 9223372036854775807) (A2 : Option Addr) (cap2 : Nat) (vs : List Int) (hvx : vs.length ≤ 9223372036854775807) (w : World) (hS : Steps w) (hL : BlobsAt w w.heap.size A m) (hL2 : Lies w w.heap.size A2 (ints vs)) :
    Calls Tryd.prog 3 #[.int .i64 drives, .slice A m.length cap, .slice A2 vs.length cap2] w fun e w' => e = .returned (.bool true) ∧ Below w.heap.size w w' := by
  have hS0 := hS.1
  by_cases hr : drives < 1 ∨ 3 < drives
  · clear hS hL hL2 hS0
    have hcs : drives < 1 ∨ (¬ drives < 1 ∧ 3 < drives) := by omega
    rcases hcs with hneg | ⟨hneg, hbig⟩
    all_goals
      go_enter Tryd.func3, Tryd.ntmps3
      go_wp2_with fail
      refine (awake8_any w).mono ?_
      rintro e w1 ⟨rfl, hb1⟩
      go_wp2_with fail
      refine (awake8_any w1).mono ?_
      rintro e w2 ⟨rfl, hb2⟩
      have fin := Lib.hid (hb1.trans (hb2.mono hb1.size))
      clear hb1 hb2
      go_wp2
      go_ret
      exact ⟨rfl, fin.out⟩
  obtain ⟨nd, rfl⟩ : ∃ nd : Nat, drives = (nd : Int) := ⟨drives.toNat, by omega⟩
  have hd0 : 1 ≤ nd := by omega
  have hd3 : nd ≤ 3 := by omega
  clear hr
  have n1 : decide ((nd : Int) < 1) = false := by simp; omega
  have n2 : decide ((3 : Int) < (nd : Int)) = false := by simp; omega
  have hAw := awake8_any w
  obtain ⟨B, hB⟩ : ∃ B, w.heap.size = B := ⟨_, rfl⟩
  rw [hB] at hAw hL hL2 hS0 ⊢
  obtain ⟨N, hNN⟩ : ∃ N : Nat, min (min m.length vs.length) 6 = N := ⟨_, rfl⟩
  have hmin : (if (6 : Int) < (if vs.length < m.length then (vs.length : Int) else (m.length : Int)) then (6 : Int) else (if vs.length < m.length then (vs.length : Int) else (m.length : Int))) = (N : Int) := by
    by_cases h : vs.length < m.length
    · rw [if_pos h]
      split <;> omega
    · rw [if_neg h]
      split <;> omega
  have HMIN := Lib.hid hmin
  clear hmin
  have hNm : N ≤ m.length := by omega
  have hNv : N ≤ vs.length := by omega
  have hN6 : N ≤ 6 := by omega
  have HCELL : Hid (∀ k (h : k < m.length), ∃ ad, A = some ad ∧ (∀ w', Below B w w' → w'.cell? (ad.add (k * 3)) = some (.int .u64 (m[k].id : Int)) ∧ w'.cell? ⟨(ad.add (k * 3)).block, (ad.add (k * 3)).off + 1, none⟩ = some (.string m[k].s) ∧ w'.cell? ⟨(ad.add (k * 3)).block, (ad.add (k * 3)).off + 2, none⟩ = some (.int .i64 m[k].n)) ∧ m[k].id < 18446744073709551616) := Lib.hid fun k h => hL.get h
  have HVEL : Hid (∀ k (h : k < vs.length), ∃ ad, A2 = some ad ∧ ∀ w', Below B w w' → w'.cell? (ad.add k) = some (.int .i64 vs[k])) := Lib.hid fun k h => by
    obtain ⟨ad, h1, h2, h3⟩ := int_at hL2 h
    refine ⟨ad, h1, fun w' hb => ?_⟩
    obtain ⟨ad', h1', _, h3'⟩ := int_at (hL2.below hb) h
    obtain rfl : ad = ad' := Option.some.inj (h1.symm.trans h1')
    exact h3'
  have HST : Hid (∀ W, Below B w W → Steps W) := Lib.hid fun W h => hS.below h hS0
  clear hL hS hL2 hNN
  obtain ⟨M3, hM3, hmk3⟩ := make_three
  go_enter Tryd.func3, Tryd.ntmps3
  go_upto_region 1 with fail
  go_wp2_with fail
  refine hAw.mono ?_
  rintro e w1 ⟨rfl, hb1⟩
  clear hAw
  have hR : Lies (w1.alloc (.cells #[.int .i64 20000, .int .i64 20000, .int .i64 20000] 3)) (w1.alloc (.cells #[.int .i64 20000, .int .i64 20000, .int .i64 20000] 3)).heap.size (some ⟨w1.heap.size, 0, none⟩) (ints [20000, 20000, 20000]) := Lies.of_at (At.new w1 _ _) rfl (by simp)
  have hN := newlib_any (some ⟨w1.heap.size, 0, none⟩) 3 [20000, 20000, 20000] nd _ hR (by simp) (by simp) nd (by omega)
  have hb0 : Below B w (w1.alloc (.cells #[.int .i64 20000, .int .i64 20000, .int .i64 20000] 3)) := hb1.trans ((Below.refl _ w1).alloc (by have := hb1.size; omega) _)
  rw [show ([20000, 20000, 20000] : List Int).length = 3 from rfl] at hN
  have HB0 := Lib.hid hb0
  clear hR hb0
  go_upto_region 3 with fail
  go_wp2_with fail
  generalize w1.alloc (.cells #[.int .i64 20000, .int .i64 20000, .int .i64 20000] 3) = w0 at *
  clear hb1
  refine hN.mono ?_
  rintro e w2 ⟨g, v1, v2, gs, rfl, h1, hv1, hb2⟩
  have hB0 : B ≤ w0.heap.size := by have := HB0.out.size; omega
  have hlb := LB.new (R := 20000) h1 hv1 (by omega) (by omega) (by simp) (by omega)
  rw [show ([20000, 20000, 20000] : List Int).length = 3 from rfl] at hlb
  have hbz := hlb.bz
  have hrow : ((w2.alloc (.cells #[] 3)).alloc (.cells M3 3)).ownsRow w0.heap.size 3 1 (.slice (some ⟨w2.heap.size, 0, none⟩) 0 0) 0 (natVs []) := by
    have := row_empty w2 3 1
    have this : (w2.alloc (.cells #[] 3)).ownsRow w0.heap.size 3 1 (.slice (some ⟨w2.heap.size, 0, none⟩) 0 0) 0 (natVs []) := ⟨this.1, this.2.imp id fun ⟨k, cap, cur, h1, h2, h3⟩ => ⟨k, cap, cur, h1, Nat.le_trans hbz h2, h3⟩⟩
    exact this.alloc _
  have hsz1 : (w2.alloc (.cells #[] 3)).heap.size = w2.heap.size + 1 := by simp
  have hcnt : At ((w2.alloc (.cells #[] 3)).alloc (.cells M3 3)) (w2.heap.size + 1) 3 (cnts (List.replicate 3 (⟨#[]⟩, []))) := by
    have := At.new (w2.alloc (.cells #[] 3)) 3 M3
    rw [hsz1] at this
    have e : M3 = cnts (List.replicate 3 (⟨#[]⟩, [])) := by rw [← Array.toList_inj, hM3]; rfl
    rw [← e]
    exact this
  have hb4 : Below B w ((w2.alloc (.cells #[] 3)).alloc (.cells M3 3)) := ((HB0.out.trans (hb2.mono hB0)).alloc (by omega) _).alloc (by rw [hsz1]; omega) _
  have HG4 : Hid (BQ w B w0.heap.size g (w2.heap.size + 1) (.slice (some ⟨w2.heap.size, 0, none⟩) 0 0) 0 0 (List.replicate 3 (⟨#[]⟩, [])) [] ((w2.alloc (.cells #[] 3)).alloc (.cells M3 3))) :=
    Lib.hid ⟨hlb.below (((Below.refl _ w2).alloc (Nat.le_refl _) _).alloc (by rw [hsz1]; omega) _), hrow, hcnt, fun b e => by simp [Value.ownBlock] at e; omega, hb4⟩
  have HW0 := Lib.hid (Wrote.new m vs)
  generalize List.replicate 3 ((⟨#[]⟩ : ByteArray), ([] : List (Nat × List UInt8))) = Ms0 at *
  have hkB : B ≤ w2.heap.size + 1 := by omega
  clear hN h1 hv1 hlb hb2 HB0 hrow hcnt hb4 hbz hM3
  have hC0 : 0 < w0.heap.size := by omega
  generalize hCC : w0.heap.size = C at *
  clear hCC
  have HSTC : Hid (∀ W W', Below B w W → Below C W W' → Steps W') := Lib.hid fun W W' h h' => HST.out _ (h.trans (h'.mono hB0))
  obtain ⟨i0, hie, hz0, hz1, hz2⟩ := info_parts info_int9
  have HIE := Lib.hid hie
  have HZ0 := Lib.hid hz0
  have HZ1 := Lib.hid hz1
  have HZ2 := Lib.hid hz2
  clear hie hz0 hz1 hz2
  go_upto_region 5 with fail
  simp only [HMIN.out]
  go_upto_region 7 with fail
  generalize (w2.alloc (.cells #[] 3)).alloc (.cells M3 3) = w4 at *
  clear hmk3 hsz1
  generalize hKC : w2.heap.size + 1 = kc at *
  clear hKC
  go_wp2
  go_loopw [9, 11] (fun va i wr => ∃ (k : Nat) (Ms : BLs) (ps : List Nat), k ≤ N ∧ i = .int .i64 (k : Int) ∧ Hid (BQ w B C g kc va k k Ms ps wr) ∧ Hid (Wrote m vs k Ms ps))
    (fun _ i _ => N - (intOf i).toNat)
  case atStart => exact ⟨0, Ms0, [], by omega, rfl, HG4, HW0⟩
  case round =>
    clear HG4 HW0
    obtain ⟨k, Ms, ps, hk, rfl, HG, HW⟩ := hrel
    by_cases hlt : k < N
    · have q1 : decide ((k : Int) < (N : Int)) = true := by simpa using hlt
      have hkm : k < m.length := by omega
      have hkv : k < vs.length := by omega
      obtain ⟨ad, rfl, hcl, hid⟩ := HCELL.out k hkm
      obtain ⟨ad2, rfl, hcv⟩ := HVEL.out k hkv
      have hds : m[k].data.size ≤ 600 := longOf_size _ _
      have hLo : ∀ W, Calls Tryd.prog 8 #[.string m[k].s, .int .i64 m[k].n] W fun e w' => e = .returned (.string m[k].data) ∧ W = w' := fun W => long_any m[k].s m[k].n W
      obtain ⟨r, hr, hr1, hr2, hv, hv3⟩ := vOf_parts vs[k]
      have hVM : vOf vs[k] < Ms.length := by rw [HW.out.len]; exact hv3
      have hst := HW.out.step hkm hkv hVM
      have hx := hcv wr HG.out.below
      generalize vs[k] = x at *
      generalize vOf x = v at *
      generalize m[k].data = d at *
      generalize m[k].s = sx at *
      generalize m[k].n = nx at *
      generalize m[k].id = id at *
      have hw1 : IntKind.i64.wrap r = r := IntWalk.i64_in _ ⟨by omega, by omega⟩
      have hw2 : IntKind.i64.wrap (r + 3) = r + 3 := IntWalk.i64_in _ ⟨by omega, by omega⟩
      have hw3 : IntKind.i64.wrap (v : Int) = (v : Int) := IntWalk.i64_in _ ⟨by omega, by omega⟩
      obtain ⟨r1, hr1'⟩ : ∃ r, tapeN (Ms[v]).2 = r := ⟨_, rfl⟩
      rw [hr1'] at hst
      obtain ⟨nv, hnv⟩ : ∃ n, (Ms[v]).2.length = n := ⟨_, rfl⟩
      have hnv6 : nv ≤ k := by have := (HW.out.lab v hVM).2; omega
      have hcg : (cnts Ms)[v]? = some (.int .i64 ((nv : Nat) : Int)) := by rw [cnts_get hVM, hnv]
      have hlab := (HW.out.lab v hVM).1
      have hWr : ∀ W, BQ w B C g kc u9 k k Ms ps W → Calls Tryd.prog 7 #[.pointer (some ⟨g, 0, none⟩), .int .i64 (v : Int), .int .u64 (id : Int), .string d] W fun e w' => e = .returned (.tuple #[.int .i64 (r1 : Int), .int .i64 0]) ∧ (LB w' C g 20000 3 (k + 1) (Ms.set v ((Ms[v]).1, (Ms[v]).2 ++ [(id, d.data.toList)])) ∧ w'.ownsRow C 3 1 u9 k (natVs ps) ∧ At w' kc 3 (cnts Ms) ∧ Below B w w') := fun W h => by
        have hl : (Ms[v]).1.size ≤ 32 := by rw [hlab]; decide
        have := h.lb.writeK (fun W' hb => HSTC.out W W' h.below hb) hC0 (by omega) (by omega) v hv3 hVM hl (by omega) id hid d hds
        rw [hr1'] at this
        refine this.mono ?_
        rintro e w' ⟨rfl, h1, h2, h3⟩
        exact ⟨rfl, h.step h1 h2 hB0 h3⟩
      have hcs : cnts (Ms.set v ((Ms[v]).1, (Ms[v]).2 ++ [(id, d.data.toList)])) = (cnts Ms).setIfInBounds v (.int .i64 ((nv + 1 : Nat) : Int)) := by
        rw [← cnts_set]
        congr 1
        simp [hnv]
      generalize (Ms.set v ((Ms[v]).1, (Ms[v]).2 ++ [(id, d.data.toList)])) = Ms' at *
      have HWR := Lib.hid hWr
      have HLO := Lib.hid hLo
      have HCL := Lib.hid hcl
      have HSTP := Lib.hid hst
      have HCS := Lib.hid hcs
      have HCG := Lib.hid hcg
      clear hWr hLo hcl hst hr1' hcs hcg hcv hlab hnv hVM
      go_upto_region 11 with fail
      clear hr hv hw1 hw2 hx
      refine lgya_region (Pre := fun W => BQ w B C g kc u9 k k Ms ps W) (Post := fun W => LB W C g 20000 3 (k + 1) Ms' ∧ W.ownsRow C 3 1 u9 k (natVs ps) ∧ At W kc 3 (cnts Ms) ∧ Below B w W) rfl ⟨rfl, rfl, rfl, rfl, hkm, fun W hW => HCL.out W (by rcases hW with hW | hW; exact hW.below; exact hW.2.2.2), HLO.out, HWR.out⟩ HG.out.drew ?_
      intro w7 hw7
      simp only [List.setIfInBounds_toArray, List.set_cons_zero, List.set_cons_succ]
      obtain ⟨hl7, hr7, hc7, hb7⟩ := hw7
      have hs7 : C ≤ w7.heap.size := hl7.bz
      have HNE := Lib.hid HG.out.ne
      have HL7 := Lib.hid hl7
      have HR7 := Lib.hid hr7
      have HC7 := Lib.hid hc7
      have HB7 := Lib.hid hb7
      have hkc7 : kc < w7.heap.size := hc7.lt
      clear HWR HLO HCL HG hl7 hr7 hc7 hb7 hw3
      go_upto_region 14 with fail
      go_wp2_with (at_builtin; refine wpList_append_own_at _ rfl _ _ 23 rfl C 3 i0 (.int .i64 0) 1 8 Tryd.underlying23 HIE.out HZ0.out HZ1.out HZ2.out rfl (by decide) _ _ _ rfl (HR7.out.alloc _) ⟨w7.heap.size, 0, none⟩ 1 1 [.int .i64 (r1 : Int)] rfl rfl ?c1 ?c2 ?c3 ?c4 ?c5 ?_)
      case c1 => exact cell_one_new _ _ _
      case c2 => intro u hu; simp at hu; subst hu; rfl
      case c3 => unfold maxLen; omega
      case c4 => omega
      case c5 => simp; omega
      intro v' w8 hown hgrow _ hwhere
      have hl8 : LB w8 C g 20000 3 (k + 1) Ms' := (HL7.out.below ((Below.refl _ _).alloc (Nat.le_refl _) _)).row (HR7.out.alloc _) hgrow
      have hc8 : At w8 kc 3 (cnts Ms) := (HC7.out.alloc (.cells #[.int .i64 (r1 : Int)] 3)).grown hgrow (fun e => HNE.out kc e.symm rfl)
      have hn8 : ∀ b, v'.ownBlock = some b → b ≠ kc := fun b e => by
        rcases hwhere with h | h
        · rw [h] at e
          exact HNE.out b e
        · rw [h] at e
          have e2 := Option.some.inj e
          have e3 : (w7.alloc (.cells #[.int .i64 (r1 : Int)] 3)).heap.size = w7.heap.size + 1 := by simp
          omega
      have hb8 : Below B w w8 := (HB7.out.alloc (by omega) (.cells #[.int .i64 (r1 : Int)] 3)).trans ((below_grow (HR7.out.alloc _) hgrow (by simp; omega)).mono hB0)
      have hown8 : w8.ownsRow C 3 1 v' (k + 1) (natVs (ps ++ [r1])) := by
        have e : natVs (ps ++ [r1]) = natVs ps ++ [.int .i64 (r1 : Int)] := by unfold natVs; rw [List.map_append]; rfl
        rw [e]
        exact hown
      have y0 : w8.cell? ⟨kc, v, none⟩ = some (.int .i64 ((nv : Nat) : Int)) := by rw [hc8.cell]; exact HCG.out
      have y1 : w8.frozen? ⟨kc, v, none⟩ = false := hc8.frozen v
      have hl9 := hl8.cell (i := v) hc8 (.int .i64 ((nv + 1 : Nat) : Int))
      have hc9 := hc8.set v (.int .i64 ((nv + 1 : Nat) : Int))
      rw [← HCS.out] at hc9
      have ho9 : (w8.setCell ⟨kc, v, none⟩ (.int .i64 ((nv + 1 : Nat) : Int))).ownsRow C 3 1 v' (k + 1) (natVs (ps ++ [r1])) := row_keep hown8 fun b e => far_heap w8 kc v _ (hn8 b e)
      have hb9 : Below B w (w8.setCell ⟨kc, v, none⟩ (.int .i64 ((nv + 1 : Nat) : Int))) := below_of_grownBy hb8 (grown_cell w8 kc v _) (by have := hb8.size; omega) hkB
      have HG9 : Hid (BQ w B C g kc v' (k + 1) (k + 1) Ms' (ps ++ [r1]) (w8.setCell ⟨kc, v, none⟩ (.int .i64 ((nv + 1 : Nat) : Int)))) := Lib.hid ⟨hl9, ho9, hc9, hn8, hb9⟩
      have hwn : IntKind.i64.wrap ((nv : Int) + 1) = ((nv + 1 : Nat) : Int) := by rw [IntKind.wrap_i64] <;> omega
      clear hl8 hc8 hn8 hb8 hown8 hl9 hc9 ho9 hb9 hown hgrow hwhere HNE HL7 HR7 HC7 HB7 HCS HCG hkc7 hs7
      go_upto_region 9 with fail
      try simp only [show ((nv : Int) + 1) = ((nv + 1 : Nat) : Int) from by omega]
      generalize w8.setCell ⟨kc, v, none⟩ (.int .i64 ((nv + 1 : Nat) : Int)) = w9 at *
      clear y0 y1 hwn
      go_wp2
      go_roundw
      case rel => exact ⟨k + 1, Ms', ps ++ [r1], by omega, by go_num, HG9, HSTP⟩
      case measure => simp [intOf]; omega
    · have q1 : decide ((k : Int) < (N : Int)) = false := by simpa using hlt
      obtain rfl : k = N := by omega
      clear HIE HZ0 HZ1 HZ2
      obtain ⟨A9, c9, rfl, hc9, hA9⟩ := row_form HG.out.row
      have HG0 : Hid (BQ w B C g kc (.slice A9 k c9) (k + 0) k Ms ps wr) := HG
      clear HG
      go_upto_region 16 with fail
      go_wp2
      go_loopw [15] (fun i wx => ∃ j : Nat, j ≤ k ∧ i = .int .i64 (j : Int) ∧ Hid (BQ w B C g kc (.slice A9 k c9) (k + j) k Ms ps wx))
        (fun i _ => k - (intOf i).toNat)
      case atStart => exact ⟨0, by omega, rfl, HG0⟩
      case round =>
        clear HG0
        obtain ⟨j, hj, rfl, HG⟩ := hrel
        by_cases hjk : j < k
        · have q2 : decide ((j : Int) < (k : Int)) = true := by simpa using hjk
          have hjm : j < m.length := by omega
          have hjv : j < vs.length := by omega
          obtain ⟨ad, rfl, hcl, hid⟩ := HCELL.out j hjm
          obtain ⟨ad2, rfl, hcv⟩ := HVEL.out j hjv
          obtain ⟨k9, rfl⟩ := hA9 (by omega)
          have hLo : ∀ W, Calls Tryd.prog 8 #[.string m[j].s, .int .i64 m[j].n] W fun e w' => e = .returned (.string m[j].data) ∧ W = w' := fun W => long_any m[j].s m[j].n W
          obtain ⟨r, hr, hr1, hr2, hv, hv3⟩ := vOf_parts vs[j]
          obtain ⟨hVM, jj, hjj, e1, e2⟩ := HW.out.at_ j hjk hjm hjv
          have hlab := HW.out.lab _ hVM
          generalize vs[j] = x at *
          generalize vOf x = v at *
          have hp9 := fun W (h : BQ w B C g kc (.slice (some ⟨k9, 0, none⟩) k c9) (k + j) k Ms ps W) => h.row.cells (g := k9) rfl j _ (natVs_get e2)
          have hp9' := fun W (h : BQ w B C g kc (.slice (some ⟨k9, 0, none⟩) k c9) (k + (j + 1)) k Ms ps W) => h.row.cells (g := k9) rfl j _ (natVs_get e2)
          have hRd : ∀ W, BQ w B C g kc (.slice (some ⟨k9, 0, none⟩) k c9) (k + j) k Ms ps W → Calls Tryd.prog 9 #[.pointer (some ⟨g, 0, none⟩), .int .i64 (v : Int), .int .i64 (tapeN ((Ms[v]).2.take jj) : Nat), .int .u64 (m[j].id : Int)] W fun e w' => e = .returned (.tuple #[.string m[j].data, .int .i64 0]) ∧ BQ w B C g kc (.slice (some ⟨k9, 0, none⟩) k c9) (k + (j + 1)) k Ms ps w' := fun W h => by
            have hl : (Ms[v]).1.size ≤ 32 := by rw [hlab.1]; decide
            have := h.lb.readK (fun W' hb => HSTC.out W W' h.below hb) hC0 (by omega) v hv3 hVM hl (by omega) jj hjj
            simp only [e1] at this
            refine this.mono ?_
            rintro e w' ⟨rfl, h1, h2, h3⟩
            obtain ⟨a1, a2, a3, a4⟩ := h.step h1 h2 hB0 h3
            exact ⟨rfl, a1, a2, a3, h.ne, a4⟩
          generalize tapeN ((Ms[v]).2.take jj) = pj at *
          clear e1 e2 hjj hVM hlab
          generalize m[j].data = d at *
          generalize m[j].s = sx at *
          generalize m[j].n = nx at *
          generalize m[j].id = id at *
          have hw1 : IntKind.i64.wrap r = r := IntWalk.i64_in _ ⟨by omega, by omega⟩
          have hw2 : IntKind.i64.wrap (r + 3) = r + 3 := IntWalk.i64_in _ ⟨by omega, by omega⟩
          have hw3 : IntKind.i64.wrap (v : Int) = (v : Int) := IntWalk.i64_in _ ⟨by omega, by omega⟩
          have HARI := Lib.hid (And.intro hr (And.intro hw1 (And.intro hw2 (And.intro hv hw3))))
          have HCL := Lib.hid hcl
          have HCV := Lib.hid hcv
          have HP9 := Lib.hid hp9
          have HP9' := Lib.hid hp9'
          have HRD := Lib.hid hRd
          have HLO := Lib.hid hLo
          clear hcl hcv hp9 hp9' hRd hLo hr hw1 hw2 hv hw3
          generalize hAD3 : (⟨k9, 0, none⟩ : Addr) = ad3 at *
          clear hAD3
          go_upto_region 19 with fail
          refine lgyb_region (x := x) (r := r) (Pre := fun W => BQ w B C g kc (.slice (some ad3) k c9) (k + j) k Ms ps W) (Post := fun W => BQ w B C g kc (.slice (some ad3) k c9) (k + (j + 1)) k Ms ps W) rfl ⟨rfl, rfl, rfl, rfl, rfl, hjm, hjv, hjk, HARI.out.1, HARI.out.2.1, HARI.out.2.2.1, HARI.out.2.2.2.1, HARI.out.2.2.2.2, fun W hW => ⟨(HCL.out W (by rcases hW with hW | hW <;> exact hW.below)).1, HCV.out W (by rcases hW with hW | hW <;> exact hW.below), by rcases hW with hW | hW; exact HP9.out W hW; exact HP9'.out W hW⟩, HRD.out⟩ HG.out.drew ?_
          intro w11 hw11
          simp only [List.setIfInBounds_toArray, List.set_cons_zero, List.set_cons_succ]
          clear HG
          go_upto_region 20 with fail
          refine lgyc_region (id := id) (Pre := fun W => BQ w B C g kc (.slice (some ad3) k c9) (k + (j + 1)) k Ms ps W) rfl ⟨rfl, rfl, rfl, rfl, hjm, fun W hW => HCL.out W (by rcases hW with hW | hW <;> exact hW.below), HLO.out⟩ hw11.drew ?_
          intro w12 hw12
          simp only [List.setIfInBounds_toArray, List.set_cons_zero, List.set_cons_succ]
          have HG12 := Lib.hid hw12
          clear hw11 hw12 HCL HCV HP9 HP9' HRD HLO HARI
          go_wp2
          go_roundw
          case rel => exact ⟨j + 1, by omega, by go_num, HG12⟩
          case measure => simp [intOf]; omega
        · have q2 : decide ((j : Int) < (k : Int)) = false := by simpa using hjk
          have HG0 := HG
          clear HG
          have hK0 : k + j ≤ 12 := by omega
          generalize k + j = K0 at *
          go_upto_region 22 with fail
          go_wp2
          go_loopw [135] (fun i wy => ∃ n : Nat, n ≤ 3 ∧ i = .int .i64 (n : Int) ∧ Hid (BQ w B C g kc (.slice A9 k c9) (K0 + n) k Ms ps wy))
            (fun i _ => 3 - (intOf i).toNat)
          case atStart => exact ⟨0, by omega, rfl, HG0⟩
          case round =>
            clear HG0
            obtain ⟨n, hn, rfl, HG⟩ := hrel
            by_cases hn3 : n < 3
            · have q3 : decide ((n : Int) < 3) = true := by simp; omega
              have hVM : n < Ms.length := by rw [HW.out.len]; exact hn3
              have hlab := HW.out.lab n hVM
              have hSc := HG.out.lb.scanK (fun W' hb => HSTC.out wr W' HG.out.below hb) hC0 (by omega) n hn3 hVM (by rw [hlab.1]; decide) (by omega)
              obtain ⟨nv, hnv⟩ : ∃ nn, (Ms[n]).2.length = nn := ⟨_, rfl⟩
              rw [hnv] at hSc
              have hcg : (cnts Ms)[n]? = some (.int .i64 ((nv : Nat) : Int)) := by rw [cnts_get hVM, hnv]
              have HCG := Lib.hid hcg
              have HGS : Hid (∀ W', LB W' C g 20000 3 (K0 + n + 1) Ms → Below C wr W' → KL wr W' → BQ w B C g kc (.slice A9 k c9) (K0 + (n + 1)) k Ms ps W') := Lib.hid fun W' h1 h2 h3 => by
                obtain ⟨a1, a2, a3, a4⟩ := HG.out.step h1 h2 hB0 h3
                exact ⟨a1, a2, a3, HG.out.ne, a4⟩
              clear HG hlab hVM hnv hcg
              go_upto_region 25 with fail
              go_wp2_with fail
              refine hSc.mono ?_
              rintro e wz ⟨A5, c5, rfl, h1, h2, h3⟩
              have HG5 := Lib.hid (HGS.out wz h1 h2 h3)
              have y0 : wz.cell? ⟨kc, n, none⟩ = some (.int .i64 ((nv : Nat) : Int)) := by rw [HG5.out.cnt.cell]; exact HCG.out
              have z0 : ((nv : Int) != (nv : Int)) = false := by simp
              clear hSc h1 h2 h3 HGS HCG
              go_wp2
              go_roundw
              case rel => exact ⟨n + 1, by omega, by go_num, HG5⟩
              case measure => simp [intOf]; omega
            · have q3 : decide ((n : Int) < 3) = false := by simp; omega
              have hV0 : 0 < Ms.length := by rw [HW.out.len]; omega
              have hE : Calls Tryd.prog 11 #[.pointer (some ⟨g, 0, none⟩), .int .i64 0, .string ⟨#[110, 101, 119]⟩] wr fun e w' => e = .returned (.int .i64 0) ∧ LB w' C g 20000 3 (K0 + n + 1) (Ms.set 0 (⟨#[110, 101, 119]⟩, [])) ∧ Below C wr w' := HG.out.lb.erase (by omega) 0 (by omega) hV0 ⟨#[110, 101, 119]⟩ (by decide)
              have hM1 : (Ms.set 0 (⟨#[110, 101, 119]⟩, [])).length = 3 := by rw [List.length_set]; exact HW.out.len
              have hM2 : ∀ h, (Ms.set 0 (⟨#[110, 101, 119]⟩, []))[0]'h = (⟨#[110, 101, 119]⟩, []) := fun h => by rw [List.getElem_set, if_pos rfl]
              generalize Ms.set 0 (⟨#[110, 101, 119]⟩, []) = M2 at *
              have HBY := Lib.hid HG.out.below
              clear HG
              go_upto_region 29 with fail
              go_wp2_with fail
              refine hE.mono ?_
              rintro e wa ⟨rfl, ha, hba⟩
              have HBA := Lib.hid (HBY.out.trans (hba.mono hB0))
              have hSc : Calls Tryd.prog 10 #[.pointer (some ⟨g, 0, none⟩), .int .i64 0] wa fun e w' => ∃ A c, e = .returned (.tuple #[.slice A 0 c, .int .i64 0]) ∧ LB w' C g 20000 3 (K0 + n + 1 + 1) M2 ∧ Below C wa w' ∧ KL wa w' := by
                have := ha.scanK (fun W' hb => HSTC.out wa W' HBA.out hb) hC0 (by omega) 0 (by omega) (by omega) (by rw [hM2]; decide) (by rw [hM2]; simp)
                simp only [hM2] at this
                exact this
              clear hE ha hba HBY
              go_upto_region 31 with fail
              go_wp2_with fail
              refine hSc.mono ?_
              rintro e wb ⟨A5, c5, rfl, hlb, hbb, _⟩
              have HBB := Lib.hid (HBA.out.trans (hbb.mono hB0))
              obtain ⟨gv, hVo, hUs, hLa⟩ := hlb.volume 0 (by omega) (by omega)
              have hVo1 : Calls Tryd.prog 12 #[.pointer (some ⟨g, 0, none⟩), .int .i64 0] wb fun e w' => e = .returned (.pointer (some ⟨gv, 0, none⟩)) ∧ wb = w' := hVo wb (Below.refl _ _)
              have hLa1 := hLa wb (Below.refl _ _)
              rw [hM2] at hLa1
              have hBb : B ≤ wb.heap.size := by have := HBB.out.size; omega
              clear hSc hlb hbb hVo hUs hLa HBA
              go_wp2_with fail
              refine hVo1.mono ?_
              rintro e wc ⟨rfl, rfl⟩
              go_wp2_with fail
              refine hLa1.mono ?_
              rintro e wc ⟨rfl, hbc⟩
              have HBC := Lib.hid (HBB.out.trans (hbc.mono hBb))
              clear hVo1 hLa1 hbc HBB
              go_wp2
              go_ret
              exact ⟨rfl, HBC.out⟩
end Go.Proofs.YtniecodpdmjppaaDoor

/- LibraryBlobs: blobs on three volumes are read again whatever is mounted between, and Scan finds as many as were written: whatever the arguments, the law returns true and changes nothing that was there. -/
namespace Go.Proofs.YtniecodpdmjppaaDoor.libraryBlobs
open Go.ChangeShapes Go.WideShapes Go.ChangeAt Go.RowKit
open Go.ChangeMaps (open_string)
set_option linter.unusedVariables false

theorem walk (drives : Int) (A : Option Addr) (cap : Nat) (m : List Bl) (hcap : m.length ≤ cap) (hmx : m.length ≤ 9223372036854775807) (A2 : Option Addr) (cap2 : Nat) (vs : List Int) (hvx : vs.length ≤ 9223372036854775807) (w : World) (hS : Steps w) (hL : BlobsAt w w.heap.size A m) (hL2 : Lies w w.heap.size A2 (ints vs)) :
    Calls Tryd.prog 3 #[.int .i64 drives, .slice A m.length cap, .slice A2 vs.length cap2] w fun e w' => e = .returned (.bool true) ∧ Below w.heap.size w w' := walk_blobs drives A cap m hcap hmx A2 cap2 vs hvx w hS hL hL2

set_option maxRecDepth 100000 in
theorem lifted (os : Os) (started : os.Started) (H : Type) (enc : TypeId × Value → H) :
    ReturnsInHanded {} Tryd.checked os 3 .any (fun w args => (Rows.libraryBlobsSpec.pre enc Tryd.prog Tryd.f3 [] false w args ∧ laidMetH Tryd.prog laid1 w) ∧ sizedMet enc Tryd.prog Tryd.f3 (OpenSpec.ofChange Rows.libraryBlobsSpec) false w args)
      (Rows.libraryBlobsSpec.post enc Tryd.prog Tryd.f3 false true false false) := by
  refine returnsInHanded_of_change_and (C := Tryd.checked) (X := fun w _ => laidMetH Tryd.prog laid1 w) (fun _ _ _ hh h => h.of_heap hh) own started (by kernel_rfl) Tryd.func3
    (ChangeSpec.witness_shaped (enc := enc) (C := Tryd.checked) (os := os) (X := fun w _ => laidMetH Tryd.prog laid1 w) false (World.doorLaid Tryd.prog 40 os) #[.int .i64 0, .slice none 0 0, .slice none 0 0] 8 rfl (World.shaped_of_RefB (by kernel_rfl) (by kernel_rfl)) (by kernel_rfl) (by kernel_rfl) (by kernel_rfl) (door_met os _)) ?_
  intro W base args ds gs before hval0 hW _ _ hL _
  have hval : ∀ (j : Nat) t v, Tryd.f3.params[j]? = some t → args[j]? = some v → Value.okWide Tryd.prog W .any base t v := hval0
  have hW' := hW
  obtain ⟨p, q, hA0, hV, rfl, hfz, hnd⟩ := hW
  have hA : DataW.TrodAll enc Tryd.prog W 0 (fun _ => true) true Tryd.f3.params.toList args.toList ds p := hA0
  rw [Tryd.params3] at hA hval
  obtain ⟨v0, vs0, d0, ds0, p0, q0, hargs, rfl, rfl, h0, r0⟩ := trodAll_cons hA
  obtain ⟨v1, vs1, d1, ds1, p1, q1, rfl, rfl, rfl, h1, r1⟩ := trodAll_cons r0
  obtain ⟨v2, vs2, d2, ds2, p2, q2, rfl, rfl, rfl, h2, r2⟩ := trodAll_cons r1
  obtain ⟨rfl, rfl, rfl⟩ := trodAll_nil r2
  obtain rfl : args = #[v0, v1, v2] := by cases args; simp_all
  obtain ⟨rfl, rfl⟩ := trodVars_none hV
  obtain ⟨a0, rfl, rfl, rfl, w0⟩ := open_int Tryd.underlying3 (hval 0 3 v0 rfl rfl) h0
  obtain ⟨A1, c1, l1, rfl, hc1, hL1, hm1⟩ := open_blobs (hval 1 22 v1 rfl rfl) h1
  obtain ⟨A2, c2, l2, rfl, hc2, hL2, hm2⟩ := open_list_ints Tryd.underlying23 Tryd.underlying3 (by kernel_rfl) (hval 2 23 v2 rfl rfl) h2
  have hl2 := slice_max (enc := enc) (d := d2) (p := p2) Tryd.underlying23 h2
  have hS := of_laid hL
  refine (walk a0 A1 c1 l1 hc1 hm1 A2 c2 l2 hl2 W hS hL1 hL2).mono fun e W' ⟨he, hg⟩ => ?_
  subst he
  exact ⟨_, rfl, law_post (tb := 4) hW' rfl (by kernel_rfl) Tryd.underlying4 (by rw [Tryd.params3]; decide +kernel) rfl hg⟩

theorem proved : Rows.LibraryBlobsSaid :=
  OpenClaim.holds_of_wide 3 Tryd.f3 rfl rfl rfl rfl rfl rfl rfl ⟨rfl, rfl, rfl, rfl, rfl⟩ rfl rfl rfl rfl rfl (by kernel_rfl) Tryd.func3 (by kernel_rfl)
    (of_decide_eq_true (by kernel_rfl)) (by unfold Func.isWrapper; first | (rw [if_pos (by decide +kernel)]; kernel_rfl) | (rw [if_neg (by decide +kernel)]; exact ⟨rfl, rfl⟩))
    (fun os started H enc _ => lifted os started H enc)

theorem card : Rows.LibraryBlobsCardSaid :=
  Claim7.holds_tied_plain_at .later [] [.data] true _ false
    proved (fun _ h => by cases h) (by kernel_rfl) (fun _ h => by cases h) libraryBlobs_row_tie rfl ⟨rfl, rfl⟩ (by kernel_rfl) rfl
    (fun f fn hf hfn => by
      obtain rfl : f = 3 := Option.some.inj ((show Tryd.prog.funcNamed "glacier/glacierlaw08.LibraryBlobs" = some 3 by kernel_rfl).symm.trans hf) |>.symm
      obtain rfl : fn = Tryd.f3 := (Option.some.inj (Tryd.func3.symm.trans hfn)).symm
      exact ⟨by kernel_rfl, fun j t ht => by
        rw [Tryd.params3] at ht
        have hm : t ∈ [3, 22, 23] := by simpa using Array.mem_of_getElem? ht
        have hall : ([3, 22, 23].all fun u => !Tryd.prog.wantsStandIn u) = true := by kernel_rfl
        exact (show Tryd.prog.wantsStandIn t = false by simpa using List.all_eq_true.1 hall t hm)⟩)
    (by kernel_rfl)
#print axioms card
end Go.Proofs.YtniecodpdmjppaaDoor.libraryBlobs
