/- Lhe, Lhc: merged (a claim holds few files). -/
import Derived.Test.YtniecodpdmjppaaDoorLE6
import Derived.Test.YtniecodpdmjppaaDoorLE7
import Derived.Test.YtniecodpdmjppaaDoorOb
import Derived.Test.YtniecodpdmjppaaDoorLE3
import Derived.Lib.RabinKarpLaws
import Derived.Test.YtniecodpdmjppaaDoorOp
import Derived.Test.YtniecodpdmjppaaDoorSy
import Derived.Test.YtniecodpdmjppaaDoorLw
import Derived.Test.YtniecodpdmjppaaDoorTie
import Derived.Test.YtniecodpdmjppaaDoorCards
import Derived.SevenTiedAt
/- glacierlaw08.LibraryErased: its walk. -/
namespace Go.Proofs.YtniecodpdmjppaaDoor
open Go.RowKit
open Sm
set_option linter.unusedVariables false
set_option linter.unusedSimpArgs false

theorem bit_one (x : Int) : ∃ v u : Nat, v + u = 1 ∧ Go.bits BinOp.and IntKind.i64 x 1 = (v : Int) := by
  have h : Go.bits BinOp.and IntKind.i64 x 1 = (((BitVec.ofInt 64 x).toNat % 2 : Nat) : Int) := by
    have e : Go.bits BinOp.and IntKind.i64 x 1 = IntKind.i64.wrap ((BitVec.ofInt 64 x &&& BitVec.ofInt 64 1).toNat) := rfl
    rw [e, BitVec.toNat_and]
    have e1 : (BitVec.ofInt 64 1).toNat = 1 := rfl
    rw [e1, Nat.and_one_is_mod]
    exact IntWalk.i64_in _ ⟨by omega, by omega⟩
  rw [h]
  exact ⟨(BitVec.ofInt 64 x).toNat % 2, 1 - (BitVec.ofInt 64 x).toNat % 2, by omega, rfl⟩

/-- two new volumes -/
theorem LB.new {W : World} {B g : Nat} {v1 v2 : Value} {gs : List Nat} {k3 : Nat} {l : List Int} {R : Int} (h1 : LibAt W B g v1 v2 gs (List.replicate k3 (Dr.no false)) 0 0) (h2 : Vols W B gs (freshOf l)) (h0 : 0 < k3) (h3 : k3 ≤ 3) (hl : ∀ x ∈ l, x = R) (hR : 0 ≤ R) :
    LB W B g R l.length 0 (List.replicate l.length (⟨#[]⟩, [])) := by
  have e : (freshOf l).length = l.length := by simp [freshOf]
  refine ⟨v1, v2, gs, _, 0, 0, _, h1, h2, FreeD.new h0 h3, ⟨Int.le_refl _, Int.le_refl _⟩, ⟨Int.le_refl _, Int.le_refl _⟩, by rw [h2.len, e], e, by simp, fun i hi hi2 => ?_⟩
  have hx : (freshOf l)[i] = VS.new R := by
    have := hl _ (List.getElem_mem (show i < l.length by omega))
    simp only [freshOf, List.getElem_map]
    rw [this, Int.max_eq_left hR]
  rw [List.getElem_replicate, hx]
  exact ⟨VS.BlobsR.new R, Int.le_refl _⟩

/-- what holds of the lists of blobs -/
structure Few (k : Nat) (Ms : List (ByteArray × List (Nat × List UInt8))) : Prop where
  len : Ms.length = 2
  lab : ∀ i (h : i < Ms.length), Ms[i].1 = ⟨#[]⟩
  few : ∀ i (h : i < Ms.length), Ms[i].2.length ≤ k

set_option maxRecDepth 100000 in
set_option maxHeartbeats 8000000 in
theorem walk_erased (A : Option Addr) (cap : Nat) (m : List Bl) (hcap : m.length ≤ cap) (hmx : m.length ≤ 9223372036854775807) (which : Int) (w : World) (hS : Steps w) (hL : BlobsAt w w.heap.size A m) :
    Calls Tryd.prog 4 #[.slice A m.length cap, .int .i64 which] w fun e w' => e = .returned (.bool true) ∧ Below w.heap.size w w' := by
  have hS0 := hS.1
  have hAw := awake8_any w
  obtain ⟨B, hB⟩ : ∃ B, w.heap.size = B := ⟨_, rfl⟩
  rw [hB] at hAw hL hS0 ⊢
  obtain ⟨N, hNN⟩ : ∃ N : Nat, min m.length 5 = N := ⟨_, rfl⟩
  have hmin : min (m.length : Int) 5 = (N : Int) := by omega
  have hNm : N ≤ m.length := by omega
  have hN5 : N ≤ 5 := by omega
  have HCELL : Hid (∀ k (h : k < m.length), ∃ ad, A = some ad ∧ (∀ w', Below B w w' → w'.cell? (ad.add (k * 3)) = some (.int .u64 (m[k].id : Int)) ∧ w'.cell? ⟨(ad.add (k * 3)).block, (ad.add (k * 3)).off + 1, none⟩ = some (.string m[k].s) ∧ w'.cell? ⟨(ad.add (k * 3)).block, (ad.add (k * 3)).off + 2, none⟩ = some (.int .i64 m[k].n)) ∧ m[k].id < 18446744073709551616) := Lib.hid fun k h => hL.get h
  have HST : Hid (∀ W, Below B w W → Steps W) := Lib.hid fun W h => hS.below h hS0
  clear hL hS
  obtain ⟨v, u, hvu, hbit⟩ := bit_one which
  have hv2 : v < 2 := by omega
  have hu2 : u < 2 := by omega
  have hwv : IntKind.i64.wrap (v : Int) = (v : Int) := IntWalk.i64_in _ ⟨by omega, by omega⟩
  have HVU := Lib.hid hvu
  clear hvu
  go_enter Tryd.func4, Tryd.ntmps4
  go_upto_region 1 with fail
  go_wp2_with fail
  refine hAw.mono ?_
  rintro e w1 ⟨rfl, hb1⟩
  clear hAw
  have hR : Lies (w1.alloc (.cells #[.int .i64 20000, .int .i64 20000] 3)) (w1.alloc (.cells #[.int .i64 20000, .int .i64 20000] 3)).heap.size (some ⟨w1.heap.size, 0, none⟩) (ints [20000, 20000]) := Lies.of_at (At.new w1 _ _) rfl (by simp)
  have hN := newlib_any (some ⟨w1.heap.size, 0, none⟩) 2 [20000, 20000] 1 _ hR (by simp) (by simp) 1 rfl
  have hb0 : Below B w (w1.alloc (.cells #[.int .i64 20000, .int .i64 20000] 3)) := hb1.trans ((Below.refl _ w1).alloc (by have := hb1.size; omega) _)
  rw [show ([20000, 20000] : List Int).length = 2 from rfl] at hN
  have HB0 := Lib.hid hb0
  clear hR hb0
  go_upto_region 3 with fail
  go_wp2_with fail
  generalize w1.alloc (.cells #[.int .i64 20000, .int .i64 20000] 3) = w0 at *
  clear hb1
  refine hN.mono ?_
  rintro e w2 ⟨g, v1, v2, gs, rfl, h1, hv1, hb2⟩
  have hB0 : B ≤ w0.heap.size := by have := HB0.out.size; omega
  have hlb := LB.new (R := 20000) h1 hv1 (by omega) (by omega) (by simp) (by omega)
  rw [show ([20000, 20000] : List Int).length = 2 from rfl] at hlb
  have HLB := Lib.hid hlb
  have HF0 : Hid (Few 0 (List.replicate 2 (⟨#[]⟩, []))) := Lib.hid ⟨List.length_replicate, fun i h => by rw [List.getElem_replicate], fun i h => by rw [List.getElem_replicate]; exact Nat.le_refl _⟩
  have HB2 := Lib.hid (HB0.out.trans (hb2.mono hB0))
  generalize List.replicate 2 ((⟨#[]⟩ : ByteArray), ([] : List (Nat × List UInt8))) = Ms0 at *
  clear hN h1 hv1 hlb hb2 HB0
  have hC0 : 0 < w0.heap.size := by omega
  generalize w0.heap.size = C at *
  have HSTC : Hid (∀ W W', Below B w W → Below C W W' → Steps W') := Lib.hid fun W W' h h' => HST.out _ (h.trans (h'.mono hB0))
  go_wp2
  go_loopw [7] (fun i wr => ∃ (k : Nat) (Ms : List (ByteArray × List (Nat × List UInt8))), k ≤ N ∧ i = .int .i64 (k : Int) ∧ Hid (LB wr C g 20000 2 k Ms) ∧ Hid (Few k Ms) ∧ Hid (Below B w wr))
    (fun i _ => N - (intOf i).toNat)
  case atStart => exact ⟨0, Ms0, by omega, rfl, HLB, HF0, HB2⟩
  case round =>
    clear HLB HF0 HB2
    obtain ⟨k, Ms, hk, rfl, HG, HF, HB⟩ := hrel
    by_cases hlt : k < N
    · have q1 : decide ((k : Int) < (N : Int)) = true := by simpa using hlt
      have hkm : k < m.length := by omega
      obtain ⟨ad, rfl, hcl, hid⟩ := HCELL.out k hkm
      have hds : m[k].data.size ≤ 600 := longOf_size _ _
      have hLo : ∀ W, Calls Tryd.prog 8 #[.string m[k].s, .int .i64 m[k].n] W fun e w' => e = .returned (.string m[k].data) ∧ W = w' := fun W => long_any m[k].s m[k].n W
      generalize m[k].data = d at *
      generalize m[k].s = sx at *
      generalize m[k].n = nx at *
      generalize m[k].id = id at *
      obtain ⟨j, hj⟩ : ∃ j, k % 2 = j := ⟨_, rfl⟩
      have hj2 : j < 2 := by omega
      have hmd : (k : Int).tmod 2 = (j : Int) := by rw [Int.tmod_eq_emod_of_nonneg (by omega)]; omega
      have hjl : j < Ms.length := by rw [HF.out.len]; exact hj2
      obtain ⟨r1, hr1⟩ : ∃ r, tapeN Ms[j].2 = r := ⟨_, rfl⟩
      have hWr : ∀ W, LB W C g 20000 2 k Ms ∧ Below B w W → Calls Tryd.prog 7 #[.pointer (some ⟨g, 0, none⟩), .int .i64 (j : Int), .int .u64 (id : Int), .string d] W fun e w' => e = .returned (.tuple #[.int .i64 (r1 : Int), .int .i64 0]) ∧ ∃ Ms', LB w' C g 20000 2 (k + 1) Ms' ∧ Few (k + 1) Ms' ∧ Below B w w' := fun W h => by
        have hl : Ms[j].1.size ≤ 32 := by rw [HF.out.lab j hjl]; decide
        have hn : Ms[j].2.length ≤ 20 := by have := HF.out.few j hjl; omega
        have := h.1.write (fun W' hb => HSTC.out W W' h.2 hb) hC0 (by omega) (by omega) j hj2 hjl hl hn id hid d hds
        rw [hr1] at this
        refine this.mono ?_
        rintro e w' ⟨rfl, h1, h2⟩
        refine ⟨rfl, _, h1, ⟨by rw [List.length_set]; exact HF.out.len, fun i hi => ?_, fun i hi => ?_⟩, h.2.trans (h2.mono hB0)⟩
        · rw [List.length_set] at hi
          rw [List.getElem_set]
          split
          · exact HF.out.lab j hjl
          · exact HF.out.lab i hi
        · rw [List.length_set] at hi
          rw [List.getElem_set]
          split
          · have := HF.out.few j hjl
            simp
            omega
          · have := HF.out.few i hi
            omega
      have HWR := Lib.hid hWr
      have HLO := Lib.hid hLo
      have HCL := Lib.hid hcl
      clear hWr hLo hcl hr1 hj
      go_upto_region 8 with fail
      refine lgx_region (Pre := fun W => LB W C g 20000 2 k Ms ∧ Below B w W) (Post := fun W => ∃ Ms', LB W C g 20000 2 (k + 1) Ms' ∧ Few (k + 1) Ms' ∧ Below B w W) rfl ⟨rfl, rfl, rfl, hkm, hmd, fun W hW => HCL.out W (by rcases hW with hW | ⟨Ms', hW⟩; exact hW.2; exact hW.2.2), HLO.out, HWR.out⟩ ⟨HG.out.below (Below.drew (Below.refl _ _)), Below.drew HB.out⟩ ?_
      intro w7 hw7
      simp only [List.setIfInBounds_toArray, List.set_cons_zero, List.set_cons_succ]
      obtain ⟨Ms', hl7, hf7, hb7⟩ := hw7
      have HG7 := Lib.hid hl7
      have HF7 := Lib.hid hf7
      have HB7 := Lib.hid hb7
      clear HWR HLO HCL HG HF HB hl7 hf7 hb7 hmd
      go_wp2
      go_roundw
      case rel => exact ⟨k + 1, Ms', by omega, by go_num, HG7, HF7, HB7⟩
      case measure => simp [intOf]; omega
    · have q1 : decide ((k : Int) < (N : Int)) = false := by simpa using hlt
      obtain rfl : k = N := by omega
      have hul : u < Ms.length := by rw [HF.out.len]; exact hu2
      have hvl : v < Ms.length := by rw [HF.out.len]; exact hv2
      have hvu := HVU.out
      have huv : (1 : Int) - (v : Int) = (u : Int) := by omega
      have HUV := Lib.hid huv
      have hne : v ≠ u := by omega
      have HNE := Lib.hid hne
      have hws : IntKind.i64.wrap (1 - (v : Int)) = 1 - (v : Int) := IntWalk.i64_in _ ⟨by omega, by omega⟩
      obtain ⟨gu, hVo, hUs, hLa⟩ := HG.out.volume u hu2 hul
      obtain ⟨ow, how⟩ : ∃ ow, wsum (tapeL Ms[u].1 0 Ms[u].2) = ow := ⟨_, rfl⟩
      rw [how] at hUs
      rw [← HUV.out] at hVo
      have hVo1 := hVo wr (Below.refl _ _)
      have hUs1 := hUs wr (Below.refl _ _)
      have HOW := Lib.hid how
      clear hVo hUs hLa hvu huv hne how
      go_upto_region 11 with fail
      go_upto_region 12 with fail
      go_wp2_with fail
      refine hVo1.mono ?_
      rintro e w3 ⟨rfl, rfl⟩
      go_wp2_with fail
      refine hUs1.mono ?_
      rintro e w3 ⟨rfl, rfl⟩
      clear hVo1 hUs1
      have hE := HG.out.erase (by omega) v hv2 hvl ⟨#[97, 103, 97, 105, 110]⟩ (by decide)
      go_upto_region 13 with fail
      go_wp2_with fail
      refine hE.mono ?_
      rintro e w4 ⟨rfl, h4, b4⟩
      have HB4 := Lib.hid (HB.out.trans (b4.mono hB0))
      clear hE b4 HB
      have hM4 : (Ms.set v (⟨#[97, 103, 97, 105, 110]⟩, [])).length = 2 := by rw [List.length_set]; exact HF.out.len
      have hMv : ∀ h, (Ms.set v (⟨#[97, 103, 97, 105, 110]⟩, []))[v]'h = (⟨#[97, 103, 97, 105, 110]⟩, []) := fun h => by rw [List.getElem_set, if_pos rfl]
      have hMu : ∀ h, (Ms.set v (⟨#[97, 103, 97, 105, 110]⟩, []))[u]'h = Ms[u] := fun h => by rw [List.getElem_set, if_neg HNE.out]
      have HM4 := Lib.hid hM4
      have HMV := Lib.hid hMv
      have HMU := Lib.hid hMu
      clear hM4 hMv hMu
      generalize Ms.set v (⟨#[97, 103, 97, 105, 110]⟩, []) = M4 at *
      obtain ⟨ga, hVo, hUs, hLa⟩ := h4.volume v hv2 (by rw [HM4.out]; exact hv2)
      obtain ⟨gb, hVo2, hUs2, hLa2⟩ := h4.volume u hu2 (by rw [HM4.out]; exact hu2)
      have hVo1 := hVo w4 (Below.refl _ _)
      have hUs1 := hUs w4 (Below.refl _ _)
      have hVo3 := hVo2 w4 (Below.refl _ _)
      have hUs3 := hUs2 w4 (Below.refl _ _)
      rw [HMV.out] at hUs1
      rw [HMU.out, HOW.out] at hUs3
      rw [← HUV.out] at hVo3
      have hUs1 : Calls Tryd.prog 14 #[.pointer (some ⟨ga, 0, none⟩)] w4 fun e w' => e = .returned (.int .i64 0) ∧ w4 = w' := hUs1
      have H4 := Lib.hid h4
      clear hVo hUs hLa hVo2 hUs2 hLa2 h4 HG
      go_wp2_with fail
      refine hVo1.mono ?_
      rintro e w5 ⟨rfl, rfl⟩
      go_wp2_with fail
      refine hUs1.mono ?_
      rintro e w5 ⟨rfl, rfl⟩
      go_wp2_with fail
      refine hVo3.mono ?_
      rintro e w5 ⟨rfl, rfl⟩
      go_wp2_with fail
      refine hUs3.mono ?_
      rintro e w5 ⟨rfl, rfl⟩
      clear hVo1 hUs1 hVo3 hUs3
      have hv4 : v < M4.length := by rw [HM4.out]; exact hv2
      have hW := H4.out.write (fun W' hb => HSTC.out w4 W' HB4.out hb) hC0 (by omega) (by omega) v hv2 hv4 (by rw [HMV.out]; decide) (by rw [HMV.out]; simp) 5 (by omega) ⟨#[102, 105, 118, 101]⟩ (by decide)
      rw [HMV.out] at hW
      have hW : Calls Tryd.prog 7 #[.pointer (some ⟨g, 0, none⟩), .int .i64 (v : Int), .int .u64 5, .string ⟨#[102, 105, 118, 101]⟩] w4 fun e w' => e = .returned (.tuple #[.int .i64 0, .int .i64 0]) ∧ LB w' C g 20000 2 (k + 1 + 1) (M4.set v (⟨#[97, 103, 97, 105, 110]⟩, [(5, [102, 105, 118, 101])])) ∧ Below C w4 w' := hW
      go_upto_region 15 with fail
      go_wp2_with fail
      refine hW.mono ?_
      rintro e w6 ⟨rfl, h6, b6⟩
      have HB6 := Lib.hid (HB4.out.trans (b6.mono hB0))
      clear hW b6 HB4 H4
      have hM6 : (M4.set v (⟨#[97, 103, 97, 105, 110]⟩, [(5, [102, 105, 118, 101])])).length = 2 := by rw [List.length_set]; exact HM4.out
      have hM6v : ∀ h, (M4.set v (⟨#[97, 103, 97, 105, 110]⟩, [(5, [102, 105, 118, 101])]))[v]'h = (⟨#[97, 103, 97, 105, 110]⟩, [(5, [102, 105, 118, 101])]) := fun h => by rw [List.getElem_set, if_pos rfl]
      generalize M4.set v (⟨#[97, 103, 97, 105, 110]⟩, [(5, [102, 105, 118, 101])]) = M6 at *
      have hv6 : v < M6.length := by omega
      have hRd : Calls Tryd.prog 9 #[.pointer (some ⟨g, 0, none⟩), .int .i64 (v : Int), .int .i64 0, .int .u64 5] w6 fun e w' => e = .returned (.tuple #[.string ⟨#[102, 105, 118, 101]⟩, .int .i64 0]) ∧ LB w' C g 20000 2 (k + 1 + 1 + 1) M6 ∧ Below C w6 w' := by
        have := h6.read (fun W' hb => HSTC.out w6 W' HB6.out hb) hC0 (by omega) v hv2 hv6 (by rw [hM6v]; decide) (by rw [hM6v]; simp) 0 (by rw [hM6v]; simp)
        simp only [hM6v] at this
        exact this
      have HM6V := Lib.hid hM6v
      clear h6 hM6 hM6v
      go_upto_region 16 with fail
      go_wp2_with fail
      refine hRd.mono ?_
      rintro e w8 ⟨rfl, h8, b8⟩
      have HB8 := Lib.hid (HB6.out.trans (b8.mono hB0))
      obtain ⟨ga, hVo, hUs, hLa⟩ := h8.volume v hv2 hv6
      have hVo1 := hVo w8 (Below.refl _ _)
      have hLa1 := hLa w8 (Below.refl _ _)
      rw [HM6V.out] at hLa1
      have hB8 : B ≤ w8.heap.size := by have := HB8.out.size; omega
      clear hRd b8 HB6 h8 hVo hUs hLa
      go_upto_region 17 with fail
      go_wp2_with fail
      refine hVo1.mono ?_
      rintro e w9 ⟨rfl, rfl⟩
      go_wp2_with fail
      refine hLa1.mono ?_
      rintro e w9 ⟨rfl, b9⟩
      have HB9 := Lib.hid (HB8.out.trans (b9.mono hB8))
      clear hVo1 hLa1 b9 HB8
      go_wp2
      go_ret
      exact ⟨rfl, HB9.out⟩
end Go.Proofs.YtniecodpdmjppaaDoor

/- LibraryErased: a volume that is erased has its label and takes blobs anew from its beginning, and the other one has what it had: whatever the arguments, the law returns true and changes nothing that was there. -/
namespace Go.Proofs.YtniecodpdmjppaaDoor.libraryErased
open Go.ChangeShapes Go.WideShapes Go.ChangeAt Go.RowKit
open Go.ChangeMaps (open_string)
set_option linter.unusedVariables false

theorem walk (A : Option Addr) (cap : Nat) (m : List Bl) (hcap : m.length ≤ cap) (hmx : m.length ≤ 9223372036854775807) (which : Int) (w : World) (hS : Steps w) (hL : BlobsAt w w.heap.size A m) :
    Calls Tryd.prog 4 #[.slice A m.length cap, .int .i64 which] w fun e w' => e = .returned (.bool true) ∧ Below w.heap.size w w' := walk_erased A cap m hcap hmx which w hS hL

set_option maxRecDepth 100000 in
theorem lifted (os : Os) (started : os.Started) (H : Type) (enc : TypeId × Value → H) :
    ReturnsInHanded {} Tryd.checked os 4 .any (fun w args => (Rows.libraryErasedSpec.pre enc Tryd.prog Tryd.f4 [] false w args ∧ laidMetH Tryd.prog laid1 w) ∧ sizedMet enc Tryd.prog Tryd.f4 (OpenSpec.ofChange Rows.libraryErasedSpec) false w args)
      (Rows.libraryErasedSpec.post enc Tryd.prog Tryd.f4 false true false false) := by
  refine returnsInHanded_of_change_and (C := Tryd.checked) (X := fun w _ => laidMetH Tryd.prog laid1 w) (fun _ _ _ hh h => h.of_heap hh) own started (by kernel_rfl) Tryd.func4
    (ChangeSpec.witness_shaped (enc := enc) (C := Tryd.checked) (os := os) (X := fun w _ => laidMetH Tryd.prog laid1 w) false (World.doorLaid Tryd.prog 40 os) #[.slice none 0 0, .int .i64 0] 8 rfl (World.shaped_of_RefB (by kernel_rfl) (by kernel_rfl)) (by kernel_rfl) (by kernel_rfl) (by kernel_rfl) (door_met os _)) ?_
  intro W base args ds gs before hval0 hW _ _ hL _
  have hval : ∀ (j : Nat) t v, Tryd.f4.params[j]? = some t → args[j]? = some v → Value.okWide Tryd.prog W .any base t v := hval0
  have hW' := hW
  obtain ⟨p, q, hA0, hV, rfl, hfz, hnd⟩ := hW
  have hA : DataW.TrodAll enc Tryd.prog W 0 (fun _ => true) true Tryd.f4.params.toList args.toList ds p := hA0
  rw [Tryd.params4] at hA hval
  obtain ⟨v0, vs0, d0, ds0, p0, q0, hargs, rfl, rfl, h0, r0⟩ := trodAll_cons hA
  obtain ⟨v1, vs1, d1, ds1, p1, q1, rfl, rfl, rfl, h1, r1⟩ := trodAll_cons r0
  obtain ⟨rfl, rfl, rfl⟩ := trodAll_nil r1
  obtain rfl : args = #[v0, v1] := by cases args; simp_all
  obtain ⟨rfl, rfl⟩ := trodVars_none hV
  obtain ⟨A0, c0, l0, rfl, hc0, hL0, hm0⟩ := open_blobs (hval 0 22 v0 rfl rfl) h0
  obtain ⟨a1, rfl, rfl, rfl, w1⟩ := open_int Tryd.underlying3 (hval 1 3 v1 rfl rfl) h1
  have hS := of_laid hL
  refine (walk A0 c0 l0 hc0 hm0 a1 W hS hL0).mono fun e W' ⟨he, hg⟩ => ?_
  subst he
  exact ⟨_, rfl, law_post (tb := 4) hW' rfl (by kernel_rfl) Tryd.underlying4 (by rw [Tryd.params4]; decide +kernel) rfl hg⟩

theorem proved : Rows.LibraryErasedSaid :=
  OpenClaim.holds_of_wide 4 Tryd.f4 rfl rfl rfl rfl rfl rfl rfl ⟨rfl, rfl, rfl, rfl, rfl⟩ rfl rfl rfl rfl rfl (by kernel_rfl) Tryd.func4 (by kernel_rfl)
    (of_decide_eq_true (by kernel_rfl)) (by unfold Func.isWrapper; first | (rw [if_pos (by decide +kernel)]; kernel_rfl) | (rw [if_neg (by decide +kernel)]; exact ⟨rfl, rfl⟩))
    (fun os started H enc _ => lifted os started H enc)

theorem card : Rows.LibraryErasedCardSaid :=
  Claim7.holds_tied_plain_at .later [] [.data] true _ false
    proved (fun _ h => by cases h) (by kernel_rfl) (fun _ h => by cases h) libraryErased_row_tie rfl ⟨rfl, rfl⟩ (by kernel_rfl) rfl
    (fun f fn hf hfn => by
      obtain rfl : f = 4 := Option.some.inj ((show Tryd.prog.funcNamed "glacier/glacierlaw08.LibraryErased" = some 4 by kernel_rfl).symm.trans hf) |>.symm
      obtain rfl : fn = Tryd.f4 := (Option.some.inj (Tryd.func4.symm.trans hfn)).symm
      exact ⟨by kernel_rfl, fun j t ht => by
        rw [Tryd.params4] at ht
        have hm : t ∈ [22, 3] := by simpa using Array.mem_of_getElem? ht
        have hall : ([22, 3].all fun u => !Tryd.prog.wantsStandIn u) = true := by kernel_rfl
        exact (show Tryd.prog.wantsStandIn t = false by simpa using List.all_eq_true.1 hall t hm)⟩)
    (by kernel_rfl)
#print axioms card
end Go.Proofs.YtniecodpdmjppaaDoor.libraryErased
