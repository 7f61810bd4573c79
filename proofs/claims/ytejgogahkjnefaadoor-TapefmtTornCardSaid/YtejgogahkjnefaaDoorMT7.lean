/- Tnc7: merged (a claim holds few files). -/
import Derived.Test.YtejgogahkjnefaaDoorMT6
import Derived.Test.YtejgogahkjnefaaDoorMT3
import Derived.Test.YtejgogahkjnefaaDoorSy
import Derived.Test.YtejgogahkjnefaaDoorLw
import Derived.Test.YtejgogahkjnefaaDoorTie
import Derived.Test.YtejgogahkjnefaaDoorCards
import Derived.SevenTiedAt
/- TapefmtTorn: behind a Write that fails, a crash and Mend the blobs ahead are found, and perhaps that one, whole; more is written behind: whatever the arguments, the law returns true and changes nothing that was there. -/
namespace Go.Proofs.YtejgogahkjnefaaDoor.tapefmtTorn
open Go.ChangeShapes Go.WideShapes Go.ChangeAt Go.RowKit
open Go.ChangeMaps (open_string)
set_option linter.unusedVariables false

theorem walk (A : Option Addr) (cap : Nat) (m : List Bl) (hcap : m.length ≤ cap) (hmx : m.length ≤ 9223372036854775807) (id : Nat) (hid : id < 18446744073709551616) (sb : ByteArray) (nb : Int) (fl : Int) (hfl : -9223372036854775808 ≤ fl) (A2 : Option Addr) (cap2 : Nat) (l2 : List Int) (hli : ∀ x ∈ l2, -9223372036854775808 ≤ x ∧ x ≤ 9223372036854775807) (w : World) (hS : Steps w) (hL : BlobsAt w w.heap.size A m) (hR2 : Lies w w.heap.size A2 (ints l2)) (hl2x : l2.length ≤ 9223372036854775807) :
    Calls Tryd.prog 3 #[.slice A m.length cap, .agg #[.int .u64 (id : Int), .string sb, .int .i64 nb], .int .i64 fl, .slice A2 l2.length cap2] w fun e w' => e = .returned (.bool true) ∧ Below w.heap.size w w' := walk_torn A cap m hcap hmx id hid sb nb fl hfl A2 cap2 l2 hli w hS hL hR2 hl2x

set_option maxRecDepth 100000 in
theorem lifted (os : Os) (started : os.Started) (H : Type) (enc : TypeId × Value → H) :
    ReturnsInHanded {} Tryd.checked os 3 .any (fun w args => (Rows.tapefmtTornSpec.pre enc Tryd.prog Tryd.f3 [] false w args ∧ laidMetH Tryd.prog laid1 w) ∧ sizedMet enc Tryd.prog Tryd.f3 (OpenSpec.ofChange Rows.tapefmtTornSpec) false w args)
      (Rows.tapefmtTornSpec.post enc Tryd.prog Tryd.f3 false true false false) := by
  refine returnsInHanded_of_change_and (C := Tryd.checked) (X := fun w _ => laidMetH Tryd.prog laid1 w) (fun _ _ _ hh h => h.of_heap hh) own started (by kernel_rfl) Tryd.func3
    (ChangeSpec.witness_shaped (enc := enc) (C := Tryd.checked) (os := os) (X := fun w _ => laidMetH Tryd.prog laid1 w) false (World.doorLaid Tryd.prog 40 os) #[.slice none 0 0, .agg #[.int .u64 0, .string ⟨#[]⟩, .int .i64 0], .int .i64 0, .slice none 0 0] 8 rfl (World.shaped_of_RefB (by kernel_rfl) (by kernel_rfl)) (by kernel_rfl) (by kernel_rfl) (by kernel_rfl) (door_met os _)) ?_
  intro W base args ds gs before hval0 hW _ _ hL _
  have hval : ∀ (j : Nat) t v, Tryd.f3.params[j]? = some t → args[j]? = some v → Value.okWide Tryd.prog W .any base t v := hval0
  have hW' := hW
  obtain ⟨p, q, hA0, hV, rfl, hfz, hnd⟩ := hW
  have hA : DataW.TrodAll enc Tryd.prog W 0 (fun _ => true) true Tryd.f3.params.toList args.toList ds p := hA0
  rw [Tryd.params3] at hA hval
  obtain ⟨v0, vs0, d0, ds0, p0, q0, hargs, rfl, rfl, h0, r0⟩ := trodAll_cons hA
  obtain ⟨v1, vs1, d1, ds1, p1, q1, rfl, rfl, rfl, h1, r1⟩ := trodAll_cons r0
  obtain ⟨v2, vs2, d2, ds2, p2, q2, rfl, rfl, rfl, h2, r2⟩ := trodAll_cons r1
  obtain ⟨v3, vs3, d3, ds3, p3, q3, rfl, rfl, rfl, h3, r3⟩ := trodAll_cons r2
  obtain ⟨rfl, rfl, rfl⟩ := trodAll_nil r3
  obtain rfl : args = #[v0, v1, v2, v3] := by cases args; simp_all
  obtain ⟨rfl, rfl⟩ := trodVars_none hV
  obtain ⟨A0, c0, l0, rfl, hc0, hL0, hm0⟩ := open_blobs (hval 0 22 v0 rfl rfl) h0
  obtain ⟨id1, s1, n1, rfl, hid1, hn1, hm1⟩ := open_blob (hval 1 25 v1 rfl rfl) h1
  obtain ⟨a2, rfl, rfl, rfl, w2⟩ := open_int Tryd.underlying3 (hval 2 3 v2 rfl rfl) h2
  have hw2 := bounds_int' w2
  obtain ⟨A3, c3, l3, rfl, hc3, hL3, hm3⟩ := open_list_ints Tryd.underlying26 Tryd.underlying3 (by kernel_rfl) (hval 3 26 v3 rfl rfl) h3
  have hl3 := slice_max (enc := enc) (d := d3) (p := p3) Tryd.underlying26 h3
  have hS := of_laid hL
  refine (walk A0 c0 l0 hc0 hm0 id1 hid1 s1 n1 a2 hw2.1 A3 c3 l3 hm3 W hS hL0 hL3 hl3).mono fun e W' ⟨he, hg⟩ => ?_
  subst he
  exact ⟨_, rfl, law_post (tb := 4) hW' rfl (by kernel_rfl) Tryd.underlying4 (by rw [Tryd.params3]; decide +kernel) rfl hg⟩

theorem proved : Rows.TapefmtTornSaid :=
  OpenClaim.holds_of_wide 3 Tryd.f3 rfl rfl rfl rfl rfl rfl rfl ⟨rfl, rfl, rfl, rfl, rfl⟩ rfl rfl rfl rfl rfl (by kernel_rfl) Tryd.func3 (by kernel_rfl)
    (of_decide_eq_true (by kernel_rfl)) (by unfold Func.isWrapper; first | (rw [if_pos (by decide +kernel)]; kernel_rfl) | (rw [if_neg (by decide +kernel)]; exact ⟨rfl, rfl⟩))
    (fun os started H enc _ => lifted os started H enc)

theorem card : Rows.TapefmtTornCardSaid :=
  Claim7.holds_tied_plain_at .later [] [.data] true _ false
    proved (fun _ h => by cases h) (by kernel_rfl) (fun _ h => by cases h) tapefmtTorn_row_tie rfl ⟨rfl, rfl⟩ (by kernel_rfl) rfl
    (fun f fn hf hfn => by
      obtain rfl : f = 3 := Option.some.inj ((show Tryd.prog.funcNamed "glacier/glacierlaw07.TapefmtTorn" = some 3 by kernel_rfl).symm.trans hf) |>.symm
      obtain rfl : fn = Tryd.f3 := (Option.some.inj (Tryd.func3.symm.trans hfn)).symm
      exact ⟨by kernel_rfl, fun j t ht => by
        rw [Tryd.params3] at ht
        have hm : t ∈ [22, 25, 3, 26] := by simpa using Array.mem_of_getElem? ht
        have hall : ([22, 25, 3, 26].all fun u => !Tryd.prog.wantsStandIn u) = true := by kernel_rfl
        exact (show Tryd.prog.wantsStandIn t = false by simpa using List.all_eq_true.1 hall t hm)⟩)
    (by kernel_rfl)
#print axioms card
end Go.Proofs.YtejgogahkjnefaaDoor.tapefmtTorn
