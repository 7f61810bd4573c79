/- glacierlaw05.awake: its walk. -/
import Derived.Test.YtchpdeogmbbjgaaVs
namespace Go.Proofs.Ytchpdeogmbbjgaa
open Go.RowKit
set_option linter.unusedVariables false

def A1 : VS := ((VS.new 100).add ⟨⟨#[97, 98]⟩, false, false⟩).1
def A2 : VS := A1.flush.1
def A3 : VS := (A2.add ⟨⟨#[99, 100]⟩, false, false⟩).1
def A4 : VS := A3.crash (pickR [0, 1])
def A5 : VS := (A4.seek 2).1
def A6 : VS := (A5.add ⟨⟨#[101, 102]⟩, false, false⟩).1
def A7 : VS := A6.trim.1
def A8 : VS := (A7.add ⟨⟨#[101, 102]⟩, false, false⟩).1

set_option maxRecDepth 100000 in
set_option maxHeartbeats 2000000 in
theorem awake5_any (w : World) : Calls Try.prog 11 #[] w fun e w' => e = .returned (.bool true) ∧ Below w.heap.size w w' := by
  go_enter Try.func11, Try.ntmps11
  go_wp2_with fail
  refine (new_vol 100 100 (by omega) rfl w).mono ?_
  rintro e w1 ⟨g, rfl, h1, hb1⟩
  generalize hB : w.heap.size = B at *
  have HB := Lib.hid hB; clear hB
  have H1 := Lib.hid h1
  have HB1 := Lib.hid hb1
  clear h1 hb1
  go_wp2_with fail
  refine (write_vol H1.out ⟨#[97, 98]⟩ (by decide) (by decide)).mono ?_
  rintro e w2 ⟨he, h2, st2⟩
  have he' : e = .returned (.int .i64 0) := by rw [he]; kernel_rfl
  subst he'; clear he
  have H2 : Hid (Vol w2 B g A1) := Lib.hid h2
  have HB2 := Lib.hid (HB1.out.trans st2.below)
  clear h2 st2 H1 HB1
  go_wp2_with fail
  refine (flush_vol H2.out).mono ?_
  rintro e w3 ⟨he, h3, st3⟩
  have he' : e = .returned (.int .i64 0) := by rw [he]; kernel_rfl
  subst he'; clear he
  have H3 : Hid (Vol w3 B g A2) := Lib.hid h3
  have HB3 := Lib.hid (HB2.out.trans st3.below)
  clear h3 st3 H2 HB2
  go_wp2_with fail
  refine (write_vol H3.out ⟨#[99, 100]⟩ (by decide) (by decide)).mono ?_
  rintro e w4 ⟨he, h4, st4⟩
  have he' : e = .returned (.int .i64 0) := by rw [he]; kernel_rfl
  subst he'; clear he
  have H4 : Hid (Vol w4 B g A3) := Lib.hid h4
  have HB4 := Lib.hid (HB3.out.trans st4.below)
  clear h4 st4 H3 HB3
  go_wp2_with fail
  refine (crash_vol (H4.out.alloc (.cells #[.int .i64 0, .int .i64 1] 3)) (some ⟨w4.heap.size, 0, none⟩) 2 [0, 1] 2 rfl (Reads.of_at (At.new w4 3 #[.int .i64 0, .int .i64 1]) rfl) (by decide) (by decide)).mono ?_
  rintro e w5 ⟨rfl, h5, st5⟩
  have H5 : Hid (Vol w5 B g A4) := Lib.hid h5
  have HB5 := Lib.hid (HB4.out.trans (((Below.refl B w4).alloc H4.out.bz (.cells #[.int .i64 0, .int .i64 1] 3)).trans st5.below))
  clear h5 st5 H4 HB4
  go_wp2_with fail
  refine (len_vol H5.out).mono ?_
  rintro e w6 ⟨he, rfl⟩
  have he' : e = .returned (.int .i64 2) := by rw [he]; kernel_rfl
  subst he'; clear he
  go_wp2_with fail
  refine (seek_vol H5.out 2).mono ?_
  rintro e w6 ⟨he, h6, st6⟩
  have he' : e = .returned (.int .i64 0) := by rw [he]; kernel_rfl
  subst he'; clear he
  have H6 : Hid (Vol w6 B g A5) := Lib.hid h6
  have HB6 := Lib.hid (HB5.out.trans st6.below)
  clear h6 st6 H5 HB5
  go_wp2_with fail
  refine (write_vol H6.out ⟨#[101, 102]⟩ (by decide) (by first | decide | (rw [show A5.l.length = 2 by kernel_rfl]; decide) | (rw [show A7.l.length = 1 by kernel_rfl]; decide))).mono ?_
  rintro e w7 ⟨he, h7, st7⟩
  have he' : e = .returned (.int .i64 16) := by rw [he]; kernel_rfl
  subst he'; clear he
  have H7 : Hid (Vol w7 B g A6) := Lib.hid h7
  have HB7 := Lib.hid (HB6.out.trans st7.below)
  clear h7 st7 H6 HB6
  go_wp2_with fail
  refine (trim_vol H7.out).mono ?_
  rintro e w8 ⟨he, h8, st8⟩
  have he' : e = .returned (.int .i64 0) := by rw [he]; kernel_rfl
  subst he'; clear he
  have H8 : Hid (Vol w8 B g A7) := Lib.hid h8
  have HB8 := Lib.hid (HB7.out.trans st8.below)
  clear h8 st8 H7 HB7
  go_wp2_with fail
  refine (write_vol H8.out ⟨#[101, 102]⟩ (by decide) (by first | decide | (rw [show A5.l.length = 2 by kernel_rfl]; decide) | (rw [show A7.l.length = 1 by kernel_rfl]; decide))).mono ?_
  rintro e w9 ⟨he, h9, st9⟩
  have he' : e = .returned (.int .i64 0) := by rw [he]; kernel_rfl
  subst he'; clear he
  have H9 : Hid (Vol w9 B g A8) := Lib.hid h9
  have HB9 := Lib.hid (HB8.out.trans st9.below)
  clear h9 st9 H8 HB8
  go_wp2_with fail
  refine (used_vol H9.out).mono ?_
  rintro e w10 ⟨he, rfl⟩
  have he' : e = .returned (.int .i64 12) := by rw [he]; kernel_rfl
  subst he'; clear he
  go_wp2
  go_ret
  exact ⟨rfl, by rw [HB.out]; exact HB9.out⟩
end Go.Proofs.Ytchpdeogmbbjgaa
