/- tapefmt.next, (Piece).whole: their walks. -/
import Derived.Test.YtcbeikiglccgaaaDoorTp
import Derived.Test.YtcbeikiglccgaaaDoorTw
import Derived.Deep.RegionHeld3
namespace Go.Proofs.YtcbeikiglccgaaaDoor
open Go.RowKit
open Sm
set_option linter.unusedVariables false

theorem Stay.low {w w1 w2 : World} {B g : Nat} (h : Stay B g w w1) (hB : B ≤ w.heap.size) (hb : Below w.heap.size w1 w2) (hr : rowOf w2 g = rowOf w1 g) : Stay B g w w2 := by
  refine ⟨⟨h.below.trans (hb.mono hB), fun k o hk h1 h2 => ?_⟩, fun hg => ?_⟩
  · exact (hb.block k (Array.getElem?_eq_some_iff.1 hk).1).trans (h.kept k o hk h1 h2)
  · obtain ⟨a1, a2⟩ := h.foot hg
    exact ⟨fun k hk h1 h2 => (hb.block k hk).trans (a1 k hk h1 h2), fun k e => a2 k (by rw [← hr]; exact e)⟩
/-- a block of the call's own was written -/
theorem vol_new {w w1 w9 : World} {B g X : Nat} {t : VS} {T : TypeId} {cs : Array Value} (hv : Vol w1 B g t) (hst : Stay B g w w1) (hB : B ≤ w.heap.size) (hA : At w1 X T cs) (hX : w.heap.size ≤ X) (hg : w1.grownBy w9 (some X)) (h1 : T ≠ 51) (h2 : T ≠ 107) : Vol w9 B g t ∧ Stay B g w w9 := by
  obtain ⟨ok, v, hva⟩ := hv
  have hne : g ≠ X := hva.at_.differ hA (Ne.symm h1)
  refine ⟨Vol.other ⟨ok, v, hva⟩ hg hA (by rintro cs fz e; injection e with _ e _; exact h1 e) (by rintro cs fz e; injection e with _ e _; exact h2 e), hst.low hB (below_of_grownBy (Below.refl _ _) hg hst.size hX) ?_⟩
  unfold rowOf
  rw [World.cell?_of_block (hg.block g hva.lt (by simpa using hne))]

/-- the next block, as a piece: what becomes of the volume; the piece; the error's number -/
def VS.nextP (s : VS) : VS × Pc × Int :=
  if s.read.2.2 ≠ 0 then (s.read.1, .no, s.read.2.2) else
  if s.read.2.1.mark = true then (s.read.1, .no, 3) else
  (s.read.1, (parseL s.read.2.1.t.data.toList).1, ((parseL s.read.2.1.t.data.toList).2 : Nat))

def NextEnds (w : World) (B g : Nat) (r : VS × Pc × Int) (e : Ending) (w' : World) : Prop := e = .returned (.tuple #[r.2.1.val, .int .i64 r.2.2]) ∧ Vol w' B g r.1 ∧ Stay B g w w'

theorem read_ok_size {s : VS} (ok : s.ok) : s.read.2.1.t.size ≤ 1000000 := by
  unfold VS.read
  split
  · show 0 ≤ _; omega
  · cases h : s.l[s.pos]? with
    | none => show 0 ≤ _; omega
    | some b =>
      simp only
      split
      · show 0 ≤ _; omega
      · exact (ok.blk b (List.mem_of_getElem? h)).1

set_option maxRecDepth 100000 in
set_option maxHeartbeats 2000000 in
theorem next_any {w : World} {B g : Nat} {s : VS} (h : Vol w B g s) (hS : Steps w) (hB : 0 < B) :
    Calls Tryd.prog 51 #[.pointer (some ⟨g, 0, none⟩)] w (NextEnds w B g s.nextP) := by
  have hz := read_ok_size h.1
  have hbz := h.bz
  have hR0 := read_vol (h.alloc (.cells pcZero 90))
  have hst0 : Stay B g w (w.alloc (.cells pcZero 90)) := Stay.alloc _ _ hbz
  have hA0 := At.new w 90 pcZero
  unfold VS.nextP
  generalize s.read = r at *
  obtain ⟨t, b, c⟩ := r
  simp only at *
  have HS := Lib.hid hS
  clear h hS
  obtain ⟨RR, hRR⟩ : ∃ RR, (if c ≠ 0 then (t, Pc.no, c) else if b.mark = true then (t, .no, 3) else (t, (parseL b.t.data.toList).1, ((parseL b.t.data.toList).2 : Int))) = RR := ⟨_, rfl⟩
  rw [hRR]
  have HRR := Lib.hid hRR
  clear hRR
  generalize hX : w.heap.size = X at *
  go_enter Tryd.func51, Tryd.ntmps51
  go_wp2_with fail
  refine hR0.mono ?_
  rintro e w1 ⟨rfl, h1, st1⟩
  have HX := Lib.hid hX
  clear hX
  have HA1 := Lib.hid (st1.toStay0.at_ hA0 (by decide) (by decide))
  have HST1 := Lib.hid (hst0.trans st1)
  have H1 : Hid (Vol w1 B g t) := Lib.hid h1
  clear hR0 hA0 h1 st1 hst0
  by_cases hc : c = 0
  · subst hc
    have hrr := HRR.out
    rw [if_neg (by simp)] at hrr
    by_cases hm : b.mark = true
    · rw [if_pos hm] at hrr
      subst hrr
      clear HRR
      simp only [hm]
      go_wp2_with (refine wpList_store_whole rfl 90 _ _ rfl X _ rfl rfl 90 _ HA1.out (by kernel_rfl) (by kernel_rfl) (by kernel_rfl) ?_; intro w9 hZ9 hG9; replace hZ9 := Lib.hid hZ9; replace hG9 := Lib.hid hG9)
      refine bodyPost_ret (res_row_tmp rfl _ _ _ _ _ _ rfl hZ9.out Tryd.underlying90 (by kernel_rfl)) rfl ?_
      obtain ⟨v9, st9⟩ := vol_new H1.out HST1.out (by rw [HX.out]; exact hbz) HA1.out (by rw [HX.out]; exact Nat.le_refl _) hG9.out (by decide) (by decide)
      exact ⟨rfl, v9, st9⟩
    · rw [if_neg hm] at hrr
      have hm' : b.mark = false := by simpa using hm
      simp only [hm']
      have hS1 := HS.out.below HST1.out.below hB
      have hPa := parse_any b.t hz w1 hS1
      generalize parseL b.t.data.toList = P at *
      subst hrr
      unfold ParseRet Pc.val at hPa
      have hP8 : P.1.cells.size = 8 := rfl
      have hP1 : P.1.cells.all (·.oneCell') = true := by simp [Value.oneCell']
      obtain ⟨C, hC⟩ : ∃ C, P.1.cells = C := ⟨_, rfl⟩
      rw [hC] at hPa hP8 hP1
      have HC : Hid (P.1.val = .agg C) := Lib.hid (congrArg Value.agg hC)
      clear hC
      have hI8 : (Tryd.prog.info? 90).map (·.size) = some C.size := by rw [hP8]; kernel_rfl
      have hI9 : pcZero.size = C.size := by rw [hP8]; rfl
      have HI8 := Lib.hid hI8
      have HI9 := Lib.hid hI9
      have HP1 := Lib.hid hP1
      have HPA := Lib.hid hPa
      have e9 : ∀ e : Ending, e = .returned (.tuple #[.agg C, .int .i64 (P.2 : Int)]) → e = .returned (.tuple #[P.1.val, .int .i64 (P.2 : Int)]) := fun e h => by rw [HC.out]; exact h
      have HE9 := Lib.hid e9
      clear HRR hS1 hPa hI8 hI9 hP1 hP8 hm hm' e9
      go_wp2_with fail
      refine HPA.out.mono ?_
      rintro e w2 ⟨rfl, hb2⟩
      have HA2 := Lib.hid (HA1.out.below hb2 HA1.out.lt)
      have HST2 := Lib.hid (HST1.out.trans (Stay.of_below hb2 H1.out.bz))
      have H2 := Lib.hid (H1.out.below hb2)
      clear HA1 HST1 H1 hb2 HPA
      go_wp2_with (refine wpList_store_whole rfl 90 _ _ rfl X C rfl rfl 90 _ HA2.out HI8.out HI9.out HP1.out ?_; intro w9 hZ9 hG9; replace hZ9 := Lib.hid hZ9; replace hG9 := Lib.hid hG9)
      refine bodyPost_ret (res_row_tmp rfl _ _ _ _ _ _ rfl hZ9.out Tryd.underlying90 HI8.out) rfl ?_
      obtain ⟨v9, st9⟩ := vol_new H2.out HST2.out (by rw [HX.out]; exact hbz) HA2.out (by rw [HX.out]; exact Nat.le_refl _) hG9.out (by decide) (by decide)
      exact ⟨HE9.out _ rfl, v9, st9⟩
  · have hrr := HRR.out
    rw [if_pos hc] at hrr
    subst hrr
    have hcb : (c != 0) = true := by rw [bne_iff_ne]; exact hc
    clear HRR
    go_wp2_with (refine wpList_store_whole rfl 90 _ _ rfl X _ rfl rfl 90 _ HA1.out (by kernel_rfl) (by kernel_rfl) (by kernel_rfl) ?_; intro w9 hZ9 hG9; replace hZ9 := Lib.hid hZ9; replace hG9 := Lib.hid hG9)
    refine bodyPost_ret (res_row_tmp rfl _ _ _ _ _ _ rfl hZ9.out Tryd.underlying90 (by kernel_rfl)) rfl ?_
    obtain ⟨v9, st9⟩ := vol_new H1.out HST1.out (by rw [HX.out]; exact hbz) HA1.out (by rw [HX.out]; exact Nat.le_refl _) hG9.out (by decide) (by decide)
    exact ⟨rfl, v9, st9⟩

/-- what whole returns -/
def wholeP (p : Pc) (d : List UInt8) : List UInt8 × Nat := if d.length ≠ p.size ∨ crc d ≠ p.sum then ([], 4) else (d, 0)

set_option maxRecDepth 100000 in
set_option maxHeartbeats 2000000 in
theorem whole_any (p : Pc) (d : ByteArray) (hd : d.size ≤ 1000000) (w : World) (hS : Steps w) :
    Calls Tryd.prog 53 #[p.val, .string d] w fun e w' => e = .returned (.tuple #[.string ⟨(wholeP p d.data.toList).1.toArray⟩, .int .i64 ((wholeP p d.data.toList).2 : Nat)]) ∧ Below w.heap.size w w' := by
  have hdl : d.data.toList.length = d.size := by simp
  have hSm := fun (W : World) (g : Nat) (h : Steps W) (hA : At W g 9 #[.string d]) => sum_any [d] (some ⟨g, 0, none⟩) 1 W h (Lies.of_at hA rfl hA.lt) (by simp) (by simp; omega)
  have hcat : cat [d] = d.data.toList := by simp [cat]
  rw [hcat] at hSm
  unfold wholeP
  rw [hdl]
  have hA := At.new w 90 p.cells
  have hb : Below w.heap.size w (w.alloc (.cells p.cells 90)) := (Below.refl _ w).alloc (Nat.le_refl _) _
  have hS1 := hS.alloc (.cells p.cells 90)
  generalize crc d.data.toList = c at *
  unfold Pc.val
  have hls : (⟨d.data.toList.toArray⟩ : ByteArray) = d := list_string d
  clear hdl hcat hS
  by_cases h1 : d.size = p.size
  · by_cases h2 : c = p.sum
    · rw [if_neg (by rintro (h | h); exact h h1; exact h h2)]
      simp only [hls]
      have q1 : ((d.size : Int) != (p.size : Int)) = false := by rw [h1]; simp
      have q2 : ((c : Int) != (p.sum : Int)) = false := by rw [h2]; simp
      have q3 : (d.size != p.size) = false := by rw [h1]; simp
      have q4 : (c != p.sum) = false := by rw [h2]; simp
      clear h1 h2 hls
      generalize hX : w.heap.size = X at *
      go_enter Tryd.func53, Tryd.ntmps53
      go_wp2_with fail
      generalize w.alloc (.cells p.cells 90) = w1 at *
      have x5 : w1.cell? ⟨X, 5, none⟩ = some (.int .i64 (p.size : Int)) := hA.cell 5
      have x6 : w1.cell? ⟨X, 6, none⟩ = some (.int .u32 (p.sum : Int)) := hA.cell 6
      have hsz := hb.size
      have hlt := hA.lt
      have HBX := Lib.hid hb
      have HX := Lib.hid hX
      clear hb hX
      go_region_with (go_at_call 73; refine (hSm _ _ (by exact hS1.alloc _) (by exact At.new _ _ _)).mono ?_; rintro e w2 ⟨rfl, rfl⟩)
      all_goals
        go_wp2
        go_ret2
        first
        | exact ⟨rfl, below_drewN ((HBX.out.alloc (by have := HBX.out.size; omega) _)) 1⟩
        | exact ⟨rfl, HBX.out.alloc (by have := HBX.out.size; omega) _⟩
        | exact ⟨rfl, HBX.out⟩
        | exact ⟨rfl, below_drewN HBX.out 1⟩
    · rw [if_pos (.inr h2)]
      have q1 : ((d.size : Int) != (p.size : Int)) = false := by rw [h1]; simp
      have q2 : ((c : Int) != (p.sum : Int)) = true := by rw [bne_iff_ne]; omega
      have q3 : (d.size != p.size) = false := by rw [h1]; simp
      have q4 : (c != p.sum) = true := by rw [bne_iff_ne]; exact h2
      clear h1 h2 hls
      generalize hX : w.heap.size = X at *
      go_enter Tryd.func53, Tryd.ntmps53
      go_wp2_with fail
      generalize w.alloc (.cells p.cells 90) = w1 at *
      have x5 : w1.cell? ⟨X, 5, none⟩ = some (.int .i64 (p.size : Int)) := hA.cell 5
      have x6 : w1.cell? ⟨X, 6, none⟩ = some (.int .u32 (p.sum : Int)) := hA.cell 6
      have hsz := hb.size
      have hlt := hA.lt
      have HBX := Lib.hid hb
      have HX := Lib.hid hX
      clear hb hX
      go_region_with (go_at_call 73; refine (hSm _ _ (by exact hS1.alloc _) (by exact At.new _ _ _)).mono ?_; rintro e w2 ⟨rfl, rfl⟩)
      all_goals
        go_wp2
        go_ret2
        first
        | exact ⟨rfl, below_drewN ((HBX.out.alloc (by have := HBX.out.size; omega) _)) 1⟩
        | exact ⟨rfl, HBX.out.alloc (by have := HBX.out.size; omega) _⟩
        | exact ⟨rfl, HBX.out⟩
        | exact ⟨rfl, below_drewN HBX.out 1⟩
  · skip
    all_goals
      rw [if_pos (.inl h1)]
      have q1 : ((d.size : Int) != (p.size : Int)) = true := by rw [bne_iff_ne]; omega
      have q3 : (d.size != p.size) = true := by rw [bne_iff_ne]; exact h1
      clear h1 hls
      generalize hX : w.heap.size = X at *
      go_enter Tryd.func53, Tryd.ntmps53
      go_wp2_with fail
      generalize w.alloc (.cells p.cells 90) = w1 at *
      have x5 : w1.cell? ⟨X, 5, none⟩ = some (.int .i64 (p.size : Int)) := hA.cell 5
      have x6 : w1.cell? ⟨X, 6, none⟩ = some (.int .u32 (p.sum : Int)) := hA.cell 6
      have hsz := hb.size
      have hlt := hA.lt
      have HBX := Lib.hid hb
      have HX := Lib.hid hX
      clear hb hX
      go_quiet (fail)
      go_wp2
      go_ret2
      exact ⟨rfl, below_drewN HBX.out _⟩
end Go.Proofs.YtcbeikiglccgaaaDoor
