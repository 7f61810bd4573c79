/- (*platter.Disk).change: its walk. -/
import Derived.Test.YtejgogahkjnefaaDoorP5
import Derived.Test.YtejgogahkjnefaaDoorPm
import Derived.Deep.CutRange
import Derived.Deep.RegionLaw
namespace Go.Proofs.YtejgogahkjnefaaDoor
open Go.RowKit Go.Sort
open Pm (Key Fi St Files)
set_option linter.unusedVariables false

/-- what comes of Write and Append -/
def ChangeEnds (w : World) (B g m : Nat) (rm us : Int) (lo : Bool) (lf : Int) (G : Held) (k : Key) (keep : Nat) (t : List UInt8) (e : Ending) (w' : World) : Prop :=
  Moved w w' (DFoot g m G) ∧
  ((∃ c, c ≠ 0 ∧ (tryR lo lf).2 = c ∧ e = .returned (.int .i64 c) ∧ Dsk w' B g m rm us lo (tryR lo lf).1 G) ∨
   ((tryR lo lf).2 = 0 ∧ k = [] ∧ e = .returned (.int .i64 1) ∧ Dsk w' B g m rm us lo (tryR lo lf).1 G) ∨
   ((tryR lo lf).2 = 0 ∧ k ≠ [] ∧ rm - us < (keep : Int) + t.length - ((Pm.fi (abs G) k).weight : Nat) ∧ e = .returned (.int .i64 7) ∧ Dsk w' B g m rm us lo (tryR lo lf).1 G) ∨
   ((tryR lo lf).2 = 0 ∧ k ≠ [] ∧ (keep : Int) + t.length - ((Pm.fi (abs G) k).weight : Nat) ≤ rm - us ∧ e = .returned (.int .i64 0) ∧
     ∃ us' G', Dsk w' B g m rm us' lo (tryR lo lf).1 G' ∧ abs G' = Pm.set (abs G) k (Pm.wrote (Pm.fi (abs G) k) keep t) ∧ ∀ b, DFoot g m G' b → DFoot g m G b ∨ w.heap.size ≤ b))

theorem step_append_run {P : Program} {ops : Array Oper} {o : Oper} {a : Act} {w : World} {K : Act → World → Prop} {Q : Exit → Act → World → Prop} {E : Prop}
    (hg : o.guard = none) (s x : Operand) (t u ty : TypeId) (hop : o.op = Op.call { callee := Callee.builtin Builtin.append, args := #[s, x], argTypes := #[t, u] }) (hty : o.type = ty)
    (v sv y : Value) (w' : World) (hs : a.eval s = v) (hx : a.eval x = sv) (hrun : (Builtin.append_ #[t, u] ty #[v, sv]).run P w = .ok y w') (hK : K (a.put o.dst y) w') :
    if Region.wanted o (yielded ops a.tmps) = true then Oper.wp P o a w K Q else E := by
  have hw : Region.wanted o (yielded ops a.tmps) = true := by simp [Region.wanted, hg]
  rw [if_pos hw]
  subst hty
  unfold Oper.wp
  simp [execOp, hop, resolve, invoke, builtin, hs, hx, hrun, Result.andThen]
  exact hK

theorem fits_grown {w : World} {B g m : Nat} {rm us : Int} {lo : Bool} {lf : Int} {G : Held} (h : Dsk w B g m rm us lo lf G) (n : Int) :
    Calls Tryd.prog 37 #[.pointer (some ⟨g, 0, none⟩), .int .i64 n] w fun e w' => e = .returned (.bool (decide (n ≤ rm - us))) ∧ ∃ q os', w' = grow (w.drewN q) os' :=
  (fits_any h.dev.meter n).mono fun _ _ ⟨he, q, hw⟩ => ⟨he, q, #[], by rw [hw, grow_empty]⟩

section
variable {w w' : World} {B g m : Nat} {rm us : Int} {lo : Bool} {lf : Int} {G : Held} {k : Key}
/-- the blocks of the file at k are no other file's -/
theorem Dsk.fo_apart (h : Dsk w B g m rm us lo lf G) {p : Key × FV × Fi} (hp : p ∈ G) (hk : p.1 ≠ k) {b : Nat} (hb : (fvAt G k).in b) : ¬p.2.1.in b := by
  unfold fvAt at hb
  cases hg : Pm.get k G with
  | none =>
    rw [hg] at hb
    rcases hb with hb | hb <;> cases hb
  | some v =>
    rw [hg] at hb
    have hv := Pm.get_mem hg
    have hs : ∀ a c : Key × FV × Fi, (∀ b, a.2.1.in b → ¬c.2.1.in b) → ∀ b, c.2.1.in b → ¬a.2.1.in b := fun a c h b hb ha => h b ha hb
    have hne : ((k, v) : Key × FV × Fi) ≠ p := by rintro rfl; exact hk rfl
    have hpa := List.pairwise_iff_getElem.1 h.apart
    obtain ⟨i, hi, e1⟩ := List.getElem_of_mem hv
    obtain ⟨j, hj, e2⟩ := List.getElem_of_mem hp
    rcases Nat.lt_trichotomy i j with hij | hij | hij
    · have := hpa i j hi hj hij b (by rw [e1]; exact hb)
      rwa [e2] at this
    · subst hij
      rw [e1] at e2
      exact absurd e2 hne
    · intro hpb
      have := hpa j i hj hi hij b (by rw [e2]; exact hpb)
      rw [e1] at this
      exact this hb
theorem Dsk.fo_foot (h : Dsk w B g m rm us lo lf G) {b : Nat} (hb : (fvAt G k).in b) : ∃ p ∈ G, p.2.1.in b := by
  unfold fvAt at hb
  cases hg : Pm.get k G with
  | none => rw [hg] at hb; rcases hb with hb | hb <;> cases hb
  | some v => rw [hg] at hb; exact ⟨_, Pm.get_mem hg, hb⟩
theorem Dsk.fo_get (h : Dsk w B g m rm us lo lf G) {p : Key × FV × Fi} (hp : p ∈ G) : fvAt G p.1 = p.2.1 := by
  unfold fvAt
  rw [Pm.get_of_mem (k := p.1) (v := p.2) h.sorted.ne hp]
  rfl

/-- behind an append to the file at k, all files read as they did -/
theorem app_disk (h : Dsk w B g m rm us lo lf G) {x : Tx} {bs : List UInt8} (hx : TxIs w B x bs) (hX : x = Tx.no ∨ x = (fvAt G k).a) (hm : Moved w w' fun b => x.g = some b)
    (hkeep : ∀ z ds, TxIs w B z ds → z.n ≤ x.n → TxIs w' B z ds) : Dsk w' B g m rm us lo lf G := by
  have hgm : ∀ b, x.g = some b → b ≠ g ∧ b ≠ m := by
    intro b hb
    rcases hX with rfl | rfl
    · cases hb
    · obtain ⟨p, hp, hpb⟩ := h.fo_foot (k := k) (.inl hb)
      exact h.file_ne hp hpb
  refine { h with at_ := ?_, map := ?_, files := fun p hp => ⟨?_, (h.files p hp).2⟩ }
  · exact (hm.block g h.at_.lt (fun e => (hgm _ e).1 rfl)).trans h.at_
  · exact h.map.of_block (hm.block m h.map.lt (fun e => (hgm _ e).2 rfl))
  · have hf := (h.files p hp).1
    by_cases hpk : p.1 = k
    · have hfo : fvAt G k = p.2.1 := by rw [← hpk]; exact h.fo_get hp
      rcases hX with rfl | rfl
      · exact hf.keep fun b hb => hm.block b (hf.lt hb).2 (fun e => by cases e)
      · rw [hfo] at hm hkeep
        refine ⟨hkeep _ _ hf.a (Nat.le_refl _), ?_, hf.ea, hf.eb, hf.ok, hf.share⟩
        by_cases hs : p.2.1.a.g = p.2.1.b.g ∧ p.2.1.a.g ≠ none
        · exact hkeep _ _ hf.b (hf.share hs.1 hs.2)
        · exact hf.b.of_block (g := 0) fun b hb => hm.block b (hf.b.lt hb).2 (fun e => hs ⟨by rw [e, hb], by rw [e]; simp⟩)
    · refine hf.keep fun b hb => hm.block b (hf.lt hb).2 (fun e => ?_)
      rcases hX with rfl | rfl
      · cases e
      · exact h.fo_apart hp hpk (.inl e) hb

/-- the file that has been appended to -/
theorem app_file (h : Dsk w B g m rm us lo lf G) {x y : Tx} {keep : Nat} {t : List UInt8} (hX : (x = Tx.no ∧ keep = 0) ∨ (x = (fvAt G k).a ∧ keep ≠ 0))
    (hm : Moved w w' fun b => x.g = some b) (hD : Dsk w' B g m rm us lo lf G) (hy : TxIs w' B y ((if keep = 0 then [] else (Pm.fi (abs G) k).now.t) ++ t)) (hloc : y.g = x.g ∨ ∃ g, y.g = some g ∧ w.heap.size ≤ g) (hlong : y.g = x.g → x.g ≠ none → x.n ≤ y.n) :
    FileIs w' B ⟨y, true, (fvAt G k).b, (fvAt G k).eb⟩ (Pm.wrote (Pm.fi (abs G) k) keep t) ∧ (∀ p ∈ G, p.1 ≠ k → ∀ b, (FV.mk y true (fvAt G k).b (fvAt G k).eb).in b → ¬p.2.1.in b) ∧
      (∀ b, (FV.mk y true (fvAt G k).b (fvAt G k).eb).in b → DFoot g m G b ∨ w.heap.size ≤ b) := by
  have hf := hD.fv k
  have hf0 := h.fv k
  refine ⟨⟨hy, hf.b, rfl, hf.eb, Pm.wrote_ok hf.ok keep t, fun he hne => ?_⟩, fun p hp hpk b hb => ?_, fun b hb => ?_⟩
  · simp only at he hne ⊢
    rcases hloc with h1 | ⟨gy, h1, h2⟩
    · rcases hX with ⟨rfl, _⟩ | ⟨rfl, _⟩
      · rw [h1] at hne; exact absurd rfl hne
      · exact Nat.le_trans (hf.share (by rw [← h1, he]) (by rw [← h1]; exact hne)) (hlong h1 (by rw [← h1]; exact hne))
    · rw [h1] at he
      have := (hf0.b.lt he.symm).2
      omega
  · rcases hb with hb | hb
    · simp only at hb
      rcases hloc with h1 | ⟨gy, h1, h2⟩
      · rcases hX with ⟨rfl, _⟩ | ⟨rfl, _⟩
        · rw [h1] at hb; cases hb
        · exact h.fo_apart hp hpk (.inl (by rw [← h1]; exact hb))
      · rw [h1] at hb
        cases hb
        intro hpb
        have := ((h.files p hp).1.lt hpb).2
        omega
    · exact h.fo_apart hp hpk (.inr hb)
  · rcases hb with hb | hb
    · simp only at hb
      rcases hloc with h1 | ⟨gy, h1, h2⟩
      · rcases hX with ⟨rfl, _⟩ | ⟨rfl, _⟩
        · rw [h1] at hb; cases hb
        · exact .inl (.inr (.inr (h.fo_foot (k := k) (.inl (by rw [← h1]; exact hb)))))
      · rw [h1] at hb
        cases hb
        exact .inr h2
    · exact .inl (.inr (.inr (h.fo_foot (k := k) (.inr hb))))
theorem foot_setG {v : FV × Fi} {b : Nat} (h : DFoot g m (setG G k v) b) : DFoot g m G b ∨ v.1.in b := by
  rcases h with h | h | ⟨p, hp, hb⟩
  · exact .inl (.inl h)
  · exact .inl (.inr (.inl h))
  · rcases mem_setG hp with ⟨rfl, _⟩ | ⟨hp, _⟩
    · exact .inr hb
    · exact .inl (.inr (.inr ⟨p, hp, hb⟩))
end

set_option maxRecDepth 100000 in
set_option maxHeartbeats 2000000 in
theorem change_any {w : World} {B g m : Nat} {rm us : Int} {lo : Bool} {lf : Int} {G : Held} (h : Dsk w B g m rm us lo lf G) (hB : B ≤ w.heap.size) (n : ByteArray) (hn : n.size ≤ 140737488355328) (keep : Nat) (hk : keep = 0 ∨ keep = (Pm.fi (abs G) n.data.toList).now.t.length)
    (s : ByteArray) (hs : us + s.size ≤ 140737488355328) (hG : G.length < maxLen) :
    Calls Tryd.prog 68 #[.pointer (some ⟨g, 0, none⟩), .string n, .int .i64 (keep : Int), .string s] w (ChangeEnds w B g m rm us lo lf G n.data.toList keep s.data.toList) := by
  have hmix : Tryd.prog.follows .mixedOrders = true := by kernel_rfl
  have hnm : n.size ≤ maxLen := by unfold maxLen; omega
  have hsl : s.data.toList.length = s.size := by simp
  have hus0 : 0 ≤ us := by rw [h.sum]; omega
  have hus1 := h.le
  have hrm := h.top
  have hwu := weight_us h n.data.toList
  have hemp : n.toList.isEmpty = decide (n.data.toList = []) := by rw [ByteArray.toList_eq]; cases n.data.toList <;> rfl
  have hD0 := Lib.hid h
  have HEMP := Lib.hid hemp
  clear hemp
  go_enter Tryd.func68, Tryd.ntmps68
  go_wp2_with fail
  refine (try_dsk h).mono ?_
  rintro e w1 ⟨rfl, hd1, hm1⟩
  have hend : ∀ e w', ChangeEnds w B g m rm us lo lf G n.data.toList keep s.data.toList e w' ↔ ChangeEnds w B g m rm us lo lf G n.data.toList keep s.data.toList e w' := fun _ _ => Iff.rfl
  clear hend
  obtain ⟨p, hp⟩ : ∃ p, tryR lo lf = p := ⟨_, rfl⟩
  rw [hp] at hd1 ⊢
  have HTR := Lib.hid hp; clear hp
  obtain ⟨lf1, c⟩ := p
  simp only at hd1 ⊢
  have hM1 : Moved w w1 (DFoot g m G) := hm1.mono fun k hk => .inl hk
  have HD := Lib.hid hd1; clear hd1 h
  have HM := Lib.hid hM1; clear hM1 hm1
  by_cases hc : c = 0
  · subst hc
    by_cases hne : n.data.toList = []
    · have he1 : n.toList.isEmpty = true := by rw [HEMP.out, decide_eq_true hne]
      go_wp2
      go_ret
      exact ⟨HM.out, .inr (.inl ⟨by rw [HTR.out], hne, rfl, by rw [HTR.out]; exact HD.out⟩)⟩
    · have he1 : n.toList.isEmpty = false := by rw [HEMP.out, decide_eq_false hne]
      have HNE := Lib.hid hne; clear hne
      have hfo := HD.out.fv n.data.toList
      have hlook := HD.out.map.look (s := n) hnm
      have hwo := hfo.weight
      obtain ⟨fo, hfe⟩ : ∃ fo, fvAt G n.data.toList = fo := ⟨_, rfl⟩
      rw [hfe] at hfo hlook hwo
      have HFE := Lib.hid hfe; clear hfe
      generalize hno : (Pm.fi (abs G) n.data.toList).weight = no at *
      have HNO := Lib.hid hno; clear hno
      have hkl : keep ≤ no := by
        have := HNO.out
        unfold Pm.Fi.weight at this
        omega
      have hwr1 : IntKind.i64.wrap ((keep : Int) + (s.size : Int)) = (keep : Int) + (s.size : Int) := IntWalk.i64_in _ ⟨by omega, by omega⟩
      have hwr2 : IntKind.i64.wrap ((keep : Int) + (s.size : Int) - (no : Int)) = (keep : Int) + (s.size : Int) - (no : Int) := IntWalk.i64_in _ ⟨by omega, by omega⟩
      have hfv : fo.val = .agg #[.slice (fo.a.g.map fun g => ⟨g, 0, none⟩) fo.a.n fo.a.c, .bool fo.ea, .slice (fo.b.g.map fun g => ⟨g, 0, none⟩) fo.b.n fo.b.c, .bool fo.eb] := rfl
      rw [hfv] at hlook
      have HFO := Lib.hid hfo; clear hfo
      have hWT := fun W => weight_grown fo no hwo W
      rw [hfv] at hWT
      have HWT := Lib.hid hWT; clear hWT hwo hfv
      have hva : fo.a.val = .slice (fo.a.g.map fun g => ⟨g, 0, none⟩) fo.a.n fo.a.c := rfl
      have hvb : fo.b.val = .slice (fo.b.g.map fun g => ⟨g, 0, none⟩) fo.b.n fo.b.c := rfl
      generalize hAa : (fo.a.g.map fun g => (⟨g, 0, none⟩ : Addr)) = Aa at *
      generalize hAb : (fo.b.g.map fun g => (⟨g, 0, none⟩ : Addr)) = Ab at *
      generalize hna : fo.a.n = na at *
      generalize hnb : fo.b.n = nb at *
      generalize hca : fo.a.c = ca at *
      generalize hcb : fo.b.c = cb at *
      generalize hea : fo.ea = ea at *
      generalize heb : fo.eb = eb at *
      have HV := Lib.hid (And.intro hva (And.intro hvb (And.intro hea heb)))
      clear hva hvb hea heb hAa hAb hna hnb hca hcb
      have hbf : At (w1.alloc (.cells #[.slice Aa na ca, .bool ea, .slice Ab nb cb, .bool eb] 123)) w1.heap.size 123 #[.slice Aa na ca, .bool ea, .slice Ab nb cb, .bool eb] := At.new _ _ _
      have HDf := Lib.hid (HD.out.alloc (.cells #[.slice Aa na ca, .bool ea, .slice Ab nb cb, .bool eb] 123))
      have HMf := Lib.hid (HM.out.trans (Moved.of_below (F := DFoot g m G) ((Below.refl _ w1).alloc (Nat.le_refl _) (.cells #[.slice Aa na ca, .bool ea, .slice Ab nb cb, .bool eb] 123))) (fun k _ h => h))
      have HFf := Lib.hid (HFO.out.keep (w' := w1.alloc (.cells #[.slice Aa na ca, .bool ea, .slice Ab nb cb, .bool eb] 123)) fun b hb => Below.heap_alloc w1 _ b (HFO.out.lt hb).2)
      have hc4 := HD.out.c4
      have HBF := Lib.hid hbf; clear hbf
      have hw1 : w.heap.size ≤ w1.heap.size := HM.out.size
      go_upto_region 7 with fail
      generalize hwf : w1.alloc (.cells #[.slice Aa na ca, .bool ea, .slice Ab nb cb, .bool eb] 123) = wf at *
      have hsf : wf.heap.size = w1.heap.size + 1 := by rw [← hwf]; simp
      clear hwf hlook hc4
      have HFT0 : ∀ b, DFoot g m G b → b < w1.heap.size := fun b hb => (HD.out.foot_lt hb).2
      have HFT0' := Lib.hid HFT0
      clear HFT0
      generalize hbf : w1.heap.size = bf at *
      have q0 : ∀ n os, (grow (wf.drewN n) os).cell? ⟨bf, 0, none⟩ = some (.slice Aa na ca) := fun n os => (at_grow HBF.out n os).cell 0
      have q1 : ∀ n os, (grow (wf.drewN n) os).cell? ⟨bf, 1, none⟩ = some (.bool ea) := fun n os => (at_grow HBF.out n os).cell 1
      have q2 : ∀ n os, (grow (wf.drewN n) os).cell? ⟨bf, 2, none⟩ = some (.slice Ab nb cb) := fun n os => (at_grow HBF.out n os).cell 2
      have q3 : ∀ n os, (grow (wf.drewN n) os).cell? ⟨bf, 3, none⟩ = some (.bool eb) := fun n os => (at_grow HBF.out n os).cell 3
      go_quiet_grown (first
        | (go_at_call 88; exact Calls.grown_of (HWT.out _))
        | (go_at_call 37; exact Calls.grown_of (fits_grown (HDf.out.grow _ _) _)))
      have HD2 := Lib.hid (HDf.out.grow nq osq)
      have HM2 := Lib.hid (HMf.out.trans (Moved.grow wf nq osq (DFoot g m G)) (fun k _ h => h))
      have HF2 := Lib.hid (HFf.out.keep (w' := grow (wf.drewN nq) osq) fun b hb => by simp [Go.Sort.grow, Array.getElem?_append_left (HFf.out.lt hb).2])
      have HB2 := Lib.hid (at_grow HBF.out nq osq)
      have hs2 : wf.heap.size ≤ (grow (wf.drewN nq) osq).heap.size := by simp [Go.Sort.grow]
      clear q0 q1 q2 q3 HDf HMf HFf HBF HWT
      generalize grow (wf.drewN nq) osq = W2 at *
      clear nq osq
      have HFT : Hid (∀ b, DFoot g m G b → b < bf) := HFT0'
      by_cases hfit : (keep : Int) + (s.size : Int) - (no : Int) ≤ rm - us
      · have hfd : decide ((keep : Int) + (s.size : Int) - (no : Int) ≤ rm - us) = true := decide_eq_true hfit
        simp only [hfd, Bool.not_true]
        clear hfd
        by_cases hk0 : keep = 0
        · have hkk : ((keep : Int) == 0) = true := by simp [hk0]
          have c0 := HB2.out.cell 0
          have f0 := HB2.out.frozen 0
          have hB3' := (HB2.out).set 0 (.slice none 0 0)
          have hmv3 : Moved W2 (W2.setCell ⟨bf, 0, none⟩ (.slice none 0 0)) (fun b => b = bf) := moved_set W2 bf 0 _
          have HD3' := Lib.hid (HD2.out.moved hmv3 (fun b hb e => by have := HFT.out b hb; omega))
          have HM3' := Lib.hid (HM2.out.trans hmv3 (fun k hk e => by omega))
          have HB3' := Lib.hid (show At (W2.setCell ⟨bf, 0, none⟩ (.slice none 0 0)) bf 123 #[.slice none 0 0, .bool ea, .slice Ab nb cb, .bool eb] from hB3')
          have hs3' : B ≤ (W2.setCell ⟨bf, 0, none⟩ (.slice none 0 0)).heap.size := by have := hmv3.size; omega
          clear hB3' hmv3
          go_upto_region 11 with fail
          clear c0 f0 HD2 HM2 HB2
          generalize W2.setCell ⟨bf, 0, none⟩ (.slice none 0 0) = W3 at *
          have HD3 := HD3'
          have HM3 := HM3'
          have HB3 := HB3'
          have hB3 := hs3'
          clear HD3' HM3' HB3' hs3'
          have HX : Hid (TxIs W3 B Tx.no []) := Lib.hid (TxIs.no W3 B)
          have HXL : Hid (([] : List UInt8).length = keep) := Lib.hid (by rw [hk0]; rfl)
          have HXV : Hid (Tx.no.val = .slice none 0 0) := Lib.hid rfl
          have hX : Tx.no = Tx.no ∨ Tx.no = (fvAt G n.data.toList).a := .inl rfl
          have hX2 : (Tx.no = Tx.no ∧ keep = 0) ∨ (Tx.no = (fvAt G n.data.toList).a ∧ keep ≠ 0) := .inl ⟨rfl, hk0⟩
          have HBS : Hid ((if keep = 0 then [] else (Pm.fi (abs G) n.data.toList).now.t) = []) := Lib.hid (by rw [if_pos hk0])
          have HLT : Hid (∀ b, Tx.no.g = some b → b ≠ bf) := Lib.hid (fun b hb => by cases hb)
          obtain ⟨v, hv⟩ : ∃ v, v = Value.slice none 0 0 := ⟨_, rfl⟩
          rw [← hv] at HB3 HXV
          clear hv
          obtain ⟨y, Wa, hrun, hy, hmva, hloc, hkeep, hlong⟩ := app_tx (show TxIs W3.drew B Tx.no [] from HX.out) (show B ≤ W3.drew.heap.size from hB3) s (by have := HXL.out; omega) 73
          rw [HXV.out] at hrun
          have hDa := app_disk HD3.out.drew' (show TxIs W3.drew B Tx.no [] from HX.out) hX hmva hkeep
          obtain ⟨hfile, hdis, hnew⟩ := app_file (k := n.data.toList) (keep := keep) (t := s.data.toList) HD3.out.drew' hX2 hmva hDa (by rw [HBS.out]; exact hy) hloc hlong
          have hBa : At Wa bf 123 #[v, .bool ea, .slice Ab nb cb, .bool eb] := (hmva.block bf (show bf < W3.drew.heap.size from HB3.out.lt) (fun e => HLT.out bf e rfl)).trans (show At W3.drew bf 123 #[v, .bool ea, .slice Ab nb cb, .bool eb] from HB3.out)
          have hwt : ((Pm.wrote (Pm.fi (abs G) n.data.toList) keep s.data.toList).weight : Int) ≤ us - ((Pm.fi (abs G) n.data.toList).weight : Nat) + (Pm.wrote (Pm.fi (abs G) n.data.toList) keep s.data.toList).weight ∨ True := .inr trivial
          have hfit' : us - ((Pm.fi (abs G) n.data.toList).weight : Nat) + ((Pm.wrote (Pm.fi (abs G) n.data.toList) keep s.data.toList).weight : Nat) ≤ rm := by
            have e1 : (Pm.wrote (Pm.fi (abs G) n.data.toList) keep s.data.toList).weight = max (([] : List UInt8).length + s.size) (Pm.fi (abs G) n.data.toList).sure.t.length := by
              unfold Pm.wrote Pm.Fi.weight
              simp only
              rw [HBS.out, List.length_append, hsl]
            have e2 := HNO.out
            have e3 : (Pm.fi (abs G) n.data.toList).sure.t.length ≤ (Pm.fi (abs G) n.data.toList).weight := by unfold Pm.Fi.weight; omega
            have e4 := HXL.out
            rw [e1, e2]
            omega
          have hP := put_any hDa n hn hfile hdis hfit' hG
          have hval : (FV.mk y true (fvAt G n.data.toList).b (fvAt G n.data.toList).eb).val = .agg #[y.val, .bool true, .slice Ab nb cb, .bool eb] := by
            unfold FV.val
            simp only
            rw [HFE.out, HV.out.2.1, HV.out.2.2.2]
          rw [hval] at hP
          have HMX : Hid (Moved w Wa (DFoot g m G)) := Lib.hid (HM3.out.trans (show Moved W3 Wa _ from ⟨hmva.os, hmva.tape, hmva.output, hmva.size, hmva.block⟩) (fun k _ hk => by cases hk))
          have HNEW := Lib.hid hnew
          have hs3 : w.heap.size ≤ W3.heap.size := HM3.out.size
          obtain ⟨gy, ny, cy⟩ := y
          have hyv : Tx.val ⟨gy, ny, cy⟩ = .slice (gy.map fun g => ⟨g, 0, none⟩) ny cy := rfl
          rw [hyv] at hrun hP
          have HP := Lib.hid hP
          have c0 := (show At W3.drew bf 123 #[v, .bool ea, .slice Ab nb cb, .bool eb] from HB3.out).cell 0
          have c2 := (show At W3.drew bf 123 #[v, .bool ea, .slice Ab nb cb, .bool eb] from HB3.out).cell 2
          have c3 := (show At W3.drew bf 123 #[v, .bool ea, .slice Ab nb cb, .bool eb] from HB3.out).cell 3
          have d2 := hBa.cell 2
          have d3 := hBa.cell 3
          clear hP hval hnew hdis hfile hDa hBa hmva hloc hkeep hlong hy hwt hyv hfit'
          generalize (gy.map fun g => (⟨g, 0, none⟩ : Addr)) = Ay at *
          go_region_law (first
            | (refine step_append_run (by rfl) _ _ _ _ _ (by rfl) (by rfl) _ _ _ Wa (by rfl) (by rfl) hrun ?_)
            | (go_simp; go_wp2_with (go_at_call 89; refine HP.out.mono ?_; rintro e w5 ⟨rfl, us', hD5, hM5⟩)))
          all_goals
            have HD5 := Lib.hid hD5
            have HM5 := Lib.hid hM5
            clear hD5 hM5
            go_wp2_with fail
            go_ret
            refine ⟨HMX.out.trans HM5.out (fun k _ hk => by rcases hk with rfl | rfl; exact .inl rfl; exact .inr (.inl rfl)), .inr (.inr (.inr ⟨by rw [HTR.out], HNE.out, by rw [HNO.out, hsl]; omega, rfl, us', _, by rw [HTR.out]; exact HD5.out, abs_setG _ _ _, fun b hb => ?_⟩))⟩
            rcases foot_setG hb with hb | hb
            · exact .inl hb
            · rcases HNEW.out b hb with h1 | h1
              · exact .inl h1
              · exact .inr (Nat.le_trans hs3 h1)
        · have hkk : ((keep : Int) == 0) = false := by simpa using hk0
          have hkn : keep = (Pm.fi (abs G) n.data.toList).now.t.length := by rcases hk with h | h; exact absurd h hk0; exact h
          go_upto_region 11 with fail
          generalize W2 = W3 at *
          have HD3 := HD2
          have HM3 := HM2
          have HB3 := HB2
          have hB3 : B ≤ W3.heap.size := by omega
          clear HD2 HM2 HB2
          have HX : Hid (TxIs W3 B (fvAt G n.data.toList).a (Pm.fi (abs G) n.data.toList).now.t) := Lib.hid (HD3.out.fv n.data.toList).a
          have HXL : Hid ((Pm.fi (abs G) n.data.toList).now.t.length = keep) := Lib.hid hkn.symm
          have HXV : Hid ((fvAt G n.data.toList).a.val = .slice Aa na ca) := Lib.hid (by rw [HFE.out]; exact HV.out.1)
          have hX : (fvAt G n.data.toList).a = Tx.no ∨ (fvAt G n.data.toList).a = (fvAt G n.data.toList).a := .inr rfl
          have hX2 : ((fvAt G n.data.toList).a = Tx.no ∧ keep = 0) ∨ ((fvAt G n.data.toList).a = (fvAt G n.data.toList).a ∧ keep ≠ 0) := .inr ⟨rfl, hk0⟩
          have HBS : Hid ((if keep = 0 then [] else (Pm.fi (abs G) n.data.toList).now.t) = (Pm.fi (abs G) n.data.toList).now.t) := Lib.hid (by rw [if_neg hk0])
          have HLT : Hid (∀ b, (fvAt G n.data.toList).a.g = some b → b ≠ bf) := Lib.hid (fun b hb => by have := HFT.out b (.inr (.inr (HD3.out.fo_foot (k := n.data.toList) (.inl hb)))); omega)
          clear hkn
          obtain ⟨v, hv⟩ : ∃ v, v = Value.slice Aa na ca := ⟨_, rfl⟩
          rw [← hv] at HB3 HXV
          clear hv
          obtain ⟨y, Wa, hrun, hy, hmva, hloc, hkeep, hlong⟩ := app_tx (show TxIs W3.drew B (fvAt G n.data.toList).a (Pm.fi (abs G) n.data.toList).now.t from HX.out) (show B ≤ W3.drew.heap.size from hB3) s (by have := HXL.out; omega) 73
          rw [HXV.out] at hrun
          have hDa := app_disk HD3.out.drew' (show TxIs W3.drew B (fvAt G n.data.toList).a (Pm.fi (abs G) n.data.toList).now.t from HX.out) hX hmva hkeep
          obtain ⟨hfile, hdis, hnew⟩ := app_file (k := n.data.toList) (keep := keep) (t := s.data.toList) HD3.out.drew' hX2 hmva hDa (by rw [HBS.out]; exact hy) hloc hlong
          have hBa : At Wa bf 123 #[v, .bool ea, .slice Ab nb cb, .bool eb] := (hmva.block bf (show bf < W3.drew.heap.size from HB3.out.lt) (fun e => HLT.out bf e rfl)).trans (show At W3.drew bf 123 #[v, .bool ea, .slice Ab nb cb, .bool eb] from HB3.out)
          have hwt : ((Pm.wrote (Pm.fi (abs G) n.data.toList) keep s.data.toList).weight : Int) ≤ us - ((Pm.fi (abs G) n.data.toList).weight : Nat) + (Pm.wrote (Pm.fi (abs G) n.data.toList) keep s.data.toList).weight ∨ True := .inr trivial
          have hfit' : us - ((Pm.fi (abs G) n.data.toList).weight : Nat) + ((Pm.wrote (Pm.fi (abs G) n.data.toList) keep s.data.toList).weight : Nat) ≤ rm := by
            have e1 : (Pm.wrote (Pm.fi (abs G) n.data.toList) keep s.data.toList).weight = max ((Pm.fi (abs G) n.data.toList).now.t.length + s.size) (Pm.fi (abs G) n.data.toList).sure.t.length := by
              unfold Pm.wrote Pm.Fi.weight
              simp only
              rw [HBS.out, List.length_append, hsl]
            have e2 := HNO.out
            have e3 : (Pm.fi (abs G) n.data.toList).sure.t.length ≤ (Pm.fi (abs G) n.data.toList).weight := by unfold Pm.Fi.weight; omega
            have e4 := HXL.out
            rw [e1, e2]
            omega
          have hP := put_any hDa n hn hfile hdis hfit' hG
          have hval : (FV.mk y true (fvAt G n.data.toList).b (fvAt G n.data.toList).eb).val = .agg #[y.val, .bool true, .slice Ab nb cb, .bool eb] := by
            unfold FV.val
            simp only
            rw [HFE.out, HV.out.2.1, HV.out.2.2.2]
          rw [hval] at hP
          have HMX : Hid (Moved w Wa (DFoot g m G)) := Lib.hid (HM3.out.trans (show Moved W3 Wa _ from ⟨hmva.os, hmva.tape, hmva.output, hmva.size, hmva.block⟩) (fun k _ hk => .inr (.inr (HD3.out.fo_foot (k := n.data.toList) (.inl hk)))))
          have HNEW := Lib.hid hnew
          have hs3 : w.heap.size ≤ W3.heap.size := HM3.out.size
          obtain ⟨gy, ny, cy⟩ := y
          have hyv : Tx.val ⟨gy, ny, cy⟩ = .slice (gy.map fun g => ⟨g, 0, none⟩) ny cy := rfl
          rw [hyv] at hrun hP
          have HP := Lib.hid hP
          have c0 := (show At W3.drew bf 123 #[v, .bool ea, .slice Ab nb cb, .bool eb] from HB3.out).cell 0
          have c2 := (show At W3.drew bf 123 #[v, .bool ea, .slice Ab nb cb, .bool eb] from HB3.out).cell 2
          have c3 := (show At W3.drew bf 123 #[v, .bool ea, .slice Ab nb cb, .bool eb] from HB3.out).cell 3
          have d2 := hBa.cell 2
          have d3 := hBa.cell 3
          clear hP hval hnew hdis hfile hDa hBa hmva hloc hkeep hlong hy hwt hyv hfit'
          generalize (gy.map fun g => (⟨g, 0, none⟩ : Addr)) = Ay at *
          go_region_law (first
            | (refine step_append_run (by rfl) _ _ _ _ _ (by rfl) (by rfl) _ _ _ Wa (by rfl) (by rfl) hrun ?_)
            | (go_simp; go_wp2_with (go_at_call 89; refine HP.out.mono ?_; rintro e w5 ⟨rfl, us', hD5, hM5⟩)))
          all_goals
            have HD5 := Lib.hid hD5
            have HM5 := Lib.hid hM5
            clear hD5 hM5
            go_wp2_with fail
            go_ret
            refine ⟨HMX.out.trans HM5.out (fun k _ hk => by rcases hk with rfl | rfl; exact .inl rfl; exact .inr (.inl rfl)), .inr (.inr (.inr ⟨by rw [HTR.out], HNE.out, by rw [HNO.out, hsl]; omega, rfl, us', _, by rw [HTR.out]; exact HD5.out, abs_setG _ _ _, fun b hb => ?_⟩))⟩
            rcases foot_setG hb with hb | hb
            · exact .inl hb
            · rcases HNEW.out b hb with h1 | h1
              · exact .inl h1
              · exact .inr (Nat.le_trans hs3 h1)
      · have hfd : decide ((keep : Int) + (s.size : Int) - (no : Int) ≤ rm - us) = false := decide_eq_false hfit
        simp only [hfd, Bool.not_false]
        clear hfd
        go_wp2_with fail
        go_ret
        exact ⟨HM2.out, .inr (.inr (.inl ⟨by rw [HTR.out], HNE.out, by rw [HNO.out, hsl]; omega, rfl, by rw [HTR.out]; exact HD2.out⟩))⟩
  · go_wp2
    go_ret
    exact ⟨HM.out, .inl ⟨c, hc, by rw [HTR.out], rfl, by rw [HTR.out]; exact HD.out⟩⟩
end Go.Proofs.YtejgogahkjnefaaDoor
