/- Yg, Yh: merged (a claim holds few files). -/
import Derived.Test.YtplmflagffloeaaDoorB9
import Derived.Deep.RegionLaw
/- term.loadLog: its walk. -/
namespace Go.Proofs.YtplmflagffloeaaDoor
open Go.RowKit
open Sm
open Wm (num)
open Pm (Key St)
set_option linter.unusedVariables false
set_option linter.unusedSimpArgs false

theorem info_en : (Tryd.prog.info? 30).map (fun i => (i.zero, i.size, i.bytes)) = some (some (.agg #[.int .i64 0, .int .i64 0, .string ⟨#[]⟩]), 3, 32) := by kernel_rfl
theorem row_own {w w' : World} {B n : Nat} {e : TypeId} {z : Nat} {v : Value} {xs : List Value} (h : w.ownsRow B e z v n xs) (hg : w.grownBy w' none) : w'.ownsRow B e z v n xs := by
  refine ⟨h.1, h.2.imp id ?_⟩
  rintro ⟨k, cap, cur, rfl, hk, hat, r⟩
  exact ⟨k, cap, cur, rfl, hk, (hg.block k (Array.getElem?_eq_some_iff.1 hat).1 (by simp)).trans hat, r⟩

/-- while the log is taken: block X is the state, with the entries acc so far; blocks of old ones but X are as they were -/
structure LG (w2 : World) (X : Nat) (c0 c1 c2 c3 c4 : Value) (acc : List En) (wr : World) : Prop where
  row : ∃ v, At wr X 36 #[c0, c1, c2, c3, c4, v] ∧ wr.ownsRow w2.heap.size 30 3 v acc.length (enCells acc)
  grown : w2.grownBy wr (some X)
theorem LG.below {w2 : World} {X : Nat} {c0 c1 c2 c3 c4 : Value} {acc : List En} {wr wr' : World} (h : LG w2 X c0 c1 c2 c3 c4 acc wr) (hb : Below wr.heap.size wr wr') : LG w2 X c0 c1 c2 c3 c4 acc wr' := by
  obtain ⟨⟨v, h1, h2⟩, h3⟩ := h
  exact ⟨⟨v, h1.below hb h1.lt, row_own h2 (grownBy_of_below hb rfl)⟩, grownBy_trans h3 (grownBy_of_below hb rfl)⟩

set_option maxRecDepth 100000 in
set_option maxHeartbeats 4000000 in
theorem loadLog_any {w : World} {B g m X : Nat} {rm : Int} {F : Key → St} (h : TD w B g m rm F) (hS : Steps w) {c0 c1 c3 c4 : Value} (base : Nat) (hbase : base ≤ 1099511627776) (hX : At w X 36 #[c0, c1, .int .i64 (base : Int), c3, c4, .slice none 0 0])
    (l : List En) (hl : l.length ≤ 1000) (hok : ∀ x ∈ l, x.ok) (hlen : (logOf l).length ≤ 10000000) (hf : (F kLog).t = logOf l) :
    Calls Tryd.prog 32 #[.pointer (some ⟨X, 0, none⟩), .pointer (some ⟨g, 0, none⟩)] w fun e w' => e = .returned (.int .i64 0) ∧ w.grownBy w' (some X) ∧
      ∃ v, At w' X 36 #[c0, c1, .int .i64 (base : Int), c3, c4, v] ∧ w'.ownsRow w.heap.size 30 3 v (behind l base).length (enCells (behind l base)) := by
  obtain ⟨i0, hi0, hz0, hz1, hz2⟩ := info_parts info_en
  have hR := tread_any h ⟨#[108, 111, 103]⟩ (.inr (.inr rfl))
  rw [show (⟨#[108, 111, 103]⟩ : ByteArray).data.toList = kLog from rfl, hf] at hR
  obtain ⟨sl, hsl⟩ : ∃ sl : ByteArray, (⟨(logOf l).toArray⟩ : ByteArray) = sl := ⟨_, rfl⟩
  have hsd : sl.data.toList = logOf l := by rw [← hsl]
  have hsz : sl.size = (logOf l).length := by rw [← size_list, hsd]
  rw [hsl] at hR
  have hSc := fun W h => scan_any sl (by omega) W h
  rw [hsd, scan_log hok, ← hsz] at hSc
  unfold ScanRet at hSc
  simp only [encs_len] at hSc
  have HS := Lib.hid hS
  have HX := Lib.hid hX
  have HOK := Lib.hid hok
  have HBL := Lib.hid (behind_le l base)
  have hc3 := en_cells
  have hend : decide ((sl.size : Int) < (sl.size : Int)) = false := by simp
  clear h hS hX hok hsl hsd hsz hf hlen
  go_enter Tryd.func32, Tryd.ntmps32
  go_wp2_with fail
  refine hR.mono ?_
  rintro e w1 ⟨rfl, hb1⟩
  have hS1 := hSc w1 (HS.out.below hb1 HS.out.1)
  have HB1 := Lib.hid hb1
  clear hR hb1 hSc
  go_wp2_with fail
  refine hS1.mono ?_
  rintro e w2 ⟨A, c, rfl, hLi, hA, hb2⟩
  have hb12 := HB1.out.trans (hb2.mono HB1.out.size)
  have hX2 := HX.out.below hb12 HX.out.lt
  have hXw := HX.out.lt
  have hs1 := HB1.out.size
  have hs2 := hb12.size
  have x2 : w2.cell? ⟨X, 2, none⟩ = some (.int .i64 (base : Int)) := hX2.cell 2
  have HB2 := Lib.hid hb12
  have HLI := Lib.hid hLi
  have HA : Hid (∀ ad, A = some ad → ad.block ≠ X) := Lib.hid fun ad h => by have := hA ad h; omega
  have G0 : Hid (LG w2 X c0 c1 (.int .i64 (base : Int)) c3 c4 (behind (l.take 0) base) w2) := Lib.hid ⟨⟨_, hX2, by
    rw [List.take_zero]
    exact World.ownsRow_nil _ _ _ _⟩, grownBy_refl _ _⟩
  clear hS1 hb2 hb12 hLi hA hX2 HB1 HX
  go_upto_region 10 with fail
  go_wp2
  go_loopw [10, 46] (fun la i wr => ∃ k : Nat, k ≤ l.length ∧ i = .int .i64 (k : Int) ∧ la = .int .i64 ((base + (behind (l.take k) base).length : Nat) : Int) ∧ Hid (LG w2 X c0 c1 (.int .i64 (base : Int)) c3 c4 (behind (l.take k) base) wr))
    (fun _ i _ => l.length - (intOf i).toNat)
  case atStart => exact ⟨0, by omega, rfl, by simp [behind], G0⟩
  case round =>
    clear G0 x2
    obtain ⟨k, hk, rfl, rfl, HG⟩ := hrel
    by_cases hlt : k < l.length
    · have q1 : decide ((k : Int) < (l.length : Int)) = true := by simpa using hlt
      obtain ⟨ad, rfl, hadB, hc⟩ := HLI.out.round (k := k) (by simpa [parts, encs] using hlt)
      have hval : ((parts (encs l))[k]'(by simpa [parts, encs] using hlt)) = .string ⟨l[k].enc.toArray⟩ := by simp [parts, encs]
      rw [hval] at hc
      have hc : wr.cell? (ad.add k) = some (.string ⟨l[k].enc.toArray⟩) := (World.cell?_of_block (HG.out.grown.block (ad.add k).block (by rw [add_block]; exact hadB) (by rw [add_block]; have := HA.out ad rfl; simpa using this))).trans hc
      have HT := Lib.hid (behind_take hlt base)
      have hD := decode_any l[k] (HOK.out l[k] (List.getElem_mem hlt)) wr
      have hacc := HBL.out k hk
      have hxi := (HOK.out l[k] (List.getElem_mem hlt)).idx
      clear hval
      generalize l[k] = x at *
      obtain ⟨xi, xt, xc⟩ := x
      obtain ⟨se, hse⟩ : ∃ se : ByteArray, (⟨(En.enc ⟨xi, xt, xc⟩).toArray⟩ : ByteArray) = se := ⟨_, rfl⟩
      rw [hse] at hc hD
      simp only at hD hxi
      generalize behind (l.take k) base = acc at *
      have HD := Lib.hid hD
      clear hD hse
      go_wp2_with fail
      refine HD.out.mono ?_
      rintro e w3 ⟨rfl, hb3⟩
      have hG3 := HG.out.below hb3
      have hw3 : w2.heap.size ≤ w3.heap.size := hG3.grown.size
      obtain ⟨⟨v, hX3', hrow3⟩, hgr3⟩ := hG3
      have hvx : ∀ k, v.ownBlock = some k → k < w3.heap.size := fun k hk => (hrow3.lt k hk).2
      have hb34 := (Below.refl _ w3).alloc (Nat.le_refl _) (.cells #[.int .i64 (xi : Int), .int .i64 (xt : Int), .string xc] 30)
      have hX4 := hX3'.below hb34 hX3'.lt
      have hrow4 := row_own hrow3 (grownBy_of_below hb34 rfl)
      have hgr4 := grownBy_trans hgr3 (grownBy_of_below (row := some X) hb34 rfl)
      have hN4 := At.new w3 30 #[.int .i64 (xi : Int), .int .i64 (xt : Int), .string xc]
      have hX3 : X < w3.heap.size := by have := hb3.size; have := HG.out.grown.size; omega
      clear hb3 HD HG hc hX3' hrow3 hgr3 hb34
      have hwrap : IntKind.i64.wrap (((base + acc.length : Nat) : Int) + 1) = ((base + acc.length : Nat) : Int) + 1 := by rw [IntKind.wrap_i64]; omega
      go_upto_region 14 with fail
      generalize w3.alloc (.cells #[.int .i64 (xi : Int), .int .i64 (xt : Int), .string xc] 30) = w4 at *
      generalize w3.heap.size = xb at *
      have n0 : w4.cell? ⟨xb, 0, none⟩ = some (.int .i64 (xi : Int)) := hN4.cell 0
      have n1 : w4.cell? ⟨xb, 1, none⟩ = some (.int .i64 (xt : Int)) := hN4.cell 1
      have n2 : w4.cell? ⟨xb, 2, none⟩ = some (.string xc) := hN4.cell 2
      have HX4 := Lib.hid hX4
      have HROW := Lib.hid hrow4
      have HGR := Lib.hid hgr4
      have HN4 := Lib.hid hN4
      clear hX4 hrow4 hgr4 hN4
      by_cases hix : xi = base + acc.length + 1
      · have q2 : ((xi : Int) == ((base + acc.length : Nat) : Int) + 1) = true := by rw [beq_iff_eq]; omega
        have hT := HT.out
        rw [if_pos hix] at hT
        have HT2 := Lib.hid hT
        have HIX := Lib.hid hix
        clear hT HT hix
        have hX4 := HX4.out
        have hrow := HROW.out
        have hgr := HGR.out
        have g5a : ∀ o : Obj, (w4.alloc o).cell? ⟨X, 5, none⟩ = some v := fun o => (hX4.alloc o).cell 5
        have g5 : w4.cell? ⟨X, 5, none⟩ = some v := hX4.cell 5
        have f5 : w4.frozen? ⟨X, 5, none⟩ = false := hX4.frozen 5
        have hXl : X < w4.heap.size := hX4.lt
        have hXn : X ≠ w4.heap.size := by omega
        have hne : v.ownBlock ≠ some X := by
          intro e
          rcases hrow.2 with ⟨rfl, _⟩ | ⟨k, cap, cur, rfl, hB, hk, _⟩
          · cases e
          · simp only [Value.ownBlock, Option.some.injEq] at e
            exact At.differ hk hX4 (by decide) e
        have hxb : xb < w4.heap.size := HN4.out.lt
        have HSF : Hid (∀ o (W : World), ((w4.alloc o).drew).grownBy W v.ownBlock → W.cell? ⟨X, 5, none⟩ = some v ∧ W.frozen? ⟨X, 5, none⟩ = false) := Lib.hid fun o W hg =>
          ⟨(hg.cell_far ⟨X, 5, none⟩ (by show X < (w4.alloc o).heap.size; simp; omega) (Ne.symm hne)).trans ((hX4.alloc o).cell 5), (hg.frozen_far ⟨X, 5, none⟩ (by show X < (w4.alloc o).heap.size; simp; omega) (Ne.symm hne)).trans ((hX4.alloc o).frozen 5)⟩
        have hw4 : w2.heap.size ≤ w4.heap.size := hgr.size
        have hlen1 : acc.length + 1 ≤ maxLen := by unfold maxLen; omega
        have hby : (acc.length + 1) * 32 ≤ 140737488355328 := by omega
        clear hrow hX4 hgr hne
        go_upto_region 17 with fail
        go_region_law (
          ((refine step_append_lies _ (by rfl) _ _ _ (by rfl) w2.heap.size 30 i0 _ 3 32 Tryd.underlying27 hi0 hz0 hz1 hz2 rfl (by omega) v acc.length (enCells acc) (by rfl) ((HROW.out.alloc _).drew)
                ⟨w4.heap.size, 0, none⟩ 1 1 [.int .i64 (xi : Int), .int .i64 (xt : Int), .string xc] (by rfl) (by rfl) (World.news_of_block (cs := #[.int .i64 (xi : Int), .int .i64 (xt : Int), .string xc]) (t := 30) (fr := (0, 0)) (heap_alloc_new w4 _)) (by simp [Value.oneCell'])
                (by omega) hlen1 hby (by simp; omega) (w4.heap.size + 1) (by simp) ?_; intro gg cap w5 hown1 hgrow hat hlt5; obtain ⟨q5, qf⟩ := HSF.out _ _ hgrow)))
        all_goals
          have hX4 := HX4.out
          have hgrow' : (w4.alloc (.cells #[.int .i64 (xi : Int), .int .i64 (xt : Int), .string xc] 30)).grownBy w5 v.ownBlock := ⟨hgrow.os, hgrow.tape, hgrow.output, hgrow.size, hgrow.block⟩
          have hX5 : At w5 X 36 #[c0, c1, .int .i64 (base : Int), c3, c4, v] := by
            refine (hX4.alloc _).grown hgrow' ?_
            intro e
            rcases HROW.out.2 with ⟨rfl, _⟩ | ⟨k, cap, cur, rfl, hB, hk, _⟩
            · cases e
            · simp only [Value.ownBlock, Option.some.injEq] at e
              exact At.differ hk hX4 (by decide) e.symm
          have hXg : X ≠ gg := by
            rcases hat with e | e
            · rintro rfl
              rcases HROW.out.2 with ⟨rfl, _⟩ | ⟨k, cap, cur, rfl, hB, hk, _⟩
              · cases e
              · simp only [Value.ownBlock, Option.some.injEq] at e
                exact At.differ hk hX4 (by decide) e
            · omega
          have hg5 : w2.grownBy w5 (some X) := by
            refine ⟨hgrow'.os.trans HGR.out.os, hgrow'.tape.trans HGR.out.tape, hgrow'.output.trans HGR.out.output, by have := hgrow'.size; simp at this; omega, fun i hi hn => ?_⟩
            refine (hgrow'.block i (by simp; omega) ?_).trans ((Below.heap_alloc w4 _ i (by omega)).trans (HGR.out.block i hi hn))
            intro e
            have := (HROW.out.lt i e.symm).1
            omega
          have R1 : Hid (LG w2 X c0 c1 (.int .i64 (base : Int)) c3 c4 (acc ++ [⟨xi, xt, xc⟩]) (w5.setCell ⟨X, 5, none⟩ (.slice (some ⟨gg, 0, none⟩) (acc.length + 1) cap))) := Lib.hid ⟨⟨_, hX5.set 5 (.slice (some ⟨gg, 0, none⟩) (acc.length + 1) cap), by
            have hl1 : (acc ++ [(⟨xi, xt, xc⟩ : En)]).length = acc.length + 1 := by simp
            have hl2 : enCells (acc ++ [(⟨xi, xt, xc⟩ : En)]) = enCells acc ++ [.int .i64 (xi : Int), .int .i64 (xt : Int), .string xc] := by rw [enCells_append]; rfl
            rw [hl1, hl2]
            exact hown1.kept (grownBy_set (grownBy_refl w5 (some X)) 5 _) (.inr (by simp [Value.ownBlock]; exact Ne.symm hXg))⟩, grownBy_set hg5 5 _⟩
          have m0 : (w5.setCell ⟨X, 5, none⟩ (.slice (some ⟨gg, 0, none⟩) (acc.length + 1) cap)).cell? ⟨xb, 0, none⟩ = some (.int .i64 (xi : Int)) := by
            have hN5 := (HN4.out.alloc (.cells #[.int .i64 (xi : Int), .int .i64 (xt : Int), .string xc] 30)).grown hgrow' (by intro e; have := hvx xb e.symm; omega)
            exact (hN5.far (p := ⟨X, 5, none⟩) (by show xb ≠ X; omega) (.slice (some ⟨gg, 0, none⟩) (acc.length + 1) cap)).cell 0
          clear hX4 hgrow' hX5 hXg hg5 hgrow hown1 hat hlt5 q5 qf HSF g5a g5 f5 HROW HX4 HGR
          go_wp2
          go_roundw
          case rel => exact ⟨k + 1, by omega, by go_num, by rw [HT2.out]; simp; have := HIX.out; omega, by rw [HT2.out]; exact R1⟩
          case measure => simp [intOf]; omega
      · have q2 : ((xi : Int) == ((base + acc.length : Nat) : Int) + 1) = false := by rw [beq_eq_false_iff_ne]; omega
        have hT := HT.out
        rw [if_neg hix] at hT
        have HT2 := Lib.hid hT
        clear hT HT
        go_wp2
        go_roundw
        case rel => exact ⟨k + 1, by omega, by go_num, by rw [HT2.out]; exact int_i64 (by omega), by rw [HT2.out]; exact Lib.hid ⟨⟨v, HX4.out, HROW.out⟩, HGR.out⟩⟩
        case measure => simp [intOf]; omega
    · have q1 : decide ((k : Int) < (l.length : Int)) = false := by simpa using hlt
      have hX : l.take k = l := List.take_of_length_le (by omega)
      rw [hX] at HG
      go_wp2
      go_ret
      obtain ⟨⟨v, hX4, hrow⟩, hgr⟩ := HG.out
      refine ⟨rfl, grownBy_trans (grownBy_of_below HB2.out rfl) hgr, v, hX4, hrow.1, hrow.2.imp id ?_⟩
      rintro ⟨k, cap, cur, h1, h2, h3⟩
      exact ⟨k, cap, cur, h1, by omega, h3⟩
end Go.Proofs.YtplmflagffloeaaDoor

/- term.Load: its walk. -/
namespace Go.Proofs.YtplmflagffloeaaDoor
open Go.RowKit
open Sm
open Wm (num)
open Pm (Key St)
set_option linter.unusedVariables false
set_option linter.unusedSimpArgs false

theorem EnT.grown {w w' : World} {A : Option Addr} {l : List En} {X : Nat} {t : TypeId} {cs : Array Value} (h : EnT w A l) (hX : At w X t cs) (ht : t ≠ 30) (hg : w.grownBy w' (some X)) : EnT w' A l := fun i hi => by
  obtain ⟨ad, e, ⟨cs', fz, hb⟩, hc⟩ := h i hi
  have he : w'.heap[ad.block]? = w.heap[ad.block]? := hg.block ad.block (Array.getElem?_eq_some_iff.1 hb).1 (by
    intro e
    have e : ad.block = X := by simpa using e
    unfold At at hX
    rw [e, hX] at hb
    injection hb with hb
    injection hb with _ hb _
    exact ht hb)
  exact ⟨ad, e, ⟨cs', fz, he.trans hb⟩, fun j u hj => (World.cell?_of_block (by rw [add_block]; exact he)).trans (hc j u hj)⟩

/-- what the files say -/
def TermIs (s : St) (t v : Nat) : Prop := (s.t = [] ∧ t = 0 ∧ v = 0) ∨ (t ≤ 1099511627776 ∧ v ≤ 5 ∧ s.t = termL t v)
def SnapIs (s : St) (b bt : Nat) (sn : ByteArray) : Prop := (s.t = [] ∧ b = 0 ∧ bt = 0 ∧ sn = ⟨#[]⟩) ∨ (b ≤ 1099511627776 ∧ bt ≤ 1099511627776 ∧ sn.size ≤ 1000000 ∧ s.t = snapL b bt sn)

theorem loadTerm_any {w : World} {B g m X : Nat} {rm : Int} {F : Key → St} (h : TD w B g m rm F) (hS : Steps w) {a2 a3 a4 a5 : Value} (hX : At w X 36 #[.int .i64 0, .int .i64 0, a2, a3, a4, a5]) {t v : Nat} (hT : TermIs (F kTerm) t v) :
    Calls Tryd.prog 30 #[.pointer (some ⟨X, 0, none⟩), .pointer (some ⟨g, 0, none⟩)] w fun e w' => e = .returned (.int .i64 0) ∧ At w' X 36 #[.int .i64 (t : Int), .int .i64 (v : Int), a2, a3, a4, a5] ∧ w.grownBy w' (some X) := by
  rcases hT with ⟨h1, rfl, rfl⟩ | ⟨h1, h2, h3⟩
  · refine (loadTerm_none (X := X) h hS h1).mono ?_
    rintro e w' ⟨he, hb⟩
    exact ⟨he, hX.below hb hX.lt, grownBy_of_below hb rfl⟩
  · exact loadTerm_some h hS hX t v h1 h2 h3
theorem loadSnap_any {w : World} {B g m X : Nat} {rm : Int} {F : Key → St} (h : TD w B g m rm F) (hS : Steps w) {a0 a1 a5 : Value} (hX : At w X 36 #[a0, a1, .int .i64 0, .int .i64 0, .string ⟨#[]⟩, a5]) {b bt : Nat} {sn : ByteArray} (hT : SnapIs (F kSnap) b bt sn) :
    Calls Tryd.prog 31 #[.pointer (some ⟨X, 0, none⟩), .pointer (some ⟨g, 0, none⟩)] w fun e w' => e = .returned (.int .i64 0) ∧ At w' X 36 #[a0, a1, .int .i64 (b : Int), .int .i64 (bt : Int), .string sn, a5] ∧ w.grownBy w' (some X) := by
  rcases hT with ⟨h1, rfl, rfl, rfl⟩ | ⟨h1, h2, h3, h4⟩
  · refine (loadSnap_none (X := X) h hS h1).mono ?_
    rintro e w' ⟨he, hb⟩
    exact ⟨he, hX.below hb hX.lt, grownBy_of_below hb rfl⟩
  · exact loadSnap_some h hS hX b bt h1 h2 sn h3 h4

/-- the state, as it is handed out -/
def LoadEnds (w : World) (t v b bt : Nat) (sn : ByteArray) (l : List En) (e : Ending) (w' : World) : Prop :=
  ∃ A c, e = .returned (.tuple #[.agg #[.int .i64 (t : Int), .int .i64 (v : Int), .int .i64 (b : Int), .int .i64 (bt : Int), .string sn, .slice A l.length c], .int .i64 0]) ∧ l.length ≤ c ∧ EnT w' A l ∧ Below w.heap.size w w'

theorem snap_base {s : St} {b bt : Nat} {sn : ByteArray} (h : SnapIs s b bt sn) : b ≤ 1099511627776 := by rcases h with ⟨_, rfl, _⟩ | ⟨h, _⟩ <;> omega

set_option maxRecDepth 100000 in
set_option maxHeartbeats 2000000 in
theorem load_any {w : World} {B g m : Nat} {rm : Int} {F : Key → St} (h : TD w B g m rm F) (hS : Steps w) {t v b bt : Nat} {sn : ByteArray} (hT : TermIs (F kTerm) t v) (hN : SnapIs (F kSnap) b bt sn) (l : List En) (hl : l.length ≤ 1000) (hok : ∀ x ∈ l, x.ok) (hlen : (logOf l).length ≤ 10000000) (hf : (F kLog).t = logOf l) :
    Calls Tryd.prog 13 #[.pointer (some ⟨g, 0, none⟩)] w (LoadEnds w t v b bt sn (behind l b)) := by
  have hz1 : (w.alloc (.cells #[.int .i64 0, .int .i64 0, .int .i64 0, .int .i64 0, .string ⟨#[]⟩, .slice none 0 0] 36)).heap.size = w.heap.size + 1 := by simp
  have hR := (At.new w 36 #[.int .i64 0, .int .i64 0, .int .i64 0, .int .i64 0, .string ⟨#[]⟩, .slice none 0 0]).alloc (.cells #[.int .i64 0, .int .i64 0, .int .i64 0, .int .i64 0, .string ⟨#[]⟩, .slice none 0 0] 36)
  have hX := At.new (w.alloc (.cells #[.int .i64 0, .int .i64 0, .int .i64 0, .int .i64 0, .string ⟨#[]⟩, .slice none 0 0] 36)) 36 #[.int .i64 0, .int .i64 0, .int .i64 0, .int .i64 0, .string ⟨#[]⟩, .slice none 0 0]
  have hb : Below w.heap.size w ((w.alloc (.cells #[.int .i64 0, .int .i64 0, .int .i64 0, .int .i64 0, .string ⟨#[]⟩, .slice none 0 0] 36)).alloc (.cells #[.int .i64 0, .int .i64 0, .int .i64 0, .int .i64 0, .string ⟨#[]⟩, .slice none 0 0] 36)) := ((Below.refl _ w).alloc (Nat.le_refl _) _).alloc (by simp) _
  rw [hz1] at hX
  have HTD := Lib.hid h
  have HS := Lib.hid hS
  have HT := Lib.hid hT
  have HN := Lib.hid hN
  have HOK := Lib.hid hok
  have hbb := snap_base hN
  obtain ⟨R, hRR⟩ : ∃ R, behind l b = R := ⟨_, rfl⟩
  rw [hRR]
  have HRR := Lib.hid hRR
  have HF := Lib.hid hf
  clear h hS hT hN hok hz1 hRR hf
  unfold LoadEnds
  go_enter Tryd.func13, Tryd.ntmps13
  go_wp2_with fail
  generalize (w.alloc (.cells #[.int .i64 0, .int .i64 0, .int .i64 0, .int .i64 0, .string ⟨#[]⟩, .slice none 0 0] 36)).alloc (.cells #[.int .i64 0, .int .i64 0, .int .i64 0, .int .i64 0, .string ⟨#[]⟩, .slice none 0 0] 36) = w1 at *
  have hA := loadTerm_any (HTD.out.below hb) (HS.out.below hb HS.out.1) hX HT.out
  have HR1 := Lib.hid hR
  have HB1 := Lib.hid hb
  clear hR hX hb
  generalize hG : w.heap.size = G at *
  have HG := Lib.hid hG
  clear hG
  refine hA.mono ?_
  rintro e w2 ⟨rfl, hX2, hg2⟩
  have hb2 := below_of_grownBy HB1.out hg2 (by have := HB1.out.size; have := HG.out; omega) (by omega)
  have hT2 : TD w2 B g m rm F := HTD.out.below (by rw [HG.out]; exact hb2)
  have hA2 := loadSnap_any hT2 (HS.out.below hb2 (by have := HS.out.1; rw [HG.out] at this; exact this)) hX2 HN.out
  have HR2 := Lib.hid (HR1.out.grown hg2 (by simp))
  have HB2 := Lib.hid hb2
  clear hA hX2 hg2 hb2 hT2 HR1 HB1
  go_wp2_with fail
  refine hA2.mono ?_
  rintro e w3 ⟨rfl, hX3, hg3⟩
  have hb3 := below_of_grownBy HB2.out hg3 (by have := HR2.out.lt; omega) (by omega)
  have hT3 : TD w3 B g m rm F := HTD.out.below (by rw [HG.out]; exact hb3)
  have hA3 := loadLog_any hT3 (HS.out.below hb3 (by have := HS.out.1; rw [HG.out] at this; exact this)) b hbb hX3 l hl HOK.out hlen HF.out
  rw [HRR.out] at hA3
  have HR3 := Lib.hid (HR2.out.grown hg3 (by simp))
  have HB3 := Lib.hid hb3
  clear hA2 hX3 hg3 hb3 hT3 HR2 HB2
  go_wp2_with fail
  refine hA3.mono ?_
  rintro e w4 ⟨rfl, hg4, vl, hX4, hrow4⟩
  have hb4 := below_of_grownBy HB3.out hg4 (by have := HR3.out.lt; omega) (by omega)
  have hR4 := HR3.out.grown hg4 (by simp)
  obtain ⟨A, c, rfl, hlc, hEn⟩ := EnT.of_row hrow4
  have HB4 := Lib.hid hb4
  have HR4 := Lib.hid hR4
  have HX4 := Lib.hid hX4
  have HEN := Lib.hid hEn
  clear hA3 hX4 hg4 hb4 hR4 hrow4 hEn HR3 HB3
  have hC1 : (#[.int .i64 (t : Int), .int .i64 (v : Int), .int .i64 (b : Int), .int .i64 (bt : Int), .string sn, .slice A R.length c] : Array Value).all (·.oneCell') = true := by simp [Value.oneCell']
  go_wp2_with (first | refine wpList_load_whole rfl 36 _ rfl (G + 1) rfl 36 _ _ HX4.out Tryd.underlying36 rfl (by kernel_rfl) ?_ | (refine wpList_store_whole rfl 36 _ _ rfl G _ rfl rfl 36 _ HR4.out (by kernel_rfl) (by kernel_rfl) hC1 ?_; intro w5 hR5 hG5; replace hR5 := Lib.hid hR5; replace hG5 := Lib.hid hG5))
  have hb5 := below_of_grownBy HB4.out hG5.out (by have := HR4.out.lt; omega) (Nat.le_refl _)
  have hEn5 : EnT w5 A R := HEN.out.grown HR4.out (by decide) hG5.out
  refine bodyPost_ret (res_row_tmp rfl _ _ _ _ _ _ rfl hR5.out Tryd.underlying36 (by kernel_rfl)) rfl ⟨A, c, rfl, hlc, hEn5, ?_⟩
  rw [HG.out]
  exact hb5
end Go.Proofs.YtplmflagffloeaaDoor
