/- Yw, Yv, Ys: merged (a claim holds few files). -/
import Derived.Test.YtplmflagffloeaaDoorB4
import Derived.Test.YtplmflagffloeaaDoorB7
/- term: entries in memory; frames, SaveTerm, Append, Rewrite, SaveSnap: their walks. -/
namespace Go.Proofs.YtplmflagffloeaaDoor
open Go.RowKit
open Sm
open Wm (num)
set_option linter.unusedVariables false
set_option linter.unusedSimpArgs false

/-- the entries of a slice, where they lie -/
def EnAt (w : World) (Bd : Nat) (A : Option Addr) (l : List En) : Prop :=
  ∀ i (h : i < l.length), ∃ ad, A = some ad ∧ ad.block < Bd ∧ ∀ j u, (l[i].cells)[j]? = some u → w.cell? (ad.add (i * 3 + j)) = some u
theorem EnAt.below {w w' : World} {Bd : Nat} {A : Option Addr} {l : List En} (h : EnAt w Bd A l) (hb : Below Bd w w') : EnAt w' Bd A l := fun i hi => by
  obtain ⟨ad, e, hlt, hc⟩ := h i hi
  exact ⟨ad, e, hlt, fun j u hj => (hb.cell (p := ad.add (i * 3 + j)) (by rw [add_block]; exact hlt)).trans (hc j u hj)⟩
theorem EnAt.nil {w : World} {Bd : Nat} {A : Option Addr} : EnAt w Bd A [] := fun i hi => absurd hi (Nat.not_lt_zero i)
theorem addr_at3 (ad : Addr) (m j : Nat) : ad.add (m + (j + 1)) = ⟨(ad.add m).block, (ad.add m).off + (j + 1), none⟩ := by
  unfold Addr.add
  by_cases hm : m = 0
  · subst hm; simp
  · simp [hm, Nat.add_assoc]
theorem EnAt.get {w : World} {Bd : Nat} {A : Option Addr} {l : List En} (h : EnAt w Bd A l) {k : Nat} (hk : k < l.length) : ∃ ad, A = some ad ∧ ad.block < Bd ∧ ∀ w', Below Bd w w' → w'.cell? (ad.add (k * 3)) = some (.int .i64 (l[k].idx : Int)) ∧ w'.cell? ⟨(ad.add (k * 3)).block, (ad.add (k * 3)).off + 1, none⟩ = some (.int .i64 (l[k].tm : Int)) ∧ w'.cell? ⟨(ad.add (k * 3)).block, (ad.add (k * 3)).off + 2, none⟩ = some (.string l[k].cmd) := by
  obtain ⟨ad, e, hlt, hc⟩ := h k hk
  refine ⟨ad, e, hlt, fun w' hb => ?_⟩
  have key : ∀ j u, (l[k].cells)[j]? = some u → w'.cell? (ad.add (k * 3 + j)) = some u := fun j u hj => (hb.cell (p := ad.add (k * 3 + j)) (by rw [add_block]; exact hlt)).trans (hc j u hj)
  have h0 := key 0 _ rfl
  have h1 := key 1 _ rfl
  have h2 := key 2 _ rfl
  rw [addr_at3] at h1 h2
  exact ⟨h0, h1, h2⟩
theorem EnAt.of_row {w : World} {B n : Nat} {v : Value} {l : List En} (h : w.ownsRow B 30 3 v n (enCells l)) : ∃ A c, v = .slice A l.length c ∧ l.length ≤ c ∧ EnAt w w.heap.size A l := by
  have hn : n = l.length := by have := h.1; rw [enCells_len] at this; omega
  subst hn
  rcases h.2 with ⟨rfl, h0⟩ | ⟨g, cap, cur, rfl, hB, hg, hc, _⟩
  · have : l = [] := List.eq_nil_of_length_eq_zero h0
    subst this
    exact ⟨none, 0, rfl, Nat.le_refl _, EnAt.nil⟩
  · refine ⟨some ⟨g, 0, none⟩, cap, rfl, hc, fun i hi => ⟨_, rfl, (h.lt g rfl).2, fun j u hj => ?_⟩⟩
    exact h.cells (g := g) rfl _ u (enCells_get l i j l[i] u (List.getElem?_eq_getElem hi) hj)
theorem en_cells : Tryd.prog.cellsOf 30 = 3 := by kernel_rfl

set_option maxRecDepth 100000 in
set_option maxHeartbeats 2000000 in
theorem frames_any (A : Option Addr) (c : Nat) (l : List En) (w : World) (hS : Steps w) (hl : l.length ≤ 1000) (hok : ∀ x ∈ l, x.ok) (hlen : (logOf l).length ≤ 10000000) (hL : EnAt w w.heap.size A l) :
    Calls Tryd.prog 22 #[.slice A l.length c] w fun e w' => e = .returned (.string ⟨(logOf l).toArray⟩) ∧ Below w.heap.size w w' := by
  have hpre : ∀ k, (logOf (l.take k)).length ≤ 10000000 := fun k => by
    have := logOf_append (l.take k) (l.drop k)
    rw [List.take_append_drop] at this
    have := congrArg List.length this
    rw [List.length_append] at this
    omega
  have HP := Lib.hid hpre
  have HOK := Lib.hid hok
  have HS := Lib.hid hS
  have HL := Lib.hid hL
  have hw0 := hS.1
  have hc3 := en_cells
  obtain ⟨b, hb⟩ : ∃ b, w.heap.size = b := ⟨_, rfl⟩
  rw [hb] at HL hw0 ⊢
  clear hpre hok hS hL hlen
  go_enter Tryd.func22, Tryd.ntmps22
  go_upto_region 2 with fail
  have G1 : Hid (BdIs (w.alloc (.cells #[.pointer none, .slice none 0 0] 93)) b (logOf (l.take 0))) := Lib.hid (by rw [← hb]; exact BdIs.new w)
  have B1 : Hid (Below b w (w.alloc (.cells #[.pointer none, .slice none 0 0] 93))) := Lib.hid (by rw [← hb]; exact (Below.refl _ w).alloc (Nat.le_refl _) _)
  generalize w.alloc (.cells #[.pointer none, .slice none 0 0] 93) = w1 at *
  go_wp2
  go_loopw [9] (fun i wr => ∃ k : Nat, k ≤ l.length ∧ i = .int .i64 (k : Int) ∧ Hid (BdIs wr b (logOf (l.take k))) ∧ Hid (Below b w wr))
    (fun i _ => l.length - (intOf i).toNat)
  case atStart => exact ⟨0, by omega, rfl, G1, B1⟩
  case round =>
    clear G1 B1
    obtain ⟨k, hk, rfl, HG, HB⟩ := hrel
    by_cases hlt : k < l.length
    · have q1 : decide ((k : Int) < (l.length : Int)) = true := by simpa using hlt
      obtain ⟨ad, rfl, hadB, hc⟩ := HL.out.get hlt
      obtain ⟨y0, y1, y2⟩ := hc wr HB.out
      have HT := Lib.hid (logOf_take hlt)
      have HXO := Lib.hid (HOK.out l[k] (List.getElem_mem hlt))
      have hacc := HP.out k
      clear hc
      generalize l[k] = x at *
      generalize logOf (l.take k) = acc at *
      have hX := At.new wr 30 #[.int .i64 (x.idx : Int), .int .i64 (x.tm : Int), .string x.cmd]
      have hB2 := HB.out.alloc (by have := HB.out.size; omega) (.cells #[.int .i64 (x.idx : Int), .int .i64 (x.tm : Int), .string x.cmd] 30)
      have hG2 := HG.out.alloc (.cells #[.int .i64 (x.idx : Int), .int .i64 (x.tm : Int), .string x.cmd] 30)
      have hz2 : (wr.alloc (.cells #[.int .i64 (x.idx : Int), .int .i64 (x.tm : Int), .string x.cmd] 30)).heap.size = wr.heap.size + 1 := by simp
      have hbs := HB.out.size
      rw [hb] at hbs
      go_upto_region 6 with fail
      generalize wr.alloc (.cells #[.int .i64 (x.idx : Int), .int .i64 (x.tm : Int), .string x.cmd] 30) = w2 at *
      have hE := EncIs.new w2
      have hB3 := hB2.alloc (by have := hB2.size; omega) (.cells #[.pointer none, .int .i64 0] 67)
      have hG3 := hG2.alloc (.cells #[.pointer none, .int .i64 0] 67)
      have hX3 := hX.alloc (.cells #[.pointer none, .int .i64 0] 67)
      rw [hz2] at hE
      generalize w2.alloc (.cells #[.pointer none, .int .i64 0] 67) = w3 at *
      have hH : FrH w wr.heap.size (wr.heap.size + 1) b x acc (fun _ => false) w3 := ⟨fun h => (by cases h), fun h => (by cases h), fun h => (by cases h), fun h => (by cases h), (by rw [hb]; exact hB3), hX3, fun _ => hE, hG3⟩
      have hEE : FrE w wr.heap.size (wr.heap.size + 1) b x acc ⟨x.enc.toArray⟩ ⟨(frameL x.enc).toArray⟩ := ⟨HS.out, HXO.out, by omega, by omega, hacc, rfl, rfl⟩
      have HH := Lib.hid hH
      have HE := Lib.hid hEE
      clear hX hB2 hG2 hE hB3 hG3 hX3 hH hEE HG HB y0 y1 y2
      refine fr_region (se := ⟨x.enc.toArray⟩) (sf := ⟨(frameL x.enc).toArray⟩) rfl ⟨rfl, rfl, rfl, HE.out⟩ HH.out.drew ?_
      intro v w4 hB4 hG4
      simp only [List.setIfInBounds_toArray, List.set_cons_zero, List.set_cons_succ]
      have R1 := Lib.hid hG4
      have R2 : Hid (Below b w w4) := Lib.hid (by rw [← hb]; exact hB4)
      clear hB4 hG4 HH HE
      go_wp2
      go_roundw
      case rel => exact ⟨k + 1, by omega, by go_num, by rw [HT.out]; exact R1, R2⟩
      case measure => simp [intOf]; omega
    · have q1 : decide ((k : Int) < (l.length : Int)) = false := by simpa using hlt
      have hX : l.take k = l := List.take_of_length_le (by omega)
      rw [hX] at HG
      have hSt := Tryd.Builder_String_any_k b b (logOf l) wr HG.out (by have := HG.out.lt; omega)
      clear HG
      go_wp2_with fail
      refine hSt.mono ?_
      rintro e w5 ⟨rfl, _, h2, _⟩
      have R := Lib.hid (HB.out.trans h2)
      clear hSt h2 HB
      go_wp2
      go_ret
      exact ⟨rfl, R.out⟩
end Go.Proofs.YtplmflagffloeaaDoor

/- term: SaveTerm, Append, Rewrite, SaveSnap: their walks. -/
namespace Go.Proofs.YtplmflagffloeaaDoor
open Go.RowKit
open Sm
open Wm (num)
open Pm (Key St)
set_option linter.unusedVariables false
set_option linter.unusedSimpArgs false

/-- what the files term and snap hold -/
def termX (t v : Nat) : List UInt8 := num t ++ num v
def snapX (b bt : Nat) (s : ByteArray) : List UInt8 := num b ++ num bt ++ text s
def termL (t v : Nat) : List UInt8 := frameL (termX t v)
def snapL (b bt : Nat) (s : ByteArray) : List UInt8 := frameL (snapX b bt s)
theorem termX_eq (t v : Nat) : nums [(t : Int), (v : Int)] = termX t v := by simp [nums, termX]
theorem snapX_eq (b bt : Nat) (s : ByteArray) : nums [(b : Int), (bt : Int)] ++ texts [s] = snapX b bt s := by simp [nums, texts, snapX]
theorem termX_len {t v : Nat} (ht : t ≤ 1099511627776) (hv : v ≤ 1099511627776) : (termX t v).length ≤ 20 := by
  have h1 := Wm.num_len t (by omega)
  have h2 := Wm.num_len v (by omega)
  unfold termX
  rw [List.length_append]
  omega
theorem snapX_len {b bt : Nat} {s : ByteArray} (h1 : b ≤ 1099511627776) (h2 : bt ≤ 1099511627776) (h3 : s.size ≤ 1000000) : (snapX b bt s).length ≤ 30 + s.size := by
  have a1 := Wm.num_len b (by omega)
  have a2 := Wm.num_len bt (by omega)
  have a3 := Wm.num_len s.size (by omega)
  unfold snapX
  simp only [List.length_append, text_len]
  omega
theorem TdEnds.after {w w1 : World} {B g m : Nat} {rm : Int} {F : Key → St} {e : Ending} {w' : World} (h : TdEnds w1 B g m rm F e w') (hb : Below w.heap.size w w1) (hB : B ≤ w.heap.size) : TdEnds w B g m rm F e w' :=
  ⟨h.1, h.2.1, (hb.mono hB).trans h.2.2.1, (PKeep.of_below hb).trans h.2.2.2⟩

theorem frame_one (s : ByteArray) (hs : s.size ≤ 1048576) (G : Nat) (W : World) (hS : Steps W) (hG : At W G 9 #[.string s]) :
    Calls Tryd.prog 25 #[.slice (some ⟨G, 0, none⟩) 1 1] W fun e w' => e = .returned (.string ⟨(frameL s.data.toList).toArray⟩) ∧ Below W.heap.size W w' := by
  have hc : cat [s] = s.data.toList := by simp [cat]
  have := frame_any [s] G 1 W hS (by simp) hG.lt (fun j y hj => by
    have hj0 : j = 0 := by
      rcases Nat.eq_zero_or_pos j with h | h
      · exact h
      · rw [List.getElem?_eq_none (by simp; omega)] at hj; cases hj
    subst hj0
    simp at hj
    subst hj
    exact hG.cell 0) (by rw [hc, size_list]; exact hs) (by simp)
  rw [hc] at this
  exact this

set_option maxRecDepth 100000 in
set_option maxHeartbeats 1000000 in
theorem saveTerm_any {w : World} {B g m : Nat} {rm : Int} {F : Key → St} (h : TD w B g m rm F) (hB : B ≤ w.heap.size) (hS : Steps w) (t v : Nat) (ht : t ≤ 1099511627776) (hv : v ≤ 1099511627776) (hs : (tdUsed F : Int) + 28 ≤ rm) (hrm : rm ≤ 1000000000) :
    Calls Tryd.prog 11 #[.pointer (some ⟨g, 0, none⟩), .int .i64 (t : Int), .int .i64 (v : Int)] w (TdEnds w B g m rm (updT F kTerm (termL t v))) := by
  have hz1 : (w.alloc (.cells #[.pointer none, .int .i64 0] 67)).heap.size = w.heap.size + 1 := by simp
  have hE := (EncIs.new w).same (World.grownBy_alloc (w.alloc (.cells #[.pointer none, .int .i64 0] 67)) (.cells #[.int .i64 (t : Int), .int .i64 (v : Int)] 3) none)
  have hA := At.new (w.alloc (.cells #[.pointer none, .int .i64 0] 67)) 3 #[.int .i64 (t : Int), .int .i64 (v : Int)]
  have hb2 : Below w.heap.size w ((w.alloc (.cells #[.pointer none, .int .i64 0] 67)).alloc (.cells #[.int .i64 (t : Int), .int .i64 (v : Int)] 3)) := ((Below.refl _ w).alloc (Nat.le_refl _) _).alloc (by simp) _
  rw [hz1] at hA
  have hxl := termX_len ht hv
  have hTT := termX_eq t v
  obtain ⟨xl, hxe⟩ : ∃ xl, termX t v = xl := ⟨_, rfl⟩
  unfold termL
  rw [hxe] at hxl hTT ⊢
  obtain ⟨se, hse⟩ : ∃ se : ByteArray, (⟨xl.toArray⟩ : ByteArray) = se := ⟨_, rfl⟩
  have hsd : se.data.toList = xl := by rw [← hse]
  have hsz : se.size = xl.length := by rw [← size_list, hsd]
  obtain ⟨sf, hsf⟩ : ∃ sf : ByteArray, (⟨(frameL xl).toArray⟩ : ByteArray) = sf := ⟨_, rfl⟩
  have hfd : sf.data.toList = frameL xl := by rw [← hsf]
  have hfz : sf.size = 8 + xl.length := by rw [← size_list, hfd, frameL_len]
  have HTD := Lib.hid h
  have HS := Lib.hid hS
  have HU := Lib.hid hs
  clear h hS hs hxe
  go_enter Tryd.func11, Tryd.ntmps11
  go_wp2_with fail
  generalize (w.alloc (.cells #[.pointer none, .int .i64 0] 67)).alloc (.cells #[.int .i64 (t : Int), .int .i64 (v : Int)] 3) = w2 at *
  have hI := encI_any w.heap.size [] [(t : Int), (v : Int)] (by simp; omega) (some ⟨w.heap.size + 1, 0, none⟩) 2 w2 hE (Lies.of_at hA rfl hA.lt) (by simp)
  rw [hTT, List.nil_append] at hI
  clear hE hA hz1
  refine hI.mono ?_
  rintro e w3 ⟨rfl, he3, hg3⟩
  have hb3 := below_of_grownBy hb2 hg3 hb2.size (Nat.le_refl _)
  have HB3 := Lib.hid hb3
  have hBy := bytes_any w.heap.size xl w3 he3 (by omega)
  rw [hse] at hBy
  clear hI he3 hg3 hb2 hb3
  go_wp2_with fail
  refine hBy.mono ?_
  rintro e w4 ⟨rfl, hb4⟩
  have hb4 := HB3.out.trans (hb4.mono HB3.out.size)
  have hb5 := hb4.alloc hb4.size (.cells #[.string se] 9)
  have hA5 := At.new w4 9 #[.string se]
  have HB5 := Lib.hid hb5
  have HA5 := Lib.hid hA5
  clear hBy hb4 HB3 hb5 hA5
  go_wp2_with fail
  generalize w4.alloc (.cells #[.string se] 9) = w5 at *
  have hFr := frame_one se (by omega) w4.heap.size w5 (HS.out.below HB5.out HS.out.1) HA5.out
  rw [hsd, hsf] at hFr
  refine hFr.mono ?_
  rintro e w6 ⟨rfl, hb6⟩
  have hb6 := HB5.out.trans (hb6.mono HB5.out.size)
  have hSv := tsave_any (HTD.out.below hb6) (by have := hb6.size; omega) ⟨#[116, 101, 114, 109]⟩ sf (.inl rfl) (by rw [hfz]; have := HU.out; omega) hrm
  rw [hfd] at hSv
  have HB6 := Lib.hid hb6
  clear hFr hb6 HB5 HA5
  go_wp2_with fail
  refine hSv.mono ?_
  rintro e w7 hend
  have HEND := Lib.hid (hend.after HB6.out hB)
  obtain rfl := hend.1
  clear hend hSv
  go_wp2
  go_ret
  exact HEND.out

set_option maxRecDepth 100000 in
set_option maxHeartbeats 1000000 in
theorem rewrite_any {w : World} {B g m : Nat} {rm : Int} {F : Key → St} (h : TD w B g m rm F) (hB : B ≤ w.heap.size) (hS : Steps w) (A : Option Addr) (c : Nat) (l : List En) (hl : l.length ≤ 1000) (hok : ∀ x ∈ l, x.ok) (hL : EnAt w w.heap.size A l) (hs : (tdUsed F : Int) + (logOf l).length ≤ rm) (hrm : rm ≤ 10000000) :
    Calls Tryd.prog 29 #[.pointer (some ⟨g, 0, none⟩), .slice A l.length c] w (TdEnds w B g m rm (updT F kLog (logOf l))) := by
  have hF := frames_any A c l w hS hl hok (by omega) hL
  obtain ⟨sf, hsf⟩ : ∃ sf : ByteArray, (⟨(logOf l).toArray⟩ : ByteArray) = sf := ⟨_, rfl⟩
  have hfd : sf.data.toList = logOf l := by rw [← hsf]
  have hfz : sf.size = (logOf l).length := by rw [← size_list, hfd]
  rw [hsf] at hF
  rw [← hfd]
  rw [← hfz] at hs
  have HTD := Lib.hid h
  clear h hS hL hok hsf hfd hfz
  go_enter Tryd.func29, Tryd.ntmps29
  go_wp2_with fail
  refine hF.mono ?_
  rintro e w1 ⟨rfl, hb1⟩
  have hSv := tsave_any (HTD.out.below hb1) (by have := hb1.size; omega) ⟨#[108, 111, 103]⟩ sf (.inr (.inr rfl)) hs (by omega)
  have HB1 := Lib.hid hb1
  clear hF hb1
  go_wp2_with fail
  refine hSv.mono ?_
  rintro e w7 hend
  have HEND := Lib.hid (hend.after HB1.out hB)
  obtain rfl := hend.1
  clear hend hSv
  go_wp2
  go_ret
  exact HEND.out

set_option maxRecDepth 100000 in
set_option maxHeartbeats 1000000 in
theorem tappend_any {w : World} {B g m : Nat} {rm : Int} {F : Key → St} (h : TD w B g m rm F) (hB : B ≤ w.heap.size) (hS : Steps w) (A : Option Addr) (c : Nat) (l : List En) (hl : l.length ≤ 1000) (hok : ∀ x ∈ l, x.ok) (hL : EnAt w w.heap.size A l) (hs : (tdUsed F : Int) + (logOf l).length ≤ rm) (hrm : rm ≤ 10000000) :
    Calls Tryd.prog 10 #[.pointer (some ⟨g, 0, none⟩), .slice A l.length c] w (TdEnds w B g m rm (updT F kLog ((F kLog).t ++ logOf l))) := by
  have hF := frames_any A c l w hS hl hok (by omega) hL
  obtain ⟨sf, hsf⟩ : ∃ sf : ByteArray, (⟨(logOf l).toArray⟩ : ByteArray) = sf := ⟨_, rfl⟩
  have hfd : sf.data.toList = logOf l := by rw [← hsf]
  have hfz : sf.size = (logOf l).length := by rw [← size_list, hfd]
  rw [hsf] at hF
  rw [← hfd]
  rw [← hfz] at hs
  have hu := h.tf.used
  have hln := h.tf.len
  have htf := h.tf
  have hAp := fun W (hb : Below w.heap.size w W) => append_kp (h.has.below hb) (by have := hb.size; omega) ⟨#[108, 111, 103]⟩ sf (by decide) (by decide) (by rw [hu]; omega) (by omega) (by
    rw [show (⟨#[108, 111, 103]⟩ : ByteArray).data.toList = kLog from rfl, htf.fi, hu]
    have e : ((Pm.still (F kLog)).weight : Nat) = (F kLog).t.length := Pm.still_weight _
    have e2 : (Pm.still (F kLog)).now.t.length = (F kLog).t.length := rfl
    rw [e, e2]
    omega)
  rw [show (⟨#[108, 111, 103]⟩ : ByteArray).data.toList = kLog from rfl, htf.fi] at hAp
  have HTF := Lib.hid htf
  have HAP := Lib.hid hAp
  clear h hS hL hok hsf hfd hfz hu hln htf hAp
  go_enter Tryd.func10, Tryd.ntmps10
  go_wp2_with fail
  refine hF.mono ?_
  rintro e w1 ⟨rfl, hb1⟩
  have hA1 := HAP.out w1 hb1
  have HB1 := Lib.hid hb1
  clear hF hb1 HAP
  go_wp2_with fail
  refine hA1.mono ?_
  rintro e w2 ⟨rfl, h2, hb2, hk2⟩
  have hs2 := hb2.size
  have hsz1 := HB1.out.size
  have hY := tsync_any (w := w2.alloc (.cells #[.string ⟨#[108, 111, 103]⟩] 9)) HTF.out (by simp; omega) ⟨#[108, 111, 103]⟩ (.inr (.inr rfl)) ((F kLog).t ++ sf.data.toList) (F kLog) (HTF.out.ok kLog) (some ⟨w2.heap.size, 0, none⟩) (Lies.of_at (At.new w2 9 #[.string ⟨#[108, 111, 103]⟩]) rfl (by simp)) (h2.alloc _)
  have HB2 := Lib.hid ((((HB1.out.mono hB).trans hb2)).alloc (by omega : B ≤ w2.heap.size) (.cells #[.string ⟨#[108, 111, 103]⟩] 9))
  have HK2 := Lib.hid (((PKeep.of_below HB1.out).trans hk2).trans (PKeep.alloc w2 (.cells #[.string ⟨#[108, 111, 103]⟩] 9)))
  clear hA1 h2 hb2 hk2 HB1
  go_wp2_with fail
  refine hY.mono ?_
  rintro e w3 ⟨rfl, h3, hb3, hk3⟩
  have H3 := Lib.hid h3
  have HB3 := Lib.hid (HB2.out.trans hb3)
  have HK3 := Lib.hid (HK2.out.trans hk3)
  clear h3 hb3 hk3 hY
  go_wp2
  go_ret
  exact ⟨rfl, H3.out, HB3.out, HK3.out⟩
end Go.Proofs.YtplmflagffloeaaDoor

/- term.SaveSnap: its walk. -/
namespace Go.Proofs.YtplmflagffloeaaDoor
open Go.RowKit
open Sm
open Wm (num)
open Pm (Key St)
set_option linter.unusedVariables false
set_option linter.unusedSimpArgs false

/-- the entries of a slice, in blocks of entries -/
def EnT (w : World) (A : Option Addr) (l : List En) : Prop :=
  ∀ i (h : i < l.length), ∃ ad, A = some ad ∧ (∃ cs fz, w.heap[ad.block]? = some (Obj.cells cs 30 fz)) ∧ ∀ j u, (l[i].cells)[j]? = some u → w.cell? (ad.add (i * 3 + j)) = some u
section
variable {w w' : World} {A : Option Addr} {l : List En}
theorem EnT.nil : EnT w A [] := fun i hi => absurd hi (Nat.not_lt_zero i)
theorem EnT.at_ (h : EnT w A l) : EnAt w w.heap.size A l := fun i hi => by
  obtain ⟨ad, e, ⟨cs, fz, hb⟩, hc⟩ := h i hi
  exact ⟨ad, e, (Array.getElem?_eq_some_iff.1 hb).1, hc⟩
theorem EnT.keep (h : EnT w A l) (hk : PKeep w w') : EnT w' A l := fun i hi => by
  obtain ⟨ad, e, ⟨cs, fz, hb⟩, hc⟩ := h i hi
  have he := hk.block ad.block cs _ fz hb (by decide) (by decide)
  exact ⟨ad, e, ⟨cs, fz, he.trans hb⟩, fun j u hj => (World.cell?_of_block (by rw [add_block]; exact he)).trans (hc j u hj)⟩
theorem EnT.below (h : EnT w A l) (hb : Below w.heap.size w w') : EnT w' A l := h.keep (PKeep.of_below hb)
theorem EnT.of_row {B n : Nat} {v : Value} (h : w.ownsRow B 30 3 v n (enCells l)) : ∃ A c, v = .slice A l.length c ∧ l.length ≤ c ∧ EnT w A l := by
  have hn : n = l.length := by have := h.1; rw [enCells_len] at this; omega
  subst hn
  rcases h.2 with ⟨rfl, h0⟩ | ⟨g, cap, cur, rfl, hB, hg, hc, _⟩
  · have : l = [] := List.eq_nil_of_length_eq_zero h0
    subst this
    exact ⟨none, 0, rfl, Nat.le_refl _, EnT.nil⟩
  · refine ⟨some ⟨g, 0, none⟩, cap, rfl, hc, fun i hi => ⟨_, rfl, ⟨cur, _, hg⟩, fun j u hj => ?_⟩⟩
    exact h.cells (g := g) rfl _ u (enCells_get l i j l[i] u (List.getElem?_eq_getElem hi) hj)
theorem add_add (ad : Addr) (a b : Nat) : (ad.add a).add b = ad.add (a + b) := by
  unfold Addr.add
  by_cases h1 : a = 0 <;> by_cases h2 : b = 0 <;> simp [h1, h2, Nat.add_assoc]
theorem EnT.drop {ad : Addr} (h : EnT w (some ad) l) (n : Nat) : EnT w (some (ad.add (n * 3))) (l.drop n) := fun i hi => by
  have hi' : n + i < l.length := by rw [List.length_drop] at hi; omega
  obtain ⟨ad', e, ⟨cs, fz, hb⟩, hc⟩ := h (n + i) hi'
  obtain rfl : ad = ad' := Option.some.inj e
  refine ⟨_, rfl, ⟨cs, fz, by rw [add_block]; exact hb⟩, fun j u hj => ?_⟩
  rw [List.getElem_drop] at hj
  rw [add_add, show n * 3 + (i * 3 + j) = (n + i) * 3 + j by omega]
  exact hc j u hj
theorem EnT.take (h : EnT w A l) (n : Nat) : EnT w A (l.take n) := fun i hi => by
  rw [List.length_take] at hi
  obtain ⟨ad, e, hb, hc⟩ := h i (by omega)
  refine ⟨ad, e, hb, fun j u hj => ?_⟩
  rw [List.getElem_take] at hj
  exact hc j u hj
end

set_option maxRecDepth 100000 in
set_option maxHeartbeats 2000000 in
theorem saveSnap_any {w : World} {B g m : Nat} {rm : Int} {F : Key → St} (h : TD w B g m rm F) (hB : B ≤ w.heap.size) (h0 : 0 < B) (hS : Steps w) (b bt : Nat) (hb : b ≤ 1099511627776) (hbt : bt ≤ 1099511627776) (s : ByteArray) (hsn : s.size ≤ 1000000) (A : Option Addr) (c : Nat) (l : List En) (hl : l.length ≤ 1000) (hok : ∀ x ∈ l, x.ok) (hL : EnT w A l)
    (hs : (tdUsed F : Int) + (38 + s.size) + (logOf l).length ≤ rm) (hrm : rm ≤ 10000000) :
    Calls Tryd.prog 12 #[.pointer (some ⟨g, 0, none⟩), .int .i64 (b : Int), .int .i64 (bt : Int), .string s, .slice A l.length c] w (TdEnds w B g m rm (updT (updT F kSnap (snapL b bt s)) kLog (logOf l))) := by
  have hz1 : (w.alloc (.cells #[.pointer none, .int .i64 0] 67)).heap.size = w.heap.size + 1 := by simp
  have hE := (EncIs.new w).same (World.grownBy_alloc (w.alloc (.cells #[.pointer none, .int .i64 0] 67)) (.cells #[.int .i64 (b : Int), .int .i64 (bt : Int)] 3) none)
  have hA := At.new (w.alloc (.cells #[.pointer none, .int .i64 0] 67)) 3 #[.int .i64 (b : Int), .int .i64 (bt : Int)]
  have hb2 : Below w.heap.size w ((w.alloc (.cells #[.pointer none, .int .i64 0] 67)).alloc (.cells #[.int .i64 (b : Int), .int .i64 (bt : Int)] 3)) := ((Below.refl _ w).alloc (Nat.le_refl _) _).alloc (by simp) _
  rw [hz1] at hA
  have hxl := snapX_len hb hbt hsn
  have hTT := snapX_eq b bt s
  obtain ⟨xl, hxe⟩ : ∃ xl, snapX b bt s = xl := ⟨_, rfl⟩
  unfold snapL
  rw [hxe] at hxl hTT ⊢
  have hl2 : (nums [(b : Int), (bt : Int)]).length + (texts [s]).length = xl.length := by rw [← hTT, List.length_append]
  obtain ⟨se, hse⟩ : ∃ se : ByteArray, (⟨xl.toArray⟩ : ByteArray) = se := ⟨_, rfl⟩
  have hsd : se.data.toList = xl := by rw [← hse]
  have hsz : se.size = xl.length := by rw [← size_list, hsd]
  obtain ⟨sf, hsf⟩ : ∃ sf : ByteArray, (⟨(frameL xl).toArray⟩ : ByteArray) = sf := ⟨_, rfl⟩
  have hfd : sf.data.toList = frameL xl := by rw [← hsf]
  have hfz : sf.size = 8 + xl.length := by rw [← size_list, hfd, frameL_len]
  have hRW : ∀ W, TD W B g m rm (updT F kSnap (frameL xl)) → Below B w W → PKeep w W → Calls Tryd.prog 29 #[.pointer (some ⟨g, 0, none⟩), .slice A l.length c] W (TdEnds W B g m rm (updT (updT F kSnap (frameL xl)) kLog (logOf l))) := fun W hT hb hk =>
    rewrite_any hT (by have := hb.size; have := hk.size; omega) (hS.below hb h0) A c l hl hok (hL.keep hk).at_ (by
      have h1 := tdUsed_upd F (.inr (.inl rfl) : Three kSnap) (frameL xl)
      rw [frameL_len] at h1
      omega) hrm
  have HRW := Lib.hid hRW
  have HTD := Lib.hid h
  have HS := Lib.hid hS
  have HU : Hid ((tdUsed F : Int) + sf.size ≤ rm) := Lib.hid (by omega)
  clear h hS hs hxe hRW hL hok
  go_enter Tryd.func12, Tryd.ntmps12
  go_wp2_with fail
  generalize (w.alloc (.cells #[.pointer none, .int .i64 0] 67)).alloc (.cells #[.int .i64 (b : Int), .int .i64 (bt : Int)] 3) = w2 at *
  have hI := encI_any w.heap.size [] [(b : Int), (bt : Int)] (by simp; omega) (some ⟨w.heap.size + 1, 0, none⟩) 2 w2 hE (Lies.of_at hA rfl hA.lt) (by simp)
  rw [List.nil_append] at hI
  clear hE hA hz1
  refine hI.mono ?_
  rintro e w3 ⟨rfl, he3, hg3⟩
  have hb3 := below_of_grownBy hb2 hg3 hb2.size (Nat.le_refl _)
  have hb4 := hb3.alloc hb3.size (.cells #[.string s] 9)
  have he4 := he3.same (World.grownBy_alloc w3 (.cells #[.string s] 9) none)
  have hA4 := At.new w3 9 #[.string s]
  have HB4 := Lib.hid hb4
  have HE4 := Lib.hid he4
  have HA4 := Lib.hid hA4
  clear hI he3 hg3 hb2 hb3 hb4 he4 hA4
  go_wp2_with fail
  generalize w3.alloc (.cells #[.string s] 9) = w4 at *
  have hSS := encS_any w.heap.size (nums [(b : Int), (bt : Int)]) [s] (some ⟨w3.heap.size, 0, none⟩) 1 w4 HE4.out (Lies.of_at HA4.out rfl HA4.out.lt) (by omega)
  rw [hTT] at hSS
  refine hSS.mono ?_
  rintro e w5 ⟨rfl, he5, hg5⟩
  have hb5 := below_of_grownBy HB4.out hg5 HB4.out.size (Nat.le_refl _)
  have HB5 := Lib.hid hb5
  have hBy := bytes_any w.heap.size xl w5 he5 (by omega)
  rw [hse] at hBy
  clear hSS he5 hg5 hb5 HB4 HE4 HA4
  go_wp2_with fail
  refine hBy.mono ?_
  rintro e w6 ⟨rfl, hb6⟩
  have hb6 := HB5.out.trans (hb6.mono HB5.out.size)
  have hb7 := hb6.alloc hb6.size (.cells #[.string se] 9)
  have hA7 := At.new w6 9 #[.string se]
  have HB7 := Lib.hid hb7
  have HA7 := Lib.hid hA7
  clear hBy hb6 HB5 hb7 hA7
  go_wp2_with fail
  generalize w6.alloc (.cells #[.string se] 9) = w7 at *
  have hFr := frame_one se (by omega) w6.heap.size w7 (HS.out.below HB7.out HS.out.1) HA7.out
  rw [hsd, hsf] at hFr
  refine hFr.mono ?_
  rintro e w8 ⟨rfl, hb8⟩
  have hb8 := HB7.out.trans (hb8.mono HB7.out.size)
  have hSv := tsave_any (HTD.out.below hb8) (by have := hb8.size; omega) ⟨#[115, 110, 97, 112]⟩ sf (.inr (.inl rfl)) HU.out (by omega)
  rw [hfd, show (⟨#[115, 110, 97, 112]⟩ : ByteArray).data.toList = kSnap from rfl] at hSv
  have HB8 := Lib.hid hb8
  clear hFr hb8 HB7 HA7
  go_wp2_with fail
  refine hSv.mono ?_
  rintro e w9 hend
  have HEND := Lib.hid (hend.after HB8.out hB)
  obtain rfl := hend.1
  clear hend hSv
  have hR := HRW.out w9 HEND.out.2.1 HEND.out.2.2.1 HEND.out.2.2.2
  go_wp2_with fail
  refine hR.mono ?_
  rintro e w10 ⟨rfl, h1, h2, h3⟩
  have H1 := Lib.hid h1
  have H2 := Lib.hid (HEND.out.2.2.1.trans h2)
  have H3 := Lib.hid (HEND.out.2.2.2.trans h3)
  clear hR h1 h2 h3
  go_wp2
  go_ret
  exact ⟨rfl, H1.out, H2.out, H3.out⟩
end Go.Proofs.YtplmflagffloeaaDoor
