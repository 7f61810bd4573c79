/- 'several at once are one behind the other': glacierlaw01.WireMany returns true for every input. No condition. -/
import Derived.Test.YtfapnblajcfjfaaAw
import Derived.Test.YtfapnblajcfjfaaCu
import Derived.Test.YtfapnblajcfjfaaLw
import Derived.Test.YtfapnblajcfjfaaOp
import Derived.Test.YtfapnblajcfjfaaRows
import Derived.BigRegion
import Derived.ProofKit
import Derived.OpenShut
namespace Go.Proofs.Ytfapnblajcfjfaa.wireMany
open Go.ChangeShapes Go.WideShapes Go.ChangeAt Go.RowKit
open Wm (num tk)

theorem own : ownKnob Try.prog.godebug = none := by kernel_rfl

theorem info_str : (Try.prog.info? 9).map (fun i => (i.zero, i.size, i.bytes)) = some (some (.string ⟨#[]⟩), 1, 16) := by kernel_rfl

theorem texts_len (n : Nat) : ∀ (l : List ByteArray), (∀ x ∈ l, x.size ≤ n) → n ≤ 1000 → (texts l).length ≤ (n + 10) * l.length := by
  intro l
  induction l with
  | nil => intro _ _; simp [texts]
  | cons a l ih =>
    intro h hn
    have h1 := ih (fun x hx => h x (by simp [hx])) hn
    have h2 := h a (by simp)
    have h3 := Wm.num_len a.size (by omega)
    unfold texts at h1 ⊢
    rw [List.flatMap_cons, List.length_append, List.length_cons, Nat.mul_add]
    unfold text
    rw [List.length_append, size_list]
    unfold text at h1
    omega

theorem take9 {α : Type} (l : List α) : (if (9 : Int) < (l.length : Int) then (9 : Int) else (l.length : Int)) = ((l.take 9).length : Int) := by
  rw [List.length_take]; split <;> omega
theorem take5 {α : Type} (l : List α) : (if (5 : Int) < (l.length : Int) then (5 : Int) else (l.length : Int)) = ((l.take 5).length : Int) := by
  rw [List.length_take]; split <;> omega

theorem Lies.far {w w' : World} {B g : Nat} {A : Option Addr} {xs : List Value} (h : Lies w B A xs) (hb : w.grownBy w' (some g)) (hB : B ≤ w.heap.size) (hg : ∀ ad, A = some ad → xs ≠ [] → ad.block ≠ g) : Lies w' B A xs := fun j u hj => by
  obtain ⟨ad, rfl, hl, hc⟩ := h j u hj
  exact ⟨ad, rfl, hl, (World.cell?_of_block (hb.block (ad.add j).block (by rw [add_block]; omega) (by rw [add_block]; simpa using hg ad rfl (by intro e; subst e; simp at hj)))).trans hc⟩

/-- a slice of the call's own, as a slice that is read -/
theorem own_slice {w : World} {B n : Nat} {e : TypeId} {v : Value} {xs : List Value} (h : w.ownsRow B e 1 v n xs) : ∃ A c, v = .slice A n c ∧ Lies w w.heap.size A xs ∧ ∀ ad, A = some ad → B ≤ ad.block := by
  rcases h.2 with ⟨rfl, rfl⟩ | ⟨g, cap, cur, rfl, hB, hg, _⟩
  · have : xs = [] := List.eq_nil_of_length_eq_zero (by simpa using h.1)
    subst this
    exact ⟨none, 0, rfl, Lies.nil, by simp⟩
  · refine ⟨some ⟨g, 0, none⟩, cap, rfl, fun j u hj => ⟨_, rfl, (h.lt g rfl).2, h.cells (g := g) rfl j u hj⟩, ?_⟩
    intro ad hA
    simp at hA
    subst hA
    exact hB

theorem cuts_take {s : List ByteArray} {k : Nat} (h : k < s.length) : ((s.take (k + 1)).map (cutTo · 30)) = (s.take k).map (cutTo · 30) ++ [cutTo s[k] 30] := by
  rw [List.take_succ_eq_append_getElem h, List.map_append]
  rfl

/-- blocks G and G + 1 are two Encs; what is read lies elsewhere, below B; nothing below G has turned since w -/
def Here (w W : World) (G B : Nat) (Ls : List (Option Addr × List Value)) (x y : List UInt8) : Prop :=
  Below G w W ∧ G + 2 ≤ B ∧ B ≤ W.heap.size ∧ EncIs W G x ∧ EncIs W (G + 1) y ∧ ∀ p ∈ Ls, Lies W B p.1 p.2 ∧ ∀ ad, p.1 = some ad → p.2 ≠ [] → ad.block ≠ G ∧ ad.block ≠ G + 1

section
variable {w W W' : World} {G B : Nat} {Ls : List (Option Addr × List Value)} {x y z : List UInt8}
theorem Here.onA (h : Here w W G B Ls x y) (hg : W.grownBy W' (some G)) (hi : EncIs W' G z) : Here w W' G B Ls z y := by
  obtain ⟨h1, h2, h3, h4, h5, h6⟩ := h
  obtain ⟨cs, hcs⟩ := h4.at_
  exact ⟨below_of_grownBy h1 hg (by omega) (Nat.le_refl _), h2, Nat.le_trans h3 hg.size, hi, h5.grown hcs (by decide) (by omega) hg, fun p hp => ⟨Lies.far (h6 p hp).1 hg h3 (fun ad e e' => ((h6 p hp).2 ad e e').1), (h6 p hp).2⟩⟩
theorem Here.onB (h : Here w W G B Ls x y) (hg : W.grownBy W' (some (G + 1))) (hi : EncIs W' (G + 1) z) : Here w W' G B Ls x z := by
  obtain ⟨h1, h2, h3, h4, h5, h6⟩ := h
  obtain ⟨cs, hcs⟩ := h5.at_
  exact ⟨below_of_grownBy h1 hg (by omega) (by omega), h2, Nat.le_trans h3 hg.size, h4.grown hcs (by decide) (by omega) hg, hi, fun p hp => ⟨Lies.far (h6 p hp).1 hg h3 (fun ad e e' => ((h6 p hp).2 ad e e').2), (h6 p hp).2⟩⟩
theorem Here.below (h : Here w W G B Ls x y) (hb : Below W.heap.size W W') : Here w W' G B Ls x y := by
  obtain ⟨h1, h2, h3, h4, h5, h6⟩ := h
  exact ⟨h1.trans (hb.mono (by omega)), h2, Nat.le_trans h3 hb.size, h4.below hb rfl, h5.below hb rfl, fun p hp => ⟨(h6 p hp).1.below (hb.mono h3), (h6 p hp).2⟩⟩
theorem Here.alloc (h : Here w W G B Ls x y) (o : Obj) : Here w (W.alloc o) G B Ls x y := h.below ((Below.refl _ _).alloc (Nat.le_refl _) o)
theorem Here.onRow {B' n : Nat} {e : TypeId} {v : Value} {xs : List Value} (h : Here w W G B Ls x y) (hown : W.ownsRow B' e 1 v n xs) (he : e ≠ 64) (hB : B ≤ B') (hg : W.grownBy W' v.ownBlock) : Here w W' G B Ls x y := by
  rcases hown.2 with ⟨rfl, _⟩ | ⟨g, cap, cur, rfl, hb, hat, _⟩
  · exact h.below ⟨hg.os, hg.tape, hg.output, hg.size, fun k hk => hg.block k hk (by simp [Value.ownBlock])⟩
  · have hg' : W.grownBy W' (some g) := hg
    have hA : At W g e cur := hat
    obtain ⟨h1, h2, h3, h4, h5, h6⟩ := h
    exact ⟨below_of_grownBy h1 hg' (by omega) (by omega), h2, Nat.le_trans h3 hg.size, h4.grown hA he (by omega) hg', h5.grown hA he (by omega) hg', fun p hp => ⟨fun j u hj => by
      obtain ⟨ad, e1, e2, e3⟩ := (h6 p hp).1 j u hj
      exact ⟨ad, e1, e2, (World.cell?_of_block (hg'.block (ad.add j).block (by rw [add_block]; omega) (by rw [add_block]; simp; omega))).trans e3⟩, (h6 p hp).2⟩⟩
theorem Here.lies (h : Here w W G B Ls x y) {A : Option Addr} {xs : List Value} (hp : (A, xs) ∈ Ls) : Lies W W.heap.size A xs := (h.2.2.2.2.2 _ hp).1.more h.2.2.1
theorem Here.a (h : Here w W G B Ls x y) : EncIs W G x := h.2.2.2.1
theorem Here.b (h : Here w W G B Ls x y) : EncIs W (G + 1) y := h.2.2.2.2.1
theorem Here.with (h : Here w W G B Ls x y) {A : Option Addr} {xs : List Value} (hL : Lies W W.heap.size A xs) (hA : ∀ ad, A = some ad → G + 2 ≤ ad.block) : Here w W G W.heap.size ((A, xs) :: Ls) x y := by
  obtain ⟨h1, h2, h3, h4, h5, h6⟩ := h
  refine ⟨h1, by omega, Nat.le_refl _, h4, h5, fun p hp => ?_⟩
  rcases List.mem_cons.1 hp with rfl | hp
  · exact ⟨hL, fun ad e _ => by have := hA ad e; omega⟩
  · exact ⟨(h6 p hp).1.more h3, (h6 p hp).2⟩
theorem Here.start (w : World) (n : Nat) (G : Nat) (hG : w.heap.size = G) (Ls : List (Option Addr × List Value)) (hL : ∀ p ∈ Ls, Lies w G p.1 p.2) :
    Here w (((w.drewN n).alloc (.cells #[.pointer none, .int .i64 0] 26)).alloc (.cells #[.pointer none, .int .i64 0] 26)) G (G + 2) Ls [] [] := by
  subst hG
  have hb : Below w.heap.size w (((w.drewN n).alloc (.cells #[.pointer none, .int .i64 0] 26)).alloc (.cells #[.pointer none, .int .i64 0] 26)) :=
    ((below_drewN (Below.refl _ _) n).alloc (Nat.le_refl _) _).alloc (by simp) _
  have e1 := EncIs.new (w.drewN n)
  have e2 := EncIs.new ((w.drewN n).alloc (.cells #[.pointer none, .int .i64 0] 26))
  have hz : ((w.drewN n).alloc (.cells #[.pointer none, .int .i64 0] 26)).heap.size = w.heap.size + 1 := by simp
  rw [hz] at e2
  exact ⟨hb, Nat.le_refl _, by simp, e1.alloc _, e2, fun p hp => ⟨Lies.more (Lies.below (hL p hp) hb) (by omega), fun ad e hne => by
    obtain ⟨u, r, hu⟩ := List.exists_cons_of_ne_nil hne
    obtain ⟨ad', e', hlt, _⟩ := hL p hp 0 u (by rw [hu]; rfl)
    rw [e] at e'
    simp at e'
    subst e'
    omega⟩⟩
end

/-- an own slice's block, and where it may lie -/
theorem texts_new {W : World} (xs : List Value) (hx : xs = []) (c : Nat) (hc : c = 0) : (W.alloc (.cells #[] 9)).ownsRow W.heap.size 9 1 (.slice (some ⟨W.heap.size, 0, none⟩) 0 c) 0 xs := by
  subst hx; subst hc
  exact World.ownsRow_made W #[] 0 (Nat.le_refl _) (by unfold maxLen; omega) rfl

set_option maxRecDepth 100000 in
set_option maxHeartbeats 4000000 in
theorem walk (A1 A2 A3 A4 : Option Addr) (c1 c2 c3 c4 : Nat) (l0 : List Nat) (n0 : List Int) (b0 : List Bool) (s0 : List ByteArray) (w : World)
   (hc1 : l0.length ≤ c1) (hc2 : n0.length ≤ c2) (hc3 : b0.length ≤ c3) (hc4 : s0.length ≤ c4)
   (hL1 : Lies w w.heap.size A1 (u64s (l0.take 9))) (hL2 : Lies w w.heap.size A2 (ints (n0.take 9))) (hL3 : Lies w w.heap.size A3 (bools (b0.take 9))) (hL4 : Lies w w.heap.size A4 (strs (s0.take 5)))
   (hl : ∀ v ∈ l0.take 9, v < 18446744073709551616) (hn : ∀ v ∈ n0.take 9, v ≤ 9223372036854775807) :
    Calls Try.prog 6 #[.slice A1 l0.length c1, .slice A2 n0.length c2, .slice A3 b0.length c3, .slice A4 s0.length c4] w fun e w' => e = .returned (.bool true) ∧ Below w.heap.size w w' := by
  obtain ⟨is, hse, hsz0, hsz1, hsz2⟩ := info_parts info_str
  have HH := Lib.hid (And.intro hL1 (And.intro hL2 (And.intro hL3 hL4)))
  clear hL1 hL2 hL3 hL4
  have Hl := Lib.hid hl; clear hl
  have Hn := Lib.hid hn; clear hn
  go_enter Try.func6, Try.ntmps6
  go_wp2_with fail
  go_quiet (fail)
  rw [take9 l0, take9 n0, take9 b0, take5 s0]
  simp only [Int.toNat_natCast]
  have h9l : (l0.take 9).length ≤ 9 := List.length_take_le _ _
  have h9n : (n0.take 9).length ≤ 9 := List.length_take_le _ _
  have h9b : (b0.take 9).length ≤ 9 := List.length_take_le _ _
  have h5s : (s0.take 5).length ≤ 5 := List.length_take_le _ _
  generalize l0.take 9 = l at *
  generalize n0.take 9 = n at *
  generalize b0.take 9 = b at *
  generalize s0.take 5 = s at *
  go_wp2_with fail
  generalize hG : w.heap.size = G at *
  have HG := Lib.hid hG; clear hG
  have h0 := Here.start w nq G HG.out [(A1, u64s l), (A2, ints n), (A3, bools b), (A4, strs s)] (by
    obtain ⟨g1, g2, g3, g4⟩ := HH.out
    intro p hp
    simp at hp
    rcases hp with rfl | rfl | rfl | rfl
    · exact g1
    · exact g2
    · exact g3
    · exact g4)
  generalize ((w.drewN nq).alloc (.cells #[.pointer none, .int .i64 0] 26)).alloc (.cells #[.pointer none, .int .i64 0] 26) = W0 at *
  clear HH
  refine (encU_any G [] l Hl.out A1 c1 W0 h0.a (h0.lies (by simp)) (by simp; omega)).mono ?_
  rintro x W1 ⟨rfl, hi, hg⟩
  have h1 := h0.onA hg hi
  clear hg hi h0
  have hul := unums_len l Hl.out
  go_wp2_with fail
  refine (encI_any G _ n Hn.out A2 c2 W1 h1.a (h1.lies (by simp)) (by simp; omega)).mono ?_
  rintro x W2 ⟨rfl, hi, hg⟩
  have h2 := h1.onA hg hi
  clear hg hi h1
  have hnl := nums_len n Hn.out
  go_wp2_with fail
  refine (encB_any G _ b A3 c3 W2 h2.a (h2.lies (by simp)) (by simp; omega)).mono ?_
  rintro x W3 ⟨rfl, hi, hg⟩
  have h3 := h2.onA hg hi
  clear hg hi h2
  have hfl : (flags b).length = b.length := by simp [flags]
  have HF := Lib.hid hfl; clear hfl
  go_wp2
  have hB : W3.heap.size ≤ (W3.alloc (.cells #[] 9)).heap.size := by simp
  have hown0 := texts_new (W := W3) (strs ((s.take 0).map (cutTo · 30))) rfl 0 rfl
  have h4 := h3.alloc (.cells #[] 9)
  have hge : G + 2 ≤ W3.heap.size := by have := h3.2.1; have := h3.2.2.1; omega
  generalize W3.heap.size = B0 at *
  generalize W3.alloc (.cells #[] 9) = W4 at *
  have HO := Lib.hid hown0; clear hown0
  have H4 := Lib.hid h4; clear h4 h3
  go_loopw [11, 51] (fun v i wr => ∃ k : Nat, k ≤ s.length ∧ i = .int .i64 (k : Int) ∧ Hid (wr.ownsRow B0 9 1 v ((s.take k).map (cutTo · 30)).length (strs ((s.take k).map (cutTo · 30)))) ∧ Hid (Here w wr G (G + 2) [(A1, u64s l), (A2, ints n), (A3, bools b), (A4, strs s)] ([] ++ unums l ++ nums n ++ flags b) []) ∧ B0 ≤ wr.heap.size)
    (fun _ i _ => s.length - (intOf i).toNat)
  case atStart => exact ⟨0, by omega, rfl, HO, H4, hB⟩
  case round =>
    obtain ⟨k, hk, rfl, HOw, HHr, hBr⟩ := hrel
    by_cases hlt : k < s.length
    · obtain ⟨ad, rfl, hadB, hc⟩ := (HHr.out.lies (A := A4) (xs := strs s) (by simp)).round (k := k) (by simpa [strs] using hlt)
      have hval : ((strs s)[k]'(by simpa [strs] using hlt)) = .string s[k] := by simp [strs]
      rw [hval] at hc
      clear hval
      have HT := Lib.hid (cuts_take hlt)
      generalize s[k] = x at *
      have hC := cut_any x 30 wr
      have hkl : ((s.take k).map (cutTo · 30)).length ≤ 5 := by rw [List.length_map, List.length_take]; omega
      generalize (s.take k).map (cutTo · 30) = tk0 at *
      go_wp2_with fail
      refine hC.mono ?_
      rintro y w' ⟨rfl, rfl⟩
      clear hC hc
      go_wp2_with (at_builtin; refine wpList_append_own _ rfl _ _ 54 rfl B0 9 is (.string ⟨#[]⟩) 1 16 Try.underlying54 hse hsz0 hsz1 hsz2 rfl (by decide) _ _ _ rfl (HOw.out.alloc _) ⟨wr.heap.size, 0, none⟩ 1 1 [.string (cutTo x 30)] rfl rfl ?c1 ?c2 ?c3 ?c4 ?c5 ?_)
      case c1 => exact cell_one_new _ _ _
      case c2 => intro u hu; simp at hu; subst hu; rfl
      case c3 => unfold maxLen; omega
      case c4 => omega
      case c5 => simp; omega
      intro v' w1 hown' hgrow _
      have R1 : Hid (w1.ownsRow B0 9 1 v' ((s.take (k + 1)).map (cutTo · 30)).length (strs ((s.take (k + 1)).map (cutTo · 30)))) := Lib.hid (by
        rw [HT.out, List.length_append]
        unfold strs at hown' ⊢
        rw [List.map_append]
        exact hown')
      have R2 := Lib.hid ((HHr.out.alloc (.cells #[.string (cutTo x 30)] 9)).onRow (HOw.out.alloc _) (by decide) hge hgrow)
      have R3 : B0 ≤ w1.heap.size := by have := hgrow.size; simp at this; omega
      clear hown' hgrow HHr HOw
      go_wp2
      go_roundw
      case rel => exact ⟨k + 1, by omega, by go_num, R1, R2, R3⟩
      case measure => simp [intOf]; omega
    · obtain rfl : k = s.length := by omega
      rw [List.take_length] at HOw
      clear HO H4 hB
      have hts : ∀ x ∈ s.map (cutTo · 30), x.size ≤ 30 := fun x hx => by
        obtain ⟨z, _, rfl⟩ := List.mem_map.1 hx
        exact cutTo_le z 30
      have htn : (s.map (cutTo · 30)).length ≤ 5 := by simpa using h5s
      have htl := texts_len 30 _ hts (by omega)
      generalize s.map (cutTo · 30) = ts at *
      obtain ⟨A5, c5, rfl, hL5, hA5⟩ := own_slice HOw.out
      have h5 := Lib.hid (HHr.out.with hL5 (fun ad e => by have := hA5 ad e; omega))
      have HTS := Lib.hid hts
      clear HHr HOw hL5 hA5 hts
      go_wp2_with fail
      refine (encS_any G _ ts A5 c5 _ h5.out.a (h5.out.lies (by simp)) (by simp [HF.out]; omega)).mono ?_
      rintro x W5 ⟨rfl, hi, hg⟩
      have h6 := Lib.hid (h5.out.onA hg hi)
      clear hg hi h5
      have hM : (A1, u64s l) ∈ (A5, strs ts) :: [(A1, u64s l), (A2, ints n), (A3, bools b), (A4, strs s)] ∧ (A2, ints n) ∈ (A5, strs ts) :: [(A1, u64s l), (A2, ints n), (A3, bools b), (A4, strs s)] ∧ (A3, bools b) ∈ (A5, strs ts) :: [(A1, u64s l), (A2, ints n), (A3, bools b), (A4, strs s)] ∧ (A5, strs ts) ∈ (A5, strs ts) :: [(A1, u64s l), (A2, ints n), (A3, bools b), (A4, strs s)] := by simp
      generalize (A5, strs ts) :: [(A1, u64s l), (A2, ints n), (A3, bools b), (A4, strs s)] = Ls at *
      obtain ⟨m1, m2, m3, m5⟩ := hM
      have M1 := Lib.hid m1
      have M2 := Lib.hid m2
      have M3 := Lib.hid m3
      have M5 := Lib.hid m5
      clear m1 m2 m3 m5
      obtain ⟨xa, hxa⟩ : ∃ xa, [] ++ unums l ++ nums n ++ flags b ++ texts ts = xa := ⟨_, rfl⟩
      have hxl : xa.length ≤ 1000 := by rw [← hxa]; simp [HF.out]; omega
      rw [hxa] at h6
      have HXA := Lib.hid hxa; clear hxa
      generalize wr.heap.size = Bh at *
      go_wp2
      go_loopw [65] (fun i wr => ∃ k : Nat, k ≤ l.length ∧ i = .int .i64 (k : Int) ∧ Hid (Here w wr G Bh Ls xa ([] ++ unums (l.take k))))
        (fun i _ => l.length - (intOf i).toNat)
      case atStart => exact ⟨0, by omega, rfl, by simpa [unums] using h6⟩
      case round =>
        obtain ⟨k, hk, rfl, HHr⟩ := hrel
        by_cases hlt : k < l.length
        · obtain ⟨ad, rfl, hadB, hc⟩ := (HHr.out.lies M1.out).round (k := k) (by simpa [u64s] using hlt)
          have hval : ((u64s l)[k]'(by simpa [u64s] using hlt)) = .int .u64 l[k] := by simp [u64s]
          rw [hval] at hc
          clear hval
          have hsl : ([] ++ unums (l.take k)).length ≤ 1000 := by have := unums_len (l.take k) (fun v hv => Hl.out v (List.mem_of_mem_take hv)); rw [List.length_take] at this; simp; omega
          have hxx := Hl.out _ (List.getElem_mem hlt)
          have HT := Lib.hid (unums_take hlt)
          generalize l[k] = x at *
          go_wp2_with fail
          refine (encU_any (G + 1) _ [x] (by simpa using hxx) _ _ _ (HHr.out.alloc _).b (Lies.new wr 23 #[.int .u64 x] _ _ rfl rfl) (by simp at hsl ⊢; omega)).mono ?_
          rintro y w1 ⟨rfl, hi, hg⟩
          have e1 : [] ++ unums (l.take k) ++ unums [x] = [] ++ unums (l.take (k + 1)) := by
            rw [HT.out, List.append_assoc]
            simp [unums]
          rw [e1] at hi
          have R := Lib.hid ((HHr.out.alloc (.cells #[.int .u64 x] 23)).onB hg hi)
          clear hi hg e1 HHr hc
          go_wp2
          go_roundw
          case rel => exact ⟨k + 1, by omega, by go_num, R⟩
          case measure => simp [intOf]; omega
        · obtain rfl : k = l.length := by omega
          rw [List.take_length] at HHr
          clear h6
          go_wp2
          have h7 := HHr; clear HHr
          go_loopw [75] (fun i wr => ∃ k : Nat, k ≤ n.length ∧ i = .int .i64 (k : Int) ∧ Hid (Here w wr G Bh Ls xa ([] ++ unums l ++ nums (n.take k))))
            (fun i _ => n.length - (intOf i).toNat)
          case atStart => exact ⟨0, by omega, rfl, by simpa [nums] using h7⟩
          case round =>
            obtain ⟨k, hk, rfl, HHr⟩ := hrel
            by_cases hlt : k < n.length
            · obtain ⟨ad, rfl, hadB, hc⟩ := (HHr.out.lies M2.out).round (k := k) (by simpa [ints] using hlt)
              have hval : ((ints n)[k]'(by simpa [ints] using hlt)) = .int .i64 n[k] := by simp [ints]
              rw [hval] at hc
              clear hval
              have hsl : ([] ++ unums l ++ nums (n.take k)).length ≤ 1000 := by have := nums_len (n.take k) (fun v hv => Hn.out v (List.mem_of_mem_take hv)); rw [List.length_take] at this; simp; omega
              have hxx := Hn.out _ (List.getElem_mem hlt)
              have HT := Lib.hid (nums_take hlt)
              generalize n[k] = x at *
              go_wp2_with fail
              refine (encI_any (G + 1) _ [x] (by simpa using hxx) _ _ _ (HHr.out.alloc _).b (Lies.new wr 3 #[.int .i64 x] _ _ rfl rfl) (by simp at hsl ⊢; omega)).mono ?_
              rintro y w1 ⟨rfl, hi, hg⟩
              have e1 : [] ++ unums l ++ nums (n.take k) ++ nums [x] = [] ++ unums l ++ nums (n.take (k + 1)) := by
                rw [HT.out, List.append_assoc]
                simp [nums]
              rw [e1] at hi
              have R := Lib.hid ((HHr.out.alloc (.cells #[.int .i64 x] 3)).onB hg hi)
              clear hi hg e1 HHr hc
              go_wp2
              go_roundw
              case rel => exact ⟨k + 1, by omega, by go_num, R⟩
              case measure => simp [intOf]; omega
            · obtain rfl : k = n.length := by omega
              rw [List.take_length] at HHr
              clear h7
              go_wp2
              have h8 := HHr; clear HHr
              go_loopw [85] (fun i wr => ∃ k : Nat, k ≤ b.length ∧ i = .int .i64 (k : Int) ∧ Hid (Here w wr G Bh Ls xa ([] ++ unums l ++ nums n ++ flags (b.take k))))
                (fun i _ => b.length - (intOf i).toNat)
              case atStart => exact ⟨0, by omega, rfl, by simpa [flags] using h8⟩
              case round =>
                obtain ⟨k, hk, rfl, HHr⟩ := hrel
                by_cases hlt : k < b.length
                · obtain ⟨ad, rfl, hadB, hc⟩ := (HHr.out.lies M3.out).round (k := k) (by simpa [bools] using hlt)
                  have hval : ((bools b)[k]'(by simpa [bools] using hlt)) = .bool b[k] := by simp [bools]
                  rw [hval] at hc
                  clear hval
                  have hsl : ([] ++ unums l ++ nums n ++ flags (b.take k)).length ≤ 1000 := by simp [flags]; omega
                  have HT := Lib.hid (flags_take hlt)
                  generalize b[k] = x at *
                  go_wp2_with fail
                  refine (encB_any (G + 1) _ [x] _ _ _ (HHr.out.alloc _).b (Lies.new wr 4 #[.bool x] _ _ rfl rfl) (by simp at hsl ⊢; omega)).mono ?_
                  rintro y w1 ⟨rfl, hi, hg⟩
                  have e1 : [] ++ unums l ++ nums n ++ flags (b.take k) ++ flags [x] = [] ++ unums l ++ nums n ++ flags (b.take (k + 1)) := by
                    rw [HT.out, List.append_assoc]
                    simp [flags]
                  rw [e1] at hi
                  have R := Lib.hid ((HHr.out.alloc (.cells #[.bool x] 4)).onB hg hi)
                  clear hi hg e1 HHr hc
                  go_wp2
                  go_roundw
                  case rel => exact ⟨k + 1, by omega, by go_num, R⟩
                  case measure => simp [intOf]; omega
                · obtain rfl : k = b.length := by omega
                  rw [List.take_length] at HHr
                  clear h8
                  go_wp2
                  have h9 := HHr; clear HHr
                  go_loopw [95] (fun i wr => ∃ k : Nat, k ≤ ts.length ∧ i = .int .i64 (k : Int) ∧ Hid (Here w wr G Bh Ls xa ([] ++ unums l ++ nums n ++ flags b ++ texts (ts.take k))))
                    (fun i _ => ts.length - (intOf i).toNat)
                  case atStart => exact ⟨0, by omega, rfl, by simpa [texts] using h9⟩
                  case round =>
                    obtain ⟨k, hk, rfl, HHr⟩ := hrel
                    by_cases hlt : k < ts.length
                    · obtain ⟨ad, rfl, hadB, hc⟩ := (HHr.out.lies M5.out).round (k := k) (by simpa [strs] using hlt)
                      have hval : ((strs ts)[k]'(by simpa [strs] using hlt)) = .string ts[k] := by simp [strs]
                      rw [hval] at hc
                      clear hval
                      have hsl : ([] ++ unums l ++ nums n ++ flags b ++ texts (ts.take k)).length ≤ 1000 := by have := texts_take_len ts k; simp [HF.out]; omega
                      have hxx := HTS.out _ (List.getElem_mem hlt)
                      have HT := Lib.hid (texts_take hlt)
                      generalize ts[k] = x at *
                      go_wp2_with fail
                      refine (encS_any (G + 1) _ [x] _ _ _ (HHr.out.alloc _).b (Lies.new wr 9 #[.string x] _ _ rfl rfl) (by have := texts_len 30 [x] (by simpa using hxx) (by omega); simp at hsl this ⊢; omega)).mono ?_
                      rintro y w1 ⟨rfl, hi, hg⟩
                      have e1 : [] ++ unums l ++ nums n ++ flags b ++ texts (ts.take k) ++ texts [x] = [] ++ unums l ++ nums n ++ flags b ++ texts (ts.take (k + 1)) := by
                        rw [HT.out, List.append_assoc]
                        simp [texts]
                      rw [e1] at hi
                      have R := Lib.hid ((HHr.out.alloc (.cells #[.string x] 9)).onB hg hi)
                      clear hi hg e1 HHr hc
                      go_wp2
                      go_roundw
                      case rel => exact ⟨k + 1, by omega, by go_num, R⟩
                      case measure => simp [intOf]; omega
                    · obtain rfl : k = ts.length := by omega
                      rw [List.take_length] at HHr
                      clear h9
                      rw [HXA.out] at HHr
                      go_wp2_with fail
                      refine (awake_any wr).mono ?_
                      rintro y W9 ⟨rfl, hb9⟩
                      have h10 := HHr.out.below hb9
                      clear hb9 HHr
                      go_wp2_with fail
                      refine (bytes_any G _ W9 h10.a (by omega)).mono ?_
                      rintro y W10 ⟨rfl, hb10⟩
                      have h11 := h10.below hb10
                      clear hb10 h10
                      go_wp2_with fail
                      refine (bytes_any (G + 1) _ W10 h11.b (by omega)).mono ?_
                      rintro y W11 ⟨rfl, hb11⟩
                      have h12 := h11.below hb11
                      clear hb11 h11
                      go_wp2
                      go_ret
                      exact ⟨rfl, by rw [HG.out]; exact h12.1⟩

set_option maxRecDepth 100000 in
theorem lifted (os : Os) (started : os.Started) (H : Type) (enc : TypeId × Value → H) :
    ReturnsInHanded {} Try.checked os 6 .any (Rows.wireManySpec.pre6 enc Try.prog Try.f6 Rows.wireManyRow.domain false) (Rows.wireManySpec.post enc Try.prog Try.f6 false true false false) := by
  refine returnsInHanded_of_change (C := Try.checked) own started (by kernel_rfl) Try.func6
    (ChangeSpec.witness6 (enc := enc) (C := Try.checked) false ⟨#[], #[.slice none 0 0, .slice none 0 0, .slice none 0 0, .slice none 0 0], []⟩ 8 (by kernel_rfl) (by kernel_rfl) (by kernel_rfl) (by kernel_rfl)) ?_
  intro W base args ds gs before hval0 hW hcnd _
  have hval : ∀ (j : Nat) t v, Try.f6.params[j]? = some t → args[j]? = some v → Value.okWide Try.prog W .any base t v := hval0
  have hW' := hW
  obtain ⟨p, q, hA0, hV, rfl, hfz, hnd⟩ := hW
  have hA : DataW.TrodAll enc Try.prog W 0 (fun _ => true) true Try.f6.params.toList args.toList ds p := hA0
  rw [Try.params6] at hA hval
  obtain ⟨v0, vs0, d0, ds0, p0, q0, hargs, rfl, rfl, h0, r0⟩ := trodAll_cons hA
  obtain ⟨v1, vs1, d1, ds1, p1, q1, rfl, rfl, rfl, h1, r1⟩ := trodAll_cons r0
  obtain ⟨v2, vs2, d2, ds2, p2, q2, rfl, rfl, rfl, h2, r2⟩ := trodAll_cons r1
  obtain ⟨v3, vs3, d3, ds3, p3, q3, rfl, rfl, rfl, h3, r3⟩ := trodAll_cons r2
  obtain ⟨rfl, rfl, rfl⟩ := trodAll_nil r3
  obtain rfl : args = #[v0, v1, v2, v3] := by cases args; simp_all
  obtain ⟨rfl, rfl⟩ := trodVars_none hV
  obtain ⟨A1, c1, l, rfl, hc1, hL1, hl⟩ := open_nats Try.underlying52 Try.underlying23 (by kernel_rfl) (hval 0 52 v0 rfl rfl) h0
  obtain ⟨A2, c2, n, rfl, hc2, hL2, hn⟩ := open_list_ints Try.underlying29 Try.underlying3 (by kernel_rfl) (hval 1 29 v1 rfl rfl) h1
  obtain ⟨A3, c3, b, rfl, hc3, hL3⟩ := open_bools Try.underlying53 Try.underlying4 (by kernel_rfl) (hval 2 53 v2 rfl rfl) h2
  obtain ⟨A4, c4, s, rfl, hc4, hL4⟩ := open_texts Try.underlying54 Try.underlying9 (by kernel_rfl) (hval 3 54 v3 rfl rfl) h3
  refine (walk A1 A2 A3 A4 c1 c2 c3 c4 l n b s W hc1 hc2 hc3 hc4 ?_ ?_ ?_ ?_ (fun v hv => hl v (List.mem_of_mem_take hv)) (fun v hv => (hn v (List.mem_of_mem_take hv)).2)).mono fun e W' ⟨he, hg⟩ => ?_
  · unfold u64s; rw [List.map_take]; exact hL1.take 9
  · unfold ints; rw [List.map_take]; exact hL2.take 9
  · unfold bools; rw [List.map_take]; exact hL3.take 9
  · unfold strs; rw [List.map_take]; exact hL4.take 5
  · subst he
    exact ⟨_, rfl, law_post (tb := 4) hW' rfl (by kernel_rfl) Try.underlying4 (by rw [Try.params6]; decide +kernel) rfl hg⟩

theorem proved : Rows.WireManySaid :=
  OpenClaim.holds_of_wide 6 Try.f6 rfl rfl rfl rfl rfl rfl rfl ⟨rfl, rfl, rfl, rfl, rfl⟩ rfl rfl rfl rfl rfl (by kernel_rfl) Try.func6 (by kernel_rfl)
    (of_decide_eq_true (by kernel_rfl)) (by unfold Func.isWrapper; first | (rw [if_pos (by decide +kernel)]; kernel_rfl) | (rw [if_neg (by decide +kernel)]; exact ⟨rfl, rfl⟩))
    (fun os started H enc _ => lifted os started H enc)
#print axioms proved
end Go.Proofs.Ytfapnblajcfjfaa.wireMany
