/- Two Encs beside what is read, through calls on either; the things of layer 1's laws, where they lie. -/
import Derived.Test.YtfapnblajcfjfaaPu
namespace Go.Proofs.Ytfapnblajcfjfaa
open Go.RowKit
open Wm (num)

theorem texts_len (n : Nat) : ∀ (l : List ByteArray), (∀ x ∈ l, x.size ≤ n) → n ≤ 1000 → (texts l).length ≤ (n + 10) * l.length := by
  intro l
  induction l with
  | nil => intro _ _; simp [texts]
  | cons a l ih =>
    intro h hn
    have h1 := ih (fun x hx => h x (by simp [hx])) hn
    have h2 := h a (by simp)
    have h3 := Wm.num_len a.size (by omega)
    unfold texts at h1 ⊢
    rw [List.flatMap_cons, List.length_append, List.length_cons, Nat.mul_add]
    unfold text
    rw [List.length_append, size_list]
    unfold text at h1
    omega

theorem Lies.far {w w' : World} {B g : Nat} {A : Option Addr} {xs : List Value} (h : Lies w B A xs) (hb : w.grownBy w' (some g)) (hB : B ≤ w.heap.size) (hg : ∀ ad, A = some ad → xs ≠ [] → ad.block ≠ g) : Lies w' B A xs := fun j u hj => by
  obtain ⟨ad, rfl, hl, hc⟩ := h j u hj
  exact ⟨ad, rfl, hl, (World.cell?_of_block (hb.block (ad.add j).block (by rw [add_block]; omega) (by rw [add_block]; simpa using hg ad rfl (by intro e; subst e; simp at hj)))).trans hc⟩

/-- blocks G and G + 1 are two Encs; what is read lies elsewhere, below B; nothing below G has turned since w -/
def Here (w W : World) (G B : Nat) (Ls : List (Option Addr × List Value)) (x y : List UInt8) : Prop :=
  Below G w W ∧ G + 2 ≤ B ∧ B ≤ W.heap.size ∧ EncIs W G x ∧ EncIs W (G + 1) y ∧ ∀ p ∈ Ls, Lies W B p.1 p.2 ∧ ∀ ad, p.1 = some ad → p.2 ≠ [] → ad.block ≠ G ∧ ad.block ≠ G + 1

section
variable {w W W' : World} {G B : Nat} {Ls : List (Option Addr × List Value)} {x y z : List UInt8}
theorem Here.onA (h : Here w W G B Ls x y) (hg : W.grownBy W' (some G)) (hi : EncIs W' G z) : Here w W' G B Ls z y := by
  obtain ⟨h1, h2, h3, h4, h5, h6⟩ := h
  obtain ⟨cs, hcs⟩ := h4.at_
  exact ⟨below_of_grownBy h1 hg (by omega) (Nat.le_refl _), h2, Nat.le_trans h3 hg.size, hi, h5.grown hcs (by decide) (by omega) hg, fun p hp => ⟨Lies.far (h6 p hp).1 hg h3 (fun ad e e' => ((h6 p hp).2 ad e e').1), (h6 p hp).2⟩⟩
theorem Here.onB (h : Here w W G B Ls x y) (hg : W.grownBy W' (some (G + 1))) (hi : EncIs W' (G + 1) z) : Here w W' G B Ls x z := by
  obtain ⟨h1, h2, h3, h4, h5, h6⟩ := h
  obtain ⟨cs, hcs⟩ := h5.at_
  exact ⟨below_of_grownBy h1 hg (by omega) (by omega), h2, Nat.le_trans h3 hg.size, h4.grown hcs (by decide) (by omega) hg, hi, fun p hp => ⟨Lies.far (h6 p hp).1 hg h3 (fun ad e e' => ((h6 p hp).2 ad e e').2), (h6 p hp).2⟩⟩
theorem Here.below (h : Here w W G B Ls x y) (hb : Below W.heap.size W W') : Here w W' G B Ls x y := by
  obtain ⟨h1, h2, h3, h4, h5, h6⟩ := h
  exact ⟨h1.trans (hb.mono (by omega)), h2, Nat.le_trans h3 hb.size, h4.below hb rfl, h5.below hb rfl, fun p hp => ⟨(h6 p hp).1.below (hb.mono h3), (h6 p hp).2⟩⟩
theorem Here.alloc (h : Here w W G B Ls x y) (o : Obj) : Here w (W.alloc o) G B Ls x y := h.below ((Below.refl _ _).alloc (Nat.le_refl _) o)
theorem Here.onRow {B' n : Nat} {e : TypeId} {v : Value} {xs : List Value} (h : Here w W G B Ls x y) (hown : W.ownsRow B' e 1 v n xs) (he : e ≠ 64) (hB : B ≤ B') (hg : W.grownBy W' v.ownBlock) : Here w W' G B Ls x y := by
  rcases hown.2 with ⟨rfl, _⟩ | ⟨g, cap, cur, rfl, hb, hat, _⟩
  · exact h.below ⟨hg.os, hg.tape, hg.output, hg.size, fun k hk => hg.block k hk (by simp [Value.ownBlock])⟩
  · have hg' : W.grownBy W' (some g) := hg
    have hA : At W g e cur := hat
    obtain ⟨h1, h2, h3, h4, h5, h6⟩ := h
    exact ⟨below_of_grownBy h1 hg' (by omega) (by omega), h2, Nat.le_trans h3 hg.size, h4.grown hA he (by omega) hg', h5.grown hA he (by omega) hg', fun p hp => ⟨fun j u hj => by
      obtain ⟨ad, e1, e2, e3⟩ := (h6 p hp).1 j u hj
      exact ⟨ad, e1, e2, (World.cell?_of_block (hg'.block (ad.add j).block (by rw [add_block]; omega) (by rw [add_block]; simp; omega))).trans e3⟩, (h6 p hp).2⟩⟩
theorem Here.lies (h : Here w W G B Ls x y) {A : Option Addr} {xs : List Value} (hp : (A, xs) ∈ Ls) : Lies W W.heap.size A xs := (h.2.2.2.2.2 _ hp).1.more h.2.2.1
theorem Here.a (h : Here w W G B Ls x y) : EncIs W G x := h.2.2.2.1
theorem Here.b (h : Here w W G B Ls x y) : EncIs W (G + 1) y := h.2.2.2.2.1
theorem Here.with (h : Here w W G B Ls x y) {A : Option Addr} {xs : List Value} (hL : Lies W W.heap.size A xs) (hA : ∀ ad, A = some ad → G + 2 ≤ ad.block) : Here w W G W.heap.size ((A, xs) :: Ls) x y := by
  obtain ⟨h1, h2, h3, h4, h5, h6⟩ := h
  refine ⟨h1, by omega, Nat.le_refl _, h4, h5, fun p hp => ?_⟩
  rcases List.mem_cons.1 hp with rfl | hp
  · exact ⟨hL, fun ad e _ => by have := hA ad e; omega⟩
  · exact ⟨(h6 p hp).1.more h3, (h6 p hp).2⟩
theorem Here.start (w : World) (n : Nat) (G : Nat) (hG : w.heap.size = G) (Ls : List (Option Addr × List Value)) (hL : ∀ p ∈ Ls, Lies w G p.1 p.2) :
    Here w (((w.drewN n).alloc (.cells #[.pointer none, .int .i64 0] 26)).alloc (.cells #[.pointer none, .int .i64 0] 26)) G (G + 2) Ls [] [] := by
  subst hG
  have hb : Below w.heap.size w (((w.drewN n).alloc (.cells #[.pointer none, .int .i64 0] 26)).alloc (.cells #[.pointer none, .int .i64 0] 26)) :=
    ((below_drewN (Below.refl _ _) n).alloc (Nat.le_refl _) _).alloc (by simp) _
  have e1 := EncIs.new (w.drewN n)
  have e2 := EncIs.new ((w.drewN n).alloc (.cells #[.pointer none, .int .i64 0] 26))
  have hz : ((w.drewN n).alloc (.cells #[.pointer none, .int .i64 0] 26)).heap.size = w.heap.size + 1 := by simp
  rw [hz] at e2
  exact ⟨hb, Nat.le_refl _, by simp, e1.alloc _, e2, fun p hp => ⟨Lies.more (Lies.below (hL p hp) hb) (by omega), fun ad e hne => by
    obtain ⟨u, r, hu⟩ := List.exists_cons_of_ne_nil hne
    obtain ⟨ad', e', hlt, _⟩ := hL p hp 0 u (by rw [hu]; rfl)
    rw [e] at e'
    simp at e'
    subst e'
    omega⟩⟩
end


/-- the things of a slice, where they lie -/
def Things (w : World) (B : Nat) (A : Option Addr) (l : List Th) : Prop :=
  ∀ i (h : i < l.length), ∃ ad, A = some ad ∧ ad.block < B ∧ (∀ j u, (l[i].cells)[j]? = some u → w.cell? (ad.add (i * 7 + j)) = some u) ∧ l[i].ok w B
theorem addr_at (ad : Addr) (m j : Nat) : ad.add (m + (j + 1)) = ⟨(ad.add m).block, (ad.add m).off + (j + 1), none⟩ := by
  unfold Addr.add
  by_cases hm : m = 0
  · subst hm; simp
  · simp [hm, Nat.add_assoc]
theorem Things.below {w w' : World} {B : Nat} {A : Option Addr} {l : List Th} (h : Things w B A l) (hb : Below B w w') : Things w' B A l := fun i hi => by
  obtain ⟨ad, e, hlt, hc, hok⟩ := h i hi
  exact ⟨ad, e, hlt, fun j u hj => (hb.cell (p := ad.add (i * 7 + j)) (by rw [add_block]; exact hlt)).trans (hc j u hj), hok.keep fun A xs hL => hL.below hb⟩
/-- the bytes of things, one behind the other -/
def things (l : List Th) : List UInt8 := l.flatMap Th.bytes
theorem things_take {l : List Th} {k : Nat} (h : k < l.length) : things (l.take (k + 1)) = things (l.take k) ++ (l[k]).bytes := by
  unfold things
  rw [List.take_succ_eq_append_getElem h, List.flatMap_append]
  simp
theorem Th.bytes_len (t : Th) (w : World) (B : Nat) (h : t.ok w B) : t.bytes.length ≤ 220 := by
  obtain ⟨hN, hU, hL, _, _⟩ := h
  unfold Th.bytes
  have h1 := Wm.num_len t.U (by omega)
  have h2 := Wm.num_len t.N.toNat (by omega)
  have h3 := cutTo_le t.S 200
  have h4 := Wm.num_len (cutTo t.S 200).size (by omega)
  have h5 := nums_len _ hL
  have h6 : (t.L.take 20).length ≤ 20 := List.length_take_le _ _
  have h7 := Wm.num_len (t.L.take 20).length (by omega)
  repeat' split
  · omega
  · omega
  · simp
  · unfold text; rw [List.length_append, size_list]; omega
  · rw [List.length_append]; omega
  · simp
theorem things_len (w : World) (B : Nat) : ∀ (l : List Th), (∀ t ∈ l, t.ok w B) → (things l).length ≤ 220 * l.length := by
  intro l
  induction l with
  | nil => intro _; simp [things]
  | cons a l ih =>
    intro h
    have h1 := ih (fun x hx => h x (by simp [hx]))
    have h2 := a.bytes_len w B (h a (by simp))
    unfold things at h1 ⊢
    rw [List.flatMap_cons, List.length_append, List.length_cons]
    omega
end Go.Proofs.Ytfapnblajcfjfaa
