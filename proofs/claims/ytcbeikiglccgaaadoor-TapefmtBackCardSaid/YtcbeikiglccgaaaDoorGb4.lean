/- Obs, Bkw: merged (a claim holds few files). -/
import Derived.Test.YtcbeikiglccgaaaDoorOb
import Derived.Test.YtcbeikiglccgaaaDoorGb2
import Derived.Test.YtcbeikiglccgaaaDoorGb3
/- A []Blob that came in, opened. -/
namespace Go.Proofs.YtcbeikiglccgaaaDoor
open Go.ChangeShapes Go.WideShapes Go.ChangeAt Go.RowKit
set_option linter.unusedVariables false
set_option linter.unusedSimpArgs false

/-- a blob -/
structure Bl where
  id : Nat
  s : ByteArray
  n : Int
def Bl.cells (t : Bl) : List Value := [.int .u64 (t.id : Int), .string t.s, .int .i64 t.n]
/-- the blobs of a slice, where they lie -/
def BlobsAt (w : World) (B : Nat) (A : Option Addr) (l : List Bl) : Prop :=
  ∀ i (h : i < l.length), ∃ ad, A = some ad ∧ ad.block < B ∧ (∀ j u, (l[i].cells)[j]? = some u → w.cell? (ad.add (i * 3 + j)) = some u) ∧ l[i].id < 18446744073709551616
theorem BlobsAt.below {w w' : World} {B : Nat} {A : Option Addr} {l : List Bl} (h : BlobsAt w B A l) (hb : Below B w w') : BlobsAt w' B A l := fun i hi => by
  obtain ⟨ad, e, hlt, hc, hok⟩ := h i hi
  exact ⟨ad, e, hlt, fun j u hj => (hb.cell (p := ad.add (i * 3 + j)) (by rw [add_block]; exact hlt)).trans (hc j u hj), hok⟩
theorem addr_at3 (ad : Addr) (m j : Nat) : ad.add (m + (j + 1)) = ⟨(ad.add m).block, (ad.add m).off + (j + 1), none⟩ := by
  unfold Addr.add
  by_cases hm : m = 0
  · subst hm; simp
  · simp [hm, Nat.add_assoc]
theorem BlobsAt.get {w : World} {B : Nat} {A : Option Addr} {l : List Bl} (h : BlobsAt w B A l) {k : Nat} (hk : k < l.length) : ∃ ad, A = some ad ∧ (∀ w', Below B w w' → w'.cell? (ad.add (k * 3)) = some (.int .u64 (l[k].id : Int)) ∧ w'.cell? ⟨(ad.add (k * 3)).block, (ad.add (k * 3)).off + 1, none⟩ = some (.string l[k].s) ∧ w'.cell? ⟨(ad.add (k * 3)).block, (ad.add (k * 3)).off + 2, none⟩ = some (.int .i64 l[k].n)) ∧ l[k].id < 18446744073709551616 := by
  obtain ⟨ad, e, hlt, hc, hok⟩ := h k hk
  refine ⟨ad, e, fun w' hb => ?_, hok⟩
  have key : ∀ j u, (l[k].cells)[j]? = some u → w'.cell? (ad.add (k * 3 + j)) = some u := fun j u hj => (hb.cell (p := ad.add (k * 3 + j)) (by rw [add_block]; exact hlt)).trans (hc j u hj)
  have h0 := key 0 _ rfl
  have h1 := key 1 _ rfl
  have h2 := key 2 _ rfl
  rw [addr_at3] at h1 h2
  exact ⟨h0, h1, h2⟩

set_option maxRecDepth 100000 in
theorem blob_fields : ∃ fs : Array Field, Tryd.prog.underlying 33 = some (.struct fs) ∧ fs.size = 3 ∧ Go.Deep.oneCellFields Tryd.prog fs = true ∧ fs.toList.map (fun f : Field => f.type) = [31, 9, 3] := by
  refine ⟨_, Tryd.underlying33, ?_, ?_, ?_⟩ <;> kernel_rfl

set_option maxRecDepth 100000 in
theorem open_blobs {H : Type} {enc : TypeId × Value → H} {W : World} {base : Nat} {spare : Nat → Bool} {held : Bool} {v : Value} {d : DataW H} {p : List MemPlace} {r : Reach} {b0 : Nat}
    (hv : Value.okWide Tryd.prog W r b0 22 v) (h : DataW.Trod enc Tryd.prog W base spare held 22 v d p) :
    ∃ (A : Option Addr) (cap : Nat) (l : List Bl), v = .slice A l.length cap ∧ l.length ≤ cap ∧ BlobsAt W W.heap.size A l ∧ l.length ≤ 9223372036854775807 := by
  obtain ⟨fs, he, hsz, hone, hty⟩ := blob_fields
  obtain ⟨A, len, cap, rfl, hlc, hi⟩ := open_structs Tryd.underlying22 he hone (by rw [blob_cells, hsz]) (by omega) hv h
  have hmx : len ≤ 9223372036854775807 := slice_max (enc := enc) (d := d) (p := p) Tryd.underlying22 h
  rw [hsz] at hi
  have key : ∀ i, ∃ t : Bl, i < len → ∃ ad, A = some ad ∧ ad.block < W.heap.size ∧ (∀ j u, (t.cells)[j]? = some u → W.cell? (ad.add (i * 3 + j)) = some u) ∧ t.id < 18446744073709551616 := by
    intro i
    by_cases hil : i < len
    · obtain ⟨ad, cs, hA, hblk, hcl, hcell, hrd⟩ := hi i hil
      obtain ⟨c0, c1, c2, rfl⟩ : ∃ a b c, cs = [a, b, c] := by
        match cs, hcl with
        | [a, b, c], _ => exact ⟨a, b, c, rfl⟩
      have hf : ∀ j (hj : j < 3), ∃ f, fs[j]? = some f ∧ [31, 9, 3][j]? = some f.type := fun j hj => by
        have hj' : j < fs.size := by omega
        refine ⟨fs[j], Array.getElem?_eq_getElem hj', ?_⟩
        rw [← hty, List.getElem?_map]
        simp [hj']
      obtain ⟨f0, g0, e0⟩ := hf 0 (by omega)
      obtain ⟨f1, g1, e1⟩ := hf 1 (by omega)
      obtain ⟨f2, g2, e2⟩ := hf 2 (by omega)
      simp at e0 e1 e2
      obtain ⟨n0, x0, r0⟩ := hrd 0 f0 c0 g0 rfl
      obtain ⟨n1, x1, r1⟩ := hrd 1 f1 c1 g1 rfl
      obtain ⟨n2, x2, r2⟩ := hrd 2 f2 c2 g2 rfl
      rw [← e0] at r0
      rw [← e1] at r1
      rw [← e2] at r2
      obtain ⟨K, k0, _, w0⟩ := DataW.trod_int Tryd.underlying31 r0
      obtain ⟨SA, k1, _⟩ := DataW.trod_string Tryd.underlying9 r1
      obtain ⟨N, k2, _, w2⟩ := DataW.trod_int Tryd.underlying3 r2
      simp at k0 k1 k2
      subst k0 k1 k2
      have b0 := bounds_u64' w0
      obtain ⟨id, rfl⟩ := Int.eq_ofNat_of_zero_le b0.1
      exact ⟨⟨id, SA, N⟩, fun _ => ⟨ad, hA, hblk, fun j u hj => hcell j u hj, by show id < _; omega⟩⟩
    · exact ⟨⟨0, ⟨#[]⟩, 0⟩, fun h => absurd h hil⟩
  have hT := fun i => Classical.choose_spec (key i)
  refine ⟨A, cap, (List.range len).map (fun i => Classical.choose (key i)), by simp, by simpa using hlc, fun i hil => ?_, by simpa using hmx⟩
  have hil' : i < len := by simpa using hil
  simpa using hT i hil'
end Go.Proofs.YtcbeikiglccgaaaDoor

/- glacierlaw07.TapefmtBack: its walk. -/
namespace Go.Proofs.YtcbeikiglccgaaaDoor
open Go.RowKit
open Sm
set_option linter.unusedVariables false
set_option linter.unusedSimpArgs false

/-- a blob of the law's, as it is written -/
def Bl.data (b : Bl) : ByteArray := longOf b.s b.n
def blobsOf (l : List Bl) : List (Nat × List UInt8) := l.map fun b => (b.id, b.data.data.toList)
/-- where they lie -/
def places (l : List Bl) (k : Nat) : List Value := (List.range k).map fun i => .int .i64 ((tapeN (blobsOf (l.take i)) : Nat) : Int)
theorem places_more (l : List Bl) (k : Nat) : places l (k + 1) = places l k ++ [.int .i64 ((tapeN (blobsOf (l.take k)) : Nat) : Int)] := by unfold places; rw [List.range_succ, List.map_append]; rfl
theorem places_len (l : List Bl) (k : Nat) : (places l k).length = k := by unfold places; simp
theorem places_get (l : List Bl) {k i : Nat} (h : i < k) : (places l k)[i]? = some (.int .i64 ((tapeN (blobsOf (l.take i)) : Nat) : Int)) := by
  unfold places
  rw [List.getElem?_map, List.getElem?_range h]
  rfl
theorem blobsOf_take (l : List Bl) (k : Nat) : (blobsOf l).take k = blobsOf (l.take k) := by unfold blobsOf; rw [List.map_take]
theorem blobsOf_len (l : List Bl) : (blobsOf l).length = l.length := by unfold blobsOf; simp
theorem blobsOf_next {l : List Bl} {k : Nat} (h : k < l.length) : blobsOf (l.take (k + 1)) = blobsOf (l.take k) ++ [(l[k].id, l[k].data.data.toList)] := by
  rw [List.take_succ_eq_append_getElem h]
  unfold blobsOf
  rw [List.map_append]
  rfl
theorem data_len (b : Bl) : b.data.data.toList.length ≤ 600 := by
  have := longOf_size b.s b.n
  have e : b.data.data.toList.length = b.data.size := by simp
  unfold Bl.data at *
  omega
theorem row_empty (W : World) (e : TypeId) (z : Nat) : (W.alloc (.cells #[] e)).ownsRow W.heap.size e z (.slice (some ⟨W.heap.size, 0, none⟩) 0 0) 0 [] :=
  ⟨by simp, .inr ⟨_, 0, _, rfl, Nat.le_refl _, heap_alloc_new W _, Nat.le_refl _, by simp [maxLen], by simp, by simp⟩⟩
theorem row_form {W : World} {B n z : Nat} {e : TypeId} {v : Value} {xs : List Value} (h : W.ownsRow B e z v n xs) : ∃ A c, v = .slice A n c ∧ n ≤ c ∧ (0 < n → ∃ k, A = some ⟨k, 0, none⟩) := by
  rcases h.2 with ⟨rfl, rfl⟩ | ⟨k, cap, cur, rfl, _, _, hc, _⟩
  · exact ⟨none, 0, rfl, Nat.le_refl _, fun h => absurd h (Nat.lt_irrefl _)⟩
  · exact ⟨_, cap, rfl, hc, fun _ => ⟨k, rfl⟩⟩
theorem itCells_get : ∀ (l : List It) (i j : Nat) (x : It) (u : Value), l[i]? = some x → x.cells.toList[j]? = some u → (itCells l)[i * 3 + j]? = some u := by
  intro l
  induction l with
  | nil => intro i j x u h; simp at h
  | cons a r ih =>
    intro i j x u h hj
    have ha : a.cells.toList.length = 3 := rfl
    have e : itCells (a :: r) = a.cells.toList ++ itCells r := by unfold itCells; rw [List.flatMap_cons]
    cases i with
    | zero =>
      obtain rfl : a = x := by simpa using h
      have hj3 : j < 3 := by have := (List.getElem?_eq_some_iff.1 hj).1; omega
      rw [e, Nat.zero_mul, Nat.zero_add, List.getElem?_append_left (by omega)]
      exact hj
    | succ i =>
      have := ih i j x u (by simpa using h) hj
      rw [e, List.getElem?_append_right (by omega), ha, show (i + 1) * 3 + j - 3 = i * 3 + j by omega]
      exact this

theorem info_int' : (Tryd.prog.info? 3).map (fun i => (i.zero, i.size, i.bytes)) = some (some (.int .i64 0), 1, 8) := by kernel_rfl
theorem vol_grow {w w' : World} {B g : Nat} {s : VS} {B' n z : Nat} {e : TypeId} {v : Value} {xs : List Value} (h : Vol w B g s) (hr : w.ownsRow B' e z v n xs) (h1 : e ≠ 51) (h2 : e ≠ 107) (hg : w.grownBy w' v.ownBlock) : Vol w' B g s := by
  rcases hr.2 with ⟨rfl, _⟩ | ⟨k, cap, cur, rfl, hk, hat, _⟩
  · exact h.below ⟨hg.os, hg.tape, hg.output, hg.size, fun k hk => hg.block k hk (by simp [Value.ownBlock])⟩
  · exact Vol.other h hg hat (by rintro cs fz e; injection e with _ e _; exact h1 e) (by rintro cs fz e; injection e with _ e _; exact h2 e)
theorem below_grow {w w' : World} {B n z : Nat} {e : TypeId} {v : Value} {xs : List Value} (hr : w.ownsRow B e z v n xs) (hg : w.grownBy w' v.ownBlock) (hB : B ≤ w.heap.size) : Below B w w' :=
  ⟨hg.os, hg.tape, hg.output, hg.size, fun k hk => hg.block k (by omega) (fun e => by have := (hr.lt k e.symm).1; omega)⟩

/-- behind the first k writes -/
structure BK (w : World) (B g : Nat) (m : List Bl) (v : Value) (k : Nat) (wr : World) : Prop where
  row : wr.ownsRow B 3 1 v k (places m k)
  vol : ∃ s, Vol wr B g s ∧ s.Blobs ⟨#[65]⟩ (blobsOf (m.take k))
  below : Below B w wr
theorem BK.drew {w : World} {B g : Nat} {m : List Bl} {v : Value} {k : Nat} {wr : World} (h : BK w B g m v k wr) : BK w B g m v k wr.drew :=
  ⟨h.row.drew, h.vol.elim fun s h => ⟨s, h.1.below (Below.drew (Below.refl _ wr)), h.2⟩, Below.drew h.below⟩
/-- all are written, and Scan has been asked -/
structure BR (w : World) (B g : Nat) (m : List Bl) (N : Nat) (va vi : Value) (wr : World) : Prop where
  ra : wr.ownsRow B 3 1 va N (places m N)
  ri : wr.ownsRow B 42 3 vi N (itCells (itemsOf 0 (blobsOf (m.take N))))
  vol : ∃ s, Vol wr B g s ∧ s.Blobs ⟨#[65]⟩ (blobsOf (m.take N))
  below : Below B w wr
theorem BR.drew {w : World} {B g : Nat} {m : List Bl} {N : Nat} {va vi : Value} {wr : World} (h : BR w B g m N va vi wr) : BR w B g m N va vi wr.drew :=
  ⟨h.ra.drew, h.ri.drew, h.vol.elim fun s h => ⟨s, h.1.below (Below.drew (Below.refl _ wr)), h.2⟩, Below.drew h.below⟩
theorem BR.read {w : World} {B g : Nat} {m : List Bl} {N : Nat} {va vi : Value} {wr w' : World} {s : VS} (h : BR w B g m N va vi wr) (hg : s.Blobs ⟨#[65]⟩ (blobsOf (m.take N))) (hv : ∃ pos, Vol w' B g { s with pos := pos }) (hst : Stay B g wr w') : BR w B g m N va vi w' :=
  ⟨hst.toStay0.row h.ra (by decide) (by decide), hst.toStay0.row h.ri (by decide) (by decide), hv.elim fun p hv => ⟨_, hv, hg.pos p⟩, h.below.trans hst.below⟩
theorem blobs_at {m : List Bl} {N j : Nat} (hN : N ≤ m.length) (hj : j < N) : ∃ h : j < (blobsOf (m.take N)).length, (blobsOf (m.take N))[j] = (m[j].id, m[j].data.data.toList) ∧ (blobsOf (m.take N)).take j = blobsOf (m.take j) := by
  have hl : (blobsOf (m.take N)).length = N := by rw [blobsOf_len, List.length_take]; omega
  refine ⟨by omega, ?_, ?_⟩
  · unfold blobsOf
    rw [List.getElem_map, List.getElem_take]
  · rw [blobsOf_take, List.take_take, Nat.min_eq_left (by omega)]
section
variable {w : World} {B g : Nat} {m : List Bl} {N k4 k9 c4 c9 : Nat} {W : World} {j : Nat}
theorem BR.cells (h : BR w B g m N (.slice (some ⟨k4, 0, none⟩) N c4) (.slice (some ⟨k9, 0, none⟩) N c9) W) (hN : N ≤ m.length) (hj : j < N) : W.cell? ((⟨k4, 0, none⟩ : Addr).add j) = some (.int .i64 ((tapeN (blobsOf (m.take j)) : Nat) : Int)) ∧ W.cell? ((⟨k9, 0, none⟩ : Addr).add (j * 3)) = some (.int .u64 (m[j].id : Int)) ∧
    W.cell? ⟨((⟨k9, 0, none⟩ : Addr).add (j * 3)).block, ((⟨k9, 0, none⟩ : Addr).add (j * 3)).off + 1, none⟩ = some (.int .i64 ((tapeN (blobsOf (m.take j)) : Nat) : Int)) ∧ W.cell? ⟨((⟨k9, 0, none⟩ : Addr).add (j * 3)).block, ((⟨k9, 0, none⟩ : Addr).add (j * 3)).off + 2, none⟩ = some (.int .i64 (m[j].data.size : Int)) := by
  obtain ⟨h1, h2, h3⟩ := blobs_at hN hj
  have hx := itemsOf_get (blobsOf (m.take N)) 0 j h1
  rw [h2, h3, Nat.zero_add] at hx
  simp only at hx
  have e2 : m[j].data.data.toList.length = m[j].data.size := by simp
  rw [e2] at hx
  have key : ∀ q u, (It.cells ⟨m[j].id, tapeN (blobsOf (m.take j)), m[j].data.size⟩).toList[q]? = some u → W.cell? ((⟨k9, 0, none⟩ : Addr).add (j * 3 + q)) = some u := fun q u hq => h.ri.cells (g := k9) rfl (j * 3 + q) u (itCells_get _ j q _ u hx hq)
  have y0 := key 0 _ rfl
  have y1 := key 1 _ rfl
  have y2 := key 2 _ rfl
  rw [addr_at3] at y1 y2
  exact ⟨h.ra.cells (g := k4) rfl j _ (places_get m hj), y0, y1, y2⟩
theorem BR.reads {va vi : Value} (h : BR w B g m N va vi W) (hS : Steps W) (hB : 0 < B) (h6 : N ≤ 6) (hN : N ≤ m.length) (hj : j < N) :
    Calls Tryd.prog 18 #[.pointer (some ⟨g, 0, none⟩), .int .i64 ((tapeN (blobsOf (m.take j)) : Nat) : Int), .int .u64 (m[j].id : Int)] W fun e w' => e = .returned (.tuple #[.string m[j].data, .int .i64 0]) ∧ BR w B g m N va vi w' := by
  obtain ⟨h1, h2, h3⟩ := blobs_at hN hj
  obtain ⟨s, hv, hbb⟩ := h.vol
  have := blobs_read hv hbb hS hB (by decide) (by rw [blobsOf_len, List.length_take]; omega) h1
  rw [h2, h3] at this
  refine this.mono ?_
  rintro e w' ⟨rfl, hv', hst⟩
  exact ⟨rfl, h.read hbb hv' hst⟩
theorem BR.wrong {va vi : Value} (h : BR w B g m N va vi W) (hS : Steps W) (hB : 0 < B) (h6 : N ≤ 6) (hN : N ≤ m.length) (hj : j < N) (id2 : Nat) (hid2 : id2 < 18446744073709551616) (hne : m[j].id ≠ id2) :
    Calls Tryd.prog 18 #[.pointer (some ⟨g, 0, none⟩), .int .i64 ((tapeN (blobsOf (m.take j)) : Nat) : Int), .int .u64 (id2 : Int)] W fun e w' => e = .returned (.tuple #[.string ⟨#[]⟩, .int .i64 3]) ∧ BR w B g m N va vi w' := by
  obtain ⟨h1, h2, h3⟩ := blobs_at hN hj
  obtain ⟨s, hv, hbb⟩ := h.vol
  have := blobs_wrong hv hbb hS hB (by decide) (by rw [blobsOf_len, List.length_take]; omega) h1 id2 hid2 (by rw [h2]; exact hne)
  rw [h3] at this
  refine this.mono ?_
  rintro e w' ⟨rfl, hv', hst⟩
  exact ⟨rfl, h.read hbb hv' hst⟩
end
theorem next_id (n : Nat) (h : n < 18446744073709551616) : ∃ n2 : Nat, n2 < 18446744073709551616 ∧ n ≠ n2 ∧ IntKind.u64.wrap ((n : Int) + 1) = (n2 : Int) := by
  by_cases e : n = 18446744073709551615
  · subst e
    exact ⟨0, by omega, by omega, by decide⟩
  · exact ⟨n + 1, by omega, by omega, by rw [IntKind.wrap_u64] <;> omega⟩

set_option maxRecDepth 100000 in
set_option maxHeartbeats 8000000 in
theorem walk_back (A : Option Addr) (cap : Nat) (m : List Bl) (hcap : m.length ≤ cap) (hmx : m.length ≤ 9223372036854775807) (w : World) (hS : Steps w) (hL : BlobsAt w w.heap.size A m) :
    Calls Tryd.prog 3 #[.slice A m.length cap] w fun e w' => e = .returned (.bool true) ∧ Below w.heap.size w w' := by
  have hS0 := hS.1
  have hN := new_vol 100000 100000 (by omega) rfl w
  obtain ⟨B, hB⟩ : ∃ B, w.heap.size = B := ⟨_, rfl⟩
  rw [hB] at hN hL hS0 ⊢
  obtain ⟨N, hNN⟩ : ∃ N : Nat, min m.length 6 = N := ⟨_, rfl⟩
  have hmin : min (m.length : Int) 6 = (N : Int) := by omega
  have hNm : N ≤ m.length := by omega
  have hN6 : N ≤ 6 := by omega
  have hlab : (⟨#[65]⟩ : ByteArray).size ≤ 32 := by decide
  have HCELL : Hid (∀ k (h : k < m.length), ∃ ad, A = some ad ∧ (∀ w', Below B w w' → w'.cell? (ad.add (k * 3)) = some (.int .u64 (m[k].id : Int)) ∧ w'.cell? ⟨(ad.add (k * 3)).block, (ad.add (k * 3)).off + 1, none⟩ = some (.string m[k].s) ∧ w'.cell? ⟨(ad.add (k * 3)).block, (ad.add (k * 3)).off + 2, none⟩ = some (.int .i64 m[k].n)) ∧ m[k].id < 18446744073709551616) := Lib.hid fun k h => hL.get h
  have HST : Hid (∀ W, Below B w W → Steps W) := Lib.hid fun W h => hS.below h hS0
  clear hL hS
  go_enter Tryd.func3, Tryd.ntmps3
  go_upto_region 1 with fail
  go_wp2_with fail
  refine hN.mono ?_
  rintro e w1 ⟨g, rfl, hv1, hb1⟩
  have hAw := awake_any w1 (HST.out _ hb1)
  clear hN
  go_upto_region 2 with fail
  go_wp2_with fail
  refine hAw.mono ?_
  rintro e w2 ⟨rfl, hb2⟩
  have hv2 := hv1.below hb2
  have hbz := hv1.bz
  have hb2 := hb1.trans (hb2.mono hbz)
  have hE := erase_vol hv2 ⟨#[65]⟩ (by decide) (by decide)
  rw [erase_new] at hE
  clear hAw hv1 hv2 hb1 hbz
  go_wp2_with fail
  refine hE.mono ?_
  rintro e w3 ⟨rfl, h3, st3⟩
  have hb3 := hb2.trans st3.below
  have hbz3 := h3.bz
  have G3 : Hid (BK w B g m (.slice (some ⟨w3.heap.size, 0, none⟩) 0 0) 0 (w3.alloc (.cells #[] 3))) := Lib.hid ⟨by
      have := row_empty w3 3 1
      exact ⟨this.1, this.2.imp id fun ⟨k, cap, cur, h1, h2, h3⟩ => ⟨k, cap, cur, h1, Nat.le_trans hbz3 h2, h3⟩⟩, ⟨_, h3.alloc _, VS.Blobs.new _⟩, hb3.trans ((Below.refl _ w3).alloc hbz3 _)⟩
  clear hE st3 h3 hb2 hb3 hbz3
  obtain ⟨i0, hie, hz0, hz1, hz2⟩ := info_parts info_int'
  have HIE := Lib.hid hie
  have HZ0 := Lib.hid hz0
  have HZ1 := Lib.hid hz1
  have HZ2 := Lib.hid hz2
  clear hie hz0 hz1 hz2
  go_wp2
  go_loopw [4, 6] (fun va i wr => ∃ k : Nat, k ≤ N ∧ i = .int .i64 (k : Int) ∧ Hid (BK w B g m va k wr))
    (fun _ i _ => N - (intOf i).toNat)
  case atStart => exact ⟨0, by omega, rfl, G3⟩
  case round =>
    clear G3
    obtain ⟨k, hk, rfl, HG⟩ := hrel
    by_cases hlt : k < N
    · have q1 : decide ((k : Int) < (N : Int)) = true := by simpa using hlt
      have hkm : k < m.length := by omega
      obtain ⟨ad, rfl, hcl, hid⟩ := HCELL.out k hkm
      have hbn := blobsOf_next hkm
      have hpm := places_more m k
      have hdz := data_len m[k]
      have hds : m[k].data.size ≤ 600 := longOf_size _ _
      have hLo : ∀ W, Calls Tryd.prog 15 #[.string m[k].s, .int .i64 m[k].n] W fun e w' => e = .returned (.string m[k].data) ∧ W = w' := fun W => long_any m[k].s m[k].n W
      generalize m[k].data = d at *
      generalize m[k].s = sx at *
      generalize m[k].n = nx at *
      generalize m[k].id = id at *
      have hWr : ∀ W, BK w B g m u4 k W → Calls Tryd.prog 14 #[.pointer (some ⟨g, 0, none⟩), .int .u64 (id : Int), .string d] W fun e w' => e = .returned (.tuple #[.int .i64 ((tapeN (blobsOf (m.take k)) : Nat) : Int), .int .i64 0]) ∧ (w'.ownsRow B 3 1 u4 k (places m k) ∧ (∃ s, Vol w' B g s ∧ s.Blobs ⟨#[65]⟩ (blobsOf (m.take (k + 1)))) ∧ Below B w w') := fun W h => by
        obtain ⟨s, hv, hbb⟩ := h.vol
        have hn : (blobsOf (m.take k)).length ≤ 20 := by rw [blobsOf_len, List.length_take]; omega
        refine (blobs_write hv hbb (HST.out W h.below) hS0 hlab hn id hid d hds).mono ?_
        rintro e w' ⟨rfl, hv', hst⟩
        exact ⟨rfl, hst.toStay0.row h.row (by decide) (by decide), ⟨_, hv', by rw [hbn]; exact hbb.more hlab hn hid hdz⟩, h.below.trans hst.below⟩
      have HWR := Lib.hid hWr
      have HLO := Lib.hid hLo
      have HCL := Lib.hid hcl
      have HPM := Lib.hid hpm
      clear hWr hLo hcl hpm hbn
      generalize tapeN (blobsOf (m.take k)) = tp at *
      go_upto_region 9 with fail
      refine bka_region (Pre := fun W => BK w B g m u4 k W) rfl ⟨hkm, rfl, rfl, rfl, fun W hW => HCL.out W (by rcases hW with hW | hW; exact hW.below; exact hW.2.2), HLO.out, HWR.out⟩ HG.out.drew ?_
      intro w7 hw7
      simp only [List.setIfInBounds_toArray, List.set_cons_zero, List.set_cons_succ]
      obtain ⟨hrow7, hv7, hb7⟩ := hw7
      have HROW7 := Lib.hid hrow7
      have HV7 := Lib.hid hv7
      have HB7 := Lib.hid hb7
      clear HWR HLO HCL HG hrow7 hv7 hb7
      go_upto_region 12 with fail
      go_wp2_with (at_builtin; refine wpList_append_own _ rfl _ _ 28 rfl B 3 i0 (.int .i64 0) 1 8 Tryd.underlying28 HIE.out HZ0.out HZ1.out HZ2.out rfl (by decide) _ _ _ rfl (HROW7.out.alloc _) ⟨w7.heap.size, 0, none⟩ 1 1 [.int .i64 (tp : Int)] rfl rfl ?c1 ?c2 ?c3 ?c4 ?c5 ?_)
      case c1 => exact cell_one_new _ _ _
      case c2 => intro u hu; simp at hu; subst hu; rfl
      case c3 => unfold maxLen; omega
      case c4 => omega
      case c5 => have := HB7.out.size; simp; omega
      intro v' w8 hown hgrow _
      have hG8 : BK w B g m v' (k + 1) w8 := by
        refine ⟨by rw [HPM.out]; exact hown, ?_, ?_⟩
        · obtain ⟨s, hv, hbb⟩ := HV7.out
          exact ⟨s, vol_grow (hv.alloc _) (HROW7.out.alloc _) (by decide) (by decide) hgrow, hbb⟩
        · exact (HB7.out.trans ((Below.refl _ w7).alloc (by have := HB7.out.size; omega) _)).trans (below_grow (HROW7.out.alloc _) hgrow (by have := HB7.out.size; simp; omega))
      have HG8 := Lib.hid hG8
      clear hG8 hown hgrow HROW7 HV7 HB7 HPM
      go_wp2
      go_roundw
      case rel => exact ⟨k + 1, by omega, by go_num, HG8⟩
      case measure => simp [intOf]; omega
    · have q1 : decide ((k : Int) < (N : Int)) = false := by simpa using hlt
      obtain rfl : k = N := by omega
      obtain ⟨s, hv, hbb⟩ := HG.out.vol
      have hn : (blobsOf (m.take k)).length ≤ 20 := by rw [blobsOf_len, List.length_take]; omega
      have hln : (blobsOf (m.take k)).length = k := by rw [blobsOf_len, List.length_take]; omega
      have hSc := tscan_any hv hbb.good.calm (HST.out wr HG.out.below) hS0
      rw [hbb.scan hlab hn] at hSc
      unfold ScanEnds at hSc
      simp only at hSc
      have hlen5 : s.l.length = tapeN (blobsOf (m.take k)) := hbb.len
      have hend := endOf_len (blobsOf (m.take k)) 0 0
      rw [Nat.zero_add] at hend
      have hBR : ∀ w9 v9, w9.ownsRow wr.heap.size 42 3 v9 (itemsOf 0 (blobsOf (m.take k))).length (itCells (itemsOf 0 (blobsOf (m.take k)))) → (∃ pos, Vol w9 B g { s with pos := pos }) → Stay B g wr w9 → BR w B g m k u4 v9 w9 ∧ ∀ pos, Vol w9 B g { s with pos := pos } → Calls Tryd.prog 17 #[.pointer (some ⟨g, 0, none⟩)] w9 fun e w' => e = .returned (.int .i64 ((tapeN (blobsOf (m.take k)) : Nat) : Int)) ∧ w9 = w' := fun w9 v9 h1 h2 h3 => by
        refine ⟨⟨h3.toStay0.row HG.out.row (by decide) (by decide), ?_, ?_, HG.out.below.trans h3.below⟩, fun pos h => ?_⟩
        · have e : (itemsOf 0 (blobsOf (m.take k))).length = k := by rw [itemsOf_len, hln]
          rw [e] at h1
          exact ⟨h1.1, h1.2.imp id fun ⟨kk, cap, cur, x1, x2, x3⟩ => ⟨kk, cap, cur, x1, Nat.le_trans hv.bz x2, x3⟩⟩
        · obtain ⟨pos, h2⟩ := h2
          exact ⟨_, h2, hbb.pos pos⟩
        · have := len_vol h
          rw [show (({ s with pos := pos } : VS).l.length) = tapeN (blobsOf (m.take k)) from hlen5] at this
          exact this
      have HSC := Lib.hid hSc
      have HBR := Lib.hid hBR
      have HBB := Lib.hid hbb
      clear hSc hBR hbb hv HG hlen5 HIE HZ0 HZ1 HZ2
      generalize endOf 0 0 (blobsOf (m.take k)) = en at *
      go_upto_region 13 with fail
      go_wp2_with fail
      refine HSC.out.mono ?_
      rintro e w9 ⟨v9, rfl, hr9, hv9, hst9⟩
      obtain ⟨hbr, hLen⟩ := HBR.out w9 v9 hr9 hv9 hst9
      obtain ⟨pos9, hv9⟩ := hv9
      have hL9 := hLen pos9 hv9
      clear hLen hr9 hst9 HSC HBR hv9
      obtain ⟨A9, c9, rfl, hc9, hA9⟩ := row_form hbr.ri
      obtain ⟨A4, c4, rfl, hc4, hA4⟩ := row_form hbr.ra
      have HB9 := Lib.hid hbr
      clear hbr
      have z1 : ((k : Int) != (k : Int)) = false := by simp
      have z2 : ((k : Int) == (k : Int)) = true := by simp
      by_cases hk0 : 0 < k
      · have e1 : decide ((0 : Int) < (k : Int)) = true := by simp; omega
        have hen := hend (by intro e; rw [e] at hln; simp at hln; omega)
        have z3 : ((en : Int) != (tapeN (blobsOf (m.take k)) : Int) - 1) = false := by unfold bne; rw [Bool.not_eq_false', beq_iff_eq]; omega
        have htp : tapeN (blobsOf (m.take k)) ≤ 100 := by have := tapeN_le _ HBB.out.ok; omega
        clear hend
        generalize tapeN (blobsOf (m.take k)) = tp at *
        go_upto_region 14 with fail
        go_wp2_with fail
        refine hL9.mono ?_
        rintro e w10 ⟨rfl, rfl⟩
        go_upto_region 16 with fail
        go_wp2
        go_loopw [12] (fun i wr => ∃ j : Nat, j ≤ k ∧ i = .int .i64 (j : Int) ∧ Hid (BR w B g m k (.slice A4 k c4) (.slice A9 k c9) wr))
          (fun i _ => k - (intOf i).toNat)
        case atStart => exact ⟨0, by omega, rfl, HB9⟩
        case round =>
          clear HB9 hL9
          obtain ⟨j, hj, rfl, HG⟩ := hrel
          by_cases hjk : j < k
          · have q2 : decide ((j : Int) < (k : Int)) = true := by simpa using hjk
            have hjm : j < m.length := by omega
            obtain ⟨ad, rfl, hcl, hid⟩ := HCELL.out j hjm
            obtain ⟨k4, rfl⟩ := hA4 hk0
            obtain ⟨k9, rfl⟩ := hA9 hk0
            obtain ⟨id2, hid2, hne2, hnx⟩ := next_id m[j].id hid
            have hCells := fun W (h : BR w B g m k (.slice (some ⟨k4, 0, none⟩) k c4) (.slice (some ⟨k9, 0, none⟩) k c9) W) => h.cells hNm hjk
            have hRd := fun W (h : BR w B g m k (.slice (some ⟨k4, 0, none⟩) k c4) (.slice (some ⟨k9, 0, none⟩) k c9) W) => h.reads (HST.out W h.below) hS0 hN6 hNm hjk
            have hWg := fun W (h : BR w B g m k (.slice (some ⟨k4, 0, none⟩) k c4) (.slice (some ⟨k9, 0, none⟩) k c9) W) => h.wrong (HST.out W h.below) hS0 hN6 hNm hjk id2 hid2 hne2
            have hLo : ∀ W, Calls Tryd.prog 15 #[.string m[j].s, .int .i64 m[j].n] W fun e w' => e = .returned (.string m[j].data) ∧ W = w' := fun W => long_any m[j].s m[j].n W
            generalize m[j].data = d at *
            generalize m[j].s = sx at *
            generalize m[j].n = nx at *
            generalize m[j].id = id at *
            generalize tapeN (blobsOf (m.take j)) = pj at *
            have HCL := Lib.hid hcl
            have HCS := Lib.hid hCells
            have HRD := Lib.hid hRd
            have HWG := Lib.hid hWg
            have HLO := Lib.hid hLo
            clear hcl hCells hRd hWg hLo
            generalize hAD2 : (⟨k4, 0, none⟩ : Addr) = ad2 at *
            generalize hAD3 : (⟨k9, 0, none⟩ : Addr) = ad3 at *
            clear hAD2 hAD3
            go_upto_region 19 with fail
            refine bkb_region (Pre := fun W => BR w B g m k (.slice (some ad2) k c4) (.slice (some ad3) k c9) W) (Post := fun W => BR w B g m k (.slice (some ad2) k c4) (.slice (some ad3) k c9) W) rfl ⟨rfl, rfl, rfl, rfl, hjm, hjk, fun W hW => ⟨(HCL.out W (by rcases hW with hW | hW <;> exact hW.below)).1, (HCS.out W (by rcases hW with hW | hW <;> exact hW)).1⟩, HRD.out⟩ HG.out.drew ?_
            intro w11 hw11
            simp only [List.setIfInBounds_toArray, List.set_cons_zero, List.set_cons_succ]
            clear HG
            go_upto_region 20 with fail
            refine bkc_region (p := pj) (id := id) (Pre := fun W => BR w B g m k (.slice (some ad2) k c4) (.slice (some ad3) k c9) W) rfl ⟨rfl, rfl, rfl, rfl, rfl, rfl, hjm, hjk, hjk, fun W hW => ?_, HLO.out⟩ hw11.drew ?_
            · have hW : BR w B g m k (.slice (some ad2) k c4) (.slice (some ad3) k c9) W := by rcases hW with hW | hW <;> exact hW
              obtain ⟨x0, x1, x2⟩ := HCL.out W hW.below
              obtain ⟨y0, y1, y2, y3⟩ := HCS.out W hW
              exact ⟨x0, x1, x2, y0, y1, y2, y3⟩
            intro w12 hw12
            simp only [List.setIfInBounds_toArray, List.set_cons_zero, List.set_cons_succ]
            clear hw11
            go_upto_region 22 with fail
            refine bkd_region (Pre := fun W => BR w B g m k (.slice (some ad2) k c4) (.slice (some ad3) k c9) W) (Post := fun W => BR w B g m k (.slice (some ad2) k c4) (.slice (some ad3) k c9) W) rfl ⟨rfl, rfl, rfl, rfl, hjm, hjk, fun W hW => ⟨(HCL.out W (by rcases hW with hW | hW <;> exact hW.below)).1, (HCS.out W (by rcases hW with hW | hW <;> exact hW)).1⟩, HWG.out, hnx⟩ hw12.drew ?_
            intro w13 hw13
            simp only [List.setIfInBounds_toArray, List.set_cons_zero, List.set_cons_succ]
            have HG13 := Lib.hid hw13
            clear hw12 hw13 HCL HCS HRD HWG HLO hnx
            go_wp2
            go_roundw
            case rel => exact ⟨j + 1, by omega, by go_num, HG13⟩
            case measure => simp [intOf]; omega
          · have q2 : decide ((j : Int) < (k : Int)) = false := by simpa using hjk
            have HBL := Lib.hid HG.out.below
            clear HG
            go_wp2
            go_ret
            exact ⟨rfl, HBL.out⟩
      · obtain rfl : k = 0 := by omega
        clear hend
        have HBL := Lib.hid HB9.out.below
        go_upto_region 16 with fail
        go_wp2
        go_loopw [12] (fun i wr => i = .int .i64 0 ∧ wr = w9) (fun _ _ => 0)
        case atStart => exact ⟨rfl, rfl⟩
        case round =>
          obtain ⟨rfl, rfl⟩ := hrel
          go_wp2
          go_ret
          exact ⟨rfl, HBL.out⟩
end Go.Proofs.YtcbeikiglccgaaaDoor
