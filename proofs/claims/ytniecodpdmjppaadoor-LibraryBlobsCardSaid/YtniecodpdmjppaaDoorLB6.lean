/- Lgw, Lgz, Lhf: merged (a claim holds few files). -/
import Derived.Test.YtniecodpdmjppaaDoorLB5
import Derived.Test.YtniecodpdmjppaaDoorLB3
import Derived.Test.YtniecodpdmjppaaDoorOb
import Derived.Maps.AppendAt
/- A library whose volumes hold blobs: what Write, Read, Erase, Scan of it do. -/
namespace Go.Proofs.YtniecodpdmjppaaDoor
open Go.RowKit
open Sm
set_option linter.unusedVariables false
set_option linter.unusedSimpArgs false

/-- drives of which none is broken, none is held -/
structure FreeD (ds : List Dr) : Prop where
  pos : 0 < ds.length
  le : ds.length ≤ 3
  all : ∀ d ∈ ds, d.br = false ∧ d.holds = 0
theorem FreeD.new {k : Nat} (h0 : 0 < k) (h3 : k ≤ 3) : FreeD (List.replicate k (Dr.no false)) := ⟨by simpa using h0, by simpa using h3, fun d hd => by rw [List.eq_of_mem_replicate hd]; exact ⟨rfl, rfl⟩⟩
theorem FreeD.get {ds : List Dr} (h : FreeD ds) (i : Nat) : (ds.getD i (.no false)).br = false ∧ (ds.getD i (.no false)).holds = 0 := by
  by_cases e : i < ds.length
  · rw [List.getD_eq_getElem?_getD, List.getElem?_eq_getElem e]
    exact h.all _ (List.getElem_mem e)
  · rw [List.getD_eq_getElem?_getD, List.getElem?_eq_none (by omega)]
    exact ⟨rfl, rfl⟩
theorem FreeD.next {ds : List Dr} (h : FreeD ds) : nextF ds ≠ -1 := by
  have key : ∀ k, 0 ≤ nextUp ds (k + 1) := by
    intro k
    induction k with
    | zero =>
      obtain ⟨h1, h2⟩ := h.get 0
      show 0 ≤ nextStep ds (-1) 0
      unfold nextStep
      rw [h1, h2, if_neg (by simp), if_pos (.inl rfl)]
      exact Int.le_refl _
    | succ k ih =>
      show 0 ≤ nextStep ds (nextUp ds (k + 1)) (k + 1)
      unfold nextStep
      split
      · exact ih
      · split
        · omega
        · exact ih
  unfold nextF
  have := key (ds.length - 1)
  rw [show ds.length - 1 + 1 = ds.length by have := h.pos; omega] at this
  omega
theorem FreeD.set {ds : List Dr} (h : FreeD ds) (i : Nat) (d : Dr) (h1 : d.br = false) (h2 : d.holds = 0) : FreeD (ds.set i d) := ⟨by simpa using h.pos, by simpa using h.le, fun x hx => by
  rcases List.mem_or_eq_of_mem_set hx with hx | rfl
  · exact h.all x hx
  · exact ⟨h1, h2⟩⟩
theorem mount_free {n : Nat} {ds : List Dr} (h : FreeD ds) (mv mt v : Int) (hv : 0 ≤ v ∧ v < n) :
    (mountF n ds mv mt v).e = 0 ∧ FreeD (mountF n ds mv mt v).ds ∧ (mountF n ds mv mt v).mt = mt + 1 ∧ (mv ≤ (mountF n ds mv mt v).mv ∧ (mountF n ds mv mt v).mv ≤ mv + 1) := by
  have hn := h.next
  unfold mountF
  rw [if_pos hv]
  by_cases hi : inF ds v = -1
  · rw [if_pos hi, if_neg hn]
    obtain ⟨h1, h2⟩ := h.get (nextF ds).toNat
    exact ⟨rfl, h.set _ _ h1 h2, rfl, by show mv ≤ mv + 1; omega, by show mv + 1 ≤ mv + 1; omega⟩
  · rw [if_neg hi]
    obtain ⟨h1, h2⟩ := h.get (inF ds v).toNat
    exact ⟨rfl, h.set _ _ h1 h2, rfl, by show mv ≤ mv; omega, by show mv ≤ mv + 1; omega⟩

/-- a volume of capacity R that holds blobs -/
structure VS.BlobsR (s : VS) (R : Int) (lab : ByteArray) (m : List (Nat × List UInt8)) : Prop where
  good : s.Good R lab
  l : s.l = tapeL lab 0 m
  sum : wsum s.l ≤ m.length * 900
  ok : ∀ x ∈ m, x.1 < 18446744073709551616 ∧ x.2.length ≤ 600
  er : 0 ≤ s.er ∧ s.er ≤ 1000
theorem VS.BlobsR.new (R : Int) : (VS.new R).BlobsR R ⟨#[]⟩ [] := ⟨⟨⟨rfl, rfl, rfl⟩, rfl, rfl, rfl⟩, rfl, by show wsum [] ≤ _; simp [wsum], by simp, by show (0 : Int) ≤ 0 ∧ (0 : Int) ≤ 1000; omega⟩
section
variable {s : VS} {R : Int} {lab : ByteArray} {l : List (Nat × List UInt8)}
theorem VS.BlobsR.len (h : s.BlobsR R lab l) : s.l.length = tapeN l := by rw [h.l, tapeL_len]
theorem VS.BlobsR.more (h : s.BlobsR R lab l) (hl : lab.size ≤ 32) (hn : l.length ≤ 20) {id : Nat} (hid : id < 18446744073709551616) {d : List UInt8} (hd : d.length ≤ 600) :
    (s.wrote id d).BlobsR R lab (l ++ [(id, d)]) := by
  have h4 := tapeN_le l h.ok
  refine ⟨h.good.wrote id d, ?_, ?_, ?_, h.er⟩
  · show s.l ++ (blobBlks s.lab s.l.length id d ++ [markBlk]) = _
    rw [tapeL_append, h.len, h.good.lab, h.l, Nat.zero_add, tapeL_one]
  · have h1 := VS.wrote_sum (s := s) (id := id) (d := d) (by rw [h.good.lab]; exact hl) (by rw [h.len]; omega) hid (by omega)
    have h2 := h.sum
    have h3 : weightOf d.length ≤ 900 := by unfold weightOf partsOf; omega
    rw [List.length_append]
    show _ ≤ (l.length + 1) * 900
    omega
  · intro x hx
    rcases List.mem_append.1 hx with hx | hx
    · exact h.ok x hx
    · rw [List.mem_singleton.1 hx]
      exact ⟨hid, hd⟩
theorem VS.BlobsR.pos (h : s.BlobsR R lab l) (p : Nat) : VS.BlobsR { s with pos := p } R lab l := ⟨h.good.pos p, h.l, h.sum, h.ok, h.er⟩
theorem VS.BlobsR.scan (h : s.BlobsR R lab l) (hl : lab.size ≤ 32) (hn : l.length ≤ 20) : scanF s.lab s.l 0 0 = (itemsOf 0 l, endOf 0 0 l) := by
  have h4 := tapeN_le l h.ok
  have := scan_tape hl l [] 0 (by show 0 + tapeN l + 20 ≤ _; omega) (fun x hx => ⟨(h.ok x hx).1, by have := (h.ok x hx).2; omega⟩)
  rw [h.good.lab, h.l]
  simpa using this
theorem VS.BlobsR.erase (h : s.BlobsR R lab l) (he : s.er < 1000) (lab' : ByteArray) : (s.erase lab').2 = 0 ∧ (s.erase lab').1.BlobsR R lab' [] := by
  have hc := h.good.calm
  have hE : s.erase lab' = ({ s.cut 0 with lab := lab', er := s.er + 1 }, 0) := by
    unfold VS.erase
    rw [if_neg (by rw [hc.err]; decide), if_neg (by rw [hc.pr]; decide), hc.tried]
  rw [hE]
  have hnil : (s.cut 0).l = [] := by show s.l.take 0 = []; rfl
  exact ⟨rfl, ⟨⟨hc.lo, hc.lf, hc.pr⟩, h.good.rm, by show lastTorn (s.cut 0).l = false; rw [hnil]; rfl, rfl⟩, hnil, by show wsum (s.cut 0).l ≤ _; rw [hnil]; simp [wsum], by simp, by have := h.er; show 0 ≤ s.er + 1 ∧ s.er + 1 ≤ 1000; omega⟩
end

/-- what tapefmt.Write does to a volume of blobs -/
theorem blobsR_write {B g : Nat} {s : VS} {R : Int} {lab : ByteArray} {l : List (Nat × List UInt8)} (hg : s.BlobsR R lab l) (hR : 20000 ≤ R) (hB : 0 < B) (hl : lab.size ≤ 32) (hn : l.length ≤ 20) (id : Nat) (hid : id < 18446744073709551616) (d : ByteArray) (hd : d.size ≤ 600) :
    Writes g B s (s.wrote id d.data.toList) id d (tapeN l : Nat) 0 Steps := by
  intro W hS h
  have h4 := tapeN_le l hg.ok
  have h3 : weightOf d.size ≤ 900 := by unfold weightOf partsOf; omega
  have := write_good h hg.good hS hB hl (by rw [hg.len]; omega) id hid d (by omega) (by have := hg.sum; omega)
  rw [hg.len] at this
  exact this
theorem blobsR_read {B g : Nat} {s : VS} {R : Int} {lab : ByteArray} {l : List (Nat × List UInt8)} (hg : s.BlobsR R lab l) (hB : 0 < B) (hl : lab.size ≤ 32) (hn : l.length ≤ 20) {i : Nat} (hi : i < l.length) :
    ReadsT g B s (fun s' => s'.BlobsR R lab l) (tapeN (l.take i) : Nat) l[i].1 ⟨l[i].2.toArray⟩ 0 Steps := by
  intro W hS h
  have h4 := tapeN_le l hg.ok
  obtain ⟨h1, h2⟩ := hg.ok _ (List.getElem_mem hi)
  obtain ⟨rest, hr⟩ := tape_split (lab := lab) hi
  have := read_good h hg.good hS hB hl (by rw [hg.len]; omega) l[i].1 h1 ⟨l[i].2.toArray⟩ (by rw [str_len]; omega) (tapeL lab 0 (l.take i)) rest (by rw [hg.l, hr, tapeL_len])
  rw [tapeL_len] at this
  refine this.mono ?_
  rintro e w' ⟨he, ⟨pos, hv⟩, hst⟩
  exact ⟨he, ⟨_, hg.pos pos, hv⟩, hst⟩

/-- a library whose volumes hold the blobs of Ms, each under its label; K: how often it mounted at most -/
def LB (W : World) (B g : Nat) (R : Int) (nv K : Nat) (Ms : List (ByteArray × List (Nat × List UInt8))) : Prop :=
  ∃ v1 v2 gs ds mv mt ss, LibAt W B g v1 v2 gs ds mv mt ∧ Vols W B gs ss ∧ FreeD ds ∧ (0 ≤ mv ∧ mv ≤ K) ∧ (0 ≤ mt ∧ mt ≤ K) ∧ gs.length = nv ∧ ss.length = nv ∧ Ms.length = nv ∧ ∀ i (h : i < ss.length) (h2 : i < Ms.length), ss[i].BlobsR R Ms[i].1 Ms[i].2 ∧ ss[i].er ≤ K
section
variable {W W' : World} {B g nv K : Nat} {R : Int} {Ms : List (ByteArray × List (Nat × List UInt8))}
theorem LB.below (h : LB W B g R nv K Ms) (hb : Below W.heap.size W W') : LB W' B g R nv K Ms := by
  obtain ⟨v1, v2, gs, ds, mv, mt, ss, h1, h2, h3⟩ := h
  exact ⟨v1, v2, gs, ds, mv, mt, ss, h1.below hb, h2.below hb, h3⟩
theorem LB.more {K' : Nat} (h : LB W B g R nv K Ms) (hk : K ≤ K') : LB W B g R nv K' Ms := by
  obtain ⟨v1, v2, gs, ds, mv, mt, ss, h1, h2, h3, h4, h5, h6, h7, h8, h9⟩ := h
  exact ⟨v1, v2, gs, ds, mv, mt, ss, h1, h2, h3, by omega, by omega, h6, h7, h8, fun i a b => ⟨(h9 i a b).1, by have := (h9 i a b).2; omega⟩⟩
theorem LB.bz (h : LB W B g R nv K Ms) : B ≤ W.heap.size := by
  obtain ⟨v1, v2, gs, ds, mv, mt, ss, h1, _⟩ := h
  have := h1.gB
  have := h1.at_.lt
  omega
theorem LB.writeK (h : LB W B g R nv K Ms) (hS : ∀ W', Below B W W' → Steps W') (hB : 0 < B) (hR : 20000 ≤ R) (hK : K ≤ 900) (v : Nat) (hv : v < nv) (hv2 : v < Ms.length) (hl : Ms[v].1.size ≤ 32) (hn : Ms[v].2.length ≤ 20) (id : Nat) (hid : id < 18446744073709551616) (d : ByteArray) (hd : d.size ≤ 600) :
    Calls Tryd.prog 7 #[.pointer (some ⟨g, 0, none⟩), .int .i64 (v : Int), .int .u64 (id : Int), .string d] W fun e w' => e = .returned (.tuple #[.int .i64 (tapeN Ms[v].2 : Nat), .int .i64 0]) ∧ LB w' B g R nv (K + 1) (Ms.set v (Ms[v].1, Ms[v].2 ++ [(id, d.data.toList)])) ∧ Below B W w' ∧ KL W w' := by
  have hbz := h.bz
  obtain ⟨v1, v2, gs, ds, mv, mt, ss, h1, h2, h3, h4, h5, h6, h7, h8, h9⟩ := h
  obtain ⟨m1, m2, m3, m4⟩ := mount_free (n := gs.length) h3 mv mt (v : Int) ⟨by omega, by omega⟩
  have hvs : v < ss.length := by omega
  obtain ⟨hb, he⟩ := h9 v hvs hv2
  have hW := blobsR_write (B := B) (g := gs[v]'(by omega)) hb hR hB hl hn id hid d hd
  have hlo : ∀ s ∈ ss, s.lo = false := fun s hs => by
    obtain ⟨i, hi, rfl⟩ := List.getElem_of_mem hs
    exact (h9 i hi (by omega)).1.good.calm.lo
  refine (libwrite_any h1 hbz h2 hlo (by have := h3.le; omega) (by omega) (by omega) v (by omega) hvs m1 hW hS).mono ?_
  rintro e w' ⟨rfl, a1, a2, a3, a4⟩
  refine ⟨rfl, ⟨v1, v2, gs, _, _, _, _, a1, a2, m2, by omega, by omega, h6, by rw [List.length_set]; exact h7, by rw [List.length_set]; exact h8, fun i hi hi2 => ?_⟩, a3, a4⟩
  rw [List.length_set] at hi hi2
  rw [List.getElem_set, List.getElem_set]
  split
  · exact ⟨hb.more hl hn hid (by simpa using hd), by show ss[v].er ≤ _; omega⟩
  · have := h9 i hi hi2
    exact ⟨this.1, by omega⟩
theorem LB.write (h : LB W B g R nv K Ms) (hS : ∀ W', Below B W W' → Steps W') (hB : 0 < B) (hR : 20000 ≤ R) (hK : K ≤ 900) (v : Nat) (hv : v < nv) (hv2 : v < Ms.length) (hl : Ms[v].1.size ≤ 32) (hn : Ms[v].2.length ≤ 20) (id : Nat) (hid : id < 18446744073709551616) (d : ByteArray) (hd : d.size ≤ 600) :
    Calls Tryd.prog 7 #[.pointer (some ⟨g, 0, none⟩), .int .i64 (v : Int), .int .u64 (id : Int), .string d] W fun e w' => e = .returned (.tuple #[.int .i64 (tapeN Ms[v].2 : Nat), .int .i64 0]) ∧ LB w' B g R nv (K + 1) (Ms.set v (Ms[v].1, Ms[v].2 ++ [(id, d.data.toList)])) ∧ Below B W w' :=
  (h.writeK hS hB hR hK v hv hv2 hl hn id hid d hd).mono fun _ _ ⟨a, b, c, _⟩ => ⟨a, b, c⟩
theorem LB.readK (h : LB W B g R nv K Ms) (hS : ∀ W', Below B W W' → Steps W') (hB : 0 < B) (hK : K ≤ 900) (v : Nat) (hv : v < nv) (hv2 : v < Ms.length) (hl : Ms[v].1.size ≤ 32) (hn : Ms[v].2.length ≤ 20) (i : Nat) (hi : i < Ms[v].2.length) :
    Calls Tryd.prog 9 #[.pointer (some ⟨g, 0, none⟩), .int .i64 (v : Int), .int .i64 (tapeN (Ms[v].2.take i) : Nat), .int .u64 (Ms[v].2[i].1 : Int)] W fun e w' => e = .returned (.tuple #[.string ⟨Ms[v].2[i].2.toArray⟩, .int .i64 0]) ∧ LB w' B g R nv (K + 1) Ms ∧ Below B W w' ∧ KL W w' := by
  have hbz := h.bz
  obtain ⟨v1, v2, gs, ds, mv, mt, ss, h1, h2, h3, h4, h5, h6, h7, h8, h9⟩ := h
  obtain ⟨m1, m2, m3, m4⟩ := mount_free (n := gs.length) h3 mv mt (v : Int) ⟨by omega, by omega⟩
  have hvs : v < ss.length := by omega
  obtain ⟨hb, he⟩ := h9 v hvs hv2
  have hW := blobsR_read (B := B) (g := gs[v]'(by omega)) hb hB hl hn hi
  have hlo : ∀ s ∈ ss, s.lo = false := fun s hs => by
    obtain ⟨i, hi, rfl⟩ := List.getElem_of_mem hs
    exact (h9 i hi (by omega)).1.good.calm.lo
  have hW2 : ReadsT (gs[v]'(by omega)) B ss[v] (fun s' => s'.BlobsR R Ms[v].1 Ms[v].2 ∧ s'.er ≤ K) (tapeN (Ms[v].2.take i) : Nat) Ms[v].2[i].1 ⟨Ms[v].2[i].2.toArray⟩ 0 Steps := by
    intro W hS h
    have h4 := tapeN_le _ hb.ok
    obtain ⟨h1, h2⟩ := hb.ok _ (List.getElem_mem hi)
    obtain ⟨rest, hr⟩ := tape_split (lab := Ms[v].1) hi
    have := read_good h hb.good hS hB hl (by rw [hb.len]; omega) Ms[v].2[i].1 h1 ⟨Ms[v].2[i].2.toArray⟩ (by rw [str_len]; omega) (tapeL Ms[v].1 0 (Ms[v].2.take i)) rest (by rw [hb.l, hr, tapeL_len])
    rw [tapeL_len] at this
    refine this.mono ?_
    rintro e w' ⟨he', ⟨pos, hv⟩, hst⟩
    exact ⟨he', ⟨_, ⟨hb.pos pos, he⟩, hv⟩, hst⟩
  refine (libread_any h1 hbz h2 hlo (by have := h3.le; omega) (by omega) (by omega) v (by omega) hvs m1 hW2 hS).mono ?_
  rintro e w' ⟨rfl, a1, ⟨s', ⟨hs', hs2⟩, a2⟩, a3, a4⟩
  refine ⟨rfl, ⟨v1, v2, gs, _, _, _, _, a1, a2, m2, by omega, by omega, h6, by rw [List.length_set]; exact h7, h8, fun i hi hi2 => ?_⟩, a3, a4⟩
  rw [List.length_set] at hi
  rw [List.getElem_set]
  split
  · rename_i e
    subst e
    exact ⟨hs', by omega⟩
  · have := h9 i hi hi2
    exact ⟨this.1, by omega⟩
theorem LB.read (h : LB W B g R nv K Ms) (hS : ∀ W', Below B W W' → Steps W') (hB : 0 < B) (hK : K ≤ 900) (v : Nat) (hv : v < nv) (hv2 : v < Ms.length) (hl : Ms[v].1.size ≤ 32) (hn : Ms[v].2.length ≤ 20) (i : Nat) (hi : i < Ms[v].2.length) :
    Calls Tryd.prog 9 #[.pointer (some ⟨g, 0, none⟩), .int .i64 (v : Int), .int .i64 (tapeN (Ms[v].2.take i) : Nat), .int .u64 (Ms[v].2[i].1 : Int)] W fun e w' => e = .returned (.tuple #[.string ⟨Ms[v].2[i].2.toArray⟩, .int .i64 0]) ∧ LB w' B g R nv (K + 1) Ms ∧ Below B W w' :=
  (h.readK hS hB hK v hv hv2 hl hn i hi).mono fun _ _ ⟨a, b, c, _⟩ => ⟨a, b, c⟩
theorem LB.erase (h : LB W B g R nv K Ms) (hK : K ≤ 900) (v : Nat) (hv : v < nv) (hv2 : v < Ms.length) (lab : ByteArray) (hl : lab.size ≤ 32) :
    Calls Tryd.prog 11 #[.pointer (some ⟨g, 0, none⟩), .int .i64 (v : Int), .string lab] W fun e w' => e = .returned (.int .i64 0) ∧ LB w' B g R nv (K + 1) (Ms.set v (lab, [])) ∧ Below B W w' := by
  have hbz := h.bz
  obtain ⟨v1, v2, gs, ds, mv, mt, ss, h1, h2, h3, h4, h5, h6, h7, h8, h9⟩ := h
  obtain ⟨m1, m2, m3, m4⟩ := mount_free (n := gs.length) h3 mv mt (v : Int) ⟨by omega, by omega⟩
  have hvs : v < ss.length := by omega
  obtain ⟨hb, he⟩ := h9 v hvs hv2
  have hlo : ∀ s ∈ ss, s.lo = false := fun s hs => by
    obtain ⟨i, hi, rfl⟩ := List.getElem_of_mem hs
    exact (h9 i hi (by omega)).1.good.calm.lo
  obtain ⟨e1, e2⟩ := hb.erase (by omega) lab
  have hE := liberase_any h1 hbz h2 hlo (by have := h3.le; omega) (by omega) (by omega) v (by omega) hvs (lab := lab) (by omega) (by omega) m1
  rw [e1] at hE
  have e3 : (ss[v].erase lab).1.er ≤ K + 1 := by
    have hc := hb.good.calm
    have hE : ss[v].erase lab = ({ ss[v].cut 0 with lab := lab, er := ss[v].er + 1 }, 0) := by
      unfold VS.erase
      rw [if_neg (by rw [hc.err]; decide), if_neg (by rw [hc.pr]; decide), hc.tried]
    rw [hE]
    show ss[v].er + 1 ≤ _
    omega
  refine hE.mono ?_
  rintro e w' ⟨rfl, a1, a2, a3⟩
  refine ⟨rfl, ⟨v1, v2, gs, _, _, _, _, a1, a2, m2, by omega, by omega, h6, by rw [List.length_set]; exact h7, by rw [List.length_set]; exact h8, fun i hi hi2 => ?_⟩, a3⟩
  rw [List.length_set] at hi hi2
  rw [List.getElem_set, List.getElem_set]
  split
  · exact ⟨e2, by omega⟩
  · have := h9 i hi hi2
    exact ⟨this.1, by omega⟩
/-- a volume of it, and what its Used and Label say -/
theorem LB.volume (h : LB W B g R nv K Ms) (v : Nat) (hv : v < nv) (hv2 : v < Ms.length) :
    ∃ gv : Nat, (∀ W', Below W.heap.size W W' → Calls Tryd.prog 12 #[.pointer (some ⟨g, 0, none⟩), .int .i64 (v : Int)] W' fun e w' => e = .returned (.pointer (some ⟨gv, 0, none⟩)) ∧ W' = w')
      ∧ (∀ W', Below W.heap.size W W' → Calls Tryd.prog 14 #[.pointer (some ⟨gv, 0, none⟩)] W' fun e w' => e = .returned (.int .i64 ((wsum (tapeL Ms[v].1 0 Ms[v].2) : Nat) : Int)) ∧ W' = w')
      ∧ (∀ W', Below W.heap.size W W' → Calls Tryd.prog 13 #[.pointer (some ⟨gv, 0, none⟩)] W' fun e w' => e = .returned (.string Ms[v].1) ∧ Below W'.heap.size W' w') := by
  obtain ⟨v1, v2, gs, ds, mv, mt, ss, h1, h2, h3, h4, h5, h6, h7, h8, h9⟩ := h
  have hvs : v < ss.length := by omega
  obtain ⟨hb, he⟩ := h9 v hvs hv2
  refine ⟨gs[v]'(by omega), fun W' hb' => volume_any (h1.below hb') v (by omega), fun W' hb' => ?_, fun W' hb' => ?_⟩
  · have := used_vol ((h2.vol v (by omega) hvs).below hb')
    rw [hb.l] at this
    exact this
  · have := label_vol ((h2.vol v (by omega) hvs).below hb')
    rw [hb.good.lab] at this
    exact this
end
end Go.Proofs.YtniecodpdmjppaaDoor

/- library.Scan, with its closure: their walks. -/
namespace Go.Proofs.YtniecodpdmjppaaDoor
open Go.RowKit
set_option linter.unusedVariables false
set_option linter.unusedSimpArgs false

/-- what tapefmt.Scan does to a volume: it finds n items -/
def ScansT (gv B : Nat) (s : VS) (P : VS → Prop) (n : Nat) (er : Int) (ok : World → Prop) : Prop :=
  ∀ W, ok W → Vol W B gv s → Calls Tryd.prog 29 #[.pointer (some ⟨gv, 0, none⟩)] W fun e w' => ∃ A c en, e = .returned (.tuple #[.slice A n c, .int .i64 en, .int .i64 er]) ∧ (∃ s', P s' ∧ Vol w' B gv s') ∧ Stay B gv W w'

set_option maxRecDepth 100000 in
set_option maxHeartbeats 1000000 in
theorem scan1_any {W : World} {B gv b10 : Nat} {s : VS} {P : VS → Prop} {n : Nat} {x : Value} {er : Int} {ok : World → Prop} (hW : ScansT gv B s P n er ok) (hok : ok W) (h : Vol W B gv s) (h10 : At W b10 36 #[x]) (hB10 : B ≤ b10) :
    Calls Tryd.prog 28 #[.pointer (some ⟨gv, 0, none⟩), .pointer (some ⟨b10, 0, none⟩)] W fun e w' => e = .returned (.int .i64 er) ∧ ∃ s' A c, P s' ∧ Vol w' B gv s' ∧ At w' b10 36 #[.slice A n c] ∧ ∃ w1, Stay B gv W w1 ∧ w' = w1.setCell ⟨b10, 0, none⟩ (.slice A n c) ∧ Vol w1 B gv s' ∧ At w1 b10 36 #[x] := by
  have hC := hW W hok h
  have HC := Lib.hid hC
  have H10 := Lib.hid h10
  clear hC hW h h10 hok
  go_enter Tryd.func28, Tryd.ntmps28
  go_wp2_with fail
  refine HC.out.mono ?_
  rintro e w1 ⟨A, c, en, rfl, ⟨s', hps, hv⟩, hst⟩
  have hx := hst.toStay0.at_ H10.out (by decide) (by decide)
  have c10 : w1.cell? ⟨b10, 0, none⟩ = some x := hx.cell 0
  have f10 : w1.frozen? ⟨b10, 0, none⟩ = false := hx.frozen 0
  have hg : w1.grownBy (w1.setCell ⟨b10, 0, none⟩ (.slice A n c)) (some b10) := ⟨rfl, rfl, rfl, by simp [World.setCell], fun j hj hne => Below.heap_setCell w1 ⟨b10, 0, none⟩ _ j (fun e => hne (by rw [e]))⟩
  have hv2 : Vol (w1.setCell ⟨b10, 0, none⟩ (.slice A n c)) B gv s' := hv.other hg hx (by rintro cs fz e; injection e with _ e _; revert e; decide) (by rintro cs fz e; injection e with _ e _; revert e; decide)
  have ha2 : At (w1.setCell ⟨b10, 0, none⟩ (.slice A n c)) b10 36 #[.slice A n c] := hx.set 0 (.slice A n c)
  have HV2 := Lib.hid hv2
  have HA2 := Lib.hid ha2
  have HR := Lib.hid (show ∃ w', Stay B gv W w' ∧ w1.setCell ⟨b10, 0, none⟩ (.slice A n c) = w'.setCell ⟨b10, 0, none⟩ (.slice A n c) ∧ Vol w' B gv s' ∧ At w' b10 36 #[x] from ⟨w1, hst, rfl, hv, hx⟩)
  clear hv hst hx hg hv2 ha2 HC H10
  go_wp2
  go_ret
  exact ⟨rfl, s', A, c, hps, HV2.out, HA2.out, HR.out⟩

set_option maxRecDepth 100000 in
set_option maxHeartbeats 1000000 in
/-- use with Scan's closure -/
theorem use_scan {w : World} {B g b10 : Nat} {v1 v2 : Value} {gs : List Nat} {ds : List Dr} {mv mt : Int} {ss : List VS} {P : VS → Prop} {n : Nat} {x : Value} {er : Int} {ok : World → Prop} (h : LibAt w B g v1 v2 gs ds mv mt) (hB : B ≤ w.heap.size) (hV : Vols w B gs ss) (hlo : ∀ s ∈ ss, s.lo = false) (hlen : ds.length ≤ 1000) (hmv : 0 ≤ mv ∧ mv ≤ 1000000000000) (hmt : 0 ≤ mt ∧ mt ≤ 1000000000000)
    (v : Nat) (hv : v < gs.length) (hv2 : v < ss.length) (h10 : At w b10 36 #[x]) (hB10 : B ≤ b10) (he : (mountF gs.length ds mv mt (v : Int)).e = 0)
    (hW : ScansT gs[v] B ss[v] P n er ok) (hok : ∀ W, Below B w W → ok W) :
    Calls Tryd.prog 22 #[.pointer (some ⟨g, 0, none⟩), .int .i64 (v : Int), .func (.func 28) #[] #[.pointer (some ⟨b10, 0, none⟩)]] w fun e w' => e = .returned (.int .i64 er) ∧ LibAt w' B g v1 v2 gs (mountF gs.length ds mv mt (v : Int)).ds (mountF gs.length ds mv mt (v : Int)).mv (mountF gs.length ds mv mt (v : Int)).mt ∧ (∃ s', P s' ∧ Vols w' B gs (ss.set v s')) ∧ (∃ A c, At w' b10 36 #[.slice A n c]) ∧ Below B w w' ∧ KLx b10 w w' := by
  have hM := mount_any h hB (hV.here hlo) hlen hmv hmt (v : Int)
  unfold MountEnds at hM
  generalize mountF gs.length ds mv mt (v : Int) = r at *
  obtain ⟨ri, re, rds, rmv, rmt⟩ := r
  simp only at hM he ⊢
  subst he
  obtain ⟨A1, c1, rfl, hc1, hA1⟩ := row_slice h.vrow
  obtain ⟨kv, rfl⟩ := hA1 (by omega)
  have H := Lib.hid h
  have HV := Lib.hid hV
  have HM := Lib.hid hM
  have H10 := Lib.hid h10
  have HW := Lib.hid hW
  have HOK := Lib.hid hok
  clear h hV hM h10 hW hok
  go_enter Tryd.func22, Tryd.ntmps22
  go_wp2_with fail
  refine HM.out.mono ?_
  rintro e w1 ⟨rfl, h1, s1⟩
  have hv1 := HV.out.lib H.out s1
  have hst : ∀ {k : Nat} {t : TypeId} {cs : Array Value}, At w k t cs → t ≠ 59 → t ≠ 61 → At w1 k t cs := fun {k t cs} ha n1 n2 => (s1.block k ha.lt (by
    intro e
    rcases H.out.foot_kind e with ⟨cs, hc⟩ | ⟨cs, hc⟩
    · exact At.differ ha hc n1 rfl
    · exact At.differ ha hc n2 rfl)).trans ha
  have z0 : w1.cell? ⟨g, 0, none⟩ = some (.slice (some ⟨kv, 0, none⟩) gs.length c1) := h1.at_.cell 0
  have z1 : w1.cell? ⟨kv, v, none⟩ = some (.pointer (some ⟨gs[v], 0, none⟩)) := by
    have := h1.volume hv
    rw [Addr.add_mid, Nat.zero_add] at this
    exact this
  have hb1 := s1.below hB H.out.footB
  have HKT : Hid (∀ (k : Nat) (t : TypeId) (cs : Array Value), At w k t cs → t ≠ 59 → t ≠ 61 → At w1 k t cs) := Lib.hid fun _ _ _ ha a b => hst ha a b
  have hE := scan1_any HW.out (HOK.out w1 hb1) (hv1.vol v hv hv2) (hst H10.out (by decide) (by decide)) hB10
  have HE := Lib.hid hE
  have H1 := Lib.hid h1
  have HV1 := Lib.hid hv1
  have HB1 := Lib.hid hb1
  clear h1 hv1 s1 hb1 hE HM hst
  go_wp2_with fail
  refine HE.out.mono ?_
  rintro e w2 ⟨rfl, s', A, c, hps, _, ha2, w3, st3, rfl, hv3, hx3⟩
  have hL3 := H1.out.keptS st3.kept
  have hV3 := HV1.out.step hv hv3 st3
  have hb3 := HB1.out.trans st3.below
  have hs3 : B ≤ w3.heap.size := Nat.le_trans hB10 (Nat.le_of_lt hx3.lt)
  have HL2 := Lib.hid (hL3.cellS (i := 0) hx3 (by decide) (by decide) (by decide) (.slice A n c))
  have HV2 := Lib.hid (hV3.cellS (i := 0) hx3 (by decide) (by decide) (.slice A n c))
  have HA2 := Lib.hid ha2
  have HK2 : Hid (KLx b10 w (w3.setCell ⟨b10, 0, none⟩ (.slice A n c))) := Lib.hid fun k t cs hne ha n1 n2 n3 n4 => (far_heap w3 b10 0 (.slice A n c) hne).trans (st3.toStay0.at_ (HKT.out _ _ _ ha n1 n2) n3 n4)
  have HB2 := Lib.hid (below_of_grownBy hb3 (grown_cell w3 b10 0 (.slice A n c)) hs3 hB10)
  clear HKT ha2 st3 hv3 hx3 hL3 hV3 hb3 HE H1 HV1 HB1 z0 z1
  generalize w3.setCell ⟨b10, 0, none⟩ (.slice A n c) = w4 at *
  go_wp2
  go_ret
  exact ⟨rfl, HL2.out, ⟨s', hps, HV2.out⟩, ⟨A, c, HA2.out⟩, HB2.out, HK2.out⟩

set_option maxRecDepth 100000 in
set_option maxHeartbeats 1000000 in
/-- Scan of a volume that can be mounted -/
theorem libscan_any {w : World} {B g : Nat} {v1 v2 : Value} {gs : List Nat} {ds : List Dr} {mv mt : Int} {ss : List VS} {P : VS → Prop} {n : Nat} {er : Int} {ok : World → Prop} (h : LibAt w B g v1 v2 gs ds mv mt) (hB : B ≤ w.heap.size) (hV : Vols w B gs ss) (hlo : ∀ s ∈ ss, s.lo = false) (hlen : ds.length ≤ 1000) (hmv : 0 ≤ mv ∧ mv ≤ 1000000000000) (hmt : 0 ≤ mt ∧ mt ≤ 1000000000000)
    (v : Nat) (hv : v < gs.length) (hv2 : v < ss.length) (he : (mountF gs.length ds mv mt (v : Int)).e = 0)
    (hW : ScansT gs[v] B ss[v] P n er ok) (hok : ∀ W, Below B w W → ok W) :
    Calls Tryd.prog 10 #[.pointer (some ⟨g, 0, none⟩), .int .i64 (v : Int)] w fun e w' => ∃ A c, e = .returned (.tuple #[.slice A n c, .int .i64 er]) ∧ LibAt w' B g v1 v2 gs (mountF gs.length ds mv mt (v : Int)).ds (mountF gs.length ds mv mt (v : Int)).mv (mountF gs.length ds mv mt (v : Int)).mt ∧ (∃ s', P s' ∧ Vols w' B gs (ss.set v s')) ∧ Below B w w' ∧ KL w w' := by
  have hU := fun W (hb : Below w.heap.size w W) (b10 : Nat) (h10 : At W b10 36 #[.slice none 0 0]) (hB10 : B ≤ b10) =>
    use_scan (h.below hb) (Nat.le_trans hB hb.size) (hV.below hb) hlo hlen hmv hmt v hv hv2 h10 hB10 he hW (fun W2 h2 => hok W2 ((hb.mono hB).trans h2))
  have HU := Lib.hid hU
  clear hU h hV he hW hok
  have hmf : ∀ (fn : Fn) (first cap : Array Value) (w : World), (Instr.makeFunc fn first cap).run Tryd.prog w = .ok (.func fn first cap) w := fun _ _ _ _ => rfl
  go_enter Tryd.func10, Tryd.ntmps10
  go_wp2_with fail
  have a10 : At (w.alloc (.cells #[.slice none 0 0] 36)) w.heap.size 36 #[.slice none 0 0] := At.new w _ _
  have hb3 : Below w.heap.size w (w.alloc (.cells #[.slice none 0 0] 36)) := (Below.refl _ w).alloc (Nat.le_refl _) _
  have hC := HU.out _ hb3 _ a10 (by omega)
  have HB3 := Lib.hid (hb3.mono hB)
  have HK3 : Hid (∀ (k : Nat) (t : TypeId) (cs : Array Value), At w k t cs → At _ k t cs) := Lib.hid fun k t cs ha => ha.below hb3 ha.lt
  clear a10 hb3 HU
  generalize (w.alloc (.cells #[.slice none 0 0] 36)) = w3 at *
  refine hC.mono ?_
  rintro e w4 ⟨rfl, h1, h2, ⟨A, c, h3⟩, h4, h5⟩
  have c10 : w4.cell? ⟨w.heap.size, 0, none⟩ = some (.slice A n c) := h3.cell 0
  have H1 := Lib.hid h1
  have H2 := Lib.hid h2
  have H4 := Lib.hid (HB3.out.trans h4)
  have H5 : Hid (KL w w4) := Lib.hid fun k t cs ha n1 n2 n3 n4 => h5 _ _ _ (by have := ha.lt; omega) (HK3.out _ _ _ ha) n1 n2 n3 n4
  clear h1 h2 h3 h4 h5 hC HK3
  go_wp2
  go_ret2
  exact ⟨A, c, rfl, H1.out, H2.out, H4.out, H5.out⟩

/-- what it does to a volume of blobs -/
theorem blobsR_scan {B g K : Nat} {s : VS} {R : Int} {lab : ByteArray} {l : List (Nat × List UInt8)} (hg : s.BlobsR R lab l) (he : s.er ≤ K) (hB : 0 < B) (hl : lab.size ≤ 32) (hn : l.length ≤ 20) :
    ScansT g B s (fun s' => s'.BlobsR R lab l ∧ s'.er ≤ K) l.length 0 Steps := by
  intro W hS h
  have := tscan_any h hg.good.calm hS hB
  rw [hg.scan hl hn] at this
  unfold ScanEnds at this
  simp only at this
  refine this.mono ?_
  rintro e w' ⟨v, rfl, hr, ⟨pos, hv⟩, hst⟩
  obtain ⟨A, c, rfl, _⟩ := row_form hr
  rw [itemsOf_len]
  exact ⟨A, c, _, rfl, ⟨_, ⟨hg.pos pos, he⟩, hv⟩, hst⟩
theorem LB.scanK {W : World} {B g nv K : Nat} {R : Int} {Ms : List (ByteArray × List (Nat × List UInt8))} (h : LB W B g R nv K Ms) (hS : ∀ W', Below B W W' → Steps W') (hB : 0 < B) (hK : K ≤ 900) (v : Nat) (hv : v < nv) (hv2 : v < Ms.length) (hl : Ms[v].1.size ≤ 32) (hn : Ms[v].2.length ≤ 20) :
    Calls Tryd.prog 10 #[.pointer (some ⟨g, 0, none⟩), .int .i64 (v : Int)] W fun e w' => ∃ A c, e = .returned (.tuple #[.slice A Ms[v].2.length c, .int .i64 0]) ∧ LB w' B g R nv (K + 1) Ms ∧ Below B W w' ∧ KL W w' := by
  have hbz := h.bz
  obtain ⟨v1, v2, gs, ds, mv, mt, ss, h1, h2, h3, h4, h5, h6, h7, h8, h9⟩ := h
  obtain ⟨m1, m2, m3, m4⟩ := mount_free (n := gs.length) h3 mv mt (v : Int) ⟨by omega, by omega⟩
  have hvs : v < ss.length := by omega
  obtain ⟨hb, he⟩ := h9 v hvs hv2
  have hlo : ∀ s ∈ ss, s.lo = false := fun s hs => by
    obtain ⟨i, hi, rfl⟩ := List.getElem_of_mem hs
    exact (h9 i hi (by omega)).1.good.calm.lo
  refine (libscan_any h1 hbz h2 hlo (by have := h3.le; omega) (by omega) (by omega) v (by omega) hvs m1 (blobsR_scan hb he hB hl hn) hS).mono ?_
  rintro e w' ⟨A, c, rfl, a1, ⟨s', ⟨hs', hs2⟩, a2⟩, a3, a4⟩
  refine ⟨A, c, rfl, ⟨v1, v2, gs, _, _, _, _, a1, a2, m2, by omega, by omega, h6, by rw [List.length_set]; exact h7, h8, fun i hi hi2 => ?_⟩, a3, a4⟩
  rw [List.length_set] at hi
  rw [List.getElem_set]
  split
  · rename_i e
    subst e
    exact ⟨hs', by omega⟩
  · have := h9 i hi hi2
    exact ⟨this.1, by omega⟩
end Go.Proofs.YtniecodpdmjppaaDoor

/- LibraryBlobs: what was written, and where. -/
namespace Go.Proofs.YtniecodpdmjppaaDoor
open Go.RowKit
open Sm
set_option linter.unusedVariables false
set_option linter.unusedSimpArgs false

/-- the volume that a number says -/
def vOf (x : Int) : Nat := ((x.tmod 3 + 3).tmod 3).toNat
theorem vOf_parts (x : Int) : ∃ r : Int, x.tmod 3 = r ∧ -3 < r ∧ r < 3 ∧ (r + 3).tmod 3 = (vOf x : Int) ∧ vOf x < 3 := by
  have h1 := Int.tmod_lt_of_pos x (by omega : (0 : Int) < 3)
  have h2 : -3 < x.tmod 3 := by
    have := Int.tmod_lt_of_pos (-x) (by omega : (0 : Int) < 3)
    rw [Int.neg_tmod] at this
    omega
  have h3 : 0 ≤ (x.tmod 3 + 3).tmod 3 := Int.tmod_nonneg _ (by omega)
  have h4 := Int.tmod_lt_of_pos (x.tmod 3 + 3) (by omega : (0 : Int) < 3)
  unfold vOf
  exact ⟨_, rfl, by omega, by omega, by omega, by omega⟩
abbrev BLs := List (ByteArray × List (Nat × List UInt8))
/-- how many blobs each has -/
def cnts (Ms : BLs) : Array Value := (Ms.map fun x => Value.int .i64 ((x.2.length : Nat) : Int)).toArray
theorem cnts_get {Ms : BLs} {v : Nat} (h : v < Ms.length) : (cnts Ms)[v]? = some (.int .i64 ((Ms[v].2.length : Nat) : Int)) := by
  unfold cnts
  rw [List.getElem?_toArray, List.getElem?_map, List.getElem?_eq_getElem h]
  rfl
theorem cnts_set {Ms : BLs} {v : Nat} (x : ByteArray × List (Nat × List UInt8)) : (cnts Ms).setIfInBounds v (.int .i64 ((x.2.length : Nat) : Int)) = cnts (Ms.set v x) := by
  unfold cnts
  rw [List.map_set]
  simp
def natVs (ps : List Nat) : List Value := ps.map fun p => .int .i64 ((p : Nat) : Int)
theorem natVs_get {ps : List Nat} {i p : Nat} (h : ps[i]? = some p) : (natVs ps)[i]? = some (.int .i64 ((p : Nat) : Int)) := by unfold natVs; rw [List.getElem?_map, h]; rfl

structure Wrote (m : List Bl) (vs : List Int) (k : Nat) (Ms : BLs) (ps : List Nat) : Prop where
  len : Ms.length = 3
  lenp : ps.length = k
  lab : ∀ i (h : i < Ms.length), Ms[i].1 = ⟨#[]⟩ ∧ Ms[i].2.length ≤ k
  at_ : ∀ i, i < k → ∀ (hm : i < m.length) (hv : i < vs.length), ∃ (hV : vOf vs[i] < Ms.length) (j : Nat) (hj : j < (Ms[vOf vs[i]]).2.length), (Ms[vOf vs[i]]).2[j] = (m[i].id, m[i].data.data.toList) ∧ ps[i]? = some (tapeN ((Ms[vOf vs[i]]).2.take j))
theorem Wrote.new (m : List Bl) (vs : List Int) : Wrote m vs 0 (List.replicate 3 (⟨#[]⟩, [])) [] := ⟨List.length_replicate, rfl, fun i h => by rw [List.getElem_replicate]; exact ⟨rfl, Nat.le_refl _⟩, fun i h => absurd h (Nat.not_lt_zero _)⟩
theorem Wrote.step {m : List Bl} {vs : List Int} {k : Nat} {Ms : BLs} {ps : List Nat} (h : Wrote m vs k Ms ps) (hm : k < m.length) (hv : k < vs.length) (hV : vOf vs[k] < Ms.length) :
    Wrote m vs (k + 1) (Ms.set (vOf vs[k]) ((Ms[vOf vs[k]]).1, (Ms[vOf vs[k]]).2 ++ [(m[k].id, m[k].data.data.toList)])) (ps ++ [tapeN (Ms[vOf vs[k]]).2]) := by
  refine ⟨by rw [List.length_set]; exact h.len, by rw [List.length_append, h.lenp]; rfl, fun i hi => ?_, fun i hi hm' hv' => ?_⟩
  · rw [List.length_set] at hi
    rw [List.getElem_set]
    split
    · have := h.lab _ hV
      exact ⟨this.1, by simp; omega⟩
    · have := h.lab i hi
      exact ⟨this.1, by omega⟩
  · by_cases e : i = k
    · subst e
      refine ⟨by rw [List.length_set]; exact hV, (Ms[vOf vs[i]]).2.length, ?_, ?_, ?_⟩
      · rw [List.getElem_set, if_pos rfl]
        simp
      · simp only [List.getElem_set, if_true]
        simp
      · simp only [List.getElem_set, if_true]
        rw [List.getElem?_append_right (by rw [h.lenp]; exact Nat.le_refl _), h.lenp, Nat.sub_self, List.take_left']
        · rfl
        · rfl
    · have hik : i < k := by omega
      obtain ⟨hVi, j, hj, h1, h2⟩ := h.at_ i hik hm' hv'
      have hps : (ps ++ [tapeN (Ms[vOf vs[k]]).2])[i]? = ps[i]? := List.getElem?_append_left (by rw [h.lenp]; exact hik)
      rw [hps]
      by_cases ev : vOf vs[k] = vOf vs[i]
      · have eM : Ms[vOf vs[k]] = Ms[vOf vs[i]] := by congr 1
        refine ⟨by rw [List.length_set]; exact hVi, j, ?_, ?_, ?_⟩
        · rw [List.getElem_set, if_pos ev, eM]
          simp
          omega
        · simp only [List.getElem_set, if_pos ev]
          rw [List.getElem_append_left (by rw [eM]; exact hj)]
          simp only [eM]
          exact h1
        · simp only [List.getElem_set, if_pos ev]
          rw [List.take_append_of_le_length (by rw [eM]; omega), eM]
          exact h2
      · refine ⟨by rw [List.length_set]; exact hVi, j, ?_, ?_, ?_⟩
        · rw [List.getElem_set, if_neg ev]
          exact hj
        · simp only [List.getElem_set, if_neg ev]
          exact h1
        · simp only [List.getElem_set, if_neg ev]
          exact h2

section
variable {W W' : World} {B g nv K : Nat} {R : Int} {Ms : BLs}
/-- other blocks are written -/
theorem LB.other (h : LB W B g R nv K Ms) (hk : ∀ k t cs, At W k t cs → (t = 59 ∨ t = 61 ∨ t = 40 ∨ t = 51 ∨ t = 101) → W'.heap[k]? = W.heap[k]?) : LB W' B g R nv K Ms := by
  obtain ⟨v1, v2, gs, ds, mv, mt, ss, h1, h2, h3⟩ := h
  refine ⟨v1, v2, gs, ds, mv, mt, ss, h1.keep (hk _ _ _ h1.at_ (.inl rfl)) (fun b e => ?_) (fun b e => ?_), h2.keep fun k hk' => ?_, h3⟩
  · obtain ⟨cur, hc⟩ := row_at h1.vrow e
    exact hk _ _ _ hc (.inr (.inr (.inl rfl)))
  · obtain ⟨cur, hc⟩ := row_at h1.drow e
    exact hk _ _ _ hc (.inr (.inl rfl))
  · rcases hk' with ⟨cs, hc⟩ | ⟨cs, hc⟩
    · exact hk _ _ _ hc (.inr (.inr (.inr (.inl rfl))))
    · exact hk _ _ _ hc (.inr (.inr (.inr (.inr rfl))))
theorem LB.row {C n z : Nat} {v : Value} {xs : List Value} (h : LB W B g R nv K Ms) (hr : W.ownsRow C 3 z v n xs) (hg : W.grownBy W' v.ownBlock) : LB W' B g R nv K Ms := h.other fun k t cs hc ht => hg.block k hc.lt fun e => by
  obtain ⟨cur, hc2⟩ := row_at hr e.symm
  rcases ht with rfl | rfl | rfl | rfl | rfl <;> exact At.differ hc2 hc (by decide) rfl
theorem LB.cell {k i : Nat} {cs : Array Value} (h : LB W B g R nv K Ms) (hk : At W k 3 cs) (u : Value) : LB (W.setCell ⟨k, i, none⟩ u) B g R nv K Ms := h.other fun b t c hc ht => far_heap W k i u fun e => by
  subst e
  rcases ht with rfl | rfl | rfl | rfl | rfl <;> exact At.differ hk hc (by decide) rfl
end

/-- the state between the writes -/
structure BQ (w : World) (B C g kc : Nat) (v : Value) (K k : Nat) (Ms : BLs) (ps : List Nat) (wr : World) : Prop where
  lb : LB wr C g 20000 3 K Ms
  row : wr.ownsRow C 3 1 v k (natVs ps)
  cnt : At wr kc 3 (cnts Ms)
  ne : ∀ b, v.ownBlock = some b → b ≠ kc
  below : Below B w wr
theorem BQ.step {w wr W' : World} {B C g kc K K' k : Nat} {v : Value} {Ms Ms' : BLs} {ps : List Nat} (h : BQ w B C g kc v K k Ms ps wr) (hl : LB W' C g 20000 3 K' Ms') (hB : Below C wr W') (hBC : B ≤ C) (hk : KL wr W') :
    LB W' C g 20000 3 K' Ms' ∧ W'.ownsRow C 3 1 v k (natVs ps) ∧ At W' kc 3 (cnts Ms) ∧ Below B w W' :=
  ⟨hl, hk.row h.row (by decide) (by decide) (by decide) (by decide), hk _ _ _ h.cnt (by decide) (by decide) (by decide) (by decide), h.below.trans (hB.mono hBC)⟩
theorem BQ.drew {w wr : World} {B C g kc K k : Nat} {v : Value} {Ms : BLs} {ps : List Nat} (h : BQ w B C g kc v K k Ms ps wr) : BQ w B C g kc v K k Ms ps wr.drew :=
  ⟨h.lb.below (Below.drew (Below.refl _ _)), h.row.drew, h.cnt.below (Below.drew (Below.refl _ _)) h.cnt.lt, h.ne, Below.drew h.below⟩
end Go.Proofs.YtniecodpdmjppaaDoor
