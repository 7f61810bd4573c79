/- bytes.Equal, bytes.HasPrefix, and the methods of platter.file: their walks. -/
import Derived.Test.YtplmflagffloeaaDoorP1
import Derived.Test.YtplmflagffloeaaDoorPk
import Derived.Laws.IdiomStrings
import Derived.Laws.BytesArg
import Derived.WalkKit
import Derived.WalkSpells
import Derived.WalkLawsBesides
import Derived.Handy
import Derived.Deep.QuietTactic
import Derived.BigQuiet
namespace Go.Proofs.YtplmflagffloeaaDoor
open Go.RowKit
open Pm (Key Fi St Files)
set_option linter.unusedVariables false

theorem TxIs.cells {w : World} {B : Nat} {x : Tx} {bs : List UInt8} (h : TxIs w B x bs) {g : Nat} (hg : x.g = some g) {j : Nat} (hj : j < bs.length) : w.cell? ⟨g, j, none⟩ = some (.int .u8 (bs[j].toNat : Int)) := by
  have hown := h.2
  have hv : x.val = .slice (some ⟨g, 0, none⟩) x.n x.c := by unfold Tx.val; rw [hg]; rfl
  rw [hv] at hown
  have hc := hown.cells (g := g) rfl j (.int .u8 (bs[j].toNat : Int)) (by simp [Lib.byteCells, hj])
  have e : (⟨g, 0, none⟩ : Addr).add j = ⟨g, j, none⟩ := by simp [Addr.add]; omega
  rwa [e] at hc

/-- the first k bytes of a text, as a string -/
theorem TxIs.conv {w : World} {B : Nat} {x : Tx} {bs : List UInt8} (h : TxIs w B x bs) (k : Nat) (hk : k ≤ bs.length) (c : Nat) :
    (convert 79 9 (.slice (x.g.map fun g => ⟨g, 0, none⟩) k c)).run Tryd.prog w = .ok (.string ⟨(bs.take k).toArray⟩) w := by
  rcases h.block with ⟨h1, h2, _⟩ | ⟨g, cur, h1, _⟩
  · have hk0 : k = 0 := by have := h.1; omega
    subst hk0
    rw [h1]
    exact run_convert_bytes_nil (w := w) _ _ Tryd.underlying79 Tryd.underlying5 _ _ _ Tryd.underlying9
  · rw [h1]
    have hl : (bs.take k).length = k := by rw [List.length_take]; omega
    have := run_convert_bytes_back (P := Tryd.prog) w 79 9 5 ⟨g, 0, none⟩ c (bs.take k) Tryd.underlying79 Tryd.underlying5 Tryd.underlying9 (fun j hj => by
      have e : (⟨g, 0, none⟩ : Addr).add j = ⟨g, j, none⟩ := by simp [Addr.add]; omega
      rw [e, List.getElem_take]
      exact h.cells h1 (by omega))
    rw [hl] at this
    exact this

theorem toArray_beq (a b : List UInt8) : ((⟨a.toArray⟩ : ByteArray).toList == (⟨b.toArray⟩ : ByteArray).toList) = (a == b) := by
  rw [ByteArray.toList_eq, ByteArray.toList_eq]

set_option maxHeartbeats 400000 in
theorem equal_any (va vb : Value) (a b : List UInt8) (w : World) (ha : (convert 79 9 va).run Tryd.prog w = .ok (.string ⟨a.toArray⟩) w) (hb : (convert 79 9 vb).run Tryd.prog w = .ok (.string ⟨b.toArray⟩) w) :
    Calls Tryd.prog 60 #[va, vb] w fun e w' => e = .returned (.bool (a == b)) ∧ w' = w := by
  go_enter Tryd.func60, Tryd.ntmps60
  go_wp2
  go_ret
  exact ⟨rfl, rfl⟩

/-- what bytes.HasPrefix answers -/
def starts (a b : List UInt8) : Bool := decide (b.length ≤ a.length) && (a.take b.length == b)

set_option maxHeartbeats 400000 in
theorem prefix_any {x y : Tx} {a b : List UInt8} {w : World} {B : Nat} (hx : TxIs w B x a) (hy : TxIs w B y b) :
    Calls Tryd.prog 62 #[x.val, y.val] w fun e w' => e = .returned (.bool (starts a b)) ∧ w' = w := by
  have hxc : x.n ≤ x.c := by rcases hx.block with ⟨_, h1, h2⟩ | ⟨_, _, _, _, _, h1, _⟩ <;> omega
  have hca := hx.conv b.length
  have hcb := hy.conv b.length (Nat.le_refl _)
  have h1 := hx.1
  have h2 := hy.1
  obtain ⟨g, n, c⟩ := x
  obtain ⟨g', n', c'⟩ := y
  simp only at h1 h2 hxc hca hcb
  subst h1 h2
  unfold Tx.val
  simp only
  rw [List.take_length] at hcb
  by_cases h : b.length ≤ a.length
  · have e0 : starts a b = (a.take b.length == b) := by simp [starts, h]
    rw [e0]
    have hca := hca h
    have hcb := hcb c'
    have hE := fun c => equal_any (.slice (g.map fun g => ⟨g, 0, none⟩) b.length c) (.slice (g'.map fun g => ⟨g, 0, none⟩) b.length c') _ _ w (hca c) hcb
    clear hca hcb e0 hx hy
    generalize (g.map fun g => (⟨g, 0, none⟩ : Addr)) = A at *
    generalize (g'.map fun g => (⟨g, 0, none⟩ : Addr)) = A' at *
    generalize (a.take b.length == b) = r at *
    go_enter Tryd.func62, Tryd.ntmps62
    go_wp2_with fail
    refine (hE _).mono ?_
    rintro e w1 ⟨rfl, rfl⟩
    go_wp2
    go_ret
    exact ⟨rfl, rfl⟩
  · have e0 : starts a b = false := by simp [starts]; omega
    rw [e0]
    go_enter Tryd.func62, Tryd.ntmps62
    go_wp2
    go_ret
    exact ⟨rfl, rfl⟩

set_option maxHeartbeats 400000 in
theorem weight_any (f : FV) (w : World) :
    Calls Tryd.prog 65 #[f.val] w fun e w' => e = .returned (.int .i64 ((max f.a.n f.b.n : Nat) : Int)) ∧ w' = w.alloc (.cells #[f.a.val, .bool f.ea, f.b.val, .bool f.eb] 83) := by
  obtain ⟨⟨g, n, c⟩, ea, ⟨g', n', c'⟩, eb⟩ := f
  unfold FV.val Tx.val
  simp only
  by_cases h : n < n'
  · have e0 : ((max n n' : Nat) : Int) = (n' : Int) := by omega
    go_enter Tryd.func65, Tryd.ntmps65
    go_wp2
    go_ret
    exact ⟨by rw [e0]; rfl, rfl⟩
  · have e0 : ((max n n' : Nat) : Int) = (n : Int) := by omega
    go_enter Tryd.func65, Tryd.ntmps65
    go_wp2
    go_ret
    exact ⟨by rw [e0]; rfl, rfl⟩

theorem TxIs.alloc {w : World} {B : Nat} {x : Tx} {bs : List UInt8} (h : TxIs w B x bs) (o : Obj) : TxIs (w.alloc o) B x bs := h.of_block (g := 0) fun g hg => Below.heap_alloc w o g (h.lt hg).2

set_option maxHeartbeats 400000 in
theorem safe_any {f : FV} {x : Fi} {w : World} {B : Nat} (h : FileIs w B f x) :
    Calls Tryd.prog 35 #[f.val] w fun e w' => e = .returned (.bool x.safe) ∧ w' = w.alloc (.cells #[f.a.val, .bool f.ea, f.b.val, .bool f.eb] 83) := by
  have hca : ∀ o c, (convert 79 9 (.slice (f.a.g.map fun g => ⟨g, 0, none⟩) x.now.t.length c)).run Tryd.prog (w.alloc o) = .ok (.string ⟨x.now.t.toArray⟩) (w.alloc o) := fun o c => by
    have := (h.a.alloc o).conv _ (Nat.le_refl _) c
    rwa [List.take_length] at this
  have hcb : ∀ o c, (convert 79 9 (.slice (f.b.g.map fun g => ⟨g, 0, none⟩) x.sure.t.length c)).run Tryd.prog (w.alloc o) = .ok (.string ⟨x.sure.t.toArray⟩) (w.alloc o) := fun o c => by
    have := (h.b.alloc o).conv _ (Nat.le_refl _) c
    rwa [List.take_length] at this
  have h1 := h.a.1
  have h2 := h.b.1
  have h3 := h.ea
  have h4 := h.eb
  clear h
  obtain ⟨⟨g, n, c⟩, ea, ⟨g', n', c'⟩, eb⟩ := f
  obtain ⟨⟨ex, t⟩, ⟨ex', t'⟩⟩ := x
  simp only at h1 h2 h3 h4 hca hcb
  subst h1 h2 h3 h4
  unfold FV.val Tx.val Pm.Fi.safe
  simp only
  have hE := fun o => equal_any (.slice (g.map fun g => ⟨g, 0, none⟩) t.length c) (.slice (g'.map fun g => ⟨g, 0, none⟩) t'.length c') _ _ (w.alloc o) (hca o c) (hcb o c')
  clear hca hcb
  generalize (g.map fun g => (⟨g, 0, none⟩ : Addr)) = A at *
  generalize (g'.map fun g => (⟨g, 0, none⟩ : Addr)) = A' at *
  generalize (t == t') = r at *
  by_cases he : ea = eb
  · have hee : (ea == eb) = true := by simp [he]
    rw [hee]
    subst he
    go_enter Tryd.func35, Tryd.ntmps35
    go_wp2_with fail
    refine (hE _).mono ?_
    rintro e w1 ⟨rfl, rfl⟩
    go_wp2
    go_ret
    exact ⟨by simp, rfl⟩
  · have hee : (ea == eb) = false := by simpa using he
    rw [hee]
    go_enter Tryd.func35, Tryd.ntmps35
    go_wp2
    go_ret
    exact ⟨by simp, rfl⟩

/-- a state as the program holds it -/
structure StIs (w : World) (B : Nat) (t : Tx) (ex : Bool) (x : St) : Prop where
  t : TxIs w B t x.t
  ex : ex = x.ex
  ok : x.ex = false → x.t = []

theorem TxIs.shorter {w : World} {B : Nat} {x : Tx} {bs : List UInt8} (h : TxIs w B x bs) {k : Nat} (hk : k ≤ bs.length) : TxIs w B ⟨x.g, k, x.c⟩ (bs.take k) := by
  have hl : (bs.take k).length = k := by rw [List.length_take]; omega
  refine ⟨hl.symm, by unfold Lib.byteCells; rw [List.length_map, hl, Nat.mul_one], ?_⟩
  rcases h.block with ⟨h1, h2, h3⟩ | ⟨g, cur, h1, h2, h3, h4, h5, h6, h7⟩
  · left
    have h0 : k = 0 := by have := h.1; omega
    subst h0
    unfold Tx.val
    rw [h1, h3]
    exact ⟨rfl, rfl⟩
  · right
    refine ⟨g, x.c, cur, by unfold Tx.val; rw [h1]; rfl, h2, h3, Nat.le_trans hk (by have := h.1; omega), h5, by omega, ?_⟩
    simp only [Nat.mul_one]
    have h8 := congrArg (List.take k) h7
    rw [List.take_take, Nat.min_eq_left (by have := h.1; omega)] at h8
    rw [h8]
    unfold Lib.byteCells
    rw [List.map_take]

theorem results_row {fn : Func} {p : Tmp} {ty : TypeId} (h : fn.results = #[.cell p ty]) (tmps : Array Value) (w : World) (g : Nat) (t : TypeId) (cs : Array Value) (fs : Array Field)
    (hp : tmps.getD p undef = .pointer (some ⟨g, 0, none⟩)) (hg : At w g t cs) (hu : Tryd.prog.underlying ty = some (.struct fs)) (hi : (Tryd.prog.info? ty).map (·.size) = some cs.size) :
    (results fn tmps).run Tryd.prog w = .ok (.agg cs) w := results_cell_row h tmps w g t cs (0, 0) (.struct fs) hp hg hu rfl hi

def LeftEnds (w : World) (B : Nat) (f : FV) (x : St) (e : Ending) (w' : World) : Prop :=
  ∃ t ex, e = .returned (.agg #[t.val, .bool ex]) ∧ StIs w' B t ex x ∧ (t.g = none ∨ t.g = f.a.g ∨ t.g = f.b.g) ∧ Below w.heap.size w w'
theorem below_two (w : World) (a b : Obj) : Below w.heap.size w ((w.alloc a).alloc b) := ((Below.refl _ w).alloc (Nat.le_refl _) a).alloc (by simp) b

set_option maxRecDepth 100000 in
set_option maxHeartbeats 1000000 in
theorem left_any {f : FV} {x : Fi} {w : World} {B : Nat} (h : FileIs w B f x) (hB : B ≤ w.heap.size) (A : Option Addr) (c : Nat) (l : List Int) (at_ : Int) (Bl : Nat) (hBl : Bl ≤ w.heap.size) (hL : Lies w Bl A (ints l)) (hl : ∀ x ∈ l, -9223372036854775808 ≤ x ∧ x ≤ 9223372036854775807) (hlen : l.length ≤ 9223372036854775807)
    (hb1 : x.now.t.length ≤ 140737488355328) (hb2 : x.sure.t.length ≤ 140737488355328) :
    Calls Tryd.prog 37 #[f.val, .slice A l.length c, .int .i64 at_] w (LeftEnds w B f (Pm.left x (pickR l at_))) := by
  have hpr := fun o => prefix_any (h.a.alloc o) (h.b.alloc o)
  have HF := Lib.hid h
  have HL := Lib.hid hL
  have hxc : f.a.n ≤ f.a.c := by rcases h.a.block with ⟨_, h1, h2⟩ | ⟨_, _, _, _, _, h1, _⟩ <;> omega
  have h1 := h.a.1
  have h2 := h.b.1
  have h3 := h.ea
  have h4 := h.eb
  clear h hL
  obtain ⟨⟨g, n, c1⟩, ea, ⟨g', n', c1'⟩, eb⟩ := f
  obtain ⟨⟨ex, t⟩, ⟨ex', t'⟩⟩ := x
  simp only at h1 h2 h3 h4 hpr hxc hb1 hb2
  subst h1 h2 h3 h4
  unfold FV.val
  unfold Tx.val at hpr ⊢
  simp only at hpr ⊢
  have hLa : ∀ o o', Lies ((w.alloc o).alloc o') Bl A (ints l) := fun o o' => HL.out.below (((Below.refl _ w).alloc hBl o).alloc (by simp; omega) o')
  have hFa : ∀ o o', TxIs ((w.alloc o).alloc o') B ⟨g, t.length, c1⟩ t ∧ TxIs ((w.alloc o).alloc o') B ⟨g', t'.length, c1'⟩ t' := fun o o' => ⟨(HF.out.a.alloc o).alloc o', (HF.out.b.alloc o).alloc o'⟩
  have hok1 : ea = false → t = [] := HF.out.ok.1
  have hok2 : eb = false → t' = [] := HF.out.ok.2
  generalize hA1 : (g.map fun g => (⟨g, 0, none⟩ : Addr)) = A1 at *
  generalize hA2 : (g'.map fun g => (⟨g, 0, none⟩ : Addr)) = A2 at *
  have HA1 := Lib.hid hA1; clear hA1
  have HA2 := Lib.hid hA2; clear hA2
  have HFa := Lib.hid hFa; clear hFa
  have HLa := Lib.hid hLa; clear hLa
  have HOK := Lib.hid (And.intro hok1 hok2); clear hok1 hok2
  have hst' : starts t t' = true → t'.length < t.length → (t'.length < t.length ∧ t.take t'.length = t') := fun h h' => ⟨h', by unfold starts at h; simp at h; exact h.2⟩
  have hsf' : starts t t' = false → ¬(t'.length < t.length ∧ t.take t'.length = t') := fun h h' => by unfold starts at h; simp at h; exact h (by omega) h'.2
  have hprr : ∀ o o', Calls Tryd.prog 62 #[.slice A1 t.length c1, .slice A2 t'.length c1'] ((w.alloc o).alloc o') fun e w' => e = .returned (.bool (starts t t')) ∧ w' = (w.alloc o).alloc o' := fun o o' => by
    have := prefix_any (HFa.out o o').1 (HFa.out o o').2
    unfold Tx.val at this
    simp only [HA1.out, HA2.out] at this
    exact this
  clear hpr
  by_cases hmore : t'.length < t.length
  · cases hst : starts t t' with
    | true =>
      have hc := hst' hst hmore
      have hX : Pm.left ⟨⟨ea, t⟩, ⟨eb, t'⟩⟩ (pickR l at_) = (if pickR l at_ ((t.length : Int) - t'.length + 1) = 0 then (⟨eb, t'⟩ : St) else ⟨true, t.take (t'.length + (pickR l at_ ((t.length : Int) - t'.length + 1)).toNat)⟩) := by
        unfold Pm.left
        simp only
        rw [if_pos hc]
      rw [hX]
      clear hX
      rw [hst] at hprr
      clear hst' hsf' hst
      have hrg := pick_range l at_ ((t.length : Int) - t'.length + 1)
      obtain ⟨pk, hpk⟩ : ∃ pk, pickR l at_ ((t.length : Int) - t'.length + 1) = pk := ⟨_, rfl⟩
      have HPK := Lib.hid hpk; clear hpk
      rw [HPK.out] at hrg ⊢
      obtain ⟨hr0, hr1⟩ := hrg
      have hr2 := hr1 (by omega)
      obtain ⟨q, rfl⟩ := Int.eq_ofNat_of_zero_le hr0
      clear hr0 hr1
      by_cases hq : q = 0
      · subst hq
        rw [if_pos (show ((0 : Nat) : Int) = 0 from rfl)]
        go_enter Tryd.func37, Tryd.ntmps37
        go_wp2_with fail
        refine (hprr _ _).mono ?_
        rintro e w0 ⟨rfl, rfl⟩
        go_wp2_with fail
        refine (pick_any A c l at_ _ Bl _ (HLa.out _ _) hl hlen (by omega)).mono ?_
        rintro e w1 ⟨rfl, rfl⟩
        rw [HPK.out]
        go_wp2
        refine bodyPost_ret (results_row rfl _ _ _ _ _ _ rfl (heap_alloc2_new w _ _) Tryd.underlying81 (by kernel_rfl)) rfl ?_
        exact ⟨⟨g', t'.length, c1'⟩, eb, by unfold Tx.val; simp only [HA2.out], ⟨(HFa.out _ _).2, rfl, HOK.out.2⟩, .inr (.inr rfl), below_two _ _ _⟩
      · rw [if_neg (by omega)]
        have hq1 : 1 ≤ q := by omega
        have hle : t'.length + q ≤ t.length := by omega
        have ebn : ((t'.length : Int) + (q : Int)).toNat = t'.length + q := by omega
        have hle2 : t'.length + q ≤ c1 := by omega
        go_enter Tryd.func37, Tryd.ntmps37
        go_wp2_with fail
        refine (hprr _ _).mono ?_
        rintro e w0 ⟨rfl, rfl⟩
        go_wp2_with fail
        refine (pick_any A c l at_ _ Bl _ (HLa.out _ _) hl hlen (by omega)).mono ?_
        rintro e w1 ⟨rfl, rfl⟩
        rw [HPK.out]
        go_wp2
        refine bodyPost_ret (results_row rfl _ _ _ _ _ _ rfl (heap_alloc2_new w _ _) Tryd.underlying81 (by kernel_rfl)) rfl ?_
        exact ⟨⟨g, t'.length + q, c1⟩, true, by unfold Tx.val; simp only [HA1.out], ⟨by rw [Int.toNat_natCast]; exact (HFa.out _ _).1.shorter hle, rfl, fun h => by cases h⟩, .inr (.inl rfl), below_two _ _ _⟩
    | false =>
      have hX : Pm.left ⟨⟨ea, t⟩, ⟨eb, t'⟩⟩ (pickR l at_) = if pickR l at_ 2 = 1 then ⟨ea, t⟩ else ⟨eb, t'⟩ := by
        unfold Pm.left
        simp only
        rw [if_neg (hsf' hst)]
      rw [hX]
      clear hX
      rw [hst] at hprr
      clear hst' hsf' hst
      obtain ⟨pk, hpk⟩ : ∃ pk, pickR l at_ 2 = pk := ⟨_, rfl⟩
      have HPK := Lib.hid hpk; clear hpk
      rw [HPK.out]
      by_cases hp1 : pk = 1
      · rw [if_pos hp1]
        subst hp1
        go_enter Tryd.func37, Tryd.ntmps37
        go_wp2_with fail
        refine (hprr _ _).mono ?_
        rintro e w0 ⟨rfl, rfl⟩
        go_wp2_with fail
        refine (pick_any A c l at_ 2 Bl _ (HLa.out _ _) hl hlen (by omega)).mono ?_
        rintro e w1 ⟨rfl, rfl⟩
        rw [HPK.out]
        go_wp2
        refine bodyPost_ret (results_row rfl _ _ _ _ _ _ rfl (heap_alloc2_new w _ _) Tryd.underlying81 (by kernel_rfl)) rfl ?_
        exact ⟨⟨g, t.length, c1⟩, ea, by unfold Tx.val; simp only [HA1.out], ⟨(HFa.out _ _).1, rfl, HOK.out.1⟩, .inr (.inl rfl), below_two _ _ _⟩
      · rw [if_neg hp1]
        go_enter Tryd.func37, Tryd.ntmps37
        go_wp2_with fail
        refine (hprr _ _).mono ?_
        rintro e w0 ⟨rfl, rfl⟩
        go_wp2_with fail
        refine (pick_any A c l at_ 2 Bl _ (HLa.out _ _) hl hlen (by omega)).mono ?_
        rintro e w1 ⟨rfl, rfl⟩
        rw [HPK.out]
        go_wp2
        refine bodyPost_ret (results_row rfl _ _ _ _ _ _ rfl (heap_alloc2_new w _ _) Tryd.underlying81 (by kernel_rfl)) rfl ?_
        exact ⟨⟨g', t'.length, c1'⟩, eb, by unfold Tx.val; simp only [HA2.out], ⟨(HFa.out _ _).2, rfl, HOK.out.2⟩, .inr (.inr rfl), below_two _ _ _⟩
  · have hX : Pm.left ⟨⟨ea, t⟩, ⟨eb, t'⟩⟩ (pickR l at_) = if pickR l at_ 2 = 1 then ⟨ea, t⟩ else ⟨eb, t'⟩ := by
      unfold Pm.left
      simp only
      rw [if_neg (by omega)]
    rw [hX]
    clear hX hst' hsf' hprr
    obtain ⟨pk, hpk⟩ : ∃ pk, pickR l at_ 2 = pk := ⟨_, rfl⟩
    have HPK := Lib.hid hpk; clear hpk
    rw [HPK.out]
    by_cases hp1 : pk = 1
    · rw [if_pos hp1]
      subst hp1
      go_enter Tryd.func37, Tryd.ntmps37
      go_wp2_with fail
      refine (pick_any A c l at_ 2 Bl _ (HLa.out _ _) hl hlen (by omega)).mono ?_
      rintro e w1 ⟨rfl, rfl⟩
      rw [HPK.out]
      go_wp2
      refine bodyPost_ret (results_row rfl _ _ _ _ _ _ rfl (heap_alloc2_new w _ _) Tryd.underlying81 (by kernel_rfl)) rfl ?_
      exact ⟨⟨g, t.length, c1⟩, ea, by unfold Tx.val; simp only [HA1.out], ⟨(HFa.out _ _).1, rfl, HOK.out.1⟩, .inr (.inl rfl), below_two _ _ _⟩
    · rw [if_neg hp1]
      go_enter Tryd.func37, Tryd.ntmps37
      go_wp2_with fail
      refine (pick_any A c l at_ 2 Bl _ (HLa.out _ _) hl hlen (by omega)).mono ?_
      rintro e w1 ⟨rfl, rfl⟩
      rw [HPK.out]
      go_wp2
      refine bodyPost_ret (results_row rfl _ _ _ _ _ _ rfl (heap_alloc2_new w _ _) Tryd.underlying81 (by kernel_rfl)) rfl ?_
      exact ⟨⟨g', t'.length, c1'⟩, eb, by unfold Tx.val; simp only [HA2.out], ⟨(HFa.out _ _).2, rfl, HOK.out.2⟩, .inr (.inr rfl), below_two _ _ _⟩
end Go.Proofs.YtplmflagffloeaaDoor
