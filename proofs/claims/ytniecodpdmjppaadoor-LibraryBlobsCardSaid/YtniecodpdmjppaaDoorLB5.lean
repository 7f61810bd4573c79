/- Lgs, Lgt, Lgu, Lgv: merged (a claim holds few files). -/
import Derived.Test.YtniecodpdmjppaaDoorLB4
import Derived.Test.YtniecodpdmjppaaDoorVd
/- library.Erase, with its closure: their walks. -/
namespace Go.Proofs.YtniecodpdmjppaaDoor
open Go.RowKit
set_option linter.unusedVariables false
set_option linter.unusedSimpArgs false

set_option maxRecDepth 100000 in
theorem erase1_any {W : World} {B gv b : Nat} {s : VS} {lab : ByteArray} (h : Vol W B gv s) (hb : At W b 9 #[.string lab]) (h1 : lab.size ≤ 1000000) (h2 : s.er < 1000000) :
    Calls Tryd.prog 30 #[.pointer (some ⟨gv, 0, none⟩), .pointer (some ⟨b, 0, none⟩)] W (VolEnds W B gv (s.erase lab)) := by
  have c0 : W.cell? ⟨b, 0, none⟩ = some (.string lab) := hb.cell 0
  have hE := erase_vol h lab h1 h2
  unfold VolEnds at hE ⊢
  have HE := Lib.hid hE
  clear hE h hb
  go_enter Tryd.func30, Tryd.ntmps30
  go_wp2_with fail
  refine HE.out.mono ?_
  rintro e w1 ⟨rfl, hv, hst⟩
  have HV := Lib.hid hv
  have HS := Lib.hid hst
  clear hv hst
  go_wp2
  go_ret
  exact ⟨rfl, HV.out, HS.out⟩

theorem LibAt.keptS {w w' : World} {B g : Nat} {v1 v2 : Value} {gs : List Nat} {ds : List Dr} {mv mt : Int} (h : LibAt w B g v1 v2 gs ds mv mt) (hk : Kept w w') : LibAt w' B g v1 v2 gs ds mv mt := by
  have one : ∀ {k : Nat} {t : TypeId} {cs : Array Value}, At w k t cs → t ≠ 51 → t ≠ 101 → w'.heap[k]? = w.heap[k]? := fun {k t cs} ha h1 h2 => by
    have ha' : w.heap[k]? = some (.cells cs t (0, 0)) := ha
    rw [ha', hk k _ ha' (by rintro cs fz e; injection e with _ e _; exact h1 e) (by rintro cs fz e; injection e with _ e _; exact h2 e)]
  exact h.keep (one h.at_ (by decide) (by decide)) (fun k e => by obtain ⟨cur, hc⟩ := row_at h.vrow e; exact one hc (by decide) (by decide)) (fun k e => by obtain ⟨cur, hc⟩ := row_at h.drow e; exact one hc (by decide) (by decide))
set_option maxRecDepth 100000 in
set_option maxHeartbeats 1000000 in
/-- use with Erase's closure: the volume is mounted, and erased -/
theorem use_erase {w : World} {B g b : Nat} {v1 v2 : Value} {gs : List Nat} {ds : List Dr} {mv mt : Int} {ss : List VS} {lab : ByteArray} (h : LibAt w B g v1 v2 gs ds mv mt) (hB : B ≤ w.heap.size) (hV : Vols w B gs ss) (hlo : ∀ s ∈ ss, s.lo = false) (hlen : ds.length ≤ 1000) (hmv : 0 ≤ mv ∧ mv ≤ 1000000000000) (hmt : 0 ≤ mt ∧ mt ≤ 1000000000000)
    (v : Nat) (hv : v < gs.length) (hv2 : v < ss.length) (hb : At w b 9 #[.string lab]) (hl : lab.size ≤ 1000000) (her : ss[v].er < 1000000) (he : (mountF gs.length ds mv mt (v : Int)).e = 0) :
    Calls Tryd.prog 22 #[.pointer (some ⟨g, 0, none⟩), .int .i64 (v : Int), .func (.func 30) #[] #[.pointer (some ⟨b, 0, none⟩)]] w fun e w' => e = .returned (.int .i64 (ss[v].erase lab).2) ∧ LibAt w' B g v1 v2 gs (mountF gs.length ds mv mt (v : Int)).ds (mountF gs.length ds mv mt (v : Int)).mv (mountF gs.length ds mv mt (v : Int)).mt ∧ Vols w' B gs (ss.set v (ss[v].erase lab).1) ∧ Below B w w' := by
  have hM := mount_any h hB (hV.here hlo) hlen hmv hmt (v : Int)
  unfold MountEnds at hM
  generalize mountF gs.length ds mv mt (v : Int) = r at *
  obtain ⟨ri, re, rds, rmv, rmt⟩ := r
  simp only at hM he ⊢
  subst he
  obtain ⟨A1, c1, rfl, hc1, hA1⟩ := row_slice h.vrow
  obtain ⟨kv, rfl⟩ := hA1 (by omega)
  have H := Lib.hid h
  have HV := Lib.hid hV
  have HM := Lib.hid hM
  have HB := Lib.hid hb
  clear h hV hM hb
  go_enter Tryd.func22, Tryd.ntmps22
  go_wp2_with fail
  refine HM.out.mono ?_
  rintro e w1 ⟨rfl, h1, s1⟩
  have hv1 := HV.out.lib H.out s1
  have hb1 : At w1 b 9 #[.string lab] := (s1.block b HB.out.lt (by
    intro e
    rcases H.out.foot_kind e with ⟨cs, hc⟩ | ⟨cs, hc⟩ <;> exact At.differ HB.out hc (by decide) rfl)).trans HB.out
  have z0 : w1.cell? ⟨g, 0, none⟩ = some (.slice (some ⟨kv, 0, none⟩) gs.length c1) := h1.at_.cell 0
  have z1 : w1.cell? ⟨kv, v, none⟩ = some (.pointer (some ⟨gs[v], 0, none⟩)) := by
    have := h1.volume hv
    rw [Addr.add_mid, Nat.zero_add] at this
    exact this
  have hE := erase1_any (hv1.vol v hv hv2) hb1 hl her
  unfold VolEnds at hE
  have HE := Lib.hid hE
  have H1 := Lib.hid h1
  have HV1 := Lib.hid hv1
  have HS1 := Lib.hid s1
  clear h1 hv1 s1 hb1 hE HM
  go_wp2_with fail
  refine HE.out.mono ?_
  rintro e w2 ⟨rfl, hv2', st2⟩
  have HL2 := Lib.hid (H1.out.keptS st2.kept)
  have HV2 := Lib.hid (HV1.out.step hv hv2' st2)
  have HB2 := Lib.hid ((HS1.out.below hB H.out.footB).trans st2.below)
  clear hv2' st2 HE
  go_wp2
  go_ret
  exact ⟨rfl, HL2.out, HV2.out, HB2.out⟩

set_option maxRecDepth 100000 in
set_option maxHeartbeats 1000000 in
/-- Erase of a volume that can be mounted -/
theorem liberase_any {w : World} {B g : Nat} {v1 v2 : Value} {gs : List Nat} {ds : List Dr} {mv mt : Int} {ss : List VS} {lab : ByteArray} (h : LibAt w B g v1 v2 gs ds mv mt) (hB : B ≤ w.heap.size) (hV : Vols w B gs ss) (hlo : ∀ s ∈ ss, s.lo = false) (hlen : ds.length ≤ 1000) (hmv : 0 ≤ mv ∧ mv ≤ 1000000000000) (hmt : 0 ≤ mt ∧ mt ≤ 1000000000000)
    (v : Nat) (hv : v < gs.length) (hv2 : v < ss.length) (hl : lab.size ≤ 1000000) (her : ss[v].er < 1000000) (he : (mountF gs.length ds mv mt (v : Int)).e = 0) :
    Calls Tryd.prog 11 #[.pointer (some ⟨g, 0, none⟩), .int .i64 (v : Int), .string lab] w fun e w' => e = .returned (.int .i64 (ss[v].erase lab).2) ∧ LibAt w' B g v1 v2 gs (mountF gs.length ds mv mt (v : Int)).ds (mountF gs.length ds mv mt (v : Int)).mv (mountF gs.length ds mv mt (v : Int)).mt ∧ Vols w' B gs (ss.set v (ss[v].erase lab).1) ∧ Below B w w' := by
  have hb0 := (Below.refl w.heap.size w).alloc (Nat.le_refl _) (.cells #[.string lab] 9)
  have hU := use_erase (h.below hb0) (Nat.le_trans hB hb0.size) (hV.below hb0) hlo hlen hmv hmt v hv hv2 (At.new w 9 #[.string lab]) hl her he
  have hb1 : Below B w (w.alloc (.cells #[.string lab] 9)) := hb0.mono hB
  have HU := Lib.hid hU
  have HB1 := Lib.hid hb1
  clear hU hb0 hb1 h hV he her
  have hmf : ∀ (fn : Fn) (first cap : Array Value) (w : World), (Instr.makeFunc fn first cap).run Tryd.prog w = .ok (.func fn first cap) w := fun _ _ _ _ => rfl
  go_enter Tryd.func11, Tryd.ntmps11
  go_wp2_with fail
  refine HU.out.mono ?_
  rintro e w1 ⟨rfl, h1, h2, h3⟩
  have H1 := Lib.hid h1
  have H2 := Lib.hid h2
  have H3 := Lib.hid (HB1.out.trans h3)
  clear h1 h2 h3 HU
  go_wp2
  go_ret
  exact ⟨rfl, H1.out, H2.out, H3.out⟩
end Go.Proofs.YtniecodpdmjppaaDoor

/- library.Write, with its closure: their walks. -/
namespace Go.Proofs.YtniecodpdmjppaaDoor
open Go.RowKit
set_option linter.unusedVariables false
set_option linter.unusedSimpArgs false

/-- what tapefmt.Write does to a volume -/
def Writes (gv B : Nat) (s s' : VS) (id : Nat) (d : ByteArray) (at_ er : Int) (ok : World → Prop) : Prop :=
  ∀ W, ok W → Vol W B gv s → Calls Tryd.prog 24 #[.pointer (some ⟨gv, 0, none⟩), .int .u64 (id : Int), .string d] W fun e w' => e = .returned (.tuple #[.int .i64 at_, .int .i64 er]) ∧ Vol w' B gv s' ∧ Stay B gv W w'

set_option maxRecDepth 100000 in
set_option maxHeartbeats 1000000 in
theorem write1_any {W : World} {B gv b6 b7 b10 : Nat} {s s' : VS} {id : Nat} {d : ByteArray} {at_ er x : Int} {ok : World → Prop} (hW : Writes gv B s s' id d at_ er ok) (hok : ok W) (h : Vol W B gv s) (h6 : At W b6 30 #[.int .u64 (id : Int)]) (h7 : At W b7 9 #[.string d]) (h10 : At W b10 3 #[.int .i64 x]) (hB10 : B ≤ b10) :
    Calls Tryd.prog 23 #[.pointer (some ⟨gv, 0, none⟩), .pointer (some ⟨b6, 0, none⟩), .pointer (some ⟨b7, 0, none⟩), .pointer (some ⟨b10, 0, none⟩)] W fun e w' => e = .returned (.int .i64 er) ∧ Vol w' B gv s' ∧ At w' b10 3 #[.int .i64 at_] ∧ ∃ w1, Stay B gv W w1 ∧ w' = w1.setCell ⟨b10, 0, none⟩ (.int .i64 at_) ∧ Vol w1 B gv s' ∧ At w1 b10 3 #[.int .i64 x] := by
  have c6 : W.cell? ⟨b6, 0, none⟩ = some (.int .u64 (id : Int)) := h6.cell 0
  have c7 : W.cell? ⟨b7, 0, none⟩ = some (.string d) := h7.cell 0
  have hC := hW W hok h
  have HC := Lib.hid hC
  have H10 := Lib.hid h10
  clear hC hW h h6 h7 h10 hok
  go_enter Tryd.func23, Tryd.ntmps23
  go_wp2_with fail
  refine HC.out.mono ?_
  rintro e w1 ⟨rfl, hv, hst⟩
  have hx := hst.toStay0.at_ H10.out (by decide) (by decide)
  have c10 : w1.cell? ⟨b10, 0, none⟩ = some (.int .i64 x) := hx.cell 0
  have f10 : w1.frozen? ⟨b10, 0, none⟩ = false := hx.frozen 0
  have hg : w1.grownBy (w1.setCell ⟨b10, 0, none⟩ (.int .i64 at_)) (some b10) := ⟨rfl, rfl, rfl, by simp [World.setCell], fun j hj hne => Below.heap_setCell w1 ⟨b10, 0, none⟩ _ j (fun e => hne (by rw [e]))⟩
  have hv2 : Vol (w1.setCell ⟨b10, 0, none⟩ (.int .i64 at_)) B gv s' := hv.other hg hx (by rintro cs fz e; injection e with _ e _; revert e; decide) (by rintro cs fz e; injection e with _ e _; revert e; decide)
  have ha2 : At (w1.setCell ⟨b10, 0, none⟩ (.int .i64 at_)) b10 3 #[.int .i64 at_] := hx.set 0 (.int .i64 at_)
  have HV2 := Lib.hid hv2
  have HA2 := Lib.hid ha2
  have HR := Lib.hid (show ∃ w', Stay B gv W w' ∧ w1.setCell ⟨b10, 0, none⟩ (.int .i64 at_) = w'.setCell ⟨b10, 0, none⟩ (.int .i64 at_) ∧ Vol w' B gv s' ∧ At w' b10 3 #[.int .i64 x] from ⟨w1, hst, rfl, hv, hx⟩)
  clear hv hst hx hg hv2 ha2 HC H10
  go_wp2
  go_ret
  exact ⟨rfl, HV2.out, HA2.out, HR.out⟩

theorem LibAt.cellS {w : World} {B g k i : Nat} {v1 v2 : Value} {gs : List Nat} {ds : List Dr} {mv mt : Int} {t : TypeId} {cs : Array Value} (h : LibAt w B g v1 v2 gs ds mv mt) (hk : At w k t cs) (h1 : t ≠ 59) (h2 : t ≠ 61) (h3 : t ≠ 40) (u : Value) : LibAt (w.setCell ⟨k, i, none⟩ u) B g v1 v2 gs ds mv mt := by
  have one : ∀ {b : Nat} {t' : TypeId} {c : Array Value}, At w b t' c → t' ≠ t → (w.setCell ⟨k, i, none⟩ u).heap[b]? = w.heap[b]? := fun ha hn => far_heap w k i u (fun e => by subst e; exact At.differ ha hk hn rfl)
  exact h.keep (one h.at_ (Ne.symm h1)) (fun b e => by obtain ⟨cur, hc⟩ := row_at h.vrow e; exact one hc (Ne.symm h3)) (fun b e => by obtain ⟨cur, hc⟩ := row_at h.drow e; exact one hc (Ne.symm h2))
theorem Vols.cellS {w : World} {B k i : Nat} {gs : List Nat} {ss : List VS} {t : TypeId} {cs : Array Value} (h : Vols w B gs ss) (hk : At w k t cs) (h1 : t ≠ 51) (h2 : t ≠ 101) (u : Value) : Vols (w.setCell ⟨k, i, none⟩ u) B gs ss := h.keep fun b hb => far_heap w k i u fun e => by
  subst e
  rcases hb with ⟨c, hc⟩ | ⟨c, hc⟩
  · exact At.differ hk hc h1 rfl
  · exact At.differ hk hc h2 rfl

/-- blocks of other types stay -/
def KL (w w' : World) : Prop := ∀ (k : Nat) (t : TypeId) (cs : Array Value), At w k t cs → t ≠ 59 → t ≠ 61 → t ≠ 51 → t ≠ 101 → At w' k t cs
def KLx (b : Nat) (w w' : World) : Prop := ∀ (k : Nat) (t : TypeId) (cs : Array Value), k ≠ b → At w k t cs → t ≠ 59 → t ≠ 61 → t ≠ 51 → t ≠ 101 → At w' k t cs
theorem KL.row {w w' : World} {B n z : Nat} {e : TypeId} {v : Value} {xs : List Value} (h : KL w w') (hr : w.ownsRow B e z v n xs) (h1 : e ≠ 59) (h2 : e ≠ 61) (h3 : e ≠ 51) (h4 : e ≠ 101) : w'.ownsRow B e z v n xs := by
  refine row_keep hr fun k hk => ?_
  obtain ⟨cur, hc⟩ := row_at hr hk
  exact Eq.trans (h _ _ _ hc h1 h2 h3 h4) hc.symm
theorem KL.of_below {w w' : World} (h : Below w.heap.size w w') : KL w w' := fun _ _ _ ha _ _ _ _ => ha.below h ha.lt
theorem KL.trans {w w' w'' : World} (h : KL w w') (h' : KL w' w'') : KL w w'' := fun _ _ _ ha a b c d => h' _ _ _ (h _ _ _ ha a b c d) a b c d

set_option maxRecDepth 100000 in
set_option maxHeartbeats 1000000 in
/-- use with Write's closure -/
theorem use_write {w : World} {B g b6 b7 b10 : Nat} {v1 v2 : Value} {gs : List Nat} {ds : List Dr} {mv mt : Int} {ss : List VS} {s' : VS} {id : Nat} {d : ByteArray} {at_ er x : Int} {ok : World → Prop} (h : LibAt w B g v1 v2 gs ds mv mt) (hB : B ≤ w.heap.size) (hV : Vols w B gs ss) (hlo : ∀ s ∈ ss, s.lo = false) (hlen : ds.length ≤ 1000) (hmv : 0 ≤ mv ∧ mv ≤ 1000000000000) (hmt : 0 ≤ mt ∧ mt ≤ 1000000000000)
    (v : Nat) (hv : v < gs.length) (hv2 : v < ss.length) (h6 : At w b6 30 #[.int .u64 (id : Int)]) (h7 : At w b7 9 #[.string d]) (h10 : At w b10 3 #[.int .i64 x]) (hB10 : B ≤ b10) (he : (mountF gs.length ds mv mt (v : Int)).e = 0)
    (hW : Writes gs[v] B ss[v] s' id d at_ er ok) (hok : ∀ W, Below B w W → ok W) :
    Calls Tryd.prog 22 #[.pointer (some ⟨g, 0, none⟩), .int .i64 (v : Int), .func (.func 23) #[] #[.pointer (some ⟨b6, 0, none⟩), .pointer (some ⟨b7, 0, none⟩), .pointer (some ⟨b10, 0, none⟩)]] w fun e w' => e = .returned (.int .i64 er) ∧ LibAt w' B g v1 v2 gs (mountF gs.length ds mv mt (v : Int)).ds (mountF gs.length ds mv mt (v : Int)).mv (mountF gs.length ds mv mt (v : Int)).mt ∧ Vols w' B gs (ss.set v s') ∧ At w' b10 3 #[.int .i64 at_] ∧ Below B w w' ∧ KLx b10 w w' := by
  have hM := mount_any h hB (hV.here hlo) hlen hmv hmt (v : Int)
  unfold MountEnds at hM
  generalize mountF gs.length ds mv mt (v : Int) = r at *
  obtain ⟨ri, re, rds, rmv, rmt⟩ := r
  simp only at hM he ⊢
  subst he
  obtain ⟨A1, c1, rfl, hc1, hA1⟩ := row_slice h.vrow
  obtain ⟨kv, rfl⟩ := hA1 (by omega)
  have H := Lib.hid h
  have HV := Lib.hid hV
  have HM := Lib.hid hM
  have H6 := Lib.hid h6
  have H7 := Lib.hid h7
  have H10 := Lib.hid h10
  have HW := Lib.hid hW
  have HOK := Lib.hid hok
  clear h hV hM h6 h7 h10 hW hok
  go_enter Tryd.func22, Tryd.ntmps22
  go_wp2_with fail
  refine HM.out.mono ?_
  rintro e w1 ⟨rfl, h1, s1⟩
  have hv1 := HV.out.lib H.out s1
  have hst : ∀ {k : Nat} {t : TypeId} {cs : Array Value}, At w k t cs → t ≠ 59 → t ≠ 61 → At w1 k t cs := fun {k t cs} ha n1 n2 => (s1.block k ha.lt (by
    intro e
    rcases H.out.foot_kind e with ⟨cs, hc⟩ | ⟨cs, hc⟩
    · exact At.differ ha hc n1 rfl
    · exact At.differ ha hc n2 rfl)).trans ha
  have z0 : w1.cell? ⟨g, 0, none⟩ = some (.slice (some ⟨kv, 0, none⟩) gs.length c1) := h1.at_.cell 0
  have z1 : w1.cell? ⟨kv, v, none⟩ = some (.pointer (some ⟨gs[v], 0, none⟩)) := by
    have := h1.volume hv
    rw [Addr.add_mid, Nat.zero_add] at this
    exact this
  have hb1 := s1.below hB H.out.footB
  have HKT : Hid (∀ (k : Nat) (t : TypeId) (cs : Array Value), At w k t cs → t ≠ 59 → t ≠ 61 → At w1 k t cs) := Lib.hid fun _ _ _ ha a b => hst ha a b
  have hE := write1_any HW.out (HOK.out w1 hb1) (hv1.vol v hv hv2) (hst H6.out (by decide) (by decide)) (hst H7.out (by decide) (by decide)) (hst H10.out (by decide) (by decide)) hB10
  have HE := Lib.hid hE
  have H1 := Lib.hid h1
  have HV1 := Lib.hid hv1
  have HB1 := Lib.hid hb1
  clear h1 hv1 s1 hb1 hE HM hst
  go_wp2_with fail
  refine HE.out.mono ?_
  rintro e w2 ⟨rfl, _, ha2, w3, st3, rfl, hv3, hx3⟩
  have hL3 := H1.out.keptS st3.kept
  have hV3 := HV1.out.step hv hv3 st3
  have hb3 := HB1.out.trans st3.below
  have hs3 : B ≤ w3.heap.size := Nat.le_trans hB10 (Nat.le_of_lt hx3.lt)
  have HL2 := Lib.hid (hL3.cellS (i := 0) hx3 (by decide) (by decide) (by decide) (.int .i64 at_))
  have HV2 := Lib.hid (hV3.cellS (i := 0) hx3 (by decide) (by decide) (.int .i64 at_))
  have HA2 := Lib.hid ha2
  have HK2 : Hid (KLx b10 w (w3.setCell ⟨b10, 0, none⟩ (.int .i64 at_))) := Lib.hid fun k t cs hne ha n1 n2 n3 n4 => (far_heap w3 b10 0 (.int .i64 at_) hne).trans (st3.toStay0.at_ (HKT.out _ _ _ ha n1 n2) n3 n4)
  have HB2 := Lib.hid (below_of_grownBy hb3 (grown_cell w3 b10 0 (.int .i64 at_)) hs3 hB10)
  clear HKT ha2 st3 hv3 hx3 hL3 hV3 hb3 HE H1 HV1 HB1 z0 z1
  generalize w3.setCell ⟨b10, 0, none⟩ (.int .i64 at_) = w4 at *
  go_wp2
  go_ret
  exact ⟨rfl, HL2.out, HV2.out, HA2.out, HB2.out, HK2.out⟩

set_option maxRecDepth 100000 in
set_option maxHeartbeats 1000000 in
/-- Write to a volume that can be mounted -/
theorem libwrite_any {w : World} {B g : Nat} {v1 v2 : Value} {gs : List Nat} {ds : List Dr} {mv mt : Int} {ss : List VS} {s' : VS} {id : Nat} {d : ByteArray} {at_ er : Int} {ok : World → Prop} (h : LibAt w B g v1 v2 gs ds mv mt) (hB : B ≤ w.heap.size) (hV : Vols w B gs ss) (hlo : ∀ s ∈ ss, s.lo = false) (hlen : ds.length ≤ 1000) (hmv : 0 ≤ mv ∧ mv ≤ 1000000000000) (hmt : 0 ≤ mt ∧ mt ≤ 1000000000000)
    (v : Nat) (hv : v < gs.length) (hv2 : v < ss.length) (he : (mountF gs.length ds mv mt (v : Int)).e = 0)
    (hW : Writes gs[v] B ss[v] s' id d at_ er ok) (hok : ∀ W, Below B w W → ok W) :
    Calls Tryd.prog 7 #[.pointer (some ⟨g, 0, none⟩), .int .i64 (v : Int), .int .u64 (id : Int), .string d] w fun e w' => e = .returned (.tuple #[.int .i64 at_, .int .i64 er]) ∧ LibAt w' B g v1 v2 gs (mountF gs.length ds mv mt (v : Int)).ds (mountF gs.length ds mv mt (v : Int)).mv (mountF gs.length ds mv mt (v : Int)).mt ∧ Vols w' B gs (ss.set v s') ∧ Below B w w' ∧ KL w w' := by
  have hU := fun W (hb : Below w.heap.size w W) (b6 b7 b10 : Nat) (h6 : At W b6 30 #[.int .u64 (id : Int)]) (h7 : At W b7 9 #[.string d]) (h10 : At W b10 3 #[.int .i64 0]) (hB10 : B ≤ b10) =>
    use_write (h.below hb) (Nat.le_trans hB hb.size) (hV.below hb) hlo hlen hmv hmt v hv hv2 h6 h7 h10 hB10 he hW (fun W2 h2 => hok W2 ((hb.mono hB).trans h2))
  have HU := Lib.hid hU
  clear hU h hV he hW hok
  have hmf : ∀ (fn : Fn) (first cap : Array Value) (w : World), (Instr.makeFunc fn first cap).run Tryd.prog w = .ok (.func fn first cap) w := fun _ _ _ _ => rfl
  go_enter Tryd.func7, Tryd.ntmps7
  go_wp2_with fail
  have a6 : At (((w.alloc (.cells #[.int .u64 (id : Int)] 30)).alloc (.cells #[.string d] 9)).alloc (.cells #[.int .i64 0] 3)) w.heap.size 30 #[.int .u64 (id : Int)] := ((At.new w _ _).alloc _).alloc _
  have a7 : At (((w.alloc (.cells #[.int .u64 (id : Int)] 30)).alloc (.cells #[.string d] 9)).alloc (.cells #[.int .i64 0] 3)) (w.heap.size + 1) 9 #[.string d] := At.alloc (by have := At.new (w.alloc (.cells #[.int .u64 (id : Int)] 30)) 9 #[.string d]; rw [show (w.alloc (.cells #[.int .u64 (id : Int)] 30)).heap.size = w.heap.size + 1 by simp] at this; exact this) _
  have a10 : At (((w.alloc (.cells #[.int .u64 (id : Int)] 30)).alloc (.cells #[.string d] 9)).alloc (.cells #[.int .i64 0] 3)) (w.heap.size + 1 + 1) 3 #[.int .i64 0] := by
    have := At.new ((w.alloc (.cells #[.int .u64 (id : Int)] 30)).alloc (.cells #[.string d] 9)) 3 #[.int .i64 0]
    rw [show ((w.alloc (.cells #[.int .u64 (id : Int)] 30)).alloc (.cells #[.string d] 9)).heap.size = w.heap.size + 1 + 1 by simp] at this
    exact this
  have hb3 : Below w.heap.size w (((w.alloc (.cells #[.int .u64 (id : Int)] 30)).alloc (.cells #[.string d] 9)).alloc (.cells #[.int .i64 0] 3)) := (((Below.refl _ w).alloc (Nat.le_refl _) _).alloc (by simp) _).alloc (by simp; omega) _
  have hC := HU.out _ hb3 _ _ _ a6 a7 a10 (by omega)
  have HB3 := Lib.hid (hb3.mono hB)
  have HK3 : Hid (∀ (k : Nat) (t : TypeId) (cs : Array Value), At w k t cs → At _ k t cs) := Lib.hid fun k t cs ha => ha.below hb3 ha.lt
  clear a6 a7 a10 hb3 HU
  generalize (((w.alloc (.cells #[.int .u64 (id : Int)] 30)).alloc (.cells #[.string d] 9)).alloc (.cells #[.int .i64 0] 3)) = w3 at *
  refine hC.mono ?_
  rintro e w4 ⟨rfl, h1, h2, h3, h4, h5⟩
  have c10 : w4.cell? ⟨w.heap.size + 1 + 1, 0, none⟩ = some (.int .i64 at_) := h3.cell 0
  have H1 := Lib.hid h1
  have H2 := Lib.hid h2
  have H4 := Lib.hid (HB3.out.trans h4)
  have H5 : Hid (KL w w4) := Lib.hid fun k t cs ha n1 n2 n3 n4 => h5 _ _ _ (by have := ha.lt; omega) (HK3.out _ _ _ ha) n1 n2 n3 n4
  clear h1 h2 h3 h4 h5 hC HK3
  go_wp2
  go_ret2
  exact ⟨rfl, H1.out, H2.out, H4.out, H5.out⟩
end Go.Proofs.YtniecodpdmjppaaDoor

/- library.Read, with its closure: their walks. -/
namespace Go.Proofs.YtniecodpdmjppaaDoor
open Go.RowKit
set_option linter.unusedVariables false
set_option linter.unusedSimpArgs false

/-- what tapefmt.Read does to a volume -/
def ReadsT (gv B : Nat) (s : VS) (P : VS → Prop) (fr : Int) (id : Nat) (dat : ByteArray) (er : Int) (ok : World → Prop) : Prop :=
  ∀ W, ok W → Vol W B gv s → Calls Tryd.prog 27 #[.pointer (some ⟨gv, 0, none⟩), .int .i64 fr, .int .u64 (id : Int)] W fun e w' => e = .returned (.tuple #[.string dat, .int .i64 er]) ∧ (∃ s', P s' ∧ Vol w' B gv s') ∧ Stay B gv W w'

set_option maxRecDepth 100000 in
set_option maxHeartbeats 1000000 in
theorem read1_any {W : World} {B gv b6 b7 b10 : Nat} {s : VS} {P : VS → Prop} {fr : Int} {id : Nat} {dat x : ByteArray} {er : Int} {ok : World → Prop} (hW : ReadsT gv B s P fr id dat er ok) (hok : ok W) (h : Vol W B gv s) (h6 : At W b6 3 #[.int .i64 fr]) (h7 : At W b7 30 #[.int .u64 (id : Int)]) (h10 : At W b10 9 #[.string x]) (hB10 : B ≤ b10) :
    Calls Tryd.prog 26 #[.pointer (some ⟨gv, 0, none⟩), .pointer (some ⟨b6, 0, none⟩), .pointer (some ⟨b7, 0, none⟩), .pointer (some ⟨b10, 0, none⟩)] W fun e w' => e = .returned (.int .i64 er) ∧ ∃ s', P s' ∧ Vol w' B gv s' ∧ At w' b10 9 #[.string dat] ∧ ∃ w1, Stay B gv W w1 ∧ w' = w1.setCell ⟨b10, 0, none⟩ (.string dat) ∧ Vol w1 B gv s' ∧ At w1 b10 9 #[.string x] := by
  have c6 : W.cell? ⟨b6, 0, none⟩ = some (.int .i64 fr) := h6.cell 0
  have c7 : W.cell? ⟨b7, 0, none⟩ = some (.int .u64 (id : Int)) := h7.cell 0
  have hC := hW W hok h
  have HC := Lib.hid hC
  have H10 := Lib.hid h10
  clear hC hW h h6 h7 h10 hok
  go_enter Tryd.func26, Tryd.ntmps26
  go_wp2_with fail
  refine HC.out.mono ?_
  rintro e w1 ⟨rfl, ⟨s', hps, hv⟩, hst⟩
  have hx := hst.toStay0.at_ H10.out (by decide) (by decide)
  have c10 : w1.cell? ⟨b10, 0, none⟩ = some (.string x) := hx.cell 0
  have f10 : w1.frozen? ⟨b10, 0, none⟩ = false := hx.frozen 0
  have hg : w1.grownBy (w1.setCell ⟨b10, 0, none⟩ (.string dat)) (some b10) := ⟨rfl, rfl, rfl, by simp [World.setCell], fun j hj hne => Below.heap_setCell w1 ⟨b10, 0, none⟩ _ j (fun e => hne (by rw [e]))⟩
  have hv2 : Vol (w1.setCell ⟨b10, 0, none⟩ (.string dat)) B gv s' := hv.other hg hx (by rintro cs fz e; injection e with _ e _; revert e; decide) (by rintro cs fz e; injection e with _ e _; revert e; decide)
  have ha2 : At (w1.setCell ⟨b10, 0, none⟩ (.string dat)) b10 9 #[.string dat] := hx.set 0 (.string dat)
  have HV2 := Lib.hid hv2
  have HA2 := Lib.hid ha2
  have HR := Lib.hid (show ∃ w', Stay B gv W w' ∧ w1.setCell ⟨b10, 0, none⟩ (.string dat) = w'.setCell ⟨b10, 0, none⟩ (.string dat) ∧ Vol w' B gv s' ∧ At w' b10 9 #[.string x] from ⟨w1, hst, rfl, hv, hx⟩)
  clear hv hst hx hg hv2 ha2 HC H10
  go_wp2
  go_ret
  exact ⟨rfl, s', hps, HV2.out, HA2.out, HR.out⟩

set_option maxRecDepth 100000 in
set_option maxHeartbeats 1000000 in
/-- use with Read's closure -/
theorem use_read {w : World} {B g b6 b7 b10 : Nat} {v1 v2 : Value} {gs : List Nat} {ds : List Dr} {mv mt : Int} {ss : List VS} {P : VS → Prop} {fr : Int} {id : Nat} {dat x : ByteArray} {er : Int} {ok : World → Prop} (h : LibAt w B g v1 v2 gs ds mv mt) (hB : B ≤ w.heap.size) (hV : Vols w B gs ss) (hlo : ∀ s ∈ ss, s.lo = false) (hlen : ds.length ≤ 1000) (hmv : 0 ≤ mv ∧ mv ≤ 1000000000000) (hmt : 0 ≤ mt ∧ mt ≤ 1000000000000)
    (v : Nat) (hv : v < gs.length) (hv2 : v < ss.length) (h6 : At w b6 3 #[.int .i64 fr]) (h7 : At w b7 30 #[.int .u64 (id : Int)]) (h10 : At w b10 9 #[.string x]) (hB10 : B ≤ b10) (he : (mountF gs.length ds mv mt (v : Int)).e = 0)
    (hW : ReadsT gs[v] B ss[v] P fr id dat er ok) (hok : ∀ W, Below B w W → ok W) :
    Calls Tryd.prog 22 #[.pointer (some ⟨g, 0, none⟩), .int .i64 (v : Int), .func (.func 26) #[] #[.pointer (some ⟨b6, 0, none⟩), .pointer (some ⟨b7, 0, none⟩), .pointer (some ⟨b10, 0, none⟩)]] w fun e w' => e = .returned (.int .i64 er) ∧ LibAt w' B g v1 v2 gs (mountF gs.length ds mv mt (v : Int)).ds (mountF gs.length ds mv mt (v : Int)).mv (mountF gs.length ds mv mt (v : Int)).mt ∧ (∃ s', P s' ∧ Vols w' B gs (ss.set v s')) ∧ At w' b10 9 #[.string dat] ∧ Below B w w' ∧ KLx b10 w w' := by
  have hM := mount_any h hB (hV.here hlo) hlen hmv hmt (v : Int)
  unfold MountEnds at hM
  generalize mountF gs.length ds mv mt (v : Int) = r at *
  obtain ⟨ri, re, rds, rmv, rmt⟩ := r
  simp only at hM he ⊢
  subst he
  obtain ⟨A1, c1, rfl, hc1, hA1⟩ := row_slice h.vrow
  obtain ⟨kv, rfl⟩ := hA1 (by omega)
  have H := Lib.hid h
  have HV := Lib.hid hV
  have HM := Lib.hid hM
  have H6 := Lib.hid h6
  have H7 := Lib.hid h7
  have H10 := Lib.hid h10
  have HW := Lib.hid hW
  have HOK := Lib.hid hok
  clear h hV hM h6 h7 h10 hW hok
  go_enter Tryd.func22, Tryd.ntmps22
  go_wp2_with fail
  refine HM.out.mono ?_
  rintro e w1 ⟨rfl, h1, s1⟩
  have hv1 := HV.out.lib H.out s1
  have hst : ∀ {k : Nat} {t : TypeId} {cs : Array Value}, At w k t cs → t ≠ 59 → t ≠ 61 → At w1 k t cs := fun {k t cs} ha n1 n2 => (s1.block k ha.lt (by
    intro e
    rcases H.out.foot_kind e with ⟨cs, hc⟩ | ⟨cs, hc⟩
    · exact At.differ ha hc n1 rfl
    · exact At.differ ha hc n2 rfl)).trans ha
  have z0 : w1.cell? ⟨g, 0, none⟩ = some (.slice (some ⟨kv, 0, none⟩) gs.length c1) := h1.at_.cell 0
  have z1 : w1.cell? ⟨kv, v, none⟩ = some (.pointer (some ⟨gs[v], 0, none⟩)) := by
    have := h1.volume hv
    rw [Addr.add_mid, Nat.zero_add] at this
    exact this
  have hb1 := s1.below hB H.out.footB
  have HKT : Hid (∀ (k : Nat) (t : TypeId) (cs : Array Value), At w k t cs → t ≠ 59 → t ≠ 61 → At w1 k t cs) := Lib.hid fun _ _ _ ha a b => hst ha a b
  have hE := read1_any HW.out (HOK.out w1 hb1) (hv1.vol v hv hv2) (hst H6.out (by decide) (by decide)) (hst H7.out (by decide) (by decide)) (hst H10.out (by decide) (by decide)) hB10
  have HE := Lib.hid hE
  have H1 := Lib.hid h1
  have HV1 := Lib.hid hv1
  have HB1 := Lib.hid hb1
  clear h1 hv1 s1 hb1 hE HM hst
  go_wp2_with fail
  refine HE.out.mono ?_
  rintro e w2 ⟨rfl, s', hps, _, ha2, w3, st3, rfl, hv3, hx3⟩
  have hL3 := H1.out.keptS st3.kept
  have hV3 := HV1.out.step hv hv3 st3
  have hb3 := HB1.out.trans st3.below
  have hs3 : B ≤ w3.heap.size := Nat.le_trans hB10 (Nat.le_of_lt hx3.lt)
  have HL2 := Lib.hid (hL3.cellS (i := 0) hx3 (by decide) (by decide) (by decide) (.string dat))
  have HV2 := Lib.hid (hV3.cellS (i := 0) hx3 (by decide) (by decide) (.string dat))
  have HA2 := Lib.hid ha2
  have HK2 : Hid (KLx b10 w (w3.setCell ⟨b10, 0, none⟩ (.string dat))) := Lib.hid fun k t cs hne ha n1 n2 n3 n4 => (far_heap w3 b10 0 (.string dat) hne).trans (st3.toStay0.at_ (HKT.out _ _ _ ha n1 n2) n3 n4)
  have HB2 := Lib.hid (below_of_grownBy hb3 (grown_cell w3 b10 0 (.string dat)) hs3 hB10)
  clear HKT ha2 st3 hv3 hx3 hL3 hV3 hb3 HE H1 HV1 HB1 z0 z1
  generalize w3.setCell ⟨b10, 0, none⟩ (.string dat) = w4 at *
  go_wp2
  go_ret
  exact ⟨rfl, HL2.out, ⟨s', hps, HV2.out⟩, HA2.out, HB2.out, HK2.out⟩

set_option maxRecDepth 100000 in
set_option maxHeartbeats 1000000 in
/-- Read from a volume that can be mounted -/
theorem libread_any {w : World} {B g : Nat} {v1 v2 : Value} {gs : List Nat} {ds : List Dr} {mv mt : Int} {ss : List VS} {P : VS → Prop} {fr : Int} {id : Nat} {dat : ByteArray} {er : Int} {ok : World → Prop} (h : LibAt w B g v1 v2 gs ds mv mt) (hB : B ≤ w.heap.size) (hV : Vols w B gs ss) (hlo : ∀ s ∈ ss, s.lo = false) (hlen : ds.length ≤ 1000) (hmv : 0 ≤ mv ∧ mv ≤ 1000000000000) (hmt : 0 ≤ mt ∧ mt ≤ 1000000000000)
    (v : Nat) (hv : v < gs.length) (hv2 : v < ss.length) (he : (mountF gs.length ds mv mt (v : Int)).e = 0)
    (hW : ReadsT gs[v] B ss[v] P fr id dat er ok) (hok : ∀ W, Below B w W → ok W) :
    Calls Tryd.prog 9 #[.pointer (some ⟨g, 0, none⟩), .int .i64 (v : Int), .int .i64 fr, .int .u64 (id : Int)] w fun e w' => e = .returned (.tuple #[.string dat, .int .i64 er]) ∧ LibAt w' B g v1 v2 gs (mountF gs.length ds mv mt (v : Int)).ds (mountF gs.length ds mv mt (v : Int)).mv (mountF gs.length ds mv mt (v : Int)).mt ∧ (∃ s', P s' ∧ Vols w' B gs (ss.set v s')) ∧ Below B w w' ∧ KL w w' := by
  have hU := fun W (hb : Below w.heap.size w W) (b6 b7 b10 : Nat) (h6 : At W b6 3 #[.int .i64 fr]) (h7 : At W b7 30 #[.int .u64 (id : Int)]) (h10 : At W b10 9 #[.string ⟨#[]⟩]) (hB10 : B ≤ b10) =>
    use_read (h.below hb) (Nat.le_trans hB hb.size) (hV.below hb) hlo hlen hmv hmt v hv hv2 h6 h7 h10 hB10 he hW (fun W2 h2 => hok W2 ((hb.mono hB).trans h2))
  have HU := Lib.hid hU
  clear hU h hV he hW hok
  have hmf : ∀ (fn : Fn) (first cap : Array Value) (w : World), (Instr.makeFunc fn first cap).run Tryd.prog w = .ok (.func fn first cap) w := fun _ _ _ _ => rfl
  go_enter Tryd.func9, Tryd.ntmps9
  go_wp2_with fail
  have a6 : At (((w.alloc (.cells #[.int .i64 fr] 3)).alloc (.cells #[.int .u64 (id : Int)] 30)).alloc (.cells #[.string ⟨#[]⟩] 9)) w.heap.size 3 #[.int .i64 fr] := ((At.new w _ _).alloc _).alloc _
  have a7 : At (((w.alloc (.cells #[.int .i64 fr] 3)).alloc (.cells #[.int .u64 (id : Int)] 30)).alloc (.cells #[.string ⟨#[]⟩] 9)) (w.heap.size + 1) 30 #[.int .u64 (id : Int)] := At.alloc (by have := At.new (w.alloc (.cells #[.int .i64 fr] 3)) 30 #[.int .u64 (id : Int)]; rw [show (w.alloc (.cells #[.int .i64 fr] 3)).heap.size = w.heap.size + 1 by simp] at this; exact this) _
  have a10 : At (((w.alloc (.cells #[.int .i64 fr] 3)).alloc (.cells #[.int .u64 (id : Int)] 30)).alloc (.cells #[.string ⟨#[]⟩] 9)) (w.heap.size + 1 + 1) 9 #[.string ⟨#[]⟩] := by
    have := At.new ((w.alloc (.cells #[.int .i64 fr] 3)).alloc (.cells #[.int .u64 (id : Int)] 30)) 9 #[.string ⟨#[]⟩]
    rw [show ((w.alloc (.cells #[.int .i64 fr] 3)).alloc (.cells #[.int .u64 (id : Int)] 30)).heap.size = w.heap.size + 1 + 1 by simp] at this
    exact this
  have hb3 : Below w.heap.size w (((w.alloc (.cells #[.int .i64 fr] 3)).alloc (.cells #[.int .u64 (id : Int)] 30)).alloc (.cells #[.string ⟨#[]⟩] 9)) := (((Below.refl _ w).alloc (Nat.le_refl _) _).alloc (by simp) _).alloc (by simp; omega) _
  have hC := HU.out _ hb3 _ _ _ a6 a7 a10 (by omega)
  have HB3 := Lib.hid (hb3.mono hB)
  have HK3 : Hid (∀ (k : Nat) (t : TypeId) (cs : Array Value), At w k t cs → At _ k t cs) := Lib.hid fun k t cs ha => ha.below hb3 ha.lt
  clear a6 a7 a10 hb3 HU
  generalize (((w.alloc (.cells #[.int .i64 fr] 3)).alloc (.cells #[.int .u64 (id : Int)] 30)).alloc (.cells #[.string ⟨#[]⟩] 9)) = w3 at *
  refine hC.mono ?_
  rintro e w4 ⟨rfl, h1, h2, h3, h4, h5⟩
  have c10 : w4.cell? ⟨w.heap.size + 1 + 1, 0, none⟩ = some (.string dat) := h3.cell 0
  have H1 := Lib.hid h1
  have H2 := Lib.hid h2
  have H4 := Lib.hid (HB3.out.trans h4)
  have H5 : Hid (KL w w4) := Lib.hid fun k t cs ha n1 n2 n3 n4 => h5 _ _ _ (by have := ha.lt; omega) (HK3.out _ _ _ ha) n1 n2 n3 n4
  clear h1 h2 h3 h4 h5 hC HK3
  go_wp2
  go_ret2
  exact ⟨rfl, H1.out, H2.out, H4.out, H5.out⟩
end Go.Proofs.YtniecodpdmjppaaDoor

/- library.Volume: its walk. -/
namespace Go.Proofs.YtniecodpdmjppaaDoor
open Go.RowKit
set_option linter.unusedVariables false
set_option linter.unusedSimpArgs false
set_option maxRecDepth 100000 in
theorem volume_any {w : World} {B g : Nat} {v1 v2 : Value} {gs : List Nat} {ds : List Dr} {mv mt : Int} (h : LibAt w B g v1 v2 gs ds mv mt) (v : Nat) (hv : v < gs.length) :
    Calls Tryd.prog 12 #[.pointer (some ⟨g, 0, none⟩), .int .i64 (v : Int)] w fun e w' => e = .returned (.pointer (some ⟨gs[v], 0, none⟩)) ∧ w = w' := by
  have hH := has_any h (v : Int)
  have hq : (decide ((0 : Int) ≤ (v : Int)) && decide ((v : Int) < (gs.length : Int))) = true := by simp; omega
  rw [hq] at hH
  obtain ⟨A1, c1, rfl, hc1, hA1⟩ := row_slice h.vrow
  obtain ⟨kv, rfl⟩ := hA1 (by omega)
  have z0 : w.cell? ⟨g, 0, none⟩ = some (.slice (some ⟨kv, 0, none⟩) gs.length c1) := h.at_.cell 0
  have z1 : w.cell? ⟨kv, v, none⟩ = some (.pointer (some ⟨gs[v], 0, none⟩)) := by
    have := h.volume hv
    rw [Addr.add_mid, Nat.zero_add] at this
    exact this
  clear h hq
  go_enter Tryd.func12, Tryd.ntmps12
  go_wp2_with fail
  refine hH.mono ?_
  rintro e w1 ⟨rfl, rfl⟩
  clear hH
  go_wp2
  go_ret
  exact ⟨rfl, rfl⟩
end Go.Proofs.YtniecodpdmjppaaDoor
