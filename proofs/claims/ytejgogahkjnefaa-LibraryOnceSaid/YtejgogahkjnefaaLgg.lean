/- glacierlaw08.LibraryMoves: its walk. Written by gen_lgg.py. -/
import Derived.Test.YtejgogahkjnefaaLgm
import Derived.Maps.OwnSet
import Derived.Laws.MakeOwn
namespace Go.Proofs.Ytejgogahkjnefaa
open Go.RowKit Go.Maps
set_option linter.unusedVariables false
set_option linter.unusedSimpArgs false

theorem info_int8 : (Try.prog.info? 3).map (fun i => (i.zero, i.size, i.bytes)) = some (some (.int .i64 0), 1, 8) := by kernel_rfl
theorem int_law : Keyed Try.prog 3 := int_keyed Try.underlying3
def zeroL (n : Nat) : List Int := List.replicate n 0
theorem make_ints (n : Nat) (hn : n ≤ 1000) : ∃ M : Array Value, M.toList = ints (zeroL n) ∧ ∀ W : World, (Instr.makeSlice 26 (.int .i64 (n : Int)) (.int .i64 (n : Int))).run Try.prog W = .ok (.slice (some ⟨W.heap.size, 0, none⟩) n n) (W.alloc (.cells M 3)) := by
  obtain ⟨i0, hie, hz0, hz1, hz2⟩ := info_parts info_int8
  refine ⟨madeCells (Value.int .i64 0).cells (((n : Nat) : Int).toNat * i0.size), ?_, fun W => ?_⟩
  · rw [hz1, Nat.mul_one, Int.toNat_natCast]
    have := toList_madeCells_one (.int .i64 0) n
    unfold ints zeroL
    rw [List.map_replicate]
    exact this
  · have h := run_make (P := Try.prog) W 26 3 i0 (.int .i64 0) Try.underlying26 hie hz0 .i64 .i64 (n : Int) (n : Int) (by omega) (by omega) (by rw [hz2]; omega) (by omega)
    simpa using h
theorem zeroL_len (n : Nat) : (zeroL n).length = n := by unfold zeroL; simp
theorem freshOf_lo (l : List Int) : ∀ s ∈ freshOf l, s.lo = false := by
  intro s hs
  unfold freshOf at hs
  obtain ⟨r, _, rfl⟩ := List.mem_map.1 hs
  rfl

theorem at_newE (w : World) (g : Nat) (t : TypeId) (cs : Array Value) (h : g = w.heap.size) : At (w.alloc (.cells cs t)) g t cs := by subst h; exact At.new w t cs
/-- a new library over a new slice of zeros -/
theorem new_zeros (n : Nat) (hn : n ≤ 1000) (blk : Nat) (nd : Int) (W : World) (k3 : Nat) (hk3 : max 0 (min nd 3) = (k3 : Int)) (hA : ∃ M : Array Value, M.toList = ints (zeroL n) ∧ At W blk 3 M) :
    Calls Try.prog 6 #[.slice (some ⟨blk, 0, none⟩) n n, .int .i64 nd] W fun e w' => ∃ g v1 v2 gs, e = .returned (.pointer (some ⟨g, 0, none⟩)) ∧ gs.length = n ∧ LibAt w' W.heap.size g v1 v2 gs (List.replicate k3 (Dr.no false)) 0 0 ∧ Here w' gs ∧ Below W.heap.size W w' := by
  obtain ⟨M, hM, hat⟩ := hA
  have hR : Lies W W.heap.size (some ⟨blk, 0, none⟩) (ints (zeroL n)) := Lies.of_at hat hM hat.lt
  have h := newlib_any (some ⟨blk, 0, none⟩) n (zeroL n) nd W hR (by intro x hx; unfold zeroL at hx; have := List.eq_of_mem_replicate hx; omega) (by rw [zeroL_len]; exact hn) k3 hk3
  rw [zeroL_len] at h
  refine h.mono ?_
  rintro e w' ⟨g, v1, v2, gs, h1, h2, h3, h4⟩
  refine ⟨g, v1, v2, gs, h1, ?_, h2, h3.here (freshOf_lo _), h4⟩
  rw [h3.len]
  unfold freshOf
  rw [List.length_map, zeroL_len]

/-- the set of what was seen -/
structure Seen (w : World) (mb nm : Nat) (D : DataW Unit) : Prop where
  own : w.ownsMap Try.prog 3 (plainElem (H := Unit) Try.prog 4) mb nm D
  tidy : Tidy D
theorem Seen.of_block {w w' : World} {mb nm : Nat} {D : DataW Unit} (h : Seen w mb nm D) (he : w'.heap[mb]? = w.heap[mb]?) : Seen w' mb nm D := by
  obtain ⟨⟨es, clock, hb, r⟩, ht⟩ := h
  exact ⟨⟨es, clock, he.trans hb, r⟩, ht⟩
theorem Seen.no_cells {w : World} {mb nm : Nat} {D : DataW Unit} (h : Seen w mb nm D) {k : Nat} {t : TypeId} {cs : Array Value} (hk : At w k t cs) : k ≠ mb := by
  rintro rfl
  obtain ⟨⟨es, clock, hb, r⟩, ht⟩ := h
  unfold At at hk
  rw [hk] at hb
  cases hb
theorem Here.keep {w w' : World} {gs : List Nat} (h : Here w gs) (hk : ∀ k t cs, At w k t cs → w'.heap[k]? = w.heap[k]?) : Here w' gs := fun i hi => by
  obtain ⟨C, s, ⟨ok, v, hv⟩, hl⟩ := h i hi
  refine ⟨C, s, ⟨ok, v, hv.of_block (hk _ _ _ hv.at_) fun k e => ?_⟩, hl⟩
  obtain ⟨cur, hc⟩ := row_at hv.row e
  exact hk _ _ _ hc
theorem LTwo.keep {W W' : World} {B ga gb : Nat} {va1 va2 vb1 vb2 : Value} {gsa gsb : List Nat} {da db : List Dr} {mva mta mvb mtb : Int} (h : LTwo W B ga gb va1 va2 vb1 vb2 gsa gsb da db mva mta mvb mtb) (hk : ∀ k t cs, At W k t cs → W'.heap[k]? = W.heap[k]?) : LTwo W' B ga gb va1 va2 vb1 vb2 gsa gsb da db mva mta mvb mtb := by
  have one : ∀ {g : Nat} {v1 v2 : Value} {gs : List Nat} {ds : List Dr} {mv mt : Int}, LibAt W B g v1 v2 gs ds mv mt → LibAt W' B g v1 v2 gs ds mv mt := fun hl => hl.keep (hk _ _ _ hl.at_)
    (fun k e => by obtain ⟨cur, hc⟩ := row_at hl.vrow e; exact hk _ _ _ hc) (fun k e => by obtain ⟨cur, hc⟩ := row_at hl.drow e; exact hk _ _ _ hc)
  exact ⟨one h.a, one h.b, h.ha.keep hk, h.hb.keep hk, h.ne, h.rows⟩
theorem LTwo.map {W W' : World} {B ga gb : Nat} {va1 va2 vb1 vb2 : Value} {gsa gsb : List Nat} {da db : List Dr} {mva mta mvb mtb : Int} {mb nm : Nat} {D : DataW Unit} (h : LTwo W B ga gb va1 va2 vb1 vb2 gsa gsb da db mva mta mvb mtb) (hs : Seen W mb nm D) (hg : W.grownBy W' (some mb)) : LTwo W' B ga gb va1 va2 vb1 vb2 gsa gsb da db mva mta mvb mtb :=
  h.keep fun k t cs hc => hg.block k hc.lt (by have := hs.no_cells hc; simpa using this)
theorem Seen.lib {w w' : World} {mb nm : Nat} {D : DataW Unit} {B g : Nat} {v1 v2 : Value} {gs : List Nat} {ds : List Dr} {mv mt : Int} (h : Seen w mb nm D) (hl : LibAt w B g v1 v2 gs ds mv mt) (hm : Shift w w' (LFoot g v2)) : Seen w' mb nm D := by
  have hlt : mb < w.heap.size := by
    obtain ⟨⟨es, clock, hb, r⟩, ht⟩ := h
    exact (Array.getElem?_eq_some_iff.1 hb).1
  refine h.of_block (hm.block mb hlt fun e => ?_)
  rcases hl.foot_kind e with ⟨cs, hc⟩ | ⟨cs, hc⟩ <;> exact h.no_cells hc rfl
def hasV (D : DataW Unit) (v : Int) : Bool := Maps.has D (.int .i64 v)
theorem Seen.put {w w' : World} {mb nm : Nat} {D : DataW Unit} (h : Seen w mb nm D) (v : Int) (ho : w'.ownsMap Try.prog 3 (plainElem (H := Unit) Try.prog 4) mb (nm + 1) (D.put (.int .i64 v) (.lit (.bool true)))) : Seen w' mb (nm + 1) (D.put (.int .i64 v) (.lit (.bool true))) :=
  ⟨ho, h.tidy.put (show WideAt.IsKeyLit (.int .i64 v) from trivial) _⟩
theorem seen_step (n : Nat) {D : DataW Unit} (hD : Tidy D) {xs ys : List (Int × Int)} (v : Int) (hsz : Maps.size D = xs.length) (hh : ∀ u, hasV D u = decide (u ∈ xs.map (·.1))) (hy : ys.map (·.1) = (if v ∈ xs.map (·.1) then xs.map (·.1) else xs.map (·.1) ++ [v])) :
    Maps.size (D.put (.int .i64 v) (.lit (.bool true))) = ys.length ∧ ∀ u, hasV (D.put (.int .i64 v) (.lit (.bool true))) u = decide (u ∈ ys.map (·.1)) := by
  have hlen : ys.length = (ys.map (·.1)).length := by simp
  have e := hh v
  unfold hasV at e
  refine ⟨?_, fun u => ?_⟩
  · rw [size_put hD, e, hlen, hy]
    by_cases h : v ∈ xs.map (·.1)
    · simp only [h, decide_true, if_true, hsz, List.length_map]
    · simp only [h, decide_false, if_false, hsz, List.length_append, List.length_map, Bool.false_eq_true]; rfl
  · by_cases hu : u = v
    · subst hu
      unfold hasV
      rw [has_put_same hD.isMap (show WideAt.IsKeyLit (.int .i64 u) from trivial), hy]
      by_cases h : u ∈ xs.map (·.1) <;> simp [h]
    · have h1 := hh u
      unfold hasV at h1 ⊢
      rw [has_put_other (by simpa using hu), h1, hy]
      by_cases h : v ∈ xs.map (·.1)
      · rw [if_pos h]
      · rw [if_neg h]
        simp [hu]
theorem tmod_parts (x : Int) (n : Nat) (hn : 1 ≤ n) (hn3 : n ≤ 3) : ∃ r : Int, x.tmod (n : Int) = r ∧ -3 < r ∧ r < 3 ∧ ∃ v : Nat, (r + n).tmod (n : Int) = (v : Int) ∧ v < n := by
  have h1 := Int.tmod_lt_of_pos x (by omega : (0 : Int) < n)
  have h2 : -(n : Int) < x.tmod n := by
    have := Int.tmod_lt_of_pos (-x) (by omega : (0 : Int) < n)
    rw [Int.neg_tmod] at this
    omega
  have h3 : 0 ≤ (x.tmod n + n).tmod n := Int.tmod_nonneg _ (by omega)
  have h4 := Int.tmod_lt_of_pos (x.tmod n + n) (by omega : (0 : Int) < n)
  exact ⟨_, rfl, by omega, by omega, ((x.tmod n + n).tmod n).toNat, by omega, by omega⟩

set_option maxRecDepth 100000 in
set_option maxHeartbeats 8000000 in
theorem walk_moves (vols : Int) (A : Option Addr) (c : Nat) (l : List Int) (w : World) (hL : Lies w w.heap.size A (ints l)) (hlen : l.length ≤ 9223372036854775807) (hli : ∀ x ∈ l, -9223372036854775808 ≤ x ∧ x ≤ 9223372036854775807) :
    Calls Try.prog 4 #[.int .i64 vols, .slice A l.length c] w fun e w' => e = .returned (.bool true) ∧ Below w.heap.size w w' := by
  have HL := Lib.hid hL; clear hL
  by_cases hr : vols < 1 ∨ 3 < vols
  · have hcs : vols < 1 ∨ (¬ vols < 1 ∧ 3 < vols) := by omega
    rcases hcs with hneg | ⟨hneg, hbig⟩
    all_goals
      go_enter Try.func4, Try.ntmps4
      go_wp2_with fail
      refine (awake8_any w).mono ?_
      rintro e w1 ⟨rfl, hb1⟩
      go_wp2_with fail
      refine (awake8_any w1).mono ?_
      rintro e w2 ⟨rfl, hb2⟩
      have fin := Lib.hid (hb1.trans (hb2.mono hb1.size))
      clear hb1 hb2
      go_wp2
      go_ret
      exact ⟨rfl, fin.out⟩
  · obtain ⟨n, rfl⟩ : ∃ n : Nat, vols = (n : Int) := ⟨vols.toNat, by omega⟩
    have hn1 : 1 ≤ n := by omega
    have hn3 : n ≤ 3 := by omega
    clear hr
    have x1 : decide ((n : Int) < 1) = false := by simp; omega
    have x2 : decide ((3 : Int) < (n : Int)) = false := by simp; omega
    obtain ⟨M, hM, hmk⟩ := make_ints n (by omega)
    obtain ⟨G, hG⟩ : ∃ G, w.heap.size = G := ⟨_, rfl⟩
    rw [hG] at HL
    go_enter Try.func4, Try.ntmps4
    go_upto_region 1 with fail
    go_wp2_with fail
    refine (awake8_any w).mono ?_
    rintro e w1 ⟨rfl, hb1⟩
    have hNA := fun blk W h => new_zeros n (by omega) blk 1 W 1 rfl h
    have hNB := fun blk W h => new_zeros n (by omega) blk 3 W 3 rfl h
    have NA := Lib.hid hNA
    have NB := Lib.hid hNB
    have HM := Lib.hid hM
    have hb1 : Below G w w1 := by rw [← hG]; exact hb1
    have HB1 := Lib.hid hb1
    have hs1 : G ≤ w1.heap.size := by have := hb1.size; rw [hG] at this; exact this
    clear hNA hNB hM hb1
    go_upto_region 3 with fail
    go_region_with (first
      | (go_at_call_of 6 (Value.int .i64 1); refine (NA.out _ _ ?_).mono ?_; (refine ⟨M, HM.out, ?_⟩; first | (refine at_newE _ _ _ _ ?_; (first | rfl | (focus (simp; done)) | (focus (simp; omega)))) | (refine At.alloc (at_newE _ _ _ _ ?_) _; (first | rfl | (focus (simp; done)) | (focus (simp; omega)))) | (refine At.below ?_ hbB ?_; (refine at_newE _ _ _ _ ?_; (first | rfl | (focus (simp; done)) | (focus (simp; omega)))); (first | rfl | (focus (simp; done)) | (focus (simp; omega)))) | (refine At.below ?_ hbB ?_; (refine At.alloc (at_newE _ _ _ _ ?_) _; (first | rfl | (focus (simp; done)) | (focus (simp; omega)))); (first | rfl | (focus (simp; done)) | (focus (simp; omega)))) | (refine At.below ?_ hbB ?_; (refine At.alloc (at_newE _ _ _ _ ?_) _; (first | rfl | (focus (simp; done)) | (focus (simp; omega)))); (simp; omega))); rintro e wA ⟨ga, va1, va2, gsa, rfl, hla, hA, hHA, hbA⟩)
      | (go_at_call_of 6 (Value.int .i64 3); refine (NB.out _ _ ?_).mono ?_; (refine ⟨M, HM.out, ?_⟩; first | (refine at_newE _ _ _ _ ?_; (first | rfl | (focus (simp; done)) | (focus (simp; omega)))) | (refine At.alloc (at_newE _ _ _ _ ?_) _; (first | rfl | (focus (simp; done)) | (focus (simp; omega)))) | (refine At.below ?_ hbA ?_; (refine at_newE _ _ _ _ ?_; (first | rfl | (focus (simp; done)) | (focus (simp; omega)))); (first | rfl | (focus (simp; done)) | (focus (simp; omega)))) | (refine At.below ?_ hbA ?_; (refine At.alloc (at_newE _ _ _ _ ?_) _; (first | rfl | (focus (simp; done)) | (focus (simp; omega)))); (first | rfl | (focus (simp; done)) | (focus (simp; omega)))) | (refine At.below ?_ hbA ?_; (refine At.alloc (at_newE _ _ _ _ ?_) _; (first | rfl | (focus (simp; done)) | (focus (simp; omega)))); (simp; omega))); rintro e wB ⟨gb, vb1, vb2, gsb, rfl, hlb, hB, hHB, hbB⟩))
    all_goals
      have hGA : G ≤ w1.heap.size := hs1
      have hsA := hbA.size
      simp at hsA
      have hX : ∃ X, Below wA.heap.size wA X ∧ G ≤ X.heap.size ∧ LibAt wB X.heap.size gb vb1 vb2 gsb (List.replicate 3 (Dr.no false)) 0 0 ∧ Below X.heap.size X wB := by
        first
          | exact ⟨_, Below.refl _ _, by omega, hB, hbB⟩
          | exact ⟨_, (Below.refl _ _).alloc (Nat.le_refl _) _, by simp; omega, hB, hbB⟩
      obtain ⟨X, hX1, hX2, hX3, hX4⟩ := hX
      have hP := LTwo.made (B := G) hA hHA hX1 hX3 hHB hX4 (by simp; omega) hX2
      have hbg : Below G w wA := by
        first
          | exact ((HB1.out.alloc hGA _).drew).trans (hbA.mono (by simp; omega))
          | exact (((HB1.out.alloc hGA _).alloc (by simp; omega) _).drew).trans (hbA.mono (by simp; omega))
      have hbw : Below G w wB := (hbg.trans (hX1.mono (by omega))).trans (hX4.mono hX2)
      have HP : Hid (LTwo wB G ga gb va1 va2 vb1 vb2 gsa gsb (oneD (-1) 0) (three []) 0 0 0 0) := Lib.hid hP
      have HBW := Lib.hid hbw
      have hsW := hbw.size
      rw [hG] at hsW
      clear hA hHA hbA hB hHB hbB hX1 hX2 hX3 hX4 hP hbg hbw hsA NA NB HM hmk
      have hmm := @run_makeMap Try.prog
      go_upto_region 6 with fail
      clear hmm
      obtain ⟨mb, hmb⟩ : ∃ mb, wB.heap.size = mb := ⟨_, rfl⟩
      have hsn : Seen (wB.alloc (.map #[] 0)) mb 0 (.map []) := ⟨by rw [← hmb]; exact World.ownsMap_made wB _ _ _, tidy_empty⟩
      have hp2 := HP.out.below ((Below.refl _ wB).alloc (Nat.le_refl _) (.map #[] 0))
      have hb2 := HBW.out.alloc hsW (.map #[] 0)
      have HSN := Lib.hid hsn
      have HP2 := Lib.hid hp2
      have HB2 := Lib.hid hb2
      clear hsn hp2 hb2 HP HBW
      try rw [hmb]
      generalize wB.alloc (.map #[] 0) = w4 at *
      have hGm : G ≤ mb := by omega
      go_wp2
      go_loopw [7, 8, 10] (fun wa la i wr => ∃ (k : Nat) (W L m : Int) (xs : List (Int × Int)) (D : DataW Unit), k ≤ l.length ∧ k ≤ 30 ∧ i = .int .i64 (k : Int) ∧ wa = .int .i64 W ∧ la = .int .i64 L ∧ 0 ≤ W ∧ W ≤ k ∧ Hid (Good3 n xs) ∧ Hid (LTwo wr G ga gb va1 va2 vb1 vb2 gsa gsb (oneD L m) (three xs) W (k : Int) (xs.length : Nat) (k : Int)) ∧ Hid (Seen wr mb k D) ∧ Hid (Maps.size D = xs.length ∧ ∀ u, hasV D u = decide (u ∈ xs.map (·.1))) ∧ Hid (Below G w wr))
        (fun _ _ i _ => 30 - (intOf i).toNat)
      case atStart => exact ⟨0, 0, -1, 0, [], .map [], by omega, by omega, rfl, rfl, rfl, by omega, by omega, Lib.hid ⟨by simp, by simp, by simp⟩, HP2, HSN, Lib.hid ⟨rfl, fun u => rfl⟩, HB2⟩
      case round =>
        clear HP2 HSN HB2
        obtain ⟨k, W, L, m, xs, D, hk, hk30, rfl, rfl, rfl, hW0, hWk, HG, HP, HS, HD, HB⟩ := hrel
        by_cases hlt : k < l.length ∧ k < 30
        · obtain ⟨hlt, h30⟩ := hlt
          have q1 : decide ((k : Int) < (l.length : Int)) = true := by simp; omega
          have q2 : decide ((k : Int) < 30) = true := by simp; omega
          obtain ⟨ad, rfl, hadB, hc⟩ := (HL.out.below HB.out).round (k := k) (by simpa [ints] using hlt)
          have hval : ((ints l)[k]'(by simpa [ints] using hlt)) = .int .i64 (l[k]) := by simp [ints]
          rw [hval] at hc
          clear hval
          have hxb := hli _ (List.getElem_mem hlt)
          generalize l[k] = x at *
          obtain ⟨r, hr, hr1, hr2, v, hv, hvn⟩ := tmod_parts x n hn1 hn3
          have hw1 : IntKind.i64.wrap r = r := IntWalk.i64_in _ ⟨by omega, by omega⟩
          have hw2 : IntKind.i64.wrap (r + (n : Int)) = r + (n : Int) := IntWalk.i64_in _ ⟨by omega, by omega⟩
          have hw3 : IntKind.i64.wrap (v : Int) = (v : Int) := IntWalk.i64_in _ ⟨by omega, by omega⟩
          have hn0 : ((n : Int) == 0) = false := by simp; omega
          have hkey : keyOf Try.prog 3 (.int .i64 (v : Int)) = some (.int .i64 (v : Int)) := keyOf_int_mk Try.underlying3 (by simp [Lit.wf]; have e1 : IntKind.i64.min = -9223372036854775808 := rfl; have e2 : IntKind.i64.max = 9223372036854775807 := rfl; omega)
          have HKEY := Lib.hid hkey
          clear hkey
          go_upto_region 10 with fail
          have HHR := Lib.hid (And.intro hr hv)
          clear hr hv
          by_cases hvl : (v : Int) = L
          · have q3 : ((v : Int) != L) = false := by simpa using hvl
            have HVL := Lib.hid hvl
            clear hvl
            have hMa := fun W' (h : LTwo W' G ga gb va1 va2 vb1 vb2 gsa gsb (oneD L m) (three xs) W (k : Int) (xs.length : Nat) (k : Int)) => mount_any h.a h.size h.ha (by simp [oneD]) ⟨hW0, by omega⟩ ⟨by omega, by omega⟩ (v : Int)
            obtain ⟨i3, ys, hy1, hy2, hy3⟩ := mount_three n hn3 xs HG.out (xs.length : Nat) (k : Int) (v : Int) (by omega) ⟨by omega, by omega⟩
            have hyl : (if (v : Int) ∈ xs.map (·.1) then ((xs.length : Nat) : Int) else ((xs.length : Nat) : Int) + 1) = ((ys.length : Nat) : Int) := by
              have : ys.length = (ys.map (·.1)).length := by simp
              rw [this, hy3]
              split <;> simp
            rw [hyl] at hy1
            have hst := seen_step n HS.out.tidy (v : Int) HD.out.1 HD.out.2 hy3
            have HMA := Lib.hid hMa
            have HY1 := Lib.hid hy1
            have HY2 := Lib.hid hy2
            have HST := Lib.hid hst
            have hxl := HG.out.len
            have hyl3 := hy2.len
            clear hMa hy1 hy2 hy3 hyl hst
            go_upto_region 14 with (at_mapUpdate; refine wpList_mapUpdate_own _ rfl _ _ _ 36 rfl 3 4 int_law Try.underlying36 (plainElem (H := Unit) Try.prog 4) mb k D rfl HS.out.own (by unfold maxLen; omega) _ _ _ rfl rfl HKEY.out _ [] (plainElem_bool Try.underlying4 true) ?_; intro w5 hown5 hgrow5)
            have hS5 := HS.out.put (v : Int) hown5
            have hP5 := HP.out.map HS.out hgrow5
            have hB5 := HB.out.grown hgrow5 HP.out.size (fun kk hkk => by simp at hkk; omega)
            have hM5 := HMA.out w5 hP5
            rw [hla, mount_one n L m W (k : Int) (v : Int) ⟨by omega, by omega⟩, if_pos HVL.out] at hM5
            unfold MountEnds at hM5
            have HS5 := Lib.hid hS5
            have HP5 := Lib.hid hP5
            have HB5 := Lib.hid hB5
            clear hS5 hP5 hB5 hown5 hgrow5 HS HP HB HMA HKEY
            go_wp2_with fail
            refine hM5.mono ?_
            rintro e w6 ⟨rfl, h6, s6⟩
            have hP6 := HP5.out.left h6 s6
            have hS6 := HS5.out.lib HP5.out.a s6
            have hB6 := HB5.out.trans (s6.below HP5.out.size HP5.out.a.footB)
            have hM6 := mount_any hP6.b hP6.size hP6.hb (by rw [three_len]; omega) ⟨by omega, by omega⟩ ⟨by omega, by omega⟩ (v : Int)
            rw [hlb, HY1.out] at hM6
            unfold MountEnds at hM6
            have HS6 := Lib.hid hS6
            have HP6 := Lib.hid hP6
            have HB6 := Lib.hid hB6
            clear hS6 hP6 hB6 hM5 HS5 HP5 HB5 h6 s6
            go_wp2_with fail
            refine hM6.mono ?_
            rintro e w7 ⟨rfl, h7, s7⟩
            have HP7 := Lib.hid (HP6.out.right h7 s7)
            have HS7 := Lib.hid (HS6.out.lib HP6.out.b s7)
            have HB7 := Lib.hid (HB6.out.trans (s7.below HP6.out.size HP6.out.b.footB))
            clear h7 s7 hM6 HS6 HP6 HB6
            go_wp2
            go_roundw
            case rel => exact ⟨k + 1, W, (v : Int), (k : Int) + 1, ys, _, by omega, by omega, by go_num, rfl, rfl, by omega, by omega, HY2, HP7, HS7, HST, HB7⟩
            case measure => simp [intOf] <;> omega
          · have q3 : ((v : Int) != L) = true := by simpa using hvl
            have HVL := Lib.hid hvl
            have hww : IntKind.i64.wrap (W + 1) = W + 1 := IntWalk.i64_in _ ⟨by omega, by omega⟩
            clear hvl
            have hMa := fun W' (h : LTwo W' G ga gb va1 va2 vb1 vb2 gsa gsb (oneD L m) (three xs) W (k : Int) (xs.length : Nat) (k : Int)) => mount_any h.a h.size h.ha (by simp [oneD]) ⟨hW0, by omega⟩ ⟨by omega, by omega⟩ (v : Int)
            obtain ⟨i3, ys, hy1, hy2, hy3⟩ := mount_three n hn3 xs HG.out (xs.length : Nat) (k : Int) (v : Int) (by omega) ⟨by omega, by omega⟩
            have hyl : (if (v : Int) ∈ xs.map (·.1) then ((xs.length : Nat) : Int) else ((xs.length : Nat) : Int) + 1) = ((ys.length : Nat) : Int) := by
              have : ys.length = (ys.map (·.1)).length := by simp
              rw [this, hy3]
              split <;> simp
            rw [hyl] at hy1
            have hst := seen_step n HS.out.tidy (v : Int) HD.out.1 HD.out.2 hy3
            have HMA := Lib.hid hMa
            have HY1 := Lib.hid hy1
            have HY2 := Lib.hid hy2
            have HST := Lib.hid hst
            have hxl := HG.out.len
            have hyl3 := hy2.len
            clear hMa hy1 hy2 hy3 hyl hst
            go_upto_region 14 with (at_mapUpdate; refine wpList_mapUpdate_own _ rfl _ _ _ 36 rfl 3 4 int_law Try.underlying36 (plainElem (H := Unit) Try.prog 4) mb k D rfl HS.out.own (by unfold maxLen; omega) _ _ _ rfl rfl HKEY.out _ [] (plainElem_bool Try.underlying4 true) ?_; intro w5 hown5 hgrow5)
            have hS5 := HS.out.put (v : Int) hown5
            have hP5 := HP.out.map HS.out hgrow5
            have hB5 := HB.out.grown hgrow5 HP.out.size (fun kk hkk => by simp at hkk; omega)
            have hM5 := HMA.out w5 hP5
            rw [hla, mount_one n L m W (k : Int) (v : Int) ⟨by omega, by omega⟩, if_neg HVL.out] at hM5
            unfold MountEnds at hM5
            have HS5 := Lib.hid hS5
            have HP5 := Lib.hid hP5
            have HB5 := Lib.hid hB5
            clear hS5 hP5 hB5 hown5 hgrow5 HS HP HB HMA HKEY
            go_wp2_with fail
            refine hM5.mono ?_
            rintro e w6 ⟨rfl, h6, s6⟩
            have hP6 := HP5.out.left h6 s6
            have hS6 := HS5.out.lib HP5.out.a s6
            have hB6 := HB5.out.trans (s6.below HP5.out.size HP5.out.a.footB)
            have hM6 := mount_any hP6.b hP6.size hP6.hb (by rw [three_len]; omega) ⟨by omega, by omega⟩ ⟨by omega, by omega⟩ (v : Int)
            rw [hlb, HY1.out] at hM6
            unfold MountEnds at hM6
            have HS6 := Lib.hid hS6
            have HP6 := Lib.hid hP6
            have HB6 := Lib.hid hB6
            clear hS6 hP6 hB6 hM5 HS5 HP5 HB5 h6 s6
            go_wp2_with fail
            refine hM6.mono ?_
            rintro e w7 ⟨rfl, h7, s7⟩
            have HP7 := Lib.hid (HP6.out.right h7 s7)
            have HS7 := Lib.hid (HS6.out.lib HP6.out.b s7)
            have HB7 := Lib.hid (HB6.out.trans (s7.below HP6.out.size HP6.out.b.footB))
            clear h7 s7 hM6 HS6 HP6 HB6
            go_wp2
            go_roundw
            case rel => exact ⟨k + 1, W + 1, (v : Int), (k : Int) + 1, ys, _, by omega, by omega, by go_num, rfl, rfl, by omega, by omega, HY2, HP7, HS7, HST, HB7⟩
            case measure => simp [intOf] <;> omega
        · have hex : (¬ k < l.length) ∨ (k < l.length ∧ ¬ k < 30) := by omega
          have hma := moves_any HP.out.a
          have hmo := moves_any HP.out.b
          have hln : ∀ ty, (Builtin.len_ #[36] ty #[.map (some mb)]).run Try.prog wr = .ok (.int .i64 (Maps.size D)) wr := fun ty => HS.out.own.len Try.underlying36 ty
          rw [HD.out.1] at hln
          have fin := Lib.hid HB.out
          clear HP HS HD HB HG
          rcases hex with z1 | ⟨z1, z2⟩
          all_goals
            go_wp2_with fail
            refine hma.mono ?_
            rintro e w6 ⟨rfl, rfl⟩
            go_wp2_with fail
            refine hmo.mono ?_
            rintro e w7 ⟨rfl, rfl⟩
            go_wp2
            go_ret
            exact ⟨rfl, by rw [hG]; exact fin.out⟩
end Go.Proofs.Ytejgogahkjnefaa
