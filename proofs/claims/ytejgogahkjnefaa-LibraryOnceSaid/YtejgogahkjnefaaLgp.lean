/- LibraryOnce: the state between its acts. -/
import Derived.Test.YtejgogahkjnefaaLgo
import Derived.Test.YtejgogahkjnefaaLac
import Derived.Test.YtejgogahkjnefaaLgg
namespace Go.Proofs.Ytejgogahkjnefaa
open Go.RowKit Go.Maps
set_option linter.unusedVariables false
set_option linter.unusedSimpArgs false

def heldL (n : Nat) (ds : List Dr) : List Int := (List.range n).map fun v => heldS ds ((v : Nat) : Int)
theorem heldL_len (n : Nat) (ds : List Dr) : (heldL n ds).length = n := by unfold heldL; simp
theorem heldL_get {n : Nat} (ds : List Dr) {v : Nat} (h : v < n) : (heldL n ds)[v]? = some (heldS ds (v : Int)) := by
  unfold heldL
  rw [List.getElem?_map, List.getElem?_range h]
  rfl
theorem heldL_eq {n : Nat} {ds ds' : List Dr} (h : ∀ u, u ≠ -1 → heldS ds' u = heldS ds u) : heldL n ds' = heldL n ds := by
  unfold heldL
  exact List.map_congr_left fun v _ => h v (by omega)
theorem heldL_set {n : Nat} {ds ds' : List Dr} {N : Nat} (hN : N < n) (c : Int) (h : ∀ u, u ≠ -1 → heldS ds' u = heldS ds u + (if u = (N : Int) then c else 0)) : heldL n ds' = (heldL n ds).set N (heldS ds (N : Int) + c) := by
  refine List.ext_getElem? fun v => ?_
  by_cases hv : v < n
  · rw [heldL_get _ hv, List.getElem?_set, heldL_len, heldL_get _ hv, h _ (by omega)]
    by_cases e : N = v
    · subst e; simp [hN]
    · have e' : ¬ ((v : Int) = (N : Int)) := by omega
      simp [e, e']
  · rw [List.getElem?_eq_none (by rw [heldL_len]; omega), List.getElem?_eq_none (by rw [List.length_set, heldL_len]; omega)]
theorem mountF_num (n : Nat) (ds : List Dr) (mv mt v : Int) : mv ≤ (mountF n ds mv mt v).mv ∧ (mountF n ds mv mt v).mv ≤ mv + 1 ∧ mt ≤ (mountF n ds mv mt v).mt ∧ (mountF n ds mv mt v).mt ≤ mt + 1 := by
  unfold mountF
  repeat' split
  all_goals simp only
  all_goals omega
theorem holdF_num (n : Nat) (ds : List Dr) (mv mt v : Int) : (holdF n ds mv mt v).mv = (mountF n ds mv mt v).mv ∧ (holdF n ds mv mt v).mt = (mountF n ds mv mt v).mt ∧ (holdF n ds mv mt v).ds.length = ds.length := by
  have := (mountF_ok n ds mv mt v).1
  unfold holdF
  split
  · exact ⟨rfl, rfl, by simpa using this⟩
  · exact ⟨rfl, rfl, this⟩
theorem relF_len (ds : List Dr) (v : Int) : (relF ds v).2.length = ds.length := by unfold relF; split <;> simp
theorem breakF_len (ds : List Dr) (v : Int) (b : Bool) : (breakF ds v b).length = ds.length := by unfold breakF; split <;> simp
theorem crashD_len (ds : List Dr) : (crashD ds).length = ds.length := by unfold crashD; simp

/-- a row of numbers, a block of its own -/
def RowAt (W : World) (k : Nat) (l : List Int) : Prop := ∃ M : Array Value, M.toList = ints l ∧ At W k 3 M
section
variable {W W' : World} {k : Nat} {l : List Int}
theorem RowAt.cell (h : RowAt W k l) {v : Nat} {x : Int} (hv : l[v]? = some x) : W.cell? ⟨k, v, none⟩ = some (.int .i64 x) := by
  obtain ⟨M, hM, ha⟩ := h
  rw [ha.cell, ← Array.getElem?_toList, hM]
  unfold ints
  rw [List.getElem?_map, hv]
  rfl
theorem RowAt.frozen (h : RowAt W k l) (v : Nat) : W.frozen? ⟨k, v, none⟩ = false := by obtain ⟨M, hM, ha⟩ := h; exact ha.frozen v
theorem RowAt.set (h : RowAt W k l) (v : Nat) (x : Int) : RowAt (W.setCell ⟨k, v, none⟩ (.int .i64 x)) k (l.set v x) := by
  obtain ⟨M, hM, ha⟩ := h
  refine ⟨_, ?_, ha.set v (.int .i64 x)⟩
  rw [Array.toList_setIfInBounds, hM]
  unfold ints
  rw [List.map_set]
theorem RowAt.lt (h : RowAt W k l) : k < W.heap.size := by obtain ⟨M, hM, ha⟩ := h; exact ha.lt
theorem RowAt.keep (h : RowAt W k l) (he : W'.heap[k]? = W.heap[k]?) : RowAt W' k l := by obtain ⟨M, hM, ha⟩ := h; exact ⟨M, hM, he.trans ha⟩
end

theorem new_zerosV (n : Nat) (hn : n ≤ 1000) (blk : Nat) (nd : Int) (W : World) (k3 : Nat) (hk3 : max 0 (min nd 3) = (k3 : Int)) (hA : ∃ M : Array Value, M.toList = ints (zeroL n) ∧ At W blk 3 M) :
    Calls Try.prog 6 #[.slice (some ⟨blk, 0, none⟩) n n, .int .i64 nd] W fun e w' => ∃ g v1 v2 gs, e = .returned (.pointer (some ⟨g, 0, none⟩)) ∧ gs.length = n ∧ LibAt w' W.heap.size g v1 v2 gs (List.replicate k3 (Dr.no false)) 0 0 ∧ (∃ sz, Vols w' W.heap.size gs sz ∧ ∀ s ∈ sz, s.lo = false) ∧ Below W.heap.size W w' := by
  obtain ⟨M, hM, hat⟩ := hA
  have hR : Lies W W.heap.size (some ⟨blk, 0, none⟩) (ints (zeroL n)) := Lies.of_at hat hM hat.lt
  have h := newlib_any (some ⟨blk, 0, none⟩) n (zeroL n) nd W hR (by intro x hx; unfold zeroL at hx; have := List.eq_of_mem_replicate hx; omega) (by rw [zeroL_len]; exact hn) k3 hk3
  rw [zeroL_len] at h
  refine h.mono ?_
  rintro e w' ⟨g, v1, v2, gs, h1, h2, h3, h4⟩
  refine ⟨g, v1, v2, gs, h1, ?_, h2, ⟨_, h3, freshOf_lo _⟩, h4⟩
  rw [h3.len]
  unfold freshOf
  rw [List.length_map, zeroL_len]
theorem heldL_new (n k : Nat) : heldL n (List.replicate k (Dr.no false)) = zeroL n := by
  unfold heldL zeroL
  refine List.ext_getElem? fun v => ?_
  by_cases hv : v < n
  · rw [List.getElem?_map, List.getElem?_range hv, List.getElem?_replicate, if_pos hv]
    simp only [Option.map_some]
    rw [heldS_none fun d hd e => by rw [List.eq_of_mem_replicate hd] at e; have : (Dr.no false).vol = -1 := rfl; omega]
  · rw [List.getElem?_eq_none (by simp; omega), List.getElem?_eq_none (by simp; omega)]
theorem heldS_le {n : Nat} {m : Int} {ds : List Dr} (h : OD n m ds) (hm : 0 ≤ m) {u : Int} (hu : u ≠ -1) : heldS ds u ≤ m := by
  have hle := inF_le ds u
  by_cases e : inF ds u = -1
  · rw [heldS_out hu e]; exact hm
  · obtain ⟨i, hi⟩ : ∃ i : Nat, inF ds u = (i : Int) := ⟨(inF ds u).toNat, by omega⟩
    obtain ⟨h1, h2, h3⟩ := heldS_in h hi
    rw [h3]
    exact (h.hold _ (List.getElem_mem h1)).2
/-- between the acts -/
structure OS (w wr : World) (G g : Nat) (v1 v2 : Value) (gs : List Nat) (ds : List Dr) (mv mt : Int) (kh : Nat) (hl : List Int) : Prop where
  lib : LibAt wr G g v1 v2 gs ds mv mt
  vols : ∃ sz, Vols wr G gs sz ∧ ∀ s ∈ sz, s.lo = false
  held : RowAt wr kh hl
  low : Below G w wr
  khB : G ≤ kh
section
variable {w wr w' : World} {G g kh : Nat} {v1 v2 : Value} {gs : List Nat} {ds ds' : List Dr} {mv mt mv' mt' : Int} {hl : List Int}
theorem OS.size (h : OS w wr G g v1 v2 gs ds mv mt kh hl) : G ≤ wr.heap.size := Nat.le_trans h.khB (Nat.le_of_lt h.held.lt)
theorem OS.grow (h : OS w wr G g v1 v2 gs ds mv mt kh hl) (hb : Below wr.heap.size wr w') : OS w w' G g v1 v2 gs ds mv mt kh hl :=
  ⟨h.lib.below hb, h.vols.elim fun sz hv => ⟨sz, hv.1.below hb, hv.2⟩, h.held.keep (hb.block kh h.held.lt), h.low.trans (hb.mono h.size), h.khB⟩
theorem OS.here (h : OS w wr G g v1 v2 gs ds mv mt kh hl) : Here wr gs := h.vols.elim fun sz hv => hv.1.here hv.2
theorem LibAt.no_kind {k : Nat} {t : TypeId} {cs : Array Value} (h : LibAt wr G g v1 v2 gs ds mv mt) (hk : At wr k t cs) (h1 : t ≠ 43) (h2 : t ≠ 47) : ¬LFoot g v2 k := fun e => by
  rcases h.foot_kind e with ⟨c, hc⟩ | ⟨c, hc⟩
  · exact At.differ hk hc h1 rfl
  · exact At.differ hk hc h2 rfl
theorem shift_at {k : Nat} {t : TypeId} {cs : Array Value} (h : LibAt wr G g v1 v2 gs ds mv mt) (hk : At wr k t cs) (h1 : t ≠ 43) (h2 : t ≠ 47) (hm : Shift wr w' (LFoot g v2)) : At w' k t cs := (hm.block k hk.lt (h.no_kind hk h1 h2)).trans hk
theorem OS.shift (h : OS w wr G g v1 v2 gs ds mv mt kh hl) (hl' : LibAt w' G g v1 v2 gs ds' mv' mt') (hm : Shift wr w' (LFoot g v2)) : OS w w' G g v1 v2 gs ds' mv' mt' kh hl := by
  refine ⟨hl', h.vols.elim fun sz hv => ⟨sz, hv.1.lib h.lib hm, hv.2⟩, h.held.keep ?_, h.low.trans (hm.below h.size h.lib.footB), h.khB⟩
  obtain ⟨M, hM, ha⟩ := h.held
  exact hm.block kh ha.lt (h.lib.no_kind ha (by decide) (by decide))
theorem OS.put (h : OS w wr G g v1 v2 gs ds mv mt kh hl) (v : Nat) (x : Int) : OS w (wr.setCell ⟨kh, v, none⟩ (.int .i64 x)) G g v1 v2 gs ds mv mt kh (hl.set v x) := by
  have hne : ∀ {k : Nat} {t : TypeId} {cs : Array Value}, At wr k t cs → t ≠ 3 → (wr.setCell ⟨kh, v, none⟩ (.int .i64 x)).heap[k]? = wr.heap[k]? := fun {k t cs} ha hn => far_heap wr kh v _ fun e => by
    subst e
    obtain ⟨M, hM, hb⟩ := h.held
    exact At.differ ha hb hn rfl
  refine ⟨h.lib.keep (hne h.lib.at_ (by decide)) (fun k e => by obtain ⟨c, hc⟩ := row_at h.lib.vrow e; exact hne hc (by decide)) (fun k e => by obtain ⟨c, hc⟩ := row_at h.lib.drow e; exact hne hc (by decide)), h.vols.elim fun sz hv => ⟨sz, hv.1.keep fun k hk => ?_, hv.2⟩, h.held.set v x, below_of_grownBy h.low (grown_cell wr kh v _) h.size h.khB, h.khB⟩
  rcases hk with ⟨cs, hc⟩ | ⟨cs, hc⟩ <;> exact hne hc (by decide)
/-- a map is written -/
theorem OS.map (h : OS w wr G g v1 v2 gs ds mv mt kh hl) {mb nm : Nat} {D : DataW Unit} (hs : Seen wr mb nm D) (hG : G ≤ mb) (hg : wr.grownBy w' (some mb)) : OS w w' G g v1 v2 gs ds mv mt kh hl := by
  have hne : ∀ {k : Nat} {t : TypeId} {cs : Array Value}, At wr k t cs → w'.heap[k]? = wr.heap[k]? := fun {k t cs} ha => hg.block k ha.lt (by have := hs.no_cells ha; simpa using this)
  refine ⟨h.lib.keep (hne h.lib.at_) (fun k e => by obtain ⟨c, hc⟩ := row_at h.lib.vrow e; exact hne hc) (fun k e => by obtain ⟨c, hc⟩ := row_at h.lib.drow e; exact hne hc), h.vols.elim fun sz hv => ⟨sz, hv.1.keep fun k hk => ?_, hv.2⟩, ?_, below_of_grownBy h.low hg h.size hG, h.khB⟩
  · rcases hk with ⟨cs, hc⟩ | ⟨cs, hc⟩ <;> exact hne hc
  · obtain ⟨M, hM, ha⟩ := h.held
    exact ⟨M, hM, (hne ha).trans ha⟩
end
/-- which drives have been seen, of the first j volumes -/
def seenD (ds : List Dr) (j : Nat) (u : Int) : Bool := (List.range j).any fun v => inF ds ((v : Nat) : Int) == u
theorem seenD_next (ds : List Dr) (j : Nat) (u : Int) : seenD ds (j + 1) u = (seenD ds j u || (inF ds (j : Int) == u)) := by
  unfold seenD
  rw [List.range_succ, List.any_append]
  simp
theorem seenD_not {n : Nat} {m : Int} {ds : List Dr} (h : OD n m ds) {j i : Nat} (hi : inF ds (j : Int) = (i : Int)) : seenD ds j (i : Int) = false := by
  unfold seenD
  rw [List.any_eq_false]
  intro v hv e
  have hvj := List.mem_range.1 hv
  have e1 : inF ds ((v : Nat) : Int) = (i : Int) := by simpa using e
  obtain ⟨a1, a2, a3⟩ := in_at e1
  obtain ⟨b1, b2, b3⟩ := in_at hi
  omega
theorem Seen.look {w : World} {mb nm : Nat} {D : DataW Unit} (h : Seen w mb nm D) {k : Int} (hkey : keyOf Try.prog 3 (.int .i64 k) = some (.int .i64 k)) (hk : hasV D k = false) :
    (Instr.lookup 36 (.map (some mb)) (.int .i64 k) false).run Try.prog w = .ok (.bool false) w := by
  obtain ⟨v, ps, hrun, hv⟩ := World.ownsMap.lookup h.own int_law Try.underlying36 (show (zeroValue 4).run Try.prog w = .ok (.bool false) w by kernel_rfl) (plainElem_bool Try.underlying4 false) hkey
  rw [atKey_of_not_has hk] at hv
  rw [hrun]
  have : v = .bool false := by
    unfold plainElem at hv
    rw [Try.underlying4] at hv
    cases v <;> simp at hv
    rw [hv.1]
  rw [this]
theorem seen_put {ds : List Dr} {j : Nat} {D : DataW Unit} (hD : Tidy D) (hh : ∀ u, hasV D u = seenD ds j u) (u : Int) : hasV (D.put (.int .i64 (inF ds (j : Int))) (.lit (.bool true))) u = seenD ds (j + 1) u := by
  rw [seenD_next]
  by_cases e : u = inF ds (j : Int)
  · subst e
    unfold hasV
    rw [has_put_same hD.isMap (show WideAt.IsKeyLit (.int .i64 _) from trivial)]
    simp
  · have h1 := hh u
    unfold hasV at h1 ⊢
    rw [has_put_other (by simpa using e), h1]
    have : (inF ds (j : Int) == u) = false := by simpa using fun x => e x.symm
    rw [this, Bool.or_false]
/-- what is held while a drive breaks -/
def zeroed (n : Nat) (ds : List Dr) (N : Int) (j : Nat) : List Int := (List.range n).map fun v => if v < j ∧ inF ds ((v : Nat) : Int) = N then 0 else heldS ds ((v : Nat) : Int)
theorem zeroed_len (n : Nat) (ds : List Dr) (N : Int) (j : Nat) : (zeroed n ds N j).length = n := by unfold zeroed; simp
theorem zeroed_zero (n : Nat) (ds : List Dr) (N : Int) : zeroed n ds N 0 = heldL n ds := by unfold zeroed heldL; simp
theorem zeroed_end {n : Nat} {m : Int} {ds : List Dr} (h : OD n m ds) (hm : 0 ≤ m) (N : Int) : zeroed n ds N n = heldL n (breakF ds N true) := by
  unfold zeroed heldL
  refine List.map_congr_left fun v hv => ?_
  rw [(break_od h hm N).2 _ (by omega)]
  have := List.mem_range.1 hv
  simp [this]
theorem zeroed_hit {n : Nat} {ds : List Dr} {N : Int} {j : Nat} (hj : j < n) (h : inF ds (j : Int) = N) : (zeroed n ds N j).set j 0 = zeroed n ds N (j + 1) := by
  refine List.ext_getElem? fun v => ?_
  by_cases hv : v < n
  · rw [List.getElem?_set, zeroed_len]
    unfold zeroed
    rw [List.getElem?_map, List.getElem?_map, List.getElem?_range hv]
    by_cases e : j = v
    · subst e; simp [hj, h]
    · simp only [e, if_false, Option.map_some]
      by_cases h1 : v < j
      · simp [h1, show v < j + 1 by omega]
      · simp [h1, show ¬ v < j + 1 by omega]
  · rw [List.getElem?_eq_none (by rw [List.length_set, zeroed_len]; omega), List.getElem?_eq_none (by rw [zeroed_len]; omega)]
theorem zeroed_miss {n : Nat} {ds : List Dr} {N : Int} {j : Nat} (h : ¬ inF ds (j : Int) = N) : zeroed n ds N j = zeroed n ds N (j + 1) := by
  unfold zeroed
  refine List.map_congr_left fun v _ => ?_
  by_cases e : v = j
  · subst e; simp [h]
  · by_cases h1 : v < j
    · simp [h1, show v < j + 1 by omega]
    · simp [h1, show ¬ v < j + 1 by omega]
end Go.Proofs.Ytejgogahkjnefaa
