/- (*platter.Disk).put: its walk. -/
import Derived.Test.YtejgogahkjnefaaDoorP2
import Derived.Test.YtejgogahkjnefaaDoorCl
import Derived.Deep.CutRange
namespace Go.Proofs.YtejgogahkjnefaaDoor
open Go.RowKit Go.Sort
open Pm (Key Fi St Files)
set_option linter.unusedVariables false

def FV.box (f : FV) : Obj := .cells #[f.a.val, .bool f.ea, f.b.val, .bool f.eb] 123

theorem alloc_grow (w : World) (o : Obj) : w.alloc o = grow (w.drewN 0) #[o] := by
  unfold World.alloc grow World.drewN
  simp

theorem weight_grown (f : FV) (n : Nat) (hn : max f.a.n f.b.n = n) (W : World) : Calls Tryd.prog 88 #[f.val] W fun e w' => e = .returned (.int .i64 (n : Int)) ∧ ∃ q os', w' = grow (W.drewN q) os' :=
  (fweight_any f W).mono fun _ _ ⟨he, hw⟩ => ⟨by rw [he, hn], 0, #[f.box], by rw [hw, ← alloc_grow]; rfl⟩

section
variable {w : World} {g : Nat} {rm us lf : Int} {lo : Bool} {v : Value}
/-- the five cells of a disk -/
abbrev five (rm us : Int) (lo : Bool) (lf : Int) (v : Value) : Array Value := #[.int .i64 rm, .int .i64 us, .bool lo, .int .i64 lf, v]
theorem five_meter (h : At w g 69 (five rm us lo lf v)) (h0 : 0 ≤ us) (h1 : us ≤ rm) (h2 : rm ≤ 9223372036854775807) : MeterAt w g rm us := ⟨h.cell 0, h.cell 1, h.frozen 1, h1, h0, h2⟩
theorem take_disk (h : At w g 69 (five rm us lo lf v)) (h0 : 0 ≤ us) (h1 : us ≤ rm) (h2 : rm ≤ 9223372036854775807) (n : Int) (hn : 0 ≤ n) (hf : n ≤ rm - us) :
    Calls Tryd.prog 77 #[.pointer (some ⟨g, 0, none⟩), .int .i64 n] w fun e w' => e = .returned (.int .i64 0) ∧ At w' g 69 (five rm (us + n) lo lf v) ∧ w.grownBy w' (some g) := by
  refine (take_any (five_meter h h0 h1 h2) n).mono ?_
  rintro e w' (⟨h3, _⟩ | ⟨_, h4, _⟩ | ⟨_, _, rfl, m, rfl⟩)
  · omega
  · omega
  · exact ⟨rfl, (h.drewN m).set 1 _, grown_drew_set _ _ _ _ _⟩
theorem give_disk (h : At w g 69 (five rm us lo lf v)) (h0 : 0 ≤ us) (h1 : us ≤ rm) (h2 : rm ≤ 9223372036854775807) (n : Int) (hn : 0 ≤ n) (hf : n ≤ us) :
    Calls Tryd.prog 70 #[.pointer (some ⟨g, 0, none⟩), .int .i64 n] w fun e w' => e = .returned (.int .i64 0) ∧ At w' g 69 (five rm (us - n) lo lf v) ∧ w.grownBy w' (some g) := by
  refine (give_any (five_meter h h0 h1 h2) n).mono ?_
  rintro e w' (⟨h3, _⟩ | ⟨_, _, rfl, rfl⟩)
  · omega
  · exact ⟨rfl, h.set 1 _, grown_set _ _ _ _⟩
end

theorem at_grow {w : World} {g : Nat} {t : TypeId} {cs : Array Value} (h : At w g t cs) (n : Nat) (os : Array Obj) : At (grow (w.drewN n) os) g t cs :=
  (show (grow (w.drewN n) os).heap[g]? = w.heap[g]? by simp [Go.Sort.grow, Array.getElem?_append_left h.lt]).trans h
theorem map_grow {w : World} {m : Nat} {G : Held} (h : MapIs w m G) (n : Nat) (os : Array Obj) : MapIs (grow (w.drewN n) os) m G :=
  h.of_block (by simp [Go.Sort.grow, Array.getElem?_append_left h.lt])
theorem MapIs.alloc {w : World} {m : Nat} {G : Held} (h : MapIs w m G) (o : Obj) : MapIs (w.alloc o) m G := h.of_block (Below.heap_alloc w o m h.lt)
theorem MapIs.grown {w w' : World} {m : Nat} {G : Held} {row : Option Nat} (h : MapIs w m G) (hg : w.grownBy w' row) (hm : some m ≠ row) : MapIs w' m G := h.of_block (hg.block m h.lt hm)

/-- the files when one has been laid in, or struck -/
def setG (G : Held) (k : Key) (v : FV × Fi) : Held := if v.2.there then Pm.put k v G else Pm.del k G
theorem abs_setG (G : Held) (k : Key) (v : FV × Fi) : abs (setG G k v) = Pm.set (abs G) k v.2 := by
  unfold setG Pm.set abs
  split
  · rw [Pm.vmap_put]
  · rw [Pm.vmap_del]
theorem mem_setG {G : Held} {k : Key} {v : FV × Fi} {p : Key × FV × Fi} (h : p ∈ setG G k v) : (p = (k, v) ∧ v.2.there = true) ∨ (p ∈ G ∧ p.1 ≠ k) := by
  unfold setG at h
  split at h
  · rename_i ht
    rcases Pm.mem_put.1 h with h | h
    · exact .inl ⟨h, ht⟩
    · exact .inr h
  · exact .inr (Pm.mem_del.1 h)

theorem pairwise_ins {α : Type} {R : Key × α → Key × α → Prop} (hs : ∀ a b, R a b → R b a) {x : Key × α} : ∀ {l : List (Key × α)}, l.Pairwise R → (∀ p ∈ l, R x p) → (Pm.ins x l).Pairwise R
  | [], _, _ => by simp [Pm.ins]
  | y :: r, h, hx => by
    unfold Pm.ins
    have hy := List.pairwise_cons.1 h
    split
    · exact List.pairwise_cons.2 ⟨hx, h⟩
    · refine List.pairwise_cons.2 ⟨fun p hp => ?_, pairwise_ins hs hy.2 (fun p hp => hx p (by simp [hp]))⟩
      rcases Pm.mem_ins.1 hp with rfl | hp
      · exact hs _ _ (hx y (by simp))
      · exact hy.1 p hp

/-- a file laid in a disk: what there is then -/
theorem Dsk.rebuild {w w' : World} {B g m : Nat} {rm us : Int} {lo : Bool} {lf : Int} {G : Held} (h : Dsk w B g m rm us lo lf G) {k : Key} {f : FV} {x : Fi} (hf : FileIs w B f x) (hk : k.length ≤ maxLen)
    (hd : ∀ p ∈ G, p.1 ≠ k → ∀ b, f.in b → ¬p.2.1.in b) {us' : Int} (hm : Moved w w' fun b => b = g ∨ b = m) (hat : At w' g 69 #[.int .i64 rm, .int .i64 us', .bool lo, .int .i64 lf, .map (some m)])
    (hmap : MapIs w' m (setG G k (f, x))) (hus : us' = (Pm.used (abs (setG G k (f, x))) : Nat)) (hle : us' ≤ rm) : Dsk w' B g m rm us' lo lf (setG G k (f, x)) := by
  have hgm : ∀ {f : FV} {x : Fi}, FileIs w B f x → ∀ b, f.in b → ¬(b = g ∨ b = m) := by
    intro f x hf b hb
    obtain ⟨cur, hc⟩ := hf.bytes hb
    rintro (rfl | rfl)
    · exact absurd rfl (At.differ hc h.at_ (by decide))
    · obtain ⟨es, clock, hm, _⟩ := h.map
      rw [hm] at hc
      cases hc
  have keep : ∀ {f : FV} {x : Fi}, FileIs w B f x → FileIs w' B f x := fun hf => hf.keep fun b hb => hm.block b (hf.lt hb).2 (hgm hf b hb)
  have hsym : ∀ a b : Key × FV × Fi, (∀ c, a.2.1.in c → ¬b.2.1.in c) → ∀ c, b.2.1.in c → ¬a.2.1.in c := fun a b h c hb ha => h c ha hb
  refine ⟨hat, hmap, fun p hp => ?_, ?_, ?_, hus, hle, h.top, h.lpos, h.ltop, h.gB, h.mB⟩
  · rcases mem_setG hp with ⟨rfl, ht⟩ | ⟨hp, _⟩
    · exact ⟨keep hf, ht, hk⟩
    · exact ⟨keep (h.files p hp).1, (h.files p hp).2⟩
  · unfold setG
    split
    · exact pairwise_ins hsym (h.apart.filter _) (fun p hp => hd p (Pm.mem_del.1 hp).1 (Pm.mem_del.1 hp).2)
    · exact h.apart.filter _
  · unfold setG
    split
    · exact h.sorted.put
    · exact h.sorted.del

theorem used_setG {w : World} {B g m : Nat} {rm us : Int} {lo : Bool} {lf : Int} {G : Held} (h : Dsk w B g m rm us lo lf G) (k : Key) (f : FV) {x : Fi} (hx : x.ok) :
    ((Pm.used (abs (setG G k (f, x))) : Nat) : Int) = us - ((Pm.fi (abs G) k).weight : Nat) + (x.weight : Nat) := by
  have h1 := Pm.used_set (L := abs G) (h.sorted.vmap _) k hx
  rw [abs_setG, h.sum]
  simp only
  omega
theorem weight_us {w : World} {B g m : Nat} {rm us : Int} {lo : Bool} {lf : Int} {G : Held} (h : Dsk w B g m rm us lo lf G) (k : Key) : ((Pm.fi (abs G) k).weight : Int) ≤ us := by
  have := Pm.weight_used (L := abs G) (h.sorted.vmap _) k
  rw [h.sum]
  omega
theorem FileIs.weight {w : World} {B : Nat} {f : FV} {x : Fi} (h : FileIs w B f x) : max f.a.n f.b.n = x.weight := by unfold Pm.Fi.weight; rw [h.a.1, h.b.1]

set_option maxRecDepth 100000 in
set_option maxHeartbeats 2000000 in
theorem put_any {w : World} {B g m : Nat} {rm us : Int} {lo : Bool} {lf : Int} {G : Held} (h : Dsk w B g m rm us lo lf G) (s : ByteArray) (hs : s.size ≤ 140737488355328) {f : FV} {x : Fi} (hf : FileIs w B f x)
    (hd : ∀ p ∈ G, p.1 ≠ s.data.toList → ∀ b, f.in b → ¬p.2.1.in b) (hfit : us - ((Pm.fi (abs G) s.data.toList).weight : Nat) + (x.weight : Nat) ≤ rm) (hG : G.length < maxLen) :
    Calls Tryd.prog 89 #[.pointer (some ⟨g, 0, none⟩), .string s, f.val] w fun e w' => e = .returned (.tuple #[]) ∧
      ∃ us', Dsk w' B g m rm us' lo lf (setG G s.data.toList (f, x)) ∧ Moved w w' fun b => b = g ∨ b = m := by
  have hmix : Tryd.prog.follows .mixedOrders = true := by kernel_rfl
  have hsm : s.size ≤ maxLen := by unfold maxLen; omega
  have hwf := hf.weight
  have hwo := (h.fv s.data.toList).weight
  have hwu := weight_us h s.data.toList
  have hus0 : 0 ≤ us := by rw [h.sum]; omega
  have hus1 := h.le
  have hrm := h.top
  have hus2 := used_setG h s.data.toList f hf.ok
  obtain ⟨fo, hfo⟩ : ∃ fo, fvAt G s.data.toList = fo := ⟨_, rfl⟩
  rw [hfo] at hwo
  have hbox : At (w.alloc f.box) w.heap.size 123 #[f.a.val, .bool f.ea, f.b.val, .bool f.eb] := At.new _ _ _
  have hat := h.at_.alloc f.box
  have hmap := h.map.alloc f.box
  have hmv : Moved w (w.alloc f.box) fun b => b = g ∨ b = m := Moved.of_below ((Below.refl _ w).alloc (Nat.le_refl _) _)
  have hlook : ∀ n os, (Instr.lookup 67 (.map (some m)) (.string s) false).run Tryd.prog (grow ((w.alloc f.box).drewN n) os) = .ok fo.val (grow ((w.alloc f.box).drewN n) os) := fun n os => by
    rw [← hfo]; exact (map_grow hmap n os).look hsm
  have hc4 : ∀ n os, (grow ((w.alloc f.box).drewN n) os).cell? ⟨g, 4, none⟩ = some (.map (some m)) := fun n os => (at_grow hat n os).cell 4
  have hb0 : ∀ n os, (grow ((w.alloc f.box).drewN n) os).cell? ⟨w.heap.size, 0, none⟩ = some f.a.val := fun n os => (at_grow hbox n os).cell 0
  have hb1 : ∀ n os, (grow ((w.alloc f.box).drewN n) os).cell? ⟨w.heap.size, 1, none⟩ = some (.bool f.ea) := fun n os => (at_grow hbox n os).cell 1
  have hb2 : ∀ n os, (grow ((w.alloc f.box).drewN n) os).cell? ⟨w.heap.size, 2, none⟩ = some f.b.val := fun n os => (at_grow hbox n os).cell 2
  have hb3 : ∀ n os, (grow ((w.alloc f.box).drewN n) os).cell? ⟨w.heap.size, 3, none⟩ = some (.bool f.eb) := fun n os => (at_grow hbox n os).cell 3
  have HH := Lib.hid h
  have HF := Lib.hid hf
  have HD := Lib.hid hd
  have HAT := Lib.hid hat
  have HMAP := Lib.hid hmap
  have HBOX := Lib.hid hbox
  have HMV := Lib.hid hmv
  clear h hf hd hat hmap hbox hmv hfo
  have hfv : f.val = .agg #[f.a.val, .bool f.ea, f.b.val, .bool f.eb] := rfl
  have hfb : f.box = .cells #[f.a.val, .bool f.ea, f.b.val, .bool f.eb] 123 := rfl
  rw [hfv]
  simp only [hfb] at *
  clear hfv hfb
  generalize hva : f.a.val = va at *
  generalize hvb : f.b.val = vb at *
  generalize hea : f.ea = ea at *
  generalize heb : f.eb = eb at *
  have HFV : Hid (f.val = .agg #[va, .bool ea, vb, .bool eb]) := Lib.hid (by unfold FV.val; rw [hva, hvb, hea, heb])
  have HTH : Hid (x.there = (ea || eb)) := Lib.hid (by unfold Pm.Fi.there; rw [← hea, ← heb, HF.out.ea, HF.out.eb])
  clear hva hvb hea heb
  go_enter Tryd.func89, Tryd.ntmps89
  go_wp2_with fail
  generalize hwb : w.alloc (.cells #[va, .bool ea, vb, .bool eb] 123) = wb at *
  clear hwb
  generalize hbx : w.heap.size = bx at *
  clear hbx
  generalize hnn : x.weight = nn at *
  generalize hno : (Pm.fi (abs G) s.data.toList).weight = no at *
  clear hnn hno
  go_quiet_grown (first
    | (go_at_call_of 88 (FV.val fo); exact Calls.grown_of (weight_grown fo no hwo _))
    | (go_at_call 88; exact Calls.grown_of (by rw [← HFV.out]; exact weight_grown f nn hwf _)))
  have HAT1 := Lib.hid (at_grow HAT.out nq osq)
  have HMAP1 := Lib.hid (map_grow HMAP.out nq osq)
  have HBOX1 := Lib.hid (at_grow HBOX.out nq osq)
  have HMV1 := Lib.hid (HMV.out.trans (Moved.grow wb nq osq _) (fun k _ h => h))
  clear hlook hc4 hb0 hb1 hb2 hb3 HAT HMAP HBOX HMV hwf hwo
  generalize grow (wb.drewN nq) osq = W1 at *
  clear nq osq
  have hwr : IntKind.i64.wrap ((nn : Int) - (no : Int)) = (nn : Int) - (no : Int) := IntWalk.i64_in _ ⟨by omega, by omega⟩
  simp only [hwr]
  by_cases hgr : no < nn
  · go_wp2_with fail
    refine (take_disk HAT1.out hus0 hus1 hrm _ (by omega) (by omega)).mono ?_
    rintro e W2 ⟨rfl, hat2, hg2⟩
    have HMV2 := Lib.hid (HMV1.out.trans (Moved.of_grown (F := fun b => b = g ∨ b = m) hg2 (fun k hk => .inl (by simpa using hk.symm))) (fun k _ h => h))
    have HMAP2 : Hid (MapIs W2 m G) := Lib.hid (HMAP1.out.grown hg2 (by
      intro e
      obtain ⟨es, clock, hmm, _⟩ := HMAP1.out
      have a1 := HAT1.out
      have e1 : m = g := by simpa using e
      unfold At at a1
      rw [← e1, hmm] at a1
      cases a1))
    have HBOX2 := Lib.hid (HBOX1.out.grown hg2 (by have := HBOX1.out.differ HAT1.out (by decide); simpa using this))
    have HAT2 := Lib.hid hat2
    clear hat2 hg2 HAT1 HMAP1 HBOX1 HMV1
    have b1 := HBOX2.out.cell 1
    have b3 := HBOX2.out.cell 3
    have hkl : s.data.toList.length ≤ maxLen := by simpa using hsm
    cases ea with
    | true =>
      have hth : x.there = true := by rw [HTH.out]; rfl
      go_wp2_with fail
      have hcB : ∀ W, Below W2.heap.size W2.drew W → W.cell? ⟨g, 4, none⟩ = some (.map (some m)) ∧ W.cell? ⟨bx, 0, none⟩ = some va ∧ W.cell? ⟨bx, 1, none⟩ = some (.bool true) ∧ W.cell? ⟨bx, 2, none⟩ = some vb ∧ W.cell? ⟨bx, 3, none⟩ = some (.bool eb) ∧
          ∃ W', (Instr.mapUpdate 67 (.map (some m)) (.string s) (.agg #[va, .bool true, vb, .bool eb])).run Tryd.prog W = .ok () W' ∧ MapIs W' m (setG G s.data.toList (f, x)) ∧
            At W' g 69 (five rm (us + ((nn : Int) - (no : Int))) lo lf (.map (some m))) ∧ Moved w W' fun b => b = g ∨ b = m := by
        intro W hb
        have a1 := (show At W2.drew g 69 (five rm (us + ((nn : Int) - (no : Int))) lo lf (.map (some m))) from HAT2.out).below hb HAT2.out.lt
        have a2 := (show At W2.drew bx 123 #[va, .bool true, vb, .bool eb] from HBOX2.out).below hb HBOX2.out.lt
        have a3 : MapIs W m G := HMAP2.out.of_block (hb.block m HMAP2.out.lt)
        obtain ⟨W', hrun, hm', hg'⟩ := a3.store hsm hG f x
        rw [HFV.out] at hrun
        refine ⟨a1.cell 4, a2.cell 0, a2.cell 1, a2.cell 2, a2.cell 3, W', hrun, by unfold setG; rw [if_pos hth]; exact hm', a1.grown hg' ?_, ?_⟩
        · intro e
          obtain ⟨es, clock, hmm, _⟩ := a3
          have e1 : g = m := by simpa using e
          unfold At at a1
          rw [e1, hmm] at a1
          cases a1
        · refine HMV2.out.trans ((Moved.of_below (w := W2) (F := fun b => b = g ∨ b = m) ⟨hb.os, hb.tape, hb.output, hb.size, hb.block⟩).trans (Moved.of_grown hg' (fun k hk => .inr ?_)) (fun k _ h => h)) (fun k _ h => h)
          simpa using hk.symm
      have HCB := Lib.hid hcB
      have HQ := hcB W2.drew (Below.refl _ _)
      obtain ⟨c4, b0, b1, b2, b3, _⟩ := HQ
      clear hcB
      go_region_with (go_at_call 34; refine (clone_any s _ hs).mono ?_; rintro e w5 ⟨rfl, hb5⟩; obtain ⟨q4, r0, r1, r2, r3, w6, hrun, hm6, ha6, hv6⟩ := HCB.out w5 hb5)
      all_goals
        go_end0
        exact ⟨rfl, (us + ((nn : Int) - (no : Int))), HH.out.rebuild HF.out hkl HD.out hv6 ha6 hm6 (by rw [hus2]; omega) (by omega), hv6⟩
    | false =>
      cases eb with
      | true =>
        have hth : x.there = true := by rw [HTH.out]; rfl
        go_wp2_with fail
        have hcB : ∀ W, Below W2.heap.size W2.drew W → W.cell? ⟨g, 4, none⟩ = some (.map (some m)) ∧ W.cell? ⟨bx, 0, none⟩ = some va ∧ W.cell? ⟨bx, 1, none⟩ = some (.bool false) ∧ W.cell? ⟨bx, 2, none⟩ = some vb ∧ W.cell? ⟨bx, 3, none⟩ = some (.bool true) ∧
            ∃ W', (Instr.mapUpdate 67 (.map (some m)) (.string s) (.agg #[va, .bool false, vb, .bool true])).run Tryd.prog W = .ok () W' ∧ MapIs W' m (setG G s.data.toList (f, x)) ∧
              At W' g 69 (five rm (us + ((nn : Int) - (no : Int))) lo lf (.map (some m))) ∧ Moved w W' fun b => b = g ∨ b = m := by
          intro W hb
          have a1 := (show At W2.drew g 69 (five rm (us + ((nn : Int) - (no : Int))) lo lf (.map (some m))) from HAT2.out).below hb HAT2.out.lt
          have a2 := (show At W2.drew bx 123 #[va, .bool false, vb, .bool true] from HBOX2.out).below hb HBOX2.out.lt
          have a3 : MapIs W m G := HMAP2.out.of_block (hb.block m HMAP2.out.lt)
          obtain ⟨W', hrun, hm', hg'⟩ := a3.store hsm hG f x
          rw [HFV.out] at hrun
          refine ⟨a1.cell 4, a2.cell 0, a2.cell 1, a2.cell 2, a2.cell 3, W', hrun, by unfold setG; rw [if_pos hth]; exact hm', a1.grown hg' ?_, ?_⟩
          · intro e
            obtain ⟨es, clock, hmm, _⟩ := a3
            have e1 : g = m := by simpa using e
            unfold At at a1
            rw [e1, hmm] at a1
            cases a1
          · refine HMV2.out.trans ((Moved.of_below (w := W2) (F := fun b => b = g ∨ b = m) ⟨hb.os, hb.tape, hb.output, hb.size, hb.block⟩).trans (Moved.of_grown hg' (fun k hk => .inr ?_)) (fun k _ h => h)) (fun k _ h => h)
            simpa using hk.symm
        have HCB := Lib.hid hcB
        have HQ := hcB W2.drew (Below.refl _ _)
        obtain ⟨c4, b0, b1, b2, b3, _⟩ := HQ
        clear hcB
        go_region_with (go_at_call 34; refine (clone_any s _ hs).mono ?_; rintro e w5 ⟨rfl, hb5⟩; obtain ⟨q4, r0, r1, r2, r3, w6, hrun, hm6, ha6, hv6⟩ := HCB.out w5 hb5)
        all_goals
          go_end0
          exact ⟨rfl, (us + ((nn : Int) - (no : Int))), HH.out.rebuild HF.out hkl HD.out hv6 ha6 hm6 (by rw [hus2]; omega) (by omega), hv6⟩
      | false =>
        have hth : x.there = false := by rw [HTH.out]; rfl
        obtain ⟨W', hrun, hm', hg'⟩ := HMAP2.out.drop hsm 0
        have c4 := HAT2.out.cell 4
        have ha6 := HAT2.out.grown hg' (by
          intro e
          obtain ⟨es, clock, hmm, _⟩ := HMAP2.out
          have a1 := HAT2.out
          have e1 : g = m := by simpa using e
          unfold At at a1
          rw [e1, hmm] at a1
          cases a1)
        have hv6 := HMV2.out.trans (Moved.of_grown (F := fun b => b = g ∨ b = m) hg' (fun k hk => .inr (by simpa using hk.symm))) (fun k _ h => h)
        have hm6 : MapIs W' m (setG G s.data.toList (f, x)) := by unfold setG; rw [if_neg (by rw [hth]; decide)]; exact hm'
        have HA6 := Lib.hid ha6
        have HV6 := Lib.hid hv6
        have HM6 := Lib.hid hm6
        clear ha6 hv6 hm6 hm' hg'
        go_wp2
        go_end0
        exact ⟨rfl, (us + ((nn : Int) - (no : Int))), HH.out.rebuild HF.out hkl HD.out HV6.out HA6.out HM6.out (by rw [hus2]; omega) (by omega), HV6.out⟩
  · have hmin : (if us < (no : Int) - (nn : Int) then us else (no : Int) - (nn : Int)) = (no : Int) - (nn : Int) := by rw [if_neg (by omega)]
    have hmin2 : min ((no : Int) - (nn : Int)) us = (no : Int) - (nn : Int) := by omega
    have hwr2 : IntKind.i64.wrap (-((nn : Int) - (no : Int))) = (no : Int) - (nn : Int) := by rw [IntWalk.i64_in _ ⟨by omega, by omega⟩]; omega
    have hU := used_any (five_meter (show At W1.drew g 69 (five rm us lo lf (.map (some m))) from HAT1.out) hus0 hus1 hrm)
    have hV := give_disk (show At W1.drew g 69 (five rm us lo lf (.map (some m))) from HAT1.out) hus0 hus1 hrm ((no : Int) - (nn : Int)) (by omega) (by omega)
    have HU := Lib.hid hU; clear hU
    have HV := Lib.hid hV; clear hV
    go_upto_region 4 with fail
    go_cut [6] from 24 to 34 (fun v wx => v = .int .i64 ((nn : Int) - (no : Int)) ∧ Hid (At wx g 69 (five rm (us - ((no : Int) - (nn : Int))) lo lf (.map (some m)))) ∧ Hid (W1.drew.grownBy wx (some g)))
    case first =>
      go_region_with (first
        | (go_at_call 25; refine HU.out.mono ?_; rintro e w5 ⟨rfl, rfl⟩)
        | (go_at_call 70; refine HV.out.mono ?_; rintro e w5 ⟨rfl, hA5, hG5⟩))
      all_goals
        go_wp2_with fail
        go_meet
        exact ⟨rfl, Lib.hid hA5, Lib.hid hG5⟩
    case rest =>
      clear HU HV hmin hmin2 hwr2
      obtain ⟨rfl, hat2', hg2'⟩ := hcut
      have hg3 := hg2'.out
      have hg2 : W1.grownBy wc (some g) := ⟨hg3.os, hg3.tape, hg3.output, hg3.size, hg3.block⟩
      clear hg3
      have HMV2 := Lib.hid (HMV1.out.trans (Moved.of_grown (F := fun b => b = g ∨ b = m) hg2 (fun k hk => .inl (by simpa using hk.symm))) (fun k _ h => h))
      have HMAP2 : Hid (MapIs wc m G) := Lib.hid (HMAP1.out.grown hg2 (by
        intro e
        obtain ⟨es, clock, hmm, _⟩ := HMAP1.out
        have a1 := HAT1.out
        have e1 : m = g := by simpa using e
        unfold At at a1
        rw [← e1, hmm] at a1
        cases a1))
      have HBOX2 := Lib.hid (HBOX1.out.grown hg2 (by have := HBOX1.out.differ HAT1.out (by decide); simpa using this))
      have HAT2 := hat2'
      clear hat2' hg2' hg2 HAT1 HMAP1 HBOX1 HMV1
      generalize wc = W2 at *
      have b1 := HBOX2.out.cell 1
      have b3 := HBOX2.out.cell 3
      have hkl : s.data.toList.length ≤ maxLen := by simpa using hsm
      cases ea with
      | true =>
        have hth : x.there = true := by rw [HTH.out]; rfl
        go_wp2_with fail
        have hcB : ∀ W, Below W2.heap.size W2.drew W → W.cell? ⟨g, 4, none⟩ = some (.map (some m)) ∧ W.cell? ⟨bx, 0, none⟩ = some va ∧ W.cell? ⟨bx, 1, none⟩ = some (.bool true) ∧ W.cell? ⟨bx, 2, none⟩ = some vb ∧ W.cell? ⟨bx, 3, none⟩ = some (.bool eb) ∧
            ∃ W', (Instr.mapUpdate 67 (.map (some m)) (.string s) (.agg #[va, .bool true, vb, .bool eb])).run Tryd.prog W = .ok () W' ∧ MapIs W' m (setG G s.data.toList (f, x)) ∧
              At W' g 69 (five rm (us - ((no : Int) - (nn : Int))) lo lf (.map (some m))) ∧ Moved w W' fun b => b = g ∨ b = m := by
          intro W hb
          have a1 := (show At W2.drew g 69 (five rm (us - ((no : Int) - (nn : Int))) lo lf (.map (some m))) from HAT2.out).below hb HAT2.out.lt
          have a2 := (show At W2.drew bx 123 #[va, .bool true, vb, .bool eb] from HBOX2.out).below hb HBOX2.out.lt
          have a3 : MapIs W m G := HMAP2.out.of_block (hb.block m HMAP2.out.lt)
          obtain ⟨W', hrun, hm', hg'⟩ := a3.store hsm hG f x
          rw [HFV.out] at hrun
          refine ⟨a1.cell 4, a2.cell 0, a2.cell 1, a2.cell 2, a2.cell 3, W', hrun, by unfold setG; rw [if_pos hth]; exact hm', a1.grown hg' ?_, ?_⟩
          · intro e
            obtain ⟨es, clock, hmm, _⟩ := a3
            have e1 : g = m := by simpa using e
            unfold At at a1
            rw [e1, hmm] at a1
            cases a1
          · refine HMV2.out.trans ((Moved.of_below (w := W2) (F := fun b => b = g ∨ b = m) ⟨hb.os, hb.tape, hb.output, hb.size, hb.block⟩).trans (Moved.of_grown hg' (fun k hk => .inr ?_)) (fun k _ h => h)) (fun k _ h => h)
            simpa using hk.symm
        have HCB := Lib.hid hcB
        have HQ := hcB W2.drew (Below.refl _ _)
        obtain ⟨c4, b0, b1, b2, b3, _⟩ := HQ
        clear hcB
        go_region_with (go_at_call 34; refine (clone_any s _ hs).mono ?_; rintro e w5 ⟨rfl, hb5⟩; obtain ⟨q4, r0, r1, r2, r3, w6, hrun, hm6, ha6, hv6⟩ := HCB.out w5 hb5)
        all_goals
          go_end0
          exact ⟨rfl, (us - ((no : Int) - (nn : Int))), HH.out.rebuild HF.out hkl HD.out hv6 ha6 hm6 (by rw [hus2]; omega) (by omega), hv6⟩
      | false =>
        cases eb with
        | true =>
          have hth : x.there = true := by rw [HTH.out]; rfl
          go_wp2_with fail
          have hcB : ∀ W, Below W2.heap.size W2.drew W → W.cell? ⟨g, 4, none⟩ = some (.map (some m)) ∧ W.cell? ⟨bx, 0, none⟩ = some va ∧ W.cell? ⟨bx, 1, none⟩ = some (.bool false) ∧ W.cell? ⟨bx, 2, none⟩ = some vb ∧ W.cell? ⟨bx, 3, none⟩ = some (.bool true) ∧
              ∃ W', (Instr.mapUpdate 67 (.map (some m)) (.string s) (.agg #[va, .bool false, vb, .bool true])).run Tryd.prog W = .ok () W' ∧ MapIs W' m (setG G s.data.toList (f, x)) ∧
                At W' g 69 (five rm (us - ((no : Int) - (nn : Int))) lo lf (.map (some m))) ∧ Moved w W' fun b => b = g ∨ b = m := by
            intro W hb
            have a1 := (show At W2.drew g 69 (five rm (us - ((no : Int) - (nn : Int))) lo lf (.map (some m))) from HAT2.out).below hb HAT2.out.lt
            have a2 := (show At W2.drew bx 123 #[va, .bool false, vb, .bool true] from HBOX2.out).below hb HBOX2.out.lt
            have a3 : MapIs W m G := HMAP2.out.of_block (hb.block m HMAP2.out.lt)
            obtain ⟨W', hrun, hm', hg'⟩ := a3.store hsm hG f x
            rw [HFV.out] at hrun
            refine ⟨a1.cell 4, a2.cell 0, a2.cell 1, a2.cell 2, a2.cell 3, W', hrun, by unfold setG; rw [if_pos hth]; exact hm', a1.grown hg' ?_, ?_⟩
            · intro e
              obtain ⟨es, clock, hmm, _⟩ := a3
              have e1 : g = m := by simpa using e
              unfold At at a1
              rw [e1, hmm] at a1
              cases a1
            · refine HMV2.out.trans ((Moved.of_below (w := W2) (F := fun b => b = g ∨ b = m) ⟨hb.os, hb.tape, hb.output, hb.size, hb.block⟩).trans (Moved.of_grown hg' (fun k hk => .inr ?_)) (fun k _ h => h)) (fun k _ h => h)
              simpa using hk.symm
          have HCB := Lib.hid hcB
          have HQ := hcB W2.drew (Below.refl _ _)
          obtain ⟨c4, b0, b1, b2, b3, _⟩ := HQ
          clear hcB
          go_region_with (go_at_call 34; refine (clone_any s _ hs).mono ?_; rintro e w5 ⟨rfl, hb5⟩; obtain ⟨q4, r0, r1, r2, r3, w6, hrun, hm6, ha6, hv6⟩ := HCB.out w5 hb5)
          all_goals
            go_end0
            exact ⟨rfl, (us - ((no : Int) - (nn : Int))), HH.out.rebuild HF.out hkl HD.out hv6 ha6 hm6 (by rw [hus2]; omega) (by omega), hv6⟩
        | false =>
          have hth : x.there = false := by rw [HTH.out]; rfl
          obtain ⟨W', hrun, hm', hg'⟩ := HMAP2.out.drop hsm 0
          have c4 := HAT2.out.cell 4
          have ha6 := HAT2.out.grown hg' (by
            intro e
            obtain ⟨es, clock, hmm, _⟩ := HMAP2.out
            have a1 := HAT2.out
            have e1 : g = m := by simpa using e
            unfold At at a1
            rw [e1, hmm] at a1
            cases a1)
          have hv6 := HMV2.out.trans (Moved.of_grown (F := fun b => b = g ∨ b = m) hg' (fun k hk => .inr (by simpa using hk.symm))) (fun k _ h => h)
          have hm6 : MapIs W' m (setG G s.data.toList (f, x)) := by unfold setG; rw [if_neg (by rw [hth]; decide)]; exact hm'
          have HA6 := Lib.hid ha6
          have HV6 := Lib.hid hv6
          have HM6 := Lib.hid hm6
          clear ha6 hv6 hm6 hm' hg'
          go_wp2
          go_end0
          exact ⟨rfl, (us - ((no : Int) - (nn : Int))), HH.out.rebuild HF.out hkl HD.out HV6.out HA6.out HM6.out (by rw [hus2]; omega) (by omega), HV6.out⟩
end Go.Proofs.YtejgogahkjnefaaDoor
