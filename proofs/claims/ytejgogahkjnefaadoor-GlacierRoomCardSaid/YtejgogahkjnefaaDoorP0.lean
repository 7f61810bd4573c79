/- The mathematics of a disk: files by rising names, each with its two states. No program is named here. -/
import GoSem.ClaimWide
import Derived.ChangeMaps
namespace Pm
open Go (bytesBefore)
set_option linter.unusedVariables false

abbrev Key := List UInt8

section lists
variable {α β : Type}

/-- x ahead of the first one that comes behind it -/
def ins (x : Key × α) : List (Key × α) → List (Key × α)
  | [] => [x]
  | y :: r => if bytesBefore x.1 y.1 then x :: y :: r else y :: ins x r
def del (k : Key) (l : List (Key × α)) : List (Key × α) := l.filter fun p => !(p.1 == k)
def put (k : Key) (v : α) (l : List (Key × α)) : List (Key × α) := ins (k, v) (del k l)
def get (k : Key) (l : List (Key × α)) : Option α := (l.find? fun p => p.1 == k).map (·.2)
def vmap (f : α → β) (l : List (Key × α)) : List (Key × β) := l.map fun p => (p.1, f p.2)
def Sorted (l : List (Key × α)) : Prop := l.Pairwise fun p q => bytesBefore p.1 q.1 = true

theorem bb_irrefl : ∀ a : Key, bytesBefore a a = false
  | [] => rfl
  | a :: r => by unfold bytesBefore; simp [bb_irrefl r]
theorem bb_trans : ∀ {a b c : Key}, bytesBefore a b = true → bytesBefore b c = true → bytesBefore a c = true
  | [], [], _, h, _ => by simp [bytesBefore] at h
  | [], _ :: _, [], _, h => by simp [bytesBefore] at h
  | [], _ :: _, _ :: _, _, _ => rfl
  | _ :: _, [], _, h, _ => by simp [bytesBefore] at h
  | _ :: _, _ :: _, [], _, h => by simp [bytesBefore] at h
  | a :: r, b :: s, c :: t, h, h' => by
    simp only [bytesBefore, Bool.or_eq_true, decide_eq_true_eq, Bool.and_eq_true, beq_iff_eq] at h h' ⊢
    rcases h with h | ⟨rfl, h⟩
    · rcases h' with h' | ⟨rfl, h'⟩
      · exact .inl (UInt8.lt_trans h h')
      · exact .inl h
    · rcases h' with h' | ⟨rfl, h'⟩
      · exact .inl h'
      · exact .inr ⟨rfl, bb_trans h h'⟩
theorem bb_total : ∀ {a b : Key}, a ≠ b → bytesBefore a b = true ∨ bytesBefore b a = true
  | [], [], h => absurd rfl h
  | [], _ :: _, _ => .inl rfl
  | _ :: _, [], _ => .inr rfl
  | a :: r, b :: s, h => by
    simp only [bytesBefore, Bool.or_eq_true, decide_eq_true_eq, Bool.and_eq_true, beq_iff_eq]
    have h0 : a < b ∨ a = b ∨ b < a := by
      rcases Nat.lt_trichotomy a.toNat b.toNat with h1 | h1 | h1
      · exact .inl (UInt8.lt_iff_toNat_lt.2 h1)
      · exact .inr (.inl (UInt8.toNat_inj.1 h1))
      · exact .inr (.inr (UInt8.lt_iff_toNat_lt.2 h1))
    rcases h0 with h1 | rfl | h1
    · exact .inl (.inl h1)
    · rcases bb_total (a := r) (b := s) (fun e => h (by rw [e])) with h2 | h2
      · exact .inl (.inr ⟨rfl, h2⟩)
      · exact .inr (.inr ⟨rfl, h2⟩)
    · exact .inr (.inl h1)

theorem mem_ins {x p : Key × α} : ∀ {l : List (Key × α)}, p ∈ ins x l ↔ p = x ∨ p ∈ l
  | [] => by simp [ins]
  | y :: r => by
    unfold ins
    split
    · simp
    · simp [mem_ins (l := r)]
      constructor
      · rintro (h | h | h) <;> simp [h]
      · rintro (h | h | h) <;> simp [h]
theorem mem_del {k : Key} {p : Key × α} {l : List (Key × α)} : p ∈ del k l ↔ p ∈ l ∧ p.1 ≠ k := by simp [del]
theorem mem_put {k : Key} {v : α} {p : Key × α} {l : List (Key × α)} : p ∈ put k v l ↔ p = (k, v) ∨ (p ∈ l ∧ p.1 ≠ k) := by simp [put, mem_ins, mem_del]

theorem Sorted.del {k : Key} {l : List (Key × α)} (h : Sorted l) : Sorted (del k l) := List.Pairwise.filter _ h
theorem Sorted.ins {x : Key × α} : ∀ {l : List (Key × α)}, Sorted l → (∀ p ∈ l, p.1 ≠ x.1) → Sorted (ins x l)
  | [], _, _ => by simp [Pm.ins, Sorted]
  | y :: r, h, hne => by
    unfold Pm.ins
    have hy := List.pairwise_cons.1 h
    split
    · rename_i hb
      exact List.pairwise_cons.2 ⟨fun p hp => by rcases List.mem_cons.1 hp with rfl | hp; exact hb; exact bb_trans hb (hy.1 p hp), h⟩
    · rename_i hb
      refine List.pairwise_cons.2 ⟨fun p hp => ?_, Sorted.ins hy.2 (fun q hq => hne q (by simp [hq]))⟩
      rcases mem_ins.1 hp with rfl | hp
      · rcases bb_total (hne y (by simp)) with h1 | h1
        · exact h1
        · exact absurd h1 hb
      · exact hy.1 p hp
theorem Sorted.put {k : Key} {v : α} {l : List (Key × α)} (h : Sorted l) : Sorted (put k v l) := Sorted.ins h.del (fun p hp => (mem_del.1 hp).2)
theorem Sorted.ne {l : List (Key × α)} (h : Sorted l) : l.Pairwise fun p q => p.1 ≠ q.1 :=
  h.imp fun hb e => by rw [e, bb_irrefl] at hb; cases hb

theorem get_nil (k : Key) : get k ([] : List (Key × α)) = none := rfl
theorem find_ins_hit {k : Key} {v : α} : ∀ {l : List (Key × α)}, (∀ p ∈ l, p.1 ≠ k) → (ins (k, v) l).find? (fun p => p.1 == k) = some (k, v)
  | [], _ => by simp [ins]
  | y :: r, h => by
    unfold ins
    have hy : (y.1 == k) = false := beq_eq_false_iff_ne.2 (h y (by simp))
    split
    · simp
    · rw [List.find?_cons, hy]
      exact find_ins_hit (fun p hp => h p (by simp [hp]))
theorem find_ins_miss {k k' : Key} {v : α} (hne : k' ≠ k) : ∀ {l : List (Key × α)}, (ins (k, v) l).find? (fun p => p.1 == k') = l.find? (fun p => p.1 == k')
  | [] => by simp [ins, Ne.symm hne]
  | y :: r => by
    have hk : (k == k') = false := beq_eq_false_iff_ne.2 (Ne.symm hne)
    unfold ins
    split
    · rw [List.find?_cons]
      simp only [hk]
    · rw [List.find?_cons, List.find?_cons, find_ins_miss hne]
theorem find_del_miss {k k' : Key} (hne : k' ≠ k) : ∀ {l : List (Key × α)}, (del k l).find? (fun p => p.1 == k') = l.find? (fun p => p.1 == k')
  | [] => rfl
  | y :: r => by
    unfold del
    rw [List.filter_cons]
    by_cases h : y.1 = k
    · have h1 : (y.1 == k') = false := beq_eq_false_iff_ne.2 (by rw [h]; exact Ne.symm hne)
      have h2 : (!(y.1 == k)) = false := by simp [h]
      rw [h2, List.find?_cons, h1]
      exact find_del_miss hne (l := r)
    · have h2 : (!(y.1 == k)) = true := by simp [h]
      rw [if_pos h2, List.find?_cons, List.find?_cons]
      have := find_del_miss hne (l := r)
      unfold del at this
      rw [this]
theorem get_put_same (k : Key) (v : α) (l : List (Key × α)) : get k (put k v l) = some v := by
  unfold get put
  rw [find_ins_hit (fun p hp => (mem_del.1 hp).2)]
  rfl
theorem get_put_other {k k' : Key} (v : α) (l : List (Key × α)) (hne : k' ≠ k) : get k' (put k v l) = get k' l := by
  unfold get put
  rw [find_ins_miss hne, find_del_miss hne]
theorem get_del_same (k : Key) (l : List (Key × α)) : get k (del k l) = none := by
  unfold get
  rw [Option.map_eq_none_iff, List.find?_eq_none]
  intro p hp
  simpa using (mem_del.1 hp).2
theorem get_del_other {k k' : Key} (l : List (Key × α)) (hne : k' ≠ k) : get k' (del k l) = get k' l := by
  unfold get
  rw [find_del_miss hne]
theorem get_mem {k : Key} {v : α} {l : List (Key × α)} (h : get k l = some v) : (k, v) ∈ l := by
  unfold get at h
  obtain ⟨p, hp, rfl⟩ := Option.map_eq_some_iff.1 h
  have h1 := List.mem_of_find?_eq_some hp
  have h2 := List.find?_some hp
  simp at h2
  rw [← h2]
  exact h1
theorem get_none {k : Key} {l : List (Key × α)} : get k l = none ↔ ∀ p ∈ l, p.1 ≠ k := by
  unfold get
  rw [Option.map_eq_none_iff, List.find?_eq_none]
  simp
theorem get_of_mem {k : Key} {v : α} : ∀ {l : List (Key × α)}, l.Pairwise (fun p q => p.1 ≠ q.1) → (k, v) ∈ l → get k l = some v
  | [], _, h => by simp at h
  | y :: r, hp, h => by
    have hy := List.pairwise_cons.1 hp
    rcases List.mem_cons.1 h with rfl | h
    · simp [get]
    · have h1 : (y.1 == k) = false := beq_eq_false_iff_ne.2 (hy.1 _ h)
      have := get_of_mem hy.2 h
      unfold get at this ⊢
      rw [List.find?_cons, h1]
      exact this
theorem del_of_none {k : Key} {l : List (Key × α)} (h : get k l = none) : del k l = l := by
  rw [get_none] at h
  unfold del
  rw [List.filter_eq_self]
  intro p hp
  simpa using h p hp

/-- two lists by rising keys that hold the same are one -/
theorem ext : ∀ {l l' : List (Key × α)}, Sorted l → Sorted l' → (∀ k, get k l = get k l') → l = l' := by
  intro l l' h h' hg
  have sub : ∀ {l l' : List (Key × α)}, Sorted l → (∀ k, get k l = get k l') → ∀ p ∈ l, p ∈ l' := by
    intro l l' h hg p hp
    have h1 := get_of_mem (k := p.1) (v := p.2) h.ne hp
    rw [hg] at h1
    exact get_mem h1
  have s1 := sub h hg
  have s2 := sub h' (fun k => (hg k).symm)
  clear hg sub
  induction l generalizing l' with
  | nil =>
    cases l' with
    | nil => rfl
    | cons b t => exact absurd (s2 b (by simp)) (by simp)
  | cons a r ih =>
    cases l' with
    | nil => exact absurd (s1 a (by simp)) (by simp)
    | cons b t =>
      have ha := List.pairwise_cons.1 h
      have hb := List.pairwise_cons.1 h'
      have hab : a = b := by
        rcases List.mem_cons.1 (s1 a (by simp)) with e | h1
        · exact e
        · rcases List.mem_cons.1 (s2 b (by simp)) with e | h2
          · exact e.symm
          · have := bb_trans (hb.1 a h1) (ha.1 b h2)
            rw [bb_irrefl] at this
            cases this
      subst hab
      rw [ih ha.2 hb.2 (fun p hp => by
        rcases List.mem_cons.1 (s1 p (by simp [hp])) with e | h1
        · subst e
          have := ha.1 _ hp
          rw [bb_irrefl] at this
          cases this
        · exact h1) (fun p hp => by
        rcases List.mem_cons.1 (s2 p (by simp [hp])) with e | h1
        · subst e
          have := hb.1 _ hp
          rw [bb_irrefl] at this
          cases this
        · exact h1)]

theorem vmap_ins (f : α → β) (k : Key) (v : α) : ∀ l : List (Key × α), vmap f (ins (k, v) l) = ins (k, f v) (vmap f l)
  | [] => rfl
  | y :: r => by
    unfold ins
    unfold vmap
    rw [List.map_cons]
    simp only
    split
    · simp
    · rw [List.map_cons]
      have := vmap_ins f k v r
      unfold vmap at this
      rw [this]
theorem vmap_del (f : α → β) (k : Key) (l : List (Key × α)) : vmap f (del k l) = del k (vmap f l) := by
  unfold vmap del
  rw [List.filter_map]
  rfl
theorem vmap_put (f : α → β) (k : Key) (v : α) (l : List (Key × α)) : vmap f (put k v l) = put k (f v) (vmap f l) := by
  unfold put; rw [vmap_ins, vmap_del]
theorem get_vmap (f : α → β) (k : Key) (l : List (Key × α)) : get k (vmap f l) = (get k l).map f := by
  unfold get vmap
  rw [List.find?_map, Option.map_map, Option.map_map]
  rfl
theorem Sorted.vmap {l : List (Key × α)} (h : Sorted l) (f : α → β) : Sorted (vmap f l) := by
  unfold Sorted Pm.vmap at *
  rw [List.pairwise_map]
  exact h
theorem length_ins (x : Key × α) : ∀ l : List (Key × α), (ins x l).length = l.length + 1
  | [] => rfl
  | y :: r => by unfold ins; split; rfl; simp [length_ins x r]
theorem length_del (k : Key) (l : List (Key × α)) : (del k l).length ≤ l.length := List.length_filter_le _ _
theorem length_put (k : Key) (v : α) (l : List (Key × α)) : (put k v l).length ≤ l.length + 1 := by
  unfold put; rw [length_ins]; have := length_del k l; omega
theorem length_put_some {k : Key} {v u : α} {l : List (Key × α)} (h : get k l = some u) : (put k v l).length ≤ l.length := by
  unfold put
  rw [length_ins]
  have h1 := get_mem h
  have h2 : (del k l).length < l.length := by
    unfold del
    exact List.length_filter_lt_length_iff_exists.2 ⟨_, h1, by simp⟩
  omega

/-- a sum over a list by rising keys -/
def total (f : α → Nat) (l : List (Key × α)) : Nat := (l.map fun p => f p.2).sum
theorem total_ins (f : α → Nat) (x : Key × α) : ∀ l : List (Key × α), total f (ins x l) = f x.2 + total f l
  | [] => by simp [ins, total]
  | y :: r => by
    unfold ins
    split
    · simp [total]
    · have := total_ins f x r
      unfold total at *
      rw [List.map_cons, List.sum_cons, this, List.map_cons, List.sum_cons]
      omega
theorem total_del (f : α → Nat) (k : Key) : ∀ {l : List (Key × α)}, l.Pairwise (fun p q => p.1 ≠ q.1) → total f (del k l) + ((get k l).map f).getD 0 = total f l
  | [], _ => rfl
  | y :: r, h => by
    have hy := List.pairwise_cons.1 h
    have ih := total_del f k hy.2
    by_cases e : y.1 = k
    · have h0 : get k r = none := get_none.2 (fun p hp => by rw [← e]; exact Ne.symm (hy.1 p hp))
      have h1 : get k (y :: r) = some y.2 := by simp [get, e]
      have h2 : del k (y :: r) = del k r := by unfold del; rw [List.filter_cons_of_neg (by simp [e])]
      rw [h1, h2, del_of_none h0]
      simp [total]
      omega
    · have h1 : get k (y :: r) = get k r := by
        unfold get
        rw [List.find?_cons, show (y.1 == k) = false from beq_eq_false_iff_ne.2 e]
      have h2 : del k (y :: r) = y :: del k r := by unfold del; rw [List.filter_cons_of_pos (by simp [e])]
      rw [h1, h2]
      simp only [total, List.map_cons, List.sum_cons] at ih ⊢
      omega
theorem total_put (f : α → Nat) (k : Key) (v : α) {l : List (Key × α)} (h : Sorted l) : total f (put k v l) + ((get k l).map f).getD 0 = total f l + f v := by
  have := total_del f k h.ne
  unfold put
  rw [total_ins]
  simp only
  omega
theorem total_get (f : α → Nat) {k : Key} {v : α} {l : List (Key × α)} (h : Sorted l) (hg : get k l = some v) : f v ≤ total f l := by
  have := total_del f k h.ne
  rw [hg] at this
  simp at this
  omega
end lists

/-- a file at one time -/
structure St where
  ex : Bool
  t : List UInt8
/-- a file -/
structure Fi where
  now : St
  sure : St
def St.no : St := ⟨false, []⟩
def Fi.no : Fi := ⟨.no, .no⟩
def Fi.weight (f : Fi) : Nat := max f.now.t.length f.sure.t.length
def Fi.there (f : Fi) : Bool := f.now.ex || f.sure.ex
/-- what doesn't exist has no bytes -/
def Fi.ok (f : Fi) : Prop := (f.now.ex = false → f.now.t = []) ∧ (f.sure.ex = false → f.sure.t = [])
theorem Fi.no_ok : Fi.no.ok := ⟨fun _ => rfl, fun _ => rfl⟩
theorem Fi.gone {f : Fi} (h : f.ok) (ht : f.there = false) : f = .no := by
  obtain ⟨⟨e, t⟩, ⟨e', t'⟩⟩ := f
  simp [Fi.there] at ht
  obtain ⟨rfl, rfl⟩ := ht
  have h1 := h.1 rfl
  have h2 := h.2 rfl
  simp at h1 h2
  subst h1 h2
  rfl

abbrev Files := List (Key × Fi)
def fi (L : Files) (k : Key) : Fi := (get k L).getD .no
def set (L : Files) (k : Key) (f : Fi) : Files := if f.there then put k f L else del k L
def used (L : Files) : Nat := total Fi.weight L

theorem set_sorted {L : Files} (h : Sorted L) (k : Key) (f : Fi) : Sorted (set L k f) := by
  unfold set; split; exact h.put; exact h.del
theorem fi_set_same (L : Files) (k : Key) {f : Fi} (h : f.ok) : fi (set L k f) k = f := by
  unfold set fi
  cases ht : f.there with
  | true => rw [if_pos rfl, get_put_same]; rfl
  | false => rw [if_neg (by simp), get_del_same, Fi.gone h ht]; rfl
theorem fi_set_other (L : Files) {k k' : Key} (f : Fi) (h : k' ≠ k) : fi (set L k f) k' = fi L k' := by
  unfold set fi
  split
  · rw [get_put_other _ _ h]
  · rw [get_del_other _ h]
theorem used_set {L : Files} (h : Sorted L) (k : Key) {f : Fi} (hf : f.ok) : used (set L k f) + (fi L k).weight = used L + f.weight := by
  have e : ((get k L).map Fi.weight).getD 0 = (fi L k).weight := by
    unfold fi
    cases get k L with
    | none => rfl
    | some x => rfl
  unfold set used
  cases ht : f.there with
  | true =>
    rw [if_pos rfl, ← e]
    exact total_put Fi.weight k f h
  | false =>
    rw [if_neg (by simp), ← e, total_del Fi.weight k h.ne, Fi.gone hf ht]
    rfl
theorem weight_used {L : Files} (h : Sorted L) (k : Key) : (fi L k).weight ≤ used L := by
  unfold fi
  cases hg : get k L with
  | none => exact Nat.zero_le _
  | some x => exact total_get Fi.weight h hg
theorem length_set (L : Files) (k : Key) (f : Fi) : (set L k f).length ≤ L.length + 1 := by
  unfold set
  split
  · exact length_put _ _ _
  · have := length_del k L; omega
/-- all files are there -/
def AllThere (L : Files) : Prop := ∀ p ∈ L, p.2.there = true ∧ p.2.ok
theorem AllThere.set {L : Files} (h : AllThere L) (k : Key) {f : Fi} (hf : f.ok) : AllThere (set L k f) := by
  intro p hp
  unfold Pm.set at hp
  split at hp
  · rename_i ht
    rcases mem_put.1 hp with rfl | ⟨hp, _⟩
    · exact ⟨ht, hf⟩
    · exact h p hp
  · exact h p (mem_del.1 hp).1
theorem AllThere.fi {L : Files} (h : AllThere L) (k : Key) : (fi L k).ok := by
  unfold Pm.fi
  cases hg : get k L with
  | none => exact Fi.no_ok
  | some x => exact (h _ (get_mem hg)).2
/-- two disks that hold the same files are one -/
theorem files_ext {L L' : Files} (h : Sorted L) (h' : Sorted L') (ht : AllThere L) (ht' : AllThere L') (hf : ∀ k, fi L k = fi L' k) : L = L' := by
  refine ext h h' (fun k => ?_)
  have := hf k
  unfold fi at this
  cases hg : get k L with
  | none =>
    cases hg' : get k L' with
    | none => rfl
    | some x =>
      rw [hg, hg'] at this
      have h1 := (ht' _ (get_mem hg')).1
      simp at this
      rw [← this] at h1
      cases h1
  | some x =>
    cases hg' : get k L' with
    | none =>
      rw [hg, hg'] at this
      have h1 := (ht _ (get_mem hg)).1
      simp at this
      rw [this] at h1
      cases h1
    | some y =>
      rw [hg, hg'] at this
      simp at this
      rw [this]

def Fi.safe (f : Fi) : Bool := (f.now.ex == f.sure.ex) && (f.now.t == f.sure.t)
/-- what a crash leaves of a file that isn't safe, where c is the choice out of so many -/
def left (f : Fi) (c : Int → Int) : St :=
  if f.sure.t.length < f.now.t.length ∧ f.now.t.take f.sure.t.length = f.sure.t then
    (if c ((f.now.t.length : Int) - f.sure.t.length + 1) = 0 then f.sure else ⟨true, f.now.t.take (f.sure.t.length + (c ((f.now.t.length : Int) - f.sure.t.length + 1)).toNat)⟩)
  else if c 2 = 1 then f.now else f.sure
end Pm
