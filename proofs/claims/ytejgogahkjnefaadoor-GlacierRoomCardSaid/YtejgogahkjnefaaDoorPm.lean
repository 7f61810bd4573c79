/- The mathematics of a disk: what Sync, Remove and Crash make of its files. No program is named here. -/
import Derived.Test.YtejgogahkjnefaaDoorP0
namespace Pm
set_option linter.unusedVariables false

/-- a file whose state is the same now and for sure -/
def still (s : St) : Fi := ⟨s, s⟩
theorem still_weight (s : St) : (still s).weight = s.t.length := Nat.max_self _
theorem still_ok {s : St} (h : s.ex = false → s.t = []) : (still s).ok := ⟨h, h⟩
theorem fi_ok_now {f : Fi} (h : f.ok) : f.now.ex = false → f.now.t = [] := h.1

/-- a file is settled in a state -/
def settle (L : Files) (k : Key) (s : St) : Files := set L k (still s)
theorem settle_sorted {L : Files} (h : Sorted L) (k : Key) (s : St) : Sorted (settle L k s) := set_sorted h k _
theorem settle_there {L : Files} (h : AllThere L) (k : Key) {s : St} (hs : s.ex = false → s.t = []) : AllThere (settle L k s) := h.set k (still_ok hs)
theorem fi_settle_same (L : Files) (k : Key) {s : St} (hs : s.ex = false → s.t = []) : fi (settle L k s) k = still s := fi_set_same L k (still_ok hs)
theorem fi_settle_other (L : Files) {k k' : Key} (s : St) (h : k' ≠ k) : fi (settle L k s) k' = fi L k' := fi_set_other L _ h

theorem length_set_le {L : Files} {k : Key} {f : Fi} (h : (fi L k).there = false → f.there = false) : (set L k f).length ≤ L.length := by
  unfold set
  split
  · rename_i ht
    cases hg : get k L with
    | none =>
      have : (fi L k).there = false := by unfold fi; rw [hg]; rfl
      rw [h this] at ht
      cases ht
    | some u => exact length_put_some hg
  · exact length_del k L
theorem length_settle_le {L : Files} {k : Key} {s : St} (h : s.ex = true → (fi L k).there = true) : (settle L k s).length ≤ L.length := by
  refine length_set_le (fun h1 => ?_)
  unfold still Fi.there
  simp only [Bool.or_self]
  cases hs : s.ex with
  | false => rfl
  | true => rw [h hs] at h1; cases h1

/-- Sync of these names, one behind the other -/
def syncs : List Key → Files → Files
  | [], L => L
  | k :: r, L => syncs r (settle L k (fi L k).now)
theorem syncs_inv : ∀ (ks : List Key) {L : Files}, Sorted L → AllThere L → Sorted (syncs ks L) ∧ AllThere (syncs ks L)
  | [], L, h, h' => ⟨h, h'⟩
  | k :: r, L, h, h' => syncs_inv r (settle_sorted h k _) (settle_there h' k (h'.fi k).1)
theorem fi_syncs : ∀ (ks : List Key) {L : Files}, AllThere L → ∀ k, fi (syncs ks L) k = if k ∈ ks then still (fi L k).now else fi L k
  | [], L, h, k => by simp [syncs]
  | a :: r, L, h, k => by
    unfold syncs
    rw [fi_syncs r (settle_there h a (h.fi a).1) k]
    by_cases e : k = a
    · subst e
      rw [fi_settle_same L k (h.fi k).1]
      by_cases hr : k ∈ r <;> simp [hr, still]
    · rw [fi_settle_other L _ e]
      by_cases hr : k ∈ r <;> simp [hr, e]
/-- the order of the names is one -/
theorem syncs_perm {ks ks' : List Key} (hp : ks.Perm ks') {L : Files} (h : Sorted L) (h' : AllThere L) : syncs ks L = syncs ks' L := by
  obtain ⟨a1, a2⟩ := syncs_inv ks h h'
  obtain ⟨b1, b2⟩ := syncs_inv ks' h h'
  refine files_ext a1 b1 a2 b2 (fun k => ?_)
  rw [fi_syncs ks h' k, fi_syncs ks' h' k]
  simp only [hp.mem_iff]
def keys (L : Files) : List Key := L.map (·.1)

/-- Remove of these names, one behind the other -/
def removes : List Key → Files → Files
  | [], L => L
  | k :: r, L => removes r (set L k ⟨St.no, (fi L k).sure⟩)

/-- Crash over these names, by the choices from number n on -/
def crashes (c : Int → Int → Int) : List Key → Nat → Files → Files
  | [], _, L => L
  | k :: r, n, L => if (fi L k).safe then crashes c r n L else crashes c r (n + 1) (settle L k (left (fi L k) (c (n : Int))))

theorem left_length (f : Fi) (c : Int → Int) : (left f c).t.length ≤ f.weight := by
  unfold left Fi.weight
  split
  · split
    · omega
    · simp only [List.length_take]; omega
  · split <;> omega
theorem left_ok {f : Fi} (h : f.ok) (c : Int → Int) : (left f c).ex = false → (left f c).t = [] := by
  unfold left
  split
  · split
    · exact h.2
    · intro e; cases e
  · split
    · exact h.1
    · exact h.2
theorem left_there {f : Fi} {c : Int → Int} (hs : f.safe = false) (h : f.ok) : f.there = true := by
  cases ht : f.there with
  | true => rfl
  | false => rw [Fi.gone h ht] at hs; cases hs

/-- a file whose contents are now the first keep ones (none, or all), and then t -/
def wrote (x : Fi) (keep : Nat) (t : List UInt8) : Fi := ⟨⟨true, (if keep = 0 then [] else x.now.t) ++ t⟩, x.sure⟩
theorem wrote_ok {x : Fi} (h : x.ok) (keep : Nat) (t : List UInt8) : (wrote x keep t).ok := ⟨fun e => (by cases e), h.2⟩
end Pm
