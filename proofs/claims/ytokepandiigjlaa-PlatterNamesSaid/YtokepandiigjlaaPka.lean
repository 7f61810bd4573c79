/- What no call on other files touches: the mathematics. The calls of a disk that is armed or not, on other files. -/
import Derived.Test.YtokepandiigjlaaPsa
namespace Pm
/-- the file K is still s; there are at most n files, of short names -/
structure Keep (K : Key) (s : St) (n : Nat) (L : Files) : Prop where
  mine : fi L K = still s
  len : L.length ≤ n
  keys : ∀ k ∈ keys L, k.length ≤ 6

theorem keys_set {L : Files} {k : Key} {f : Fi} {j : Key} (h : j ∈ keys (set L k f)) : j = k ∨ j ∈ keys L := by
  unfold keys at *
  obtain ⟨p, hp, rfl⟩ := List.mem_map.1 h
  unfold set at hp
  split at hp
  · rcases mem_put.1 hp with rfl | ⟨hp, _⟩
    · exact .inl rfl
    · exact .inr (List.mem_map.2 ⟨p, hp, rfl⟩)
  · exact .inr (List.mem_map.2 ⟨p, (mem_del.1 hp).1, rfl⟩)

section
variable {K : Key} {s : St} {n : Nat} {L : Files}
theorem Keep.mono (h : Keep K s n L) {n' : Nat} (hn : n ≤ n') : Keep K s n' L := ⟨h.mine, Nat.le_trans h.len hn, h.keys⟩
theorem Keep.set (h : Keep K s n L) {k : Key} (hk : k ≠ K) (hl : k.length ≤ 6) (f : Fi) : Keep K s (n + 1) (set L k f) :=
  ⟨(fi_set_other L f hk.symm).trans h.mine, Nat.le_trans (length_set L k f) (by have := h.len; omega), fun j hj => by
    rcases keys_set hj with rfl | hj
    · exact hl
    · exact h.keys j hj⟩
theorem Keep.syncs : ∀ (ks : List Key) {L : Files}, Keep K s n L → (s.ex = false → s.t = []) → (∀ k ∈ ks, k.length ≤ 6) → Keep K s n (syncs ks L)
  | [], L, h, _, _ => h
  | k :: r, L, h, hs, hk => by
    unfold Pm.syncs
    refine Keep.syncs r ?_ hs (fun j hj => hk j (by simp [hj]))
    refine ⟨?_, Nat.le_trans (length_settle_le (fun he => ?_)) h.len, fun j hj => ?_⟩
    · by_cases e : K = k
      · subst e
        rw [h.mine]
        exact fi_settle_same L K hs
      · rw [fi_settle_other L _ e]
        exact h.mine
    · unfold Fi.there
      rw [he]
      rfl
    · rcases keys_set hj with rfl | hj
      · exact hk j (by simp)
      · exact h.keys j hj
theorem Keep.removes : ∀ (ks : List Key) {L : Files}, Keep K s n L → (∀ k ∈ ks, k ≠ K ∧ k.length ≤ 6) → Keep K s n (removes ks L)
  | [], L, h, _ => h
  | k :: r, L, h, hk => by
    unfold Pm.removes
    refine Keep.removes r ?_ (fun j hj => hk j (by simp [hj]))
    refine ⟨?_, Nat.le_trans (length_gone_le L k) h.len, fun j hj => ?_⟩
    · exact (fi_set_other L _ (hk k (by simp)).1.symm).trans h.mine
    · rcases keys_set hj with rfl | hj
      · exact (hk j (by simp)).2
      · exact h.keys j hj
theorem fi_crashes_safe (c : Int → Int → Int) : ∀ (ks : List Key) (i : Nat) {L : Files} (k : Key), (fi L k).safe = true → fi (crashes c ks i L) k = fi L k
  | [], i, L, k, h => rfl
  | a :: r, i, L, k, h => by
    unfold crashes
    by_cases hs : (fi L a).safe = true
    · rw [if_pos hs]
      exact fi_crashes_safe c r i k h
    · rw [if_neg hs]
      have e : k ≠ a := fun e => hs (e ▸ h)
      have h2 := fi_settle_other L (left (fi L a) (c i)) e
      rw [fi_crashes_safe c r (i + 1) k (by rw [h2]; exact h), h2]
theorem still_safe (s : St) : (still s).safe = true := by simp [still, Fi.safe]
theorem crashes_safe (c : Int → Int → Int) : ∀ (ks : List Key) (i : Nat) {L : Files}, AllThere L → ∀ k, k ∈ ks ∨ (fi L k).safe = true → (fi (crashes c ks i L) k).safe = true
  | [], i, L, _, k, h => by
    rcases h with h | h
    · cases h
    · exact h
  | a :: r, i, L, ha, k, h => by
    unfold crashes
    by_cases hs : (fi L a).safe = true
    · rw [if_pos hs]
      refine crashes_safe c r i ha k ?_
      rcases h with h | h
      · rcases List.mem_cons.1 h with rfl | h
        · exact .inr hs
        · exact .inl h
      · exact .inr h
    · rw [if_neg hs]
      have hl := left_ok (ha.fi a) (c i)
      refine crashes_safe c r (i + 1) (settle_there ha a hl) k ?_
      by_cases e : k = a
      · subst e
        rw [fi_settle_same L k hl]
        exact .inr (still_safe _)
      · rw [fi_settle_other L _ e]
        rcases h with h | h
        · rcases List.mem_cons.1 h with h | h
          · exact absurd h e
          · exact .inl h
        · exact .inr h
theorem fi_not_key {L : Files} {k : Key} (h : k ∉ keys L) : fi L k = Fi.no := by
  unfold fi
  rw [get_none.2 (fun p hp e => h (List.mem_map.2 ⟨p, hp, e⟩))]
  rfl
theorem crashes_all (c : Int → Int → Int) {L : Files} (h : AllThere L) (k : Key) : (fi (crashes c (keys L) 0 L) k).safe = true := by
  refine crashes_safe c _ 0 h k ?_
  by_cases hk : k ∈ keys L
  · exact .inl hk
  · right
    rw [fi_not_key hk]
    rfl
end
end Pm
namespace Go.Proofs.Ytokepandiigjlaa
open Go.RowKit Go.Sort
open Pm (Key Fi St Files)
set_option linter.unusedVariables false

/-- a call has ended with some error or none, and the file K is what it was -/
def Stays (w : World) (B g m : Nat) (rm : Int) (K : Key) (s : St) (n : Nat) (e : Ending) (w' : World) : Prop :=
  ∃ c lf' L', e = .returned (.int .i64 c) ∧ Has w' B g m rm false lf' L' ∧ Pm.Keep K s n L' ∧ Below B w w'

theorem change_stays {w : World} {B g m : Nat} {rm lf : Int} {L : Files} {K : Key} {st : St} {k : Nat} (h : Has w B g m rm false lf L) (hK : Pm.Keep K st k L) (hB : B ≤ w.heap.size) (n : ByteArray) (hn : n.size ≤ 6) (hne : n.data.toList ≠ K) (hk : k ≤ 1000000) (hrm : rm ≤ 1000000) (keep : Nat) (hkp : keep = 0 ∨ keep = (Pm.fi L n.data.toList).now.t.length)
    (s : ByteArray) (hs : s.size ≤ 1000000) :
    Calls Try.prog 45 #[.pointer (some ⟨g, 0, none⟩), .string n, .int .i64 (keep : Int), .string s] w (Stays w B g m rm K st (k + 1)) := by
  obtain ⟨us, G, hd, rfl⟩ := h
  have h1 := hd.le
  have h2 := hK.len
  refine (change_any hd hB n (by omega) keep hkp s (by omega) (by rw [abs_length] at h2; unfold maxLen; omega)).mono ?_
  rintro e w' ⟨hm, h1 | h1 | h1 | h1⟩
  · obtain ⟨c, _, _, he, hd'⟩ := h1
    exact ⟨_, _, _, he, ⟨us, G, hd', rfl⟩, hK.mono (by omega), hm.below hB hd.footB⟩
  · obtain ⟨_, _, he, hd'⟩ := h1
    exact ⟨_, _, _, he, ⟨us, G, hd', rfl⟩, hK.mono (by omega), hm.below hB hd.footB⟩
  · obtain ⟨_, _, _, he, hd'⟩ := h1
    exact ⟨_, _, _, he, ⟨us, G, hd', rfl⟩, hK.mono (by omega), hm.below hB hd.footB⟩
  · obtain ⟨_, _, _, he, us', G', hd', ha, _⟩ := h1
    exact ⟨_, _, _, he, ⟨us', G', hd', ha⟩, hK.set hne (by simpa using hn) _, hm.below hB hd.footB⟩

theorem fail_has {w : World} {B g m : Nat} {rm : Int} {lo : Bool} {lf : Int} {L : Files} (h : Has w B g m rm lo lf L) (hB : B ≤ w.heap.size) (n : Int) (hn : -9223372036854775808 ≤ n) : Calls Try.prog 19 #[.pointer (some ⟨g, 2, none⟩), .int .i64 n] w fun e w' =>
    e = .returned (.tuple #[]) ∧ Has w' B g m rm lo (armed n) L ∧ Below B w w' := by
  obtain ⟨us, G, hd, rfl⟩ := h
  refine (fail_dsk hd n hn).mono ?_
  rintro e w' ⟨he, hd', hm⟩
  exact ⟨he, ⟨us, G, hd', rfl⟩, hm.below hB (fun k hk => by rw [hk]; exact hd.gB)⟩
end Go.Proofs.Ytokepandiigjlaa
