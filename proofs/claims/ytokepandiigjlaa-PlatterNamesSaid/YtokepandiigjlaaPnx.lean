/- Names that are appended to, one behind the other; that they are synced by their names, or all: the mathematics. -/
import Derived.Test.YtokepandiigjlaaPtw
namespace Pm
/-- each name's file is there; there are no others -/
structure Each (ks : List Key) (L : Files) : Prop where
  sub : ∀ k ∈ keys L, k ∈ ks
  ex : ∀ k ∈ ks, (fi L k).now.ex = true
  short : ∀ k ∈ ks, k.length ≤ 5
  len : L.length ≤ ks.length
  used : used L ≤ 40 * ks.length
theorem Each.nil : Each [] [] := ⟨by simp [keys], by simp, by simp, by simp, by simp [Pm.used, total]⟩

theorem Each.more {ks : List Key} {L : Files} (h : Each ks L) (hs : Sorted L) (ht : AllThere L) {k : Key} (hk : k.length ≤ 5) {t : List UInt8} (hl : t.length ≤ 40) : Each (ks ++ [k]) (appended L k t) := by
  have hok : Fi.ok ⟨⟨true, (fi L k).now.t ++ t⟩, (fi L k).sure⟩ := ⟨fun e => (by cases e), (ht.fi k).2⟩
  refine ⟨fun j hj => ?_, fun j hj => ?_, fun j hj => ?_, ?_, ?_⟩
  · rcases keys_set hj with rfl | hj
    · simp
    · simp [h.sub j hj]
  · unfold appended
    by_cases e : j = k
    · subst e
      rw [fi_set_same _ _ hok]
    · rw [fi_set_other _ _ e]
      rcases List.mem_append.1 hj with hj | hj
      · exact h.ex j hj
      · simp at hj
        exact absurd hj e
  · rcases List.mem_append.1 hj with hj | hj
    · exact h.short j hj
    · simp at hj
      rw [hj]
      exact hk
  · have h1 := length_set L k ⟨⟨true, (fi L k).now.t ++ t⟩, (fi L k).sure⟩
    have h2 := h.len
    unfold appended
    rw [List.length_append]
    simp only [List.length_cons, List.length_nil]
    omega
  · have h1 := used_set hs k hok
    have h2 := h.used
    have h3 : Fi.weight ⟨⟨true, (fi L k).now.t ++ t⟩, (fi L k).sure⟩ ≤ (fi L k).weight + t.length := by
      unfold Fi.weight
      simp only [List.length_append]
      omega
    unfold appended
    rw [List.length_append]
    simp only [List.length_cons, List.length_nil]
    omega

theorem Each.key_iff {ks : List Key} {L : Files} (h : Each ks L) (k : Key) : k ∈ ks ↔ k ∈ keys L := by
  refine ⟨fun hk => ?_, h.sub k⟩
  have h1 := h.ex k hk
  by_cases hn : k ∈ keys L
  · exact hn
  · rw [fi_not_key hn] at h1
    cases h1
/-- by their names, or all -/
theorem Each.syncs {ks : List Key} {L : Files} (h : Each ks L) (hs : Sorted L) (ht : AllThere L) : Pm.syncs ks L = Pm.syncs (keys L) L := by
  obtain ⟨a1, a2⟩ := syncs_inv ks hs ht
  obtain ⟨b1, b2⟩ := syncs_inv (keys L) hs ht
  refine files_ext a1 b1 a2 b2 (fun k => ?_)
  rw [fi_syncs ks ht, fi_syncs (keys L) ht]
  by_cases hk : k ∈ ks
  · rw [if_pos hk, if_pos ((h.key_iff k).1 hk)]
  · rw [if_neg hk, if_neg (fun e => hk ((h.key_iff k).2 e))]
theorem syncs_safe {L : Files} (ht : AllThere L) (k : Key) : (fi (Pm.syncs (keys L) L) k).safe = true := by
  rw [fi_syncs _ ht]
  by_cases hk : k ∈ keys L
  · rw [if_pos hk]
    exact still_safe _
  · rw [if_neg hk, fi_not_key hk]
    rfl
theorem keys_syncs : ∀ (ks : List Key) {L : Files} {j : Key}, j ∈ keys (Pm.syncs ks L) → j ∈ ks ∨ j ∈ keys L
  | [], L, j, h => .inr h
  | a :: r, L, j, h => by
    unfold Pm.syncs at h
    rcases keys_syncs r h with h | h
    · exact .inl (by simp [h])
    · rcases keys_set h with rfl | h
      · exact .inl (by simp)
      · exact .inr h
theorem length_syncs : ∀ (ks : List Key) (L : Files), (Pm.syncs ks L).length ≤ L.length
  | [], L => Nat.le_refl _
  | a :: r, L => by
    unfold Pm.syncs
    exact Nat.le_trans (length_syncs r _) (length_settle_le (fun he => by unfold Fi.there; rw [he]; rfl))
theorem Each.synced_keys {ks : List Key} {L : Files} (h : Each ks L) {j : Key} (hj : j ∈ keys (Pm.syncs (keys L) L)) : j.length ≤ 5 := by
  rcases keys_syncs _ hj with hj | hj <;> exact h.short j (h.sub j hj)
theorem Each.synced_ex {ks : List Key} {L : Files} (h : Each ks L) (ht : AllThere L) {k : Key} (hk : k ∈ ks) : (fi (Pm.syncs (keys L) L) k).now.ex = true := by
  rw [fi_syncs _ ht, if_pos ((h.key_iff k).1 hk)]
  exact h.ex k hk
end Pm
