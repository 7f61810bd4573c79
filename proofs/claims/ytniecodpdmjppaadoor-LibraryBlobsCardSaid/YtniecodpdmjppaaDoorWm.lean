/- Plain mathematics of layer 1 (wire): a number's bytes as groups of seven bits, and how bytes are taken as a number. No program is named here. -/
import Derived.Laws.Entries
import Derived.Laws.Strings
import Derived.Laws.Cover1
namespace Go.Proofs.YtniecodpdmjppaaDoor
namespace Wm

/-- the groups of a number that are followed by another one -/
def cont (v : Nat) : List UInt8 := if v = 0 then [] else cont (v / 128) ++ [UInt8.ofNat (v % 128 + 128)]
termination_by v
decreasing_by omega

/-- a number's bytes -/
def num (v : Nat) : List UInt8 := cont (v / 128) ++ [UInt8.ofNat (v % 128)]

/-- the groups k, k - 1, .., 1 of a number, without leading zeros -/
def hi (v : Nat) : Nat → List UInt8
  | 0 => []
  | k + 1 => (if v / 128 ^ (k + 1) = 0 then [] else [UInt8.ofNat (v / 128 ^ (k + 1) % 128 + 128)]) ++ hi v k

theorem cont_zero : cont 0 = [] := by rw [cont]; simp
theorem cont_pos {v : Nat} (h : v ≠ 0) : cont v = cont (v / 128) ++ [UInt8.ofNat (v % 128 + 128)] := by rw [cont]; simp [h]

theorem hi_zero (k : Nat) : hi 0 k = [] := by
  induction k with
  | zero => rfl
  | succ k ih => simp [hi, ih]

theorem div_pow (v k : Nat) : v / 128 ^ (k + 1) = v / 128 / 128 ^ k := by rw [Nat.pow_succ, Nat.mul_comm, Nat.div_div_eq_div_mul]

theorem hi_low (v k : Nat) : hi v (k + 1) = hi (v / 128) k ++ (if v / 128 = 0 then [] else [UInt8.ofNat (v / 128 % 128 + 128)]) := by
  induction k with
  | zero => simp [hi]
  | succ k ih =>
    rw [hi, ih, hi, div_pow v (k + 1), List.append_assoc]

theorem hi_cont : ∀ (k v : Nat), v / 128 < 128 ^ k → hi v k = cont (v / 128) := by
  intro k
  induction k with
  | zero => intro v h; have h0 : v / 128 = 0 := by simpa using h
            rw [h0, cont_zero]; rfl
  | succ k ih =>
    intro v h
    rw [hi_low]
    by_cases h0 : v / 128 = 0
    · rw [if_pos h0, h0, hi_zero, cont_zero]; rfl
    · rw [if_neg h0, cont_pos h0, ih (v / 128) (by rw [Nat.div_lt_iff_lt_mul (by omega)]; rwa [Nat.pow_succ] at h)]

theorem num_hi (v : Nat) (h : v < 18446744073709551616) : hi v 9 ++ [UInt8.ofNat (v % 128)] = num v := by
  rw [hi_cont 9 v (by omega)]; rfl

theorem num_small {v : Nat} (h : v < 128) : num v = [UInt8.ofNat v] := by
  have h0 : v / 128 = 0 := by omega
  rw [num, h0, cont_zero, Nat.mod_eq_of_lt h]; rfl

theorem hi_len (v k : Nat) : (hi v k).length ≤ k := by
  induction k with
  | zero => simp [hi]
  | succ k ih => rw [hi]; split <;> simp <;> omega

theorem num_len (v : Nat) (h : v < 18446744073709551616) : (num v).length ≤ 10 := by
  rw [← num_hi v h]; have := hi_len v 9; simp; omega

theorem num_ne (v : Nat) : num v ≠ [] := by simp [num]

/-! ### order -/
theorem less_pre (x u v : List UInt8) : Op.bytesLess (x ++ u) (x ++ v) = Op.bytesLess u v := by
  induction x with
  | nil => rfl
  | cons a x ih => simp [Op.bytesLess, ih]

theorem less_of_less : ∀ (x y u v : List UInt8), x.length = y.length → Op.bytesLess x y = true → Op.bytesLess (x ++ u) (y ++ v) = true := by
  intro x
  induction x with
  | nil => intro y u v hl h; cases y with
    | nil => simp [Op.bytesLess] at h
    | cons b y => simp at hl
  | cons a x ih => intro y u v hl h; cases y with
    | nil => simp at hl
    | cons b y =>
      simp only [List.length_cons, Nat.add_right_cancel_iff] at hl
      simp only [Op.bytesLess, List.cons_append, Bool.or_eq_true, decide_eq_true_eq, Bool.and_eq_true, beq_iff_eq] at h ⊢
      rcases h with h | ⟨h, h'⟩
      · exact .inl h
      · exact .inr ⟨h, ih y u v hl h'⟩

theorem less_asymm : ∀ (x y : List UInt8), Op.bytesLess x y = true → Op.bytesLess y x = false ∧ y ≠ x := by
  intro x
  induction x with
  | nil => intro y h; cases y with
    | nil => simp [Op.bytesLess] at h
    | cons b y => simp [Op.bytesLess]
  | cons a x ih => intro y h; cases y with
    | nil => simp [Op.bytesLess] at h
    | cons b y =>
      simp only [Op.bytesLess, Bool.or_eq_true, decide_eq_true_eq, Bool.and_eq_true, beq_iff_eq] at h
      have hab : ∀ {p q : UInt8}, p < q → ¬ q < p := fun h => by simp [UInt8.lt_iff_toNat_lt] at h ⊢; omega
      have hne : ∀ {p q : UInt8}, p < q → ¬ q = p := fun h e => by subst e; simp at h
      rcases h with h | ⟨rfl, h⟩
      · exact ⟨by simp [Op.bytesLess, hab h, hne h], by simp [hne h]⟩
      · obtain ⟨h1, h2⟩ := ih y h
        exact ⟨by simp [Op.bytesLess, h1], by simp [h2]⟩

theorem less_irrefl (x : List UInt8) : Op.bytesLess x x = false := by
  cases h : Op.bytesLess x x with
  | false => rfl
  | true => exact absurd rfl (less_asymm x x h).2

/-- shorter, or as long and less -/
def Pre (x y : List UInt8) : Prop := x.length < y.length ∨ (x.length = y.length ∧ Op.bytesLess x y = true)

theorem Pre.append {x y : List UInt8} (h : Pre x y) (a b : UInt8) : Pre (x ++ [a]) (y ++ [b]) := by
  rcases h with h | ⟨h, h'⟩
  · exact .inl (by simp; omega)
  · exact .inr ⟨by simp [h], less_of_less x y _ _ h h'⟩

theorem u8_lt {a b : Nat} (ha : a < 256) (hb : b < 256) (h : a < b) : UInt8.ofNat a < UInt8.ofNat b := by
  rw [UInt8.lt_iff_toNat_lt]; simp; omega

theorem Pre.same (x : List UInt8) {a b : Nat} (ha : a < 256) (hb : b < 256) (h : a < b) : Pre (x ++ [UInt8.ofNat a]) (x ++ [UInt8.ofNat b]) :=
  .inr ⟨by simp, by rw [less_pre]; simp [Op.bytesLess, u8_lt ha hb h]⟩

theorem cont_pre : ∀ (b a : Nat), a < b → Pre (cont a) (cont b) := by
  intro b
  induction b using Nat.strongRecOn with
  | ind b ih =>
    intro a h
    rw [cont_pos (v := b) (by omega)]
    by_cases ha : a = 0
    · subst ha; rw [cont_zero]; exact .inl (by simp)
    · rw [cont_pos ha]
      by_cases hq : a / 128 < b / 128
      · exact (ih (b / 128) (by omega) _ hq).append _ _
      · have e : a / 128 = b / 128 := by omega
        rw [e]
        exact Pre.same _ (by omega) (by omega) (by omega)

theorem num_pre {a b : Nat} (h : a < b) : Pre (num a) (num b) := by
  unfold num
  by_cases hq : a / 128 < b / 128
  · exact (cont_pre _ _ hq).append _ _
  · have e : a / 128 = b / 128 := by omega
    rw [e]
    exact Pre.same _ (by omega) (by omega) (by omega)

/-! ### bytes taken as a number: what is left, the error, the value -/
def tk : List UInt8 → Nat → Bool → List UInt8 × Nat × Nat
  | [], _, _ => ([], 2, 0)
  | b :: r, v, first =>
    if (first && b == 128) || decide (144115188075855871 < v) then (r, 3, 0)
    else if b < 128 then (r, 0, v * 128 + b.toNat % 128) else tk r (v * 128 + b.toNat % 128) false

theorem tk_end (v : Nat) (f : Bool) : tk [] v f = ([], 2, 0) := rfl
theorem tk_form {b : UInt8} {r : List UInt8} {v : Nat} {f : Bool} (h : ((f && b == 128) || decide (144115188075855871 < v)) = true) : tk (b :: r) v f = (r, 3, 0) := by rw [tk, if_pos h]
theorem tk_last {b : UInt8} {r : List UInt8} {v : Nat} {f : Bool} (h : ((f && b == 128) || decide (144115188075855871 < v)) = false) (hb : b.toNat < 128) : tk (b :: r) v f = (r, 0, v * 128 + b.toNat % 128) := by
  rw [tk, h, if_neg (by simp), if_pos (by rw [UInt8.lt_iff_toNat_lt]; exact hb)]
theorem tk_more {b : UInt8} {r : List UInt8} {v : Nat} {f : Bool} (h : ((f && b == 128) || decide (144115188075855871 < v)) = false) (hb : 128 ≤ b.toNat) : tk (b :: r) v f = tk r (v * 128 + b.toNat % 128) false := by
  rw [tk, h, if_neg (by simp), if_neg (by rw [UInt8.lt_iff_toNat_lt]; simp; omega)]

theorem tk_bound : ∀ (l : List UInt8) (v : Nat) (f : Bool), v < 18446744073709551616 → (tk l v f).2.2 < 18446744073709551616 := by
  intro l
  induction l with
  | nil => intro v f _; simp [tk]
  | cons b r ih =>
    intro v f hv
    rw [tk]
    split
    · simp
    · rename_i h
      have hv' : ¬ 144115188075855871 < v := by intro h'; simp [h'] at h
      split
      · simp; omega
      · exact ih _ _ (by omega)

theorem tk_len : ∀ (l : List UInt8) (v : Nat) (f : Bool), (tk l v f).1.length ≤ l.length := by
  intro l
  induction l with
  | nil => intro v f; simp [tk]
  | cons b r ih =>
    intro v f
    rw [tk]
    split
    · simp
    · split
      · simp
      · have := ih (v * 128 + b.toNat % 128) false; simp; omega

theorem tk_cont (s : List UInt8) : ∀ (v : Nat), v ≠ 0 → v < 18446744073709551616 → tk (cont v ++ s) 0 true = tk s v false := by
  intro v
  induction v using Nat.strongRecOn generalizing s with
  | ind v ih =>
    intro h0 hv
    rw [cont_pos h0, List.append_assoc, List.singleton_append]
    have hm : (UInt8.ofNat (v % 128 + 128)).toNat = v % 128 + 128 := by simp; omega
    by_cases hq : v / 128 = 0
    · rw [hq, cont_zero, List.nil_append, tk_more (by
        have : (UInt8.ofNat (v % 128 + 128) == 128) = false := beq_eq_false_iff_ne.2 (by intro e; have := congrArg UInt8.toNat e; rw [hm] at this; simp at this; omega)
        rw [this]; decide) (by omega), hm]
      congr 1; omega
    · rw [ih (v / 128) (by omega) _ hq (by omega), tk_more (by simp; omega) (by omega), hm]
      congr 1; omega

theorem tk_num (s : List UInt8) (v : Nat) (hv : v < 18446744073709551616) : tk (num v ++ s) 0 true = (s, 0, v) := by
  have hm : (UInt8.ofNat (v % 128)).toNat = v % 128 := by simp; omega
  rw [num, List.append_assoc, List.singleton_append]
  by_cases hq : v / 128 = 0
  · rw [hq, cont_zero, List.nil_append, tk_last (by
      have : (UInt8.ofNat (v % 128) == 128) = false := beq_eq_false_iff_ne.2 (by intro e; have := congrArg UInt8.toNat e; rw [hm] at this; simp at this; omega)
      rw [this]; decide) (by omega), hm]
    congr 2; omega
  · rw [tk_cont _ _ hq (by omega), tk_last (by simp; omega) (by omega), hm]
    congr 2; omega

theorem tk_cont_cut : ∀ (v : Nat), v < 18446744073709551616 → ∀ c, c ≤ (cont v).length → tk ((cont v).take c) 0 true = ([], 2, 0) := by
  intro v
  induction v using Nat.strongRecOn with
  | ind v ih =>
    intro hv c hc
    by_cases h0 : v = 0
    · subst h0; simp [cont_zero, tk]
    · by_cases hlt : c ≤ (cont (v / 128)).length
      · rw [cont_pos h0, List.take_append_of_le_length hlt]
        exact ih _ (by omega) (by omega) c hlt
      · rw [List.take_of_length_le (by rw [cont_pos h0] at hc ⊢; simp at hc ⊢; omega)]
        have := tk_cont [] v h0 hv
        rw [List.append_nil] at this
        rw [this]; rfl

theorem tk_num_cut (v c : Nat) (hv : v < 18446744073709551616) (hc : c < (num v).length) : tk ((num v).take c) 0 true = ([], 2, 0) := by
  have hc' : c ≤ (cont (v / 128)).length := by rw [num] at hc; simp at hc; omega
  rw [num, List.take_append_of_le_length hc']
  exact tk_cont_cut _ (by omega) _ hc'

end Wm
end Go.Proofs.YtniecodpdmjppaaDoor
