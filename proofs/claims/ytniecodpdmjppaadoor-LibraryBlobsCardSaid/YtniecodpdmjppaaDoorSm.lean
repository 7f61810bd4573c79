/- Plain mathematics of layer 2 (seal): the checksum's register, four bits at once and bit by bit; bytes that are changed; frames. No program is named here. -/
import Derived.Laws.BitsAllLaws
namespace Go.Proofs.YtniecodpdmjppaaDoor
namespace Sm

/-- one step of the register: one bit is shifted out -/
def stp (r : Nat) : Nat := (r >>> 1) ^^^ (if r % 2 = 1 then 3988292384 else 0)
def stps : Nat → Nat → Nat
  | 0, r => r
  | k + 1, r => stps k (stp r)

theorem xor_mod (a b : Nat) : (a ^^^ b) % 2 = (a % 2 + b % 2) % 2 := by
  have h := Nat.testBit_xor a b 0
  simp only [Nat.testBit_zero] at h
  have ha := Nat.mod_two_eq_zero_or_one a
  have hb := Nat.mod_two_eq_zero_or_one b
  have hc := Nat.mod_two_eq_zero_or_one (a ^^^ b)
  rcases ha with ha | ha <;> rcases hb with hb | hb <;> rcases hc with hc | hc <;> simp [ha, hb, hc] at h ⊢

theorem xor4 (a b c d : Nat) : (a ^^^ b) ^^^ (c ^^^ d) = (a ^^^ c) ^^^ (b ^^^ d) := by
  rw [Nat.xor_assoc, Nat.xor_assoc, ← Nat.xor_assoc b c d, Nat.xor_comm b c, Nat.xor_assoc c b d]

theorem stp_xor (a b : Nat) : stp (a ^^^ b) = stp a ^^^ stp b := by
  unfold stp
  rw [Nat.shiftRight_xor_distrib, xor_mod, xor4]
  congr 1
  have ha := Nat.mod_two_eq_zero_or_one a
  have hb := Nat.mod_two_eq_zero_or_one b
  rcases ha with ha | ha <;> rcases hb with hb | hb <;> simp [ha, hb]

theorem stps_xor : ∀ (k a b : Nat), stps k (a ^^^ b) = stps k a ^^^ stps k b := by
  intro k
  induction k with
  | zero => intro a b; rfl
  | succ k ih => intro a b; rw [stps, stp_xor, ih]; rfl

theorem stps_add : ∀ (k j r : Nat), stps (k + j) r = stps j (stps k r) := by
  intro k
  induction k with
  | zero => intro j r; simp [stps]
  | succ k ih => intro j r; rw [Nat.succ_add, stps, ih, stps]

theorem stp_double (q : Nat) : stp (2 * q) = q := by
  unfold stp
  rw [if_neg (by omega), Nat.xor_zero, Nat.shiftRight_eq_div_pow]
  omega

theorem stps_shift : ∀ (k q : Nat), stps k (2 ^ k * q) = q := by
  intro k
  induction k with
  | zero => intro q; simp [stps]
  | succ k ih =>
    intro q
    rw [stps]
    have e : 2 ^ (k + 1) * q = 2 * (2 ^ k * q) := by rw [Nat.pow_succ, Nat.mul_comm (2 ^ k) 2, Nat.mul_assoc]
    rw [e, stp_double, ih]

/-- a number's lowest bits and the others, parted -/
theorem part_xor (i q s : Nat) (h : s < 2 ^ i) : 2 ^ i * q + s = (2 ^ i * q) ^^^ s := by
  apply Nat.eq_of_testBit_eq
  intro j
  rw [Nat.testBit_xor, Nat.testBit_two_pow_mul_add q h, Nat.testBit_two_pow_mul]
  by_cases hj : j < i
  · rw [if_pos hj]
    simp [Nat.not_le_of_lt hj]
  · rw [if_neg hj]
    have h0 : s.testBit j = false := Nat.testBit_lt_two_pow (Nat.lt_of_lt_of_le h (Nat.pow_le_pow_right (by omega) (by omega)))
    simp [h0, Nat.le_of_not_lt hj]

theorem stp_lt {r : Nat} (h : r < 4294967296) : stp r < 4294967296 := by
  unfold stp
  have h1 : r >>> 1 < 2 ^ 32 := by rw [Nat.shiftRight_eq_div_pow]; omega
  have h2 : (if r % 2 = 1 then 3988292384 else 0) < 2 ^ 32 := by split <;> omega
  exact Nat.xor_lt_two_pow h1 h2

theorem stps_lt : ∀ (k : Nat) {r : Nat}, r < 4294967296 → stps k r < 4294967296 := by
  intro k
  induction k with
  | zero => intro r h; exact h
  | succ k ih => intro r h; exact ih (stp_lt h)

theorem xor_zero_eq {a b : Nat} (h : a ^^^ b = 0) : a = b := by
  have e : (a ^^^ b) ^^^ b = a := by rw [Nat.xor_assoc, Nat.xor_self, Nat.xor_zero]
  rw [h, Nat.zero_xor] at e
  exact e.symm

theorem stp_zero {r : Nat} (h : r < 4294967296) (h0 : stp r = 0) : r = 0 := by
  unfold stp at h0
  by_cases hr : r % 2 = 1
  · rw [if_pos hr] at h0
    have := xor_zero_eq h0
    rw [Nat.shiftRight_eq_div_pow] at this
    omega
  · rw [if_neg hr, Nat.xor_zero, Nat.shiftRight_eq_div_pow] at h0
    omega

theorem stps_zero : ∀ (k : Nat) {r : Nat}, r < 4294967296 → stps k r = 0 → r = 0 := by
  intro k
  induction k with
  | zero => intro r _ h; exact h
  | succ k ih => intro r h h0; exact stp_zero h (ih (stp_lt h) h0)

/-- the table of four steps -/
def table : List Nat := [0, 498536548, 997073096, 651767980, 1994146192, 1802195444, 1303535960, 1342533948, 3988292384, 4027552580, 3604390888, 3412177804, 2607071920, 2262029012, 2685067896, 3183342108]

theorem table_is : ∀ s : Fin 16, stps 4 s.val = table.getD s.val 0 := by decide +kernel

theorem four (r : Nat) : stps 4 r = (r / 16) ^^^ table.getD (r % 16) 0 := by
  have e : r = (2 ^ 4 * (r / 16)) ^^^ (r % 16) := by
    have h := part_xor 4 (r / 16) (r % 16) (by omega)
    omega
  conv => lhs; rw [e]
  rw [stps_xor, stps_shift, table_is ⟨r % 16, by omega⟩]

/-- one byte -/
def byte (r : Nat) (b : UInt8) : Nat := stps 8 (r ^^^ b.toNat)
def crcFrom (r : Nat) (l : List UInt8) : Nat := l.foldl byte r
/-- the checksum -/
def crc (l : List UInt8) : Nat := 4294967295 - crcFrom 4294967295 l

theorem byte_lt {r : Nat} (h : r < 4294967296) (b : UInt8) : byte r b < 4294967296 :=
  stps_lt 8 (Nat.xor_lt_two_pow (n := 32) h (by have := b.toNat_lt; omega))
theorem crcFrom_lt : ∀ (l : List UInt8) {r : Nat}, r < 4294967296 → crcFrom r l < 4294967296 := by
  intro l
  induction l with
  | nil => intro r h; exact h
  | cons b l ih => intro r h; exact ih (byte_lt h b)
theorem crc_lt (l : List UInt8) : crc l < 4294967296 := by unfold crc; omega
theorem crcFrom_append (r : Nat) (a b : List UInt8) : crcFrom r (a ++ b) = crcFrom (crcFrom r a) b := List.foldl_append

/-- two registers' difference, through bytes that differ by ds -/
def diff : Nat → List Nat → Nat
  | x, [] => x
  | x, d :: ds => diff (stps 8 (x ^^^ d)) ds
/-- differing bytes as one number, the first one lowest -/
def low : List Nat → Nat
  | [] => 0
  | d :: ds => d + 256 * low ds

theorem diff_low : ∀ (ds : List Nat) (x : Nat), (∀ d ∈ ds, d < 256) → diff x ds = stps (8 * ds.length) (x ^^^ low ds) := by
  intro ds
  induction ds with
  | nil => intro x _; simp [diff, low, stps]
  | cons d ds ih =>
    intro x h
    rw [diff, ih _ (fun e he => h e (by simp [he])), low]
    have e1 : d + 256 * low ds = (2 ^ 8 * low ds) ^^^ d := by
      rw [← part_xor 8 (low ds) d (by have := h d (by simp); omega)]; omega
    have e2 : low ds = stps 8 (2 ^ 8 * low ds) := (stps_shift 8 (low ds)).symm
    conv => lhs; rw [e2]
    rw [← stps_xor, ← stps_add, e1, Nat.xor_comm (2 ^ 8 * low ds) d, Nat.xor_assoc]
    congr 1
    simp; omega

theorem low_lt : ∀ (ds : List Nat), (∀ d ∈ ds, d < 256) → low ds < 256 ^ ds.length := by
  intro ds
  induction ds with
  | nil => intro _; simp [low]
  | cons d ds ih =>
    intro h
    have h1 := ih (fun e he => h e (by simp [he]))
    have h2 := h d (by simp)
    rw [low, List.length_cons, Nat.pow_succ]
    omega

theorem low_zero : ∀ (ds : List Nat), low ds = 0 → ∀ d ∈ ds, d = 0 := by
  intro ds
  induction ds with
  | nil => intro _ d hd; simp at hd
  | cons a ds ih =>
    intro h d hd
    rw [low] at h
    rcases List.mem_cons.1 hd with rfl | hd
    · omega
    · exact ih (by omega) d hd

/-- the register behind bytes and behind as many others: their difference -/
theorem crc_diff : ∀ (a b : List UInt8) (r s : Nat), a.length = b.length → crcFrom r a ^^^ crcFrom s b = diff (r ^^^ s) (List.zipWith (fun x y => x.toNat ^^^ y.toNat) a b) := by
  intro a
  induction a with
  | nil => intro b r s h; cases b with
    | nil => rfl
    | cons y b => simp at h
  | cons x a ih => intro b r s h; cases b with
    | nil => simp at h
    | cons y b =>
      simp only [List.length_cons, Nat.add_right_cancel_iff] at h
      show crcFrom (byte r x) a ^^^ crcFrom (byte s y) b = _
      rw [ih b _ _ h]
      show diff _ _ = diff (stps 8 ((r ^^^ s) ^^^ (x.toNat ^^^ y.toNat))) _
      unfold byte
      rw [← stps_xor, xor4]

theorem diff_same (a : List UInt8) (x : Nat) : diff x (List.zipWith (fun x y => x.toNat ^^^ y.toNat) a a) = stps (8 * a.length) x := by
  rw [diff_low]
  · have e : low (List.zipWith (fun x y : UInt8 => x.toNat ^^^ y.toNat) a a) = 0 := by
      induction a with
      | nil => rfl
      | cons b a ih => rw [List.zipWith_cons_cons, low, ih, Nat.xor_self]
    rw [e, Nat.xor_zero]
    simp
  · intro d hd
    have : d = 0 := by
      induction a with
      | nil => simp at hd
      | cons b a ih =>
        rw [List.zipWith_cons_cons] at hd
        rcases List.mem_cons.1 hd with rfl | hd
        · exact Nat.xor_self _
        · exact ih hd
    omega

/-- up to four bytes in a row that are others are told -/
theorem crc_told (p a b q : List UInt8) (hl : a.length = b.length) (h4 : a.length ≤ 4) (hne : a ≠ b) : crc (p ++ a ++ q) ≠ crc (p ++ b ++ q) := by
  intro h
  have hr : ∀ l : List UInt8, crcFrom 4294967295 l < 4294967296 := fun l => crcFrom_lt l (by omega)
  have h1 : crcFrom 4294967295 (p ++ a ++ q) = crcFrom 4294967295 (p ++ b ++ q) := by
    unfold crc at h
    have := hr (p ++ a ++ q)
    have := hr (p ++ b ++ q)
    omega
  have h2 := crc_diff (p ++ a ++ q) (p ++ b ++ q) 4294967295 4294967295 (by simp [hl])
  rw [h1, Nat.xor_self, Nat.xor_self] at h2
  rw [List.append_assoc, List.append_assoc] at h1
  rw [crcFrom_append, crcFrom_append 4294967295 p, crcFrom_append, crcFrom_append _ b] at h1
  have hrp := hr p
  generalize crcFrom 4294967295 p = r at *
  have h3 := crc_diff q q (crcFrom r a) (crcFrom r b) rfl
  rw [h1, Nat.xor_self, diff_same] at h3
  have hra := crcFrom_lt a hrp
  have hrb := crcFrom_lt b hrp
  have h4' := stps_zero _ (Nat.xor_lt_two_pow (n := 32) hra hrb) h3.symm
  have h5 := crc_diff a b r r hl
  have hd : ∀ d ∈ List.zipWith (fun x y : UInt8 => x.toNat ^^^ y.toNat) a b, d < 256 := by
    intro d hd
    obtain ⟨i, hi, rfl⟩ := List.getElem_of_mem hd
    rw [List.getElem_zipWith]
    exact Nat.xor_lt_two_pow (n := 8) (UInt8.toNat_lt _) (UInt8.toNat_lt _)
  rw [h4', Nat.xor_self, diff_low _ _ hd, Nat.zero_xor] at h5
  have hlz : (List.zipWith (fun x y : UInt8 => x.toNat ^^^ y.toNat) a b).length = a.length := by simp [hl]
  have hlow := low_lt _ hd
  rw [hlz] at hlow
  have h6 := low_zero _ (stps_zero _ (Nat.lt_of_lt_of_le hlow (Nat.pow_le_pow_right (n := 256) (by omega) h4)) h5.symm)
  apply hne
  apply List.ext_getElem hl
  intro i h1 h2
  have h7 := h6 (a[i].toNat ^^^ b[i].toNat) (by
    rw [List.mem_iff_getElem]
    exact ⟨i, by omega, by rw [List.getElem_zipWith]⟩)
  exact UInt8.toNat_inj.1 (xor_zero_eq h7)

end Sm
end Go.Proofs.YtniecodpdmjppaaDoor
