/- glacier/seal.Sum, word, number: their walks. -/
import Derived.Test.YtniecodpdmjppaaDoorProg
import Derived.Test.YtniecodpdmjppaaDoorChecked
import Derived.Test.YtniecodpdmjppaaDoorSm
import Derived.Test.YtniecodpdmjppaaDoorMem
import Derived.WalkKit
import Derived.WalkSpells
import Derived.WalkLawsBesides
import Derived.Handy
import Derived.Lib.Hide
import Derived.Lib.Strings
import Derived.Deep.QuietTactic
import Derived.BigQuiet
import Derived.Laws.IdiomStrings
namespace Go.Proofs.YtniecodpdmjppaaDoor
open Go.RowKit
open Sm

/-- the package's table, where it lies -/
def Steps (w : World) : Prop := 0 < w.heap.size ∧ ∀ i, i < 16 → w.cell? ⟨0, i, none⟩ = some (.int .u32 ((table.getD i 0 : Nat) : Int))
theorem Steps.below {w w' : World} {B : Nat} (h : Steps w) (hb : Below B w w') (hB : 0 < B) : Steps w' := ⟨Nat.lt_of_lt_of_le h.1 hb.size, fun i hi => (hb.cell (p := ⟨0, i, none⟩) hB).trans (h.2 i hi)⟩
theorem Steps.alloc {w : World} (h : Steps w) (o : Obj) : Steps (w.alloc o) := h.below ((Below.refl _ w).alloc (Nat.le_refl _) o) h.1
theorem Steps.drewN {w : World} (h : Steps w) (n : Nat) : Steps (w.drewN n) := h

/-- texts, one behind the other -/
def cat (l : List ByteArray) : List UInt8 := l.flatMap fun s => s.data.toList

theorem cat_take {l : List ByteArray} {k : Nat} (h : k < l.length) : cat (l.take (k + 1)) = cat (l.take k) ++ (l[k]).data.toList := by
  unfold cat
  rw [List.take_succ_eq_append_getElem h, List.flatMap_append]
  simp

theorem table_lt (i : Nat) : table.getD i 0 < 4294967296 := by
  by_cases h : i < 16
  · have key : ∀ k : Fin 16, table.getD k.val 0 < 4294967296 := by decide +kernel
    exact key ⟨i, h⟩
  · rw [List.getD_eq_getElem?_getD, List.getElem?_eq_none (by simp [table]; omega)]; decide

/-- what the walk meets in one round, number by number -/
theorem round_facts (r : Nat) (hr : r < 4294967296) (b : UInt8) : ∃ r1 i1 t1 r2 i2 t2 : Nat,
    bits .xor .u32 (r : Int) ((b.toNat : Int) % 4294967296) = (r1 : Int) ∧ bits .and .u32 (r1 : Int) 15 = (i1 : Int) ∧ i1 < 16 ∧ table.getD i1 0 = t1 ∧ bits .xor .u32 ((r1 : Int) / 16) (t1 : Int) = (r2 : Int) ∧
    bits .and .u32 (r2 : Int) 15 = (i2 : Int) ∧ i2 < 16 ∧ table.getD i2 0 = t2 ∧ bits .xor .u32 ((r2 : Int) / 16) (t2 : Int) = ((byte r b : Nat) : Int) ∧ r1 < 4294967296 ∧ r2 < 4294967296 := by
  have hb := b.toNat_lt
  have x1 : r ^^^ b.toNat < 4294967296 := Nat.xor_lt_two_pow (n := 32) hr (by omega)
  have hand : ∀ x : Nat, x &&& 15 = x % 16 := fun x => Nat.and_two_pow_sub_one_eq_mod x 4
  have x2 : ((r ^^^ b.toNat) / 16) ^^^ table.getD ((r ^^^ b.toNat) % 16) 0 < 4294967296 := Nat.xor_lt_two_pow (n := 32) (by omega) (table_lt _)
  have e8 : ∀ x, stps 8 x = stps 4 (stps 4 x) := fun x => stps_add 4 4 x
  refine ⟨r ^^^ b.toNat, (r ^^^ b.toNat) % 16, _, ((r ^^^ b.toNat) / 16) ^^^ table.getD ((r ^^^ b.toNat) % 16) 0, (((r ^^^ b.toNat) / 16) ^^^ table.getD ((r ^^^ b.toNat) % 16) 0) % 16, _, ?_, ?_, by omega, rfl, ?_, ?_, by omega, rfl, ?_, x1, x2⟩
  · have e : (b.toNat : Int) % 4294967296 = (b.toNat : Int) := by omega
    rw [e, u32_xor_nat _ _ hr (by omega)]
  · have h := u32_and_nat (r ^^^ b.toNat) 15 x1 (by omega)
    rw [hand] at h
    exact h
  · have h := u32_xor_nat ((r ^^^ b.toNat) / 16) (table.getD ((r ^^^ b.toNat) % 16) 0) (by omega) (table_lt _)
    rw [Int.natCast_ediv] at h
    exact h
  · have h := u32_and_nat _ 15 x2 (by omega)
    rw [hand] at h
    exact h
  · unfold byte
    rw [e8, four (r ^^^ b.toNat), four]
    have h := u32_xor_nat ((((r ^^^ b.toNat) / 16) ^^^ table.getD ((r ^^^ b.toNat) % 16) 0) / 16) (table.getD ((((r ^^^ b.toNat) / 16) ^^^ table.getD ((r ^^^ b.toNat) % 16) 0) % 16) 0) (by omega) (table_lt _)
    rw [Int.natCast_ediv] at h
    exact h

theorem u32_eq {a b : Int} (h : a = b) : Value.int .u32 a = .int .u32 b := by rw [h]

theorem u32_ret {a b : Int} (h : a = b) : Ending.returned (.int .u32 a) = .returned (.int .u32 b) := by rw [h]
theorem not_u32 (r : Nat) (hr : r < 4294967296) : bits .xor .u32 IntKind.u32.max (r : Int) = 4294967295 - (r : Int) := by
  have h := u32_xor_nat 4294967295 r (by omega) hr
  have e : 4294967295 ^^^ r = 4294967295 - r := by
    have h1 : (BitVec.allOnes 32 ^^^ BitVec.ofNat 32 r).toNat = (~~~ BitVec.ofNat 32 r).toNat := by rw [BitVec.allOnes_xor]
    rw [BitVec.toNat_xor, BitVec.toNat_not, BitVec.toNat_allOnes, BitVec.toNat_ofNat, Nat.mod_eq_of_lt (by omega)] at h1
    exact h1
  rw [e] at h
  have e2 : IntKind.u32.max = ((4294967295 : Nat) : Int) := by decide
  rw [e2, h]
  omega

set_option maxRecDepth 100000 in
set_option maxHeartbeats 2000000 in
theorem sum_any (l : List ByteArray) (A : Option Addr) (c : Nat) (w : World) (hS : Steps w) (hL : Lies w w.heap.size A (strs l)) (hl : l.length ≤ 9223372036854775807) (hsz : ∀ s ∈ l, s.size ≤ 9223372036854775807) :
    Calls Tryd.prog 56 #[.slice A l.length c] w fun e w' => e = .returned (.int .u32 (crc (cat l) : Nat)) ∧ w = w' := by
  have HS := Lib.hid hS; clear hS
  have HZ := Lib.hid hsz; clear hsz
  go_enter Tryd.func56, Tryd.ntmps56
  go_wp2
  go_loop [3, 9] (fun rr i => ∃ k : Nat, k ≤ l.length ∧ i = .int .i64 (k : Int) ∧ rr = .int .u32 ((crcFrom 4294967295 (cat (l.take k)) : Nat) : Int))
    (fun _ i => l.length - (intOf i).toNat)
  case atStart => exact ⟨0, by omega, rfl, by simp [cat, crcFrom]⟩
  case round =>
    obtain ⟨k, hk, rfl, rfl⟩ := hrel
    by_cases hlt : k < l.length
    · obtain ⟨ad, rfl, hadB, hc⟩ := hL.round (k := k) (by simpa [strs] using hlt)
      have hval : ((strs l)[k]'(by simpa [strs] using hlt)) = .string l[k] := by simp [strs]
      rw [hval] at hc
      clear hval
      have hzs := HZ.out _ (List.getElem_mem hlt)
      have HT := Lib.hid (cat_take hlt)
      have hr0 := crcFrom_lt (cat (l.take k)) (r := 4294967295) (by omega)
      have HC := Lib.hid (crcFrom_append 4294967295 (cat (l.take k)) (l[k]).data.toList)
      generalize l[k] = s at *
      generalize crcFrom 4294967295 (cat (l.take k)) = r0 at *
      clear hL
      go_wp2
      go_loop [3, 15] (fun rr i => ∃ j : Nat, j ≤ s.size ∧ i = .int .i64 (j : Int) ∧ rr = .int .u32 ((crcFrom r0 (s.data.toList.take j) : Nat) : Int))
        (fun _ i => s.size - (intOf i).toNat)
      case atStart => exact ⟨0, by omega, rfl, by simp [crcFrom]⟩
      case round =>
        obtain ⟨j, hj, rfl, rfl⟩ := hrel
        have hr := crcFrom_lt (s.data.toList.take j) hr0
        by_cases hjl : j < s.size
        · have HT2 : Hid (crcFrom r0 (s.data.toList.take (j + 1)) = byte (crcFrom r0 (s.data.toList.take j)) s[j]) := Lib.hid (by
            rw [List.take_succ_eq_append_getElem (by rw [size_list]; exact hjl), crcFrom_append]; rfl)
          generalize crcFrom r0 (s.data.toList.take j) = r at *
          obtain ⟨r1, i1, t1, r2, i2, t2, f1, f2, f3, f4, f5, f6, f7, f8, f9, f10, f11⟩ := round_facts r hr s[j]
          have c1 : w.cell? ⟨0, i1, none⟩ = some (.int .u32 (t1 : Int)) := by rw [← f4]; exact HS.out.2 i1 f3
          have c2 : w.cell? ⟨0, i2, none⟩ = some (.int .u32 (t2 : Int)) := by rw [← f8]; exact HS.out.2 i2 f7
          clear f4 f8
          go_wp2
          go_round
          case rel => exact ⟨j + 1, by omega, by go_num, by rw [HT2.out]⟩
          case measure => simp [intOf]; omega
        · obtain rfl : j = s.size := by omega
          rw [List.take_of_length_le (by rw [size_list]; exact Nat.le_refl _)] at hr ⊢
          generalize hq : crcFrom r0 s.data.toList = q at *
          have HQ := Lib.hid hq; clear hq
          go_wp2
          go_round
          case rel => exact ⟨k + 1, by omega, by go_num, by rw [HT.out, HC.out]⟩
          case measure => simp [intOf]; omega
    · obtain rfl : k = l.length := by omega
      rw [List.take_length]
      have hr := crcFrom_lt (cat l) (r := 4294967295) (by omega)
      have hcr : (crc (cat l) : Int) = 4294967295 - (crcFrom 4294967295 (cat l) : Int) := by unfold crc; omega
      generalize crcFrom 4294967295 (cat l) = r at *
      have HC := Lib.hid hcr; clear hcr
      have HN := Lib.hid (not_u32 r hr)
      go_wp2
      go_ret
      exact ⟨u32_ret (by rw [HC.out]; exact HN.out), rfl⟩

/-- a number's four bytes, the highest first -/
def four4 (v : Nat) : List UInt8 := [UInt8.ofNat (v / 16777216), UInt8.ofNat (v / 65536), UInt8.ofNat (v / 256), UInt8.ofNat v]
/-- four bytes as a number -/
def be : List UInt8 → Nat
  | [a, b, c, d] => a.toNat * 16777216 + b.toNat * 65536 + c.toNat * 256 + d.toNat
  | _ => 0
theorem be_four (v : Nat) (h : v < 4294967296) : be (four4 v) = v := by
  unfold four4 be
  simp
  omega
theorem be_lt (l : List UInt8) : be l < 4294967296 := by
  unfold be
  split
  · rename_i a b c d
    have := a.toNat_lt; have := b.toNat_lt; have := c.toNat_lt; have := d.toNat_lt
    omega
  · omega
theorem four_be (l : List UInt8) (h : l.length = 4) : four4 (be l) = l := by
  match l, h with
  | [a, b, c, d], _ =>
    have ha := a.toNat_lt; have hb := b.toNat_lt; have hc := c.toNat_lt; have hd := d.toNat_lt
    have e : be [a, b, c, d] = a.toNat * 16777216 + b.toNat * 65536 + c.toNat * 256 + d.toNat := rfl
    rw [e]
    unfold four4
    have k : ∀ (x : UInt8) (n : Nat), n % 256 = x.toNat → UInt8.ofNat n = x := fun x n hn => UInt8.toNat_inj.1 (by simpa using hn)
    rw [k a _ (by omega), k b _ (by omega), k c _ (by omega), k d _ (by omega)]

set_option maxRecDepth 100000 in
set_option maxHeartbeats 1000000 in
theorem word_any (v : Nat) (hv : v < 4294967296) (w : World) :
    Calls Tryd.prog 74 #[.int .u32 v] w fun e w' => e = .returned (.string ⟨(four4 v).toArray⟩) ∧ Below w.heap.size w w' := by
  have hcv : ∀ W : World, (convert 82 9 (.slice (some ⟨W.heap.size, 0, none⟩) 4 4)).run Tryd.prog (W.alloc (.cells #[.int .u8 ((v : Int) / 16777216), .int .u8 ((v : Int) / 65536 % 256), .int .u8 ((v : Int) / 256 % 256), .int .u8 ((v : Int) % 256)] 5)) =
      .ok (.string ⟨(four4 v).toArray⟩) (W.alloc (.cells #[.int .u8 ((v : Int) / 16777216), .int .u8 ((v : Int) / 65536 % 256), .int .u8 ((v : Int) / 256 % 256), .int .u8 ((v : Int) % 256)] 5)) := fun W => by
    refine run_convert_bytes_back _ _ _ _ _ 4 (four4 v) Tryd.underlying82 Tryd.underlying5 Tryd.underlying9 (fun j hj => ?_)
    have hj4 : j < 4 := hj
    have hA := At.new W 5 #[.int .u8 ((v : Int) / 16777216), .int .u8 ((v : Int) / 65536 % 256), .int .u8 ((v : Int) / 256 % 256), .int .u8 ((v : Int) % 256)]
    have e : (⟨W.heap.size, 0, none⟩ : Addr).add j = ⟨W.heap.size, j, none⟩ := by simp [Addr.add]; omega
    rw [e, hA.cell]
    have hc : j = 0 ∨ j = 1 ∨ j = 2 ∨ j = 3 := by omega
    rcases hc with rfl | rfl | rfl | rfl <;> simp [four4] <;> omega
  obtain ⟨s, hs⟩ : ∃ s, (⟨(four4 v).toArray⟩ : ByteArray) = s := ⟨_, rfl⟩
  rw [hs]
  have hcv' := hcv w
  rw [hs] at hcv'
  clear hcv hs
  go_enter Tryd.func74, Tryd.ntmps74
  go_wp2
  go_ret
  exact ⟨rfl, (Below.refl _ _).alloc (Nat.le_refl _) _⟩

theorem join_words (a b c d : UInt8) : bits .or .u32 (bits .or .u32 (bits .or .u32 ((a.toNat : Int) % 4294967296 * 16777216 % 4294967296) ((b.toNat : Int) % 4294967296 * 65536 % 4294967296)) ((c.toNat : Int) % 4294967296 * 256 % 4294967296)) ((d.toNat : Int) % 4294967296) =
    ((be [a, b, c, d] : Nat) : Int) := by
  have ha := a.toNat_lt; have hb := b.toNat_lt; have hc := c.toNat_lt; have hd := d.toNat_lt
  have e : be [a, b, c, d] = a.toNat * 16777216 + b.toNat * 65536 + c.toNat * 256 + d.toNat := rfl
  have e1 : (a.toNat : Int) % 4294967296 * 16777216 % 4294967296 = ((a.toNat * 16777216 : Nat) : Int) := by omega
  have e2 : (b.toNat : Int) % 4294967296 * 65536 % 4294967296 = ((b.toNat * 65536 : Nat) : Int) := by omega
  have e3 : (c.toNat : Int) % 4294967296 * 256 % 4294967296 = ((c.toNat * 256 : Nat) : Int) := by omega
  have e4 : (d.toNat : Int) % 4294967296 = ((d.toNat : Nat) : Int) := by omega
  rw [e1, e2, e3, e4, u32_or_nat _ _ (by omega) (by omega), nat_join 24 _ _ (by omega) (by omega), u32_or_nat _ _ (by omega) (by omega), nat_join 16 _ _ (by omega) (by omega), u32_or_nat _ _ (by omega) (by omega), nat_join 8 _ _ (by omega) (by omega), e]

theorem take_four (s : ByteArray) (h4 : 4 ≤ s.size) : s.data.toList.take 4 = [s[0], s[1], s[2], s[3]] := by
  have hl : s.data.toList.length = s.size := size_list s
  apply List.ext_getElem (by simp; omega)
  intro i h1 h2
  have h3 : i < 4 := by simpa using h2
  have hc : i = 0 ∨ i = 1 ∨ i = 2 ∨ i = 3 := by omega
  rcases hc with rfl | rfl | rfl | rfl <;> simp <;> rfl

set_option maxRecDepth 100000 in
set_option maxHeartbeats 1000000 in
theorem snumber_any (s : ByteArray) (h4 : 4 ≤ s.size) (w : World) :
    Calls Tryd.prog 88 #[.string s] w fun e w' => e = .returned (.int .u32 (be (s.data.toList.take 4) : Nat)) ∧ ∃ n, w' = w.drewN n := by
  have i0 : (0 : Int) < (s.size : Int) := by omega
  have i1 : (1 : Int) < (s.size : Int) := by omega
  have i2 : (2 : Int) < (s.size : Int) := by omega
  have i3 : (3 : Int) < (s.size : Int) := by omega
  have j0 : 0 < s.size := by omega
  have j1 : 1 < s.size := by omega
  have j2 : 2 < s.size := by omega
  have j3 : 3 < s.size := by omega
  go_enter Tryd.func88, Tryd.ntmps88
  go_wp2_with fail
  go_quiet (fail)
  go_wp2
  have HJ := Lib.hid (join_words s[0] s[1] s[2] s[3])
  have HT := Lib.hid (take_four s h4)
  go_ret
  exact ⟨u32_ret (by rw [HT.out]; exact HJ.out), nq, rfl⟩
end Go.Proofs.YtniecodpdmjppaaDoor
