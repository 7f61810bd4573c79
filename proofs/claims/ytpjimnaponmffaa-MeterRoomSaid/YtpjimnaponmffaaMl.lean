/- Lists of numbers that came in; a luck alone in its block. -/
import Derived.Test.YtpjimnaponmffaaMa
namespace Go.Proofs.Ytpjimnaponmffaa
open Go.RowKit

def ints (l : List Int) : List Value := l.map (Value.int .i64)

/-- element k of a list of numbers that came in -/
theorem Lies.int {w : World} {B : Nat} {A : Option Addr} {l : List Int} (h : Lies w B A (ints l)) {k : Nat} (hk : k < l.length) : ∃ ad, A = some ad ∧ ad.block < B ∧ w.cell? (ad.add k) = some (.int .i64 l[k]) := by
  obtain ⟨ad, h1, h2, h3⟩ := h.round (k := k) (by simpa [ints] using hk)
  exact ⟨ad, h1, h2, by rw [h3]; simp [ints]⟩

/-- block g is a luck -/
structure Lk (w : World) (g : Nat) (lo : Bool) (lf : Int) : Prop where
  at_ : At w g 27 #[.bool lo, .int .i64 lf]
  lpos : 0 ≤ lf
  ltop : lf ≤ 1073741825

section
variable {w w' : World} {g : Nat} {lo : Bool} {lf : Int}
theorem Lk.luck (h : Lk w g lo lf) : LuckAt w g 0 lo lf := ⟨h.at_.cell 0, h.at_.cell 1, h.at_.frozen 0, h.at_.frozen 1, h.lpos, h.ltop⟩
theorem Lk.setLost (h : Lk w g lo lf) (b : Bool) : Lk (w.setCell ⟨g, 0, none⟩ (.bool b)) g b lf := ⟨h.at_.set 0 _, h.lpos, h.ltop⟩
theorem Lk.setLeft (h : Lk w g lo lf) {u : Int} (h0 : 0 ≤ u) (h1 : u ≤ 1073741825) : Lk (w.setCell ⟨g, 0 + 1, none⟩ (.int .i64 u)) g lo u := ⟨h.at_.set 1 _, h0, h1⟩

theorem lost_lk (h : Lk w g lo lf) : Calls Try.prog 23 #[.pointer (some ⟨g, 0, none⟩)] w fun e w' => e = .returned (.bool lo) ∧ w' = w := lost_any h.luck
theorem lose_lk (h : Lk w g lo lf) : Calls Try.prog 18 #[.pointer (some ⟨g, 0, none⟩)] w fun e w' => e = .returned (.tuple #[]) ∧ Lk w' g true lf ∧ w.grownBy w' (some g) :=
  (lose_any h.luck).mono fun _ _ ⟨he, hw⟩ => ⟨he, hw ▸ h.setLost true, hw ▸ grown_set _ _ _ _⟩
theorem fail_lk (h : Lk w g lo lf) (n : Int) (hn : -9223372036854775808 ≤ n) : Calls Try.prog 17 #[.pointer (some ⟨g, 0, none⟩), .int .i64 n] w fun e w' =>
    e = .returned (.tuple #[]) ∧ Lk w' g lo (armed n) ∧ w.grownBy w' (some g) :=
  (fail_any h.luck n hn).mono fun _ _ ⟨he, hw⟩ => ⟨he, hw ▸ h.setLeft (armed_range n).1 (armed_range n).2, hw ▸ grown_set _ _ _ _⟩
theorem try_lk (h : Lk w g lo lf) : Calls Try.prog 15 #[.pointer (some ⟨g, 0, none⟩)] w fun e w' =>
    e = .returned (.int .i64 (tryR lo lf).2) ∧ Lk w' g lo (tryR lo lf).1 ∧ w.grownBy w' (some g) := by
  refine (try_any h.luck).mono ?_
  have h0 := h.lpos
  have h9 := h.ltop
  rintro e w' (⟨rfl, rfl, rfl⟩ | ⟨rfl, rfl, rfl, rfl⟩ | ⟨rfl, rfl, rfl, rfl⟩ | ⟨rfl, h1, rfl, rfl⟩)
  · exact ⟨rfl, h, grown_refl _ _⟩
  · exact ⟨rfl, h, grown_refl _ _⟩
  · exact ⟨rfl, h.setLeft (by omega) (by omega), grown_set _ _ _ _⟩
  · have h2 : ¬lf = 0 := by omega
    have h3 : ¬lf = 1 := by omega
    rw [show tryR false lf = (lf - 1, 0) by unfold tryR; rw [if_neg (by decide), if_neg h2, if_neg h3]]
    exact ⟨rfl, h.setLeft (by omega) (by omega), grown_set _ _ _ _⟩
theorem Lk.new (w : World) : Lk (w.alloc (.cells #[.bool false, .int .i64 0] 27)) w.heap.size false 0 := ⟨At.new _ _ _, by omega, by omega⟩
end
end Go.Proofs.Ytpjimnaponmffaa
