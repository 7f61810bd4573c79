/- Text appended to a file's text. -/
import Derived.Test.YtejgogahkjnefaaDoorP2
import Derived.Lib.AppendStr
namespace Go.Proofs.YtejgogahkjnefaaDoor
open Go.RowKit
open Pm (Key Fi St Files)
set_option linter.unusedVariables false

theorem info_pu8 : (Tryd.prog.info? 5).map (fun i => (i.zero, i.size, i.bytes)) = some (some (.int .u8 0), 1, 1) := by kernel_rfl

theorem strCells_bytes (s : ByteArray) : Lib.strCells s = Lib.byteCells s.data.toList := by
  unfold Lib.strCells Lib.byteCells
  simp

theorem pbyteCells_append (a b : List UInt8) : Lib.byteCells (a ++ b) = Lib.byteCells a ++ Lib.byteCells b := by unfold Lib.byteCells; simp

def Tx.of (g n c : Nat) : Tx := ⟨some g, n, c⟩

/-- 'append(t, s...)' at a text of a file -/
theorem app_tx {w : World} {B : Nat} {x : Tx} {bs : List UInt8} (hx : TxIs w B x bs) (hB : B ≤ w.heap.size) (s : ByteArray) (hlen : bs.length + s.size ≤ 140737488355328) (ty : TypeId) :
    ∃ (y : Tx) (w' : World), (Builtin.append_ #[73, 9] ty #[x.val, .string s]).run Tryd.prog w = .ok y.val w' ∧ TxIs w' B y (bs ++ s.data.toList) ∧ Moved w w' (fun b => x.g = some b) ∧
      (y.g = x.g ∨ ∃ g, y.g = some g ∧ w.heap.size ≤ g) ∧ (∀ z ds, TxIs w B z ds → z.n ≤ x.n → TxIs w' B z ds) ∧ (y.g = x.g → x.g ≠ none → x.n ≤ y.n) := by
  obtain ⟨i, hie, hz0, hz1, hz2⟩ := info_parts info_pu8
  have hn := hx.1
  have hmax : x.n + s.size ≤ maxLen := by unfold maxLen; omega
  obtain ⟨v', w', hrun, hown, hg, hnil⟩ := Lib.run_append_own_string (P := Tryd.prog) (w := w) B 73 9 ty 5 i Tryd.underlying73 Tryd.underlying9 hie hz0 hz1 hz2 x.val x.n (Lib.byteCells bs) hx.2 s hmax (by omega) hB
  rw [strCells_bytes, ← pbyteCells_append] at hown
  have hl : (bs ++ s.data.toList).length = x.n + s.size := by rw [List.length_append, hn]; simp
  have mk : ∀ y : Tx, v' = y.val → y.n = x.n + s.size → TxIs w' B y (bs ++ s.data.toList) := fun y hv hyn => ⟨by omega, by rw [← hv, hyn]; exact hown⟩
  rcases hx.block with ⟨h1, h2, h3⟩ | ⟨g, cur, h1, h2, h3, h4, h5, h6, h7⟩
  · have hv : x.val = .slice none 0 0 := by unfold Tx.val; rw [h1, h2, h3]; rfl
    have hg' : w.grownBy w' none := by rw [hv] at hg; exact hg
    have hmv : Moved w w' (fun b => x.g = some b) := Moved.of_grown hg' (fun k hk => by cases hk)
    have hkeep : ∀ z ds, TxIs w B z ds → z.n ≤ x.n → TxIs w' B z ds := fun z ds hz _ => hz.of_block (g := 0) fun g hg => hg'.block g (hz.lt hg).2 (by simp)
    by_cases hs : s.size = 0
    · have hv' := hnil.2 ⟨hv, hs⟩
      exact ⟨Tx.no, w', by rw [hrun, hv']; rfl, mk Tx.no hv' (by show 0 = x.n + s.size; omega), hmv, .inl h1.symm, hkeep, fun _ h => absurd h1 h⟩
    · have hr := run_append_nil_string (P := Tryd.prog) w 73 9 ty 5 i (.int .u8 0) Tryd.underlying73 Tryd.underlying9 hie hz0 s (by omega) (by omega) (by rw [hz2]; omega)
      rw [hv] at hrun
      rw [hr] at hrun
      simp only [Result.ok.injEq] at hrun
      obtain ⟨e1, e2⟩ := hrun
      refine ⟨Tx.of w.heap.size s.size (grownCap w s.size 0 5), w', by rw [hv, hr, ← e2]; rfl, mk _ (by rw [← e1]; rfl) (by show s.size = x.n + s.size; omega), hmv, .inr ⟨_, rfl, Nat.le_refl _⟩, hkeep, fun _ h => absurd h1 h⟩
  · have hv : x.val = .slice (some ⟨g, 0, none⟩) x.n x.c := by unfold Tx.val; rw [h1]; rfl
    have hg' : w.grownBy w' (some g) := by rw [hv] at hg; exact hg
    have hmv : Moved w w' (fun b => x.g = some b) := Moved.of_grown hg' (fun k hk => by rw [h1]; exact hk)
    by_cases hroom : x.n + s.size ≤ x.c
    · have hr := Lib.run_append_room_string (P := Tryd.prog) w 73 9 ty 5 i Tryd.underlying73 Tryd.underlying9 hie hz1 g x.n x.c cur h3 s hroom (by omega)
      rw [hv] at hrun
      rw [hr] at hrun
      simp only [Result.ok.injEq] at hrun
      obtain ⟨e1, e2⟩ := hrun
      refine ⟨Tx.of g (x.n + s.size) x.c, w', by rw [hv, hr, ← e2]; rfl, mk _ (by rw [← e1]; rfl) rfl, hmv, .inl h1.symm, fun z ds hz hzn => ?_, fun _ _ => by show x.n ≤ x.n + s.size; omega⟩
      rcases hz.block with ⟨z1, _⟩ | ⟨gz, cz, z1, z2, z3, z4, z5, z6, z7⟩
      · exact hz.of_block (g := 0) fun g hg => by rw [z1] at hg; cases hg
      · by_cases hgz : gz = g
        · subst hgz
          have hcz : cz = cur := by rw [h3] at z3; cases z3; rfl
          subst hcz
          refine ⟨hz.1, hz.2.1, .inr ⟨gz, z.c, _, by unfold Tx.val; rw [z1]; rfl, z2, by rw [← e2]; exact setRow_heap w gz cz _ 5 (0, 0) h3, z4, z5, ?_, ?_⟩⟩
          · simp only [List.size_toArray, List.length_append, List.length_take, List.length_drop, Array.length_toList, Lib.strCells_length]
            omega
          · rw [Nat.mul_one, ← z7, List.append_assoc, List.take_append_of_le_length (by rw [List.length_take, Array.length_toList]; omega), List.take_take, Nat.min_eq_left hzn]
        · exact hz.of_block (g := 0) fun k hk => by rw [z1] at hk; cases hk; exact hg'.block gz (At.lt z3) (by simpa using hgz)
    · have holds : ∀ j u, (Lib.byteCells bs)[j]? = some u → w.cell? ((⟨g, 0, none⟩ : Addr).add j) = some u := by
        have := hx.2
        rw [hv] at this
        exact this.cells (g := g) rfl
      have hr := Lib.run_append_grow_string (P := Tryd.prog) w 73 9 ty 5 i (.int .u8 0) Tryd.underlying73 Tryd.underlying9 hie hz0 ⟨g, 0, none⟩ x.n x.c (Lib.byteCells bs) (by rw [hz1]; unfold Lib.byteCells; simp; omega) holds s (by omega) (by omega) (by rw [hz2]; exact growslice_fits (by omega) (by omega))
      rw [hv] at hrun
      rw [hr] at hrun
      simp only [Result.ok.injEq] at hrun
      obtain ⟨e1, e2⟩ := hrun
      refine ⟨Tx.of w.heap.size (x.n + s.size) (grownCap w (x.n + s.size) x.c 5), w', by rw [hv, hr, ← e2]; rfl, mk _ (by rw [← e1]; rfl) rfl, hmv, .inr ⟨_, rfl, Nat.le_refl _⟩, fun z ds hz _ => ?_, fun he _ => by
        exfalso
        rw [h1] at he
        have : w.heap.size = g := by simpa [Tx.of] using he
        have := (Array.getElem?_eq_some_iff.1 h3).1
        omega⟩
      exact hz.of_block (g := 0) fun k hk => by rw [← e2]; exact heap_alloc_old w.drew _ (hz.lt hk).2
end Go.Proofs.YtejgogahkjnefaaDoor
