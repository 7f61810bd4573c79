/- glacierref03.Take, Give, Try: their walks. -/
import Derived.Test.YtpjimnaponmffaaMd
namespace Go.Proofs.Ytpjimnaponmffaa
open Go.RowKit
set_option linter.unusedVariables false

theorem results_row_tmp {fn : Func} {p u : Tmp} {ty : TypeId} (h : fn.results = #[.cell p ty, .tmp u]) (tmps : Array Value) (w : World) (g : Nat) (t : TypeId) (cs : Array Value) (fs : Array Field)
    (hp : tmps.getD p undef = .pointer (some ⟨g, 0, none⟩)) (hg : At w g t cs)
    (hu : Try.prog.underlying ty = some (.struct fs)) (hi : (Try.prog.info? ty).map (·.size) = some cs.size) :
    (results fn tmps).run Try.prog w = .ok (.tuple #[.agg cs, tmps.getD u undef]) w := by
  have hp' : tmps[p]?.getD undef = .pointer (some ⟨g, 0, none⟩) := by simpa using hp
  rw [results_cell_tmp h]
  simp [hp', asAddr, run_loadVar_row (P := Try.prog) w g t ty cs (0, 0) (.struct fs) hg hu rfl hi, Result.andThen]

theorem below_two (w : World) (a b : Obj) : Below w.heap.size w ((w.alloc a).alloc b) := ((Below.refl _ w).alloc (Nat.le_refl _) a).alloc (by simp) b

set_option maxHeartbeats 1000000 in
theorem reftake_any (rm us n : Int) (hb : 0 ≤ us) (hm : us ≤ rm) (ht : rm ≤ 9223372036854775807) (w : World) :
    Calls Try.prog 12 #[.agg #[.int .i64 rm, .int .i64 us], .int .i64 n] w fun e w' => e = .returned (.tuple #[.agg #[.int .i64 rm, .int .i64 (takeR rm us n).1], .int .i64 (takeR rm us n).2]) ∧ Below w.heap.size w w' := by
  by_cases h0 : n < 0
  · rw [show takeR rm us n = (us, 1) by unfold takeR; rw [if_pos h0]]
    go_enter Try.func12, Try.ntmps12
    go_wp2
    refine bodyPost_ret (results_row_tmp rfl _ _ _ _ _ _ rfl (heap_alloc2_new w _ _) Try.underlying31 (by kernel_rfl)) rfl ?_
    exact ⟨rfl, below_two w _ _⟩
  · by_cases h1 : rm - us < n
    · rw [show takeR rm us n = (us, 7) by unfold takeR; rw [if_neg h0, if_pos h1]]
      go_enter Try.func12, Try.ntmps12
      go_wp2
      refine bodyPost_ret (results_row_tmp rfl _ _ _ _ _ _ rfl (heap_alloc2_new w _ _) Try.underlying31 (by kernel_rfl)) rfl ?_
      exact ⟨rfl, below_two w _ _⟩
    · rw [show takeR rm us n = (us + n, 0) by unfold takeR; rw [if_neg h0, if_neg h1]]
      go_enter Try.func12, Try.ntmps12
      go_wp2
      refine bodyPost_ret (results_row_tmp rfl _ _ _ _ _ _ rfl (heap_alloc2_new w _ _) Try.underlying31 (by kernel_rfl)) rfl ?_
      exact ⟨rfl, below_two w _ _⟩

set_option maxHeartbeats 1000000 in
theorem refgive_any (rm us n : Int) (hb : 0 ≤ us) (hm : us ≤ rm) (ht : rm ≤ 9223372036854775807) (w : World) :
    Calls Try.prog 14 #[.agg #[.int .i64 rm, .int .i64 us], .int .i64 n] w fun e w' => e = .returned (.tuple #[.agg #[.int .i64 rm, .int .i64 (giveR us n).1], .int .i64 (giveR us n).2]) ∧ Below w.heap.size w w' := by
  by_cases h0 : n < 0
  · rw [show giveR us n = (us, 1) by unfold giveR; rw [if_pos (.inl h0)]]
    go_enter Try.func14, Try.ntmps14
    go_wp2
    refine bodyPost_ret (results_row_tmp rfl _ _ _ _ _ _ rfl (heap_alloc2_new w _ _) Try.underlying31 (by kernel_rfl)) rfl ?_
    exact ⟨rfl, below_two w _ _⟩
  · by_cases h1 : us < n
    · rw [show giveR us n = (us, 1) by unfold giveR; rw [if_pos (.inr h1)]]
      go_enter Try.func14, Try.ntmps14
      go_wp2
      refine bodyPost_ret (results_row_tmp rfl _ _ _ _ _ _ rfl (heap_alloc2_new w _ _) Try.underlying31 (by kernel_rfl)) rfl ?_
      exact ⟨rfl, below_two w _ _⟩
    · rw [show giveR us n = (us - n, 0) by unfold giveR; rw [if_neg (by omega)]]
      go_enter Try.func14, Try.ntmps14
      go_wp2
      refine bodyPost_ret (results_row_tmp rfl _ _ _ _ _ _ rfl (heap_alloc2_new w _ _) Try.underlying31 (by kernel_rfl)) rfl ?_
      exact ⟨rfl, below_two w _ _⟩

set_option maxHeartbeats 1000000 in
theorem reftry_any (lo : Bool) (lf : Int) (hb : 0 ≤ lf) (ht : lf ≤ 1073741825) (w : World) :
    Calls Try.prog 16 #[.agg #[.bool lo, .int .i64 (lf - 1)]] w fun e w' => e = .returned (.tuple #[.agg #[.bool lo, .int .i64 ((tryR lo lf).1 - 1)], .int .i64 (tryR lo lf).2]) ∧ Below w.heap.size w w' := by
  obtain ⟨f, hf⟩ : ∃ f, lf - 1 = f := ⟨_, rfl⟩
  rw [hf]
  cases lo with
  | true =>
    rw [show tryR true lf = (lf, 14) from rfl, hf]
    go_enter Try.func16, Try.ntmps16
    go_wp2
    refine bodyPost_ret (results_row_tmp rfl _ _ _ _ _ _ rfl (heap_alloc2_new w _ _) Try.underlying33 (by kernel_rfl)) rfl ?_
    exact ⟨rfl, below_two w _ _⟩
  | false =>
    by_cases h0 : lf = 0
    · rw [show tryR false lf = (lf, 0) by unfold tryR; rw [if_neg (by decide), if_pos h0], hf]
      obtain rfl : f = -1 := by omega
      go_enter Try.func16, Try.ntmps16
      go_wp2
      refine bodyPost_ret (results_row_tmp rfl _ _ _ _ _ _ rfl (heap_alloc2_new w _ _) Try.underlying33 (by kernel_rfl)) rfl ?_
      exact ⟨rfl, below_two w _ _⟩
    · by_cases h1 : lf = 1
      · rw [show tryR false lf = (0, 8) by unfold tryR; rw [if_neg (by decide), if_neg h0, if_pos h1]]
        obtain rfl : f = 0 := by omega
        go_enter Try.func16, Try.ntmps16
        go_wp2
        refine bodyPost_ret (results_row_tmp rfl _ _ _ _ _ _ rfl (heap_alloc2_new w _ _) Try.underlying33 (by kernel_rfl)) rfl ?_
        exact ⟨rfl, below_two w _ _⟩
      · rw [show tryR false lf = (lf - 1, 0) by unfold tryR; rw [if_neg (by decide), if_neg h0, if_neg h1], hf]
        have h2 : 0 < f := by omega
        have h3 : f ≤ 1073741825 := by omega
        clear hf h0 h1
        go_enter Try.func16, Try.ntmps16
        go_wp2
        refine bodyPost_ret (results_row_tmp rfl _ _ _ _ _ _ rfl (heap_alloc2_new w _ _) Try.underlying33 (by kernel_rfl)) rfl ?_
        exact ⟨rfl, below_two w _ _⟩

end Go.Proofs.Ytpjimnaponmffaa
