/- glacierlaw01.Cut: its walk. -/
import Derived.Test.YtejgogahkjnefaaDoorProg
import Derived.Test.YtejgogahkjnefaaDoorChecked
import Derived.WalkKit
import Derived.WalkSpells
import Derived.WalkLawsBesides
namespace Go.Proofs.YtejgogahkjnefaaDoor
open Go.RowKit

/-- at most n bytes -/
def cutTo (s : ByteArray) (n : Nat) : ByteArray := if n < s.size then s.extract 0 n else s

theorem cutTo_le (s : ByteArray) (n : Nat) : (cutTo s n).size ≤ n := by
  unfold cutTo
  split
  · rw [ByteArray.size_extract]; omega
  · omega
theorem cutTo_size (s : ByteArray) (n : Nat) : (cutTo s n).size ≤ s.size := by
  unfold cutTo
  split
  · rw [ByteArray.size_extract]; omega
  · omega

set_option maxHeartbeats 400000 in
theorem cut_any (s : ByteArray) (n : Nat) (w : World) :
    Calls Tryd.prog 28 #[.string s, .int .i64 (n : Nat)] w fun e w' => e = .returned (.string (cutTo s n)) ∧ w = w' := by
  unfold cutTo
  by_cases h : n < s.size
  · rw [if_pos h]
    have h' : n ≤ s.size := by omega
    go_enter Tryd.func28, Tryd.ntmps28
    go_wp2
    go_ret
    exact ⟨rfl, rfl⟩
  · rw [if_neg h]
    go_enter Tryd.func28, Tryd.ntmps28
    go_wp2
    go_ret
    exact ⟨rfl, rfl⟩
end Go.Proofs.YtejgogahkjnefaaDoor
