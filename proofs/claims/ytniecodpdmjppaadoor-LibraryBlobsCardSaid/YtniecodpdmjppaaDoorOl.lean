/- seal.Only of a frame. -/
import Derived.Test.YtniecodpdmjppaaDoorSc
namespace Go.Proofs.YtniecodpdmjppaaDoor
open Go.RowKit
open Sm
set_option linter.unusedVariables false

theorem only_len (l : List UInt8) : (onlyL l).1.length ≤ l.length := by
  unfold onlyL
  split
  · exact Nat.zero_le _
  · split
    · exact Nat.zero_le _
    · unfold openL
      split
      · exact Nat.zero_le _
      · split
        · exact Nat.zero_le _
        · split
          · exact Nat.zero_le _
          · split
            · exact Nat.zero_le _
            · simp only [List.length_take, List.length_drop]; omega
theorem only_frame (x : List UInt8) (h : x.length ≤ 1048576) : onlyL (frameL x) = (x, 0) := by
  have ho := open_frame x [] h
  rw [List.append_nil] at ho
  unfold onlyL
  rw [ho, frameL_len]
  simp
end Go.Proofs.YtniecodpdmjppaaDoor
