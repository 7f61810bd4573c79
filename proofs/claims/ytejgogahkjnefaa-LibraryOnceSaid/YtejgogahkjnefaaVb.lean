/- (*reel.Volume).add, Write, Mark: their walks. -/
import Derived.Test.YtejgogahkjnefaaVa
namespace Go.Proofs.Ytejgogahkjnefaa
open Go.RowKit
set_option linter.unusedVariables false

section
variable {w : World} {B g : Nat} {s s' : VS} {v : Value}

theorem torn_same (h : VolAt w B g s v) (hlen : s.l.length ≤ 1000000) :
    Calls Try.prog 29 #[.pointer (some ⟨g, 0, none⟩)] w fun e w' => e = .returned (.bool (lastTorn s.l)) ∧ w' = w :=
  (torn_vol h hlen).mono fun _ _ ⟨he, hw⟩ => ⟨he, hw.symm⟩

end
end Go.Proofs.Ytejgogahkjnefaa
