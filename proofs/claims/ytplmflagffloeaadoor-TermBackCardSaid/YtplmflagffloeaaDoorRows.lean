/-
  NARROWER THAN 'FOR EVERY INPUT', by the rows' own cells (each row's printed sentence says how): TermBack: laid · TermOld: laid · TermParts: laid · TermVotes: laid.
  DERIVED. THE GIVEN ROWS OF THIS SEAT. 4 by the template 'for every input the law returns true; each argument reads behind the call as it read before'; 0 by the template 'total and deterministic' (their statements: YtplmflagffloeaaDoorTotals.lean).
  GIVEN WITH THE SEED: the statements are not yours to turn. If you find one false, say at which input.
  Laid BY PROGRAM, IN A SANDBOX (cutbox-rows.mjs): the forced cells as the released guide's own fill.sh prints them over the translation 26fb3c126797a166… (all of the seat's roots in one cut). By AI agents, Wed Nov 11 2026. No macro, syntax, notation, axiom, sorry.
-/
import Derived.Test.YtplmflagffloeaaDoorChecked
import GoSem.Claim
import GoSem.ClaimJoined
import GoSem.ClaimMapViews
import Derived.JoinedTies
import Derived.KernelRfl
namespace Go.Proofs.YtplmflagffloeaaDoor
/- THE CELL 'sum', in the pinned program and in every row, IS THE sha256 OF THE DUMP (.gsa) THAT YtplmflagffloeaaDoorProg.lean LOADS. Nothing in Lean hashes anything: it is a label: what it is worth is what the hold of that sum in a sandbox is worth. -/
noncomputable def Tryd.pinned : Pinned := { name := "ytplmflagffloeaadoor", sum := "26fb3c126797a166ca25a62fa8d07b79d83305cb9d5f7282d807d4dc48abd696", checked := Tryd.checked }
namespace Rows
def none {H : Type} : Left H := { results := [], args := [] }

/- WHAT THE LISTED PACKAGE-LEVEL VARIABLES READ AS WHEN THE CALL BEGINS. Each datum BY PROGRAM (the guide's laid-datum.mjs) off the statement by which the dump's own 'gosem.cut.vars' lays the variable. In a bare row this is a premise. The card (YtplmflagffloeaaDoorCards.lean) ties it to the program's text. -/
def laid_glacier_seal_steps {H : Type} : DataW H := .agg [.lit (.int .u32 0), .lit (.int .u32 498536548), .lit (.int .u32 997073096), .lit (.int .u32 651767980), .lit (.int .u32 1994146192), .lit (.int .u32 1802195444), .lit (.int .u32 1303535960), .lit (.int .u32 1342533948), .lit (.int .u32 3988292384), .lit (.int .u32 4027552580), .lit (.int .u32 3604390888), .lit (.int .u32 3412177804), .lit (.int .u32 2607071920), .lit (.int .u32 2262029012), .lit (.int .u32 2685067896), .lit (.int .u32 3183342108)]

/-- 'glacierlaw09.TermBack': WHATEVER THE INPUT: true; the input reads as it did. -/
def termBackSpec : ChangeSpec := { name := "termBack", fn := fun _ => fun
  | [d1, d2, d3, d4, d5, d6] => { results := [.lit (.bool true)], args := [d1, d2, d3, d4, d5, d6] }
  | _ => none }
def termBackRow : OpenClaim := { program := "ytplmflagffloeaadoor", sum := "26fb3c126797a166ca25a62fa8d07b79d83305cb9d5f7282d807d4dc48abd696", func := "glacier/glacierlaw09.TermBack", spec := "termBack", inPlace := ["internal/abi.NoEscape", "internal/bytealg.MakeNoZero"], unfollowed := true, recurses := true, named := ["glacier/seal.steps"], apart := false, laid := [("glacier/seal.steps", laid_glacier_seal_steps)] }
def TermBackSaid : Prop := termBackRow.holds Tryd.pinned (OpenSpec.ofChange termBackSpec)

/-- ITS FALSE NEIGHBOUR: 'it returns false'. Refute it at one input. -/
def termBackWrong : ChangeSpec := { name := "termBack", fn := fun _ => fun
  | [d1, d2, d3, d4, d5, d6] => { results := [.lit (.bool false)], args := [d1, d2, d3, d4, d5, d6] }
  | _ => none }
def TermBackWrongFalsely : Prop := termBackRow.holds Tryd.pinned (OpenSpec.ofChange termBackWrong)

/-- 'glacierlaw09.TermOld': WHATEVER THE INPUT: true; the input reads as it did. -/
def termOldSpec : ChangeSpec := { name := "termOld", fn := fun _ => fun
  | [d1, d2] => { results := [.lit (.bool true)], args := [d1, d2] }
  | _ => none }
def termOldRow : OpenClaim := { program := "ytplmflagffloeaadoor", sum := "26fb3c126797a166ca25a62fa8d07b79d83305cb9d5f7282d807d4dc48abd696", func := "glacier/glacierlaw09.TermOld", spec := "termOld", inPlace := ["internal/abi.NoEscape", "internal/bytealg.MakeNoZero"], unfollowed := true, recurses := true, named := ["glacier/seal.steps"], apart := false, laid := [("glacier/seal.steps", laid_glacier_seal_steps)] }
def TermOldSaid : Prop := termOldRow.holds Tryd.pinned (OpenSpec.ofChange termOldSpec)

/-- ITS FALSE NEIGHBOUR: 'it returns false'. Refute it at one input. -/
def termOldWrong : ChangeSpec := { name := "termOld", fn := fun _ => fun
  | [d1, d2] => { results := [.lit (.bool false)], args := [d1, d2] }
  | _ => none }
def TermOldWrongFalsely : Prop := termOldRow.holds Tryd.pinned (OpenSpec.ofChange termOldWrong)

/-- 'glacierlaw09.TermParts': WHATEVER THE INPUT: true; the input reads as it did. -/
def termPartsSpec : ChangeSpec := { name := "termParts", fn := fun _ => fun
  | [d1, d2, d3, d4] => { results := [.lit (.bool true)], args := [d1, d2, d3, d4] }
  | _ => none }
def termPartsRow : OpenClaim := { program := "ytplmflagffloeaadoor", sum := "26fb3c126797a166ca25a62fa8d07b79d83305cb9d5f7282d807d4dc48abd696", func := "glacier/glacierlaw09.TermParts", spec := "termParts", inPlace := ["internal/abi.NoEscape", "internal/bytealg.MakeNoZero"], unfollowed := true, recurses := true, named := ["glacier/seal.steps"], apart := false, laid := [("glacier/seal.steps", laid_glacier_seal_steps)] }
def TermPartsSaid : Prop := termPartsRow.holds Tryd.pinned (OpenSpec.ofChange termPartsSpec)

/-- ITS FALSE NEIGHBOUR: 'it returns false'. Refute it at one input. -/
def termPartsWrong : ChangeSpec := { name := "termParts", fn := fun _ => fun
  | [d1, d2, d3, d4] => { results := [.lit (.bool false)], args := [d1, d2, d3, d4] }
  | _ => none }
def TermPartsWrongFalsely : Prop := termPartsRow.holds Tryd.pinned (OpenSpec.ofChange termPartsWrong)

/-- 'glacierlaw09.TermVotes': WHATEVER THE INPUT: true; the input reads as it did. -/
def termVotesSpec : ChangeSpec := { name := "termVotes", fn := fun _ => fun
  | [d1, d2, d3, d4, d5] => { results := [.lit (.bool true)], args := [d1, d2, d3, d4, d5] }
  | _ => none }
def termVotesRow : OpenClaim := { program := "ytplmflagffloeaadoor", sum := "26fb3c126797a166ca25a62fa8d07b79d83305cb9d5f7282d807d4dc48abd696", func := "glacier/glacierlaw09.TermVotes", spec := "termVotes", inPlace := ["internal/abi.NoEscape", "internal/bytealg.MakeNoZero"], unfollowed := true, recurses := true, named := ["glacier/seal.steps"], apart := false, laid := [("glacier/seal.steps", laid_glacier_seal_steps)] }
def TermVotesSaid : Prop := termVotesRow.holds Tryd.pinned (OpenSpec.ofChange termVotesSpec)

/-- ITS FALSE NEIGHBOUR: 'it returns false'. Refute it at one input. -/
def termVotesWrong : ChangeSpec := { name := "termVotes", fn := fun _ => fun
  | [d1, d2, d3, d4, d5] => { results := [.lit (.bool false)], args := [d1, d2, d3, d4, d5] }
  | _ => none }
def TermVotesWrongFalsely : Prop := termVotesRow.holds Tryd.pinned (OpenSpec.ofChange termVotesWrong)

/- THE SECOND FORM. 'bulk': how many values and letters a reading holds, each counted each time it is reached (what is shared counts as often as it is met; a slice's spare places count too). A statement '..UptoSaid' is the law's where the arguments, and the package variables that the reading takes, are together of bulk at most 1048576: NARROWER than '..Said'. Prove '..Said' where nothing that the law and all that it calls make is longer than what came in: it says more and counts as full. Else prove '..UptoSaid'. A law counts once. -/
mutual
def uptoBulk {H : Type} : DataW H → Nat
  | .lit (.string bytes) => bytes.length + 1
  | .lit _ => 1
  | .nil => 1
  | .ptr d => uptoBulk d + 1
  | .slice elems spare => uptoBulkAll elems + uptoBulkAll spare + 1
  | .agg parts => uptoBulkAll parts + 1
  | .iface _ d => uptoBulk d + 1
  | .map entries => uptoBulkEntries entries + 1
  | .held _ => 1
def uptoBulkAll {H : Type} : List (DataW H) → Nat
  | [] => 0
  | d :: r => uptoBulk d + uptoBulkAll r
def uptoBulkEntries {H : Type} : List (Lit × DataW H) → Nat
  | [] => 0
  | x :: r => uptoBulkEntry x + uptoBulkEntries r
def uptoBulkEntry {H : Type} : Lit × DataW H → Nat
  | (.string bytes, d) => bytes.length + uptoBulk d + 1
  | (_, d) => uptoBulk d + 1
 end
def uptoSmall : (H : Type) → List (DataW H) → Bool := fun _ ds => decide (uptoBulkAll ds ≤ 1048576)
def OpenSpec.upto (s : _root_.Go.ChangeSpec) : _root_.Go.OpenSpec := { _root_.Go.OpenSpec.ofChange s with cond := some uptoSmall }

/-- 'glacierlaw09.TermBack', WHERE WHAT IT READS IS OF BULK AT MOST 1048576: true; the input reads as it did. -/
def termBackUptoRow : OpenClaim := { program := "ytplmflagffloeaadoor", sum := "26fb3c126797a166ca25a62fa8d07b79d83305cb9d5f7282d807d4dc48abd696", func := "glacier/glacierlaw09.TermBack", spec := "termBack", inPlace := ["internal/abi.NoEscape", "internal/bytealg.MakeNoZero"], unfollowed := true, recurses := true, named := ["glacier/seal.steps"], apart := false, laid := [("glacier/seal.steps", laid_glacier_seal_steps)], narrowed := true }
def TermBackUptoSaid : Prop := termBackUptoRow.holds Tryd.pinned (OpenSpec.upto termBackSpec)

/-- 'glacierlaw09.TermOld', WHERE WHAT IT READS IS OF BULK AT MOST 1048576: true; the input reads as it did. -/
def termOldUptoRow : OpenClaim := { program := "ytplmflagffloeaadoor", sum := "26fb3c126797a166ca25a62fa8d07b79d83305cb9d5f7282d807d4dc48abd696", func := "glacier/glacierlaw09.TermOld", spec := "termOld", inPlace := ["internal/abi.NoEscape", "internal/bytealg.MakeNoZero"], unfollowed := true, recurses := true, named := ["glacier/seal.steps"], apart := false, laid := [("glacier/seal.steps", laid_glacier_seal_steps)], narrowed := true }
def TermOldUptoSaid : Prop := termOldUptoRow.holds Tryd.pinned (OpenSpec.upto termOldSpec)

/-- 'glacierlaw09.TermParts', WHERE WHAT IT READS IS OF BULK AT MOST 1048576: true; the input reads as it did. -/
def termPartsUptoRow : OpenClaim := { program := "ytplmflagffloeaadoor", sum := "26fb3c126797a166ca25a62fa8d07b79d83305cb9d5f7282d807d4dc48abd696", func := "glacier/glacierlaw09.TermParts", spec := "termParts", inPlace := ["internal/abi.NoEscape", "internal/bytealg.MakeNoZero"], unfollowed := true, recurses := true, named := ["glacier/seal.steps"], apart := false, laid := [("glacier/seal.steps", laid_glacier_seal_steps)], narrowed := true }
def TermPartsUptoSaid : Prop := termPartsUptoRow.holds Tryd.pinned (OpenSpec.upto termPartsSpec)

/-- 'glacierlaw09.TermVotes', WHERE WHAT IT READS IS OF BULK AT MOST 1048576: true; the input reads as it did. -/
def termVotesUptoRow : OpenClaim := { program := "ytplmflagffloeaadoor", sum := "26fb3c126797a166ca25a62fa8d07b79d83305cb9d5f7282d807d4dc48abd696", func := "glacier/glacierlaw09.TermVotes", spec := "termVotes", inPlace := ["internal/abi.NoEscape", "internal/bytealg.MakeNoZero"], unfollowed := true, recurses := true, named := ["glacier/seal.steps"], apart := false, laid := [("glacier/seal.steps", laid_glacier_seal_steps)], narrowed := true }
def TermVotesUptoSaid : Prop := termVotesUptoRow.holds Tryd.pinned (OpenSpec.upto termVotesSpec)

end Rows
end Go.Proofs.YtplmflagffloeaaDoor
