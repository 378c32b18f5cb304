/-
  No cell of these rows narrows 'for every input' (looked for: loops, veiled, ifaces, maps, wideKeys, modest, calm, conditions, laid).
  DERIVED. THE GIVEN ROWS OF THIS SEAT. 3 by the template 'for every input the law returns true; each argument reads behind the call as it read before'; 0 by the template 'total and deterministic' (their statements: YtppkejblhkbkjaaTotals.lean).
  GIVEN WITH THE SEED: the statements are not yours to turn. If you find one false, say at which input.
  Laid BY PROGRAM, IN A SANDBOX (cutbox-rows.mjs): the forced cells as the released guide's own fill.sh prints them over the translation 752fb8a1ee7679a2… (all of the seat's roots in one cut). By AI agents, Wed Nov 11 2026. No macro, syntax, notation, axiom, sorry.
-/
import Derived.Test.YtppkejblhkbkjaaChecked
import GoSem.Claim
import GoSem.ClaimJoined
import GoSem.ClaimMapViews
import Derived.JoinedTies
import Derived.KernelRfl
namespace Go.Proofs.Ytppkejblhkbkjaa
/- THE CELL 'sum', in the pinned program and in every row, IS THE sha256 OF THE DUMP (.gsa) THAT YtppkejblhkbkjaaProg.lean LOADS. Nothing in Lean hashes anything: it is a label: what it is worth is what the hold of that sum in a sandbox is worth. -/
noncomputable def Try.pinned : Pinned := { name := "ytppkejblhkbkjaa", sum := "752fb8a1ee7679a2040b201a9269fec5435d6db947bdc278028cb790280e7488", checked := Try.checked }
namespace Rows
def none {H : Type} : Left H := { results := [], args := [] }

/-- 'gamelaw.TourneyTable': WHATEVER THE INPUT: true; the input reads as it did. -/
def tourneyTableSpec : ChangeSpec := { name := "tourneyTable", fn := fun _ => fun
  | [d1, d2, d3, d4] => { results := [.lit (.bool true)], args := [d1, d2, d3, d4] }
  | _ => none }
def tourneyTableRow : OpenClaim := { program := "ytppkejblhkbkjaa", sum := "752fb8a1ee7679a2040b201a9269fec5435d6db947bdc278028cb790280e7488", func := "parlour/gamelaw.TourneyTable", spec := "tourneyTable", unfollowed := true, recurses := true, apart := false }
def TourneyTableSaid : Prop := tourneyTableRow.holds Try.pinned (OpenSpec.ofChange tourneyTableSpec)

/-- ITS FALSE NEIGHBOUR: 'it returns false'. Refute it at one input. -/
def tourneyTableWrong : ChangeSpec := { name := "tourneyTable", fn := fun _ => fun
  | [d1, d2, d3, d4] => { results := [.lit (.bool false)], args := [d1, d2, d3, d4] }
  | _ => none }
def TourneyTableWrongFalsely : Prop := tourneyTableRow.holds Try.pinned (OpenSpec.ofChange tourneyTableWrong)

/-- 'gamekeep.TourneyPairs': WHATEVER THE INPUT: true; the input reads as it did. -/
def tourneyPairsSpec : ChangeSpec := { name := "tourneyPairs", fn := fun _ => fun
  | [d1, d2] => { results := [.lit (.bool true)], args := [d1, d2] }
  | _ => none }
def tourneyPairsRow : OpenClaim := { program := "ytppkejblhkbkjaa", sum := "752fb8a1ee7679a2040b201a9269fec5435d6db947bdc278028cb790280e7488", func := "parlour/gamekeep.TourneyPairs", spec := "tourneyPairs", recurses := true, apart := false }
def TourneyPairsSaid : Prop := tourneyPairsRow.holds Try.pinned (OpenSpec.ofChange tourneyPairsSpec)

/-- ITS FALSE NEIGHBOUR: 'it returns false'. Refute it at one input. -/
def tourneyPairsWrong : ChangeSpec := { name := "tourneyPairs", fn := fun _ => fun
  | [d1, d2] => { results := [.lit (.bool false)], args := [d1, d2] }
  | _ => none }
def TourneyPairsWrongFalsely : Prop := tourneyPairsRow.holds Try.pinned (OpenSpec.ofChange tourneyPairsWrong)

/-- 'gamekeep.TourneySums': WHATEVER THE INPUT: true; the input reads as it did. -/
def tourneySumsSpec : ChangeSpec := { name := "tourneySums", fn := fun _ => fun
  | [d1, d2, d3] => { results := [.lit (.bool true)], args := [d1, d2, d3] }
  | _ => none }
def tourneySumsRow : OpenClaim := { program := "ytppkejblhkbkjaa", sum := "752fb8a1ee7679a2040b201a9269fec5435d6db947bdc278028cb790280e7488", func := "parlour/gamekeep.TourneySums", spec := "tourneySums", unfollowed := true, recurses := true, apart := false }
def TourneySumsSaid : Prop := tourneySumsRow.holds Try.pinned (OpenSpec.ofChange tourneySumsSpec)

/-- ITS FALSE NEIGHBOUR: 'it returns false'. Refute it at one input. -/
def tourneySumsWrong : ChangeSpec := { name := "tourneySums", fn := fun _ => fun
  | [d1, d2, d3] => { results := [.lit (.bool false)], args := [d1, d2, d3] }
  | _ => none }
def TourneySumsWrongFalsely : Prop := tourneySumsRow.holds Try.pinned (OpenSpec.ofChange tourneySumsWrong)

/- THE SECOND FORM. 'bulk': how many values and letters a reading holds, each counted each time it is reached (what is shared counts as often as it is met; a slice's spare places count too). A statement '..UptoSaid' is the law's where the arguments, and the package variables that the reading takes, are together of bulk at most 1048576: NARROWER than '..Said'. Prove '..Said' where nothing that the law and all that it calls make is longer than what came in: it says more and counts as full. Else prove '..UptoSaid'. A law counts once. -/
mutual
def uptoBulk {H : Type} : DataW H → Nat
  | .lit (.string bytes) => bytes.length + 1
  | .lit _ => 1
  | .nil => 1
  | .ptr d => uptoBulk d + 1
  | .slice elems spare => uptoBulkAll elems + uptoBulkAll spare + 1
  | .agg parts => uptoBulkAll parts + 1
  | .iface _ d => uptoBulk d + 1
  | .map entries => uptoBulkEntries entries + 1
  | .held _ => 1
def uptoBulkAll {H : Type} : List (DataW H) → Nat
  | [] => 0
  | d :: r => uptoBulk d + uptoBulkAll r
def uptoBulkEntries {H : Type} : List (Lit × DataW H) → Nat
  | [] => 0
  | x :: r => uptoBulkEntry x + uptoBulkEntries r
def uptoBulkEntry {H : Type} : Lit × DataW H → Nat
  | (.string bytes, d) => bytes.length + uptoBulk d + 1
  | (_, d) => uptoBulk d + 1
 end
def uptoSmall : (H : Type) → List (DataW H) → Bool := fun _ ds => decide (uptoBulkAll ds ≤ 1048576)
def OpenSpec.upto (s : _root_.Go.ChangeSpec) : _root_.Go.OpenSpec := { _root_.Go.OpenSpec.ofChange s with cond := some uptoSmall }

/-- 'gamelaw.TourneyTable', WHERE WHAT IT READS IS OF BULK AT MOST 1048576: true; the input reads as it did. -/
def tourneyTableUptoRow : OpenClaim := { program := "ytppkejblhkbkjaa", sum := "752fb8a1ee7679a2040b201a9269fec5435d6db947bdc278028cb790280e7488", func := "parlour/gamelaw.TourneyTable", spec := "tourneyTable", unfollowed := true, recurses := true, apart := false, narrowed := true }
def TourneyTableUptoSaid : Prop := tourneyTableUptoRow.holds Try.pinned (OpenSpec.upto tourneyTableSpec)

/-- 'gamekeep.TourneyPairs', WHERE WHAT IT READS IS OF BULK AT MOST 1048576: true; the input reads as it did. -/
def tourneyPairsUptoRow : OpenClaim := { program := "ytppkejblhkbkjaa", sum := "752fb8a1ee7679a2040b201a9269fec5435d6db947bdc278028cb790280e7488", func := "parlour/gamekeep.TourneyPairs", spec := "tourneyPairs", recurses := true, apart := false, narrowed := true }
def TourneyPairsUptoSaid : Prop := tourneyPairsUptoRow.holds Try.pinned (OpenSpec.upto tourneyPairsSpec)

/-- 'gamekeep.TourneySums', WHERE WHAT IT READS IS OF BULK AT MOST 1048576: true; the input reads as it did. -/
def tourneySumsUptoRow : OpenClaim := { program := "ytppkejblhkbkjaa", sum := "752fb8a1ee7679a2040b201a9269fec5435d6db947bdc278028cb790280e7488", func := "parlour/gamekeep.TourneySums", spec := "tourneySums", unfollowed := true, recurses := true, apart := false, narrowed := true }
def TourneySumsUptoSaid : Prop := tourneySumsUptoRow.holds Try.pinned (OpenSpec.upto tourneySumsSpec)

end Rows
end Go.Proofs.Ytppkejblhkbkjaa
