/-
  No cell of these rows narrows 'for every input' (looked for: loops, veiled, ifaces, maps, wideKeys, modest, calm, conditions, laid).
  DERIVED. THE GIVEN ROWS OF THIS SEAT. 4 by the template 'for every input the law returns true; each argument reads behind the call as it read before'; 0 by the template 'total and deterministic' (their statements: YtphnjedoghopcaaTotals.lean).
  GIVEN WITH THE SEED: the statements are not yours to turn. If you find one false, say at which input.
  Laid BY PROGRAM, IN A SANDBOX (cutbox-rows.mjs): the forced cells as the released guide's own fill.sh prints them over the translation bc65f4e16723510f… (all of the seat's roots in one cut). By AI agents, Wed Nov 11 2026. No macro, syntax, notation, axiom, sorry.
-/
import Derived.Test.YtphnjedoghopcaaChecked
import GoSem.Claim
import GoSem.ClaimJoined
import GoSem.ClaimMapViews
import Derived.JoinedTies
import Derived.KernelRfl
namespace Go.Proofs.Ytphnjedoghopcaa
/- THE CELL 'sum', in the pinned program and in every row, IS THE sha256 OF THE DUMP (.gsa) THAT YtphnjedoghopcaaProg.lean LOADS. Nothing in Lean hashes anything: it is a label: what it is worth is what the hold of that sum in a sandbox is worth. -/
noncomputable def Try.pinned : Pinned := { name := "ytphnjedoghopcaa", sum := "bc65f4e16723510fc7e91e827a9f44e0cf69c061e68aa25a8292eab35aec06f8", checked := Try.checked }
namespace Rows
def none {H : Type} : Left H := { results := [], args := [] }

/-- 'gamelaw.NimGrundy': WHATEVER THE INPUT: true; the input reads as it did. -/
def nimGrundySpec : ChangeSpec := { name := "nimGrundy", fn := fun _ => fun
  | [d1, d2, d3] => { results := [.lit (.bool true)], args := [d1, d2, d3] }
  | _ => none }
def nimGrundyRow : OpenClaim := { program := "ytphnjedoghopcaa", sum := "bc65f4e16723510fc7e91e827a9f44e0cf69c061e68aa25a8292eab35aec06f8", func := "parlour/gamelaw.NimGrundy", spec := "nimGrundy", unfollowed := true, recurses := true, apart := false }
def NimGrundySaid : Prop := nimGrundyRow.holds Try.pinned (OpenSpec.ofChange nimGrundySpec)

/-- ITS FALSE NEIGHBOUR: 'it returns false'. Refute it at one input. -/
def nimGrundyWrong : ChangeSpec := { name := "nimGrundy", fn := fun _ => fun
  | [d1, d2, d3] => { results := [.lit (.bool false)], args := [d1, d2, d3] }
  | _ => none }
def NimGrundyWrongFalsely : Prop := nimGrundyRow.holds Try.pinned (OpenSpec.ofChange nimGrundyWrong)

/-- 'gamelaw.NimGraphs': WHATEVER THE INPUT: true; the input reads as it did. -/
def nimGraphsSpec : ChangeSpec := { name := "nimGraphs", fn := fun _ => fun
  | [d1, d2] => { results := [.lit (.bool true)], args := [d1, d2] }
  | _ => none }
def nimGraphsRow : OpenClaim := { program := "ytphnjedoghopcaa", sum := "bc65f4e16723510fc7e91e827a9f44e0cf69c061e68aa25a8292eab35aec06f8", func := "parlour/gamelaw.NimGraphs", spec := "nimGraphs", recurses := true, apart := false }
def NimGraphsSaid : Prop := nimGraphsRow.holds Try.pinned (OpenSpec.ofChange nimGraphsSpec)

/-- ITS FALSE NEIGHBOUR: 'it returns false'. Refute it at one input. -/
def nimGraphsWrong : ChangeSpec := { name := "nimGraphs", fn := fun _ => fun
  | [d1, d2] => { results := [.lit (.bool false)], args := [d1, d2] }
  | _ => none }
def NimGraphsWrongFalsely : Prop := nimGraphsRow.holds Try.pinned (OpenSpec.ofChange nimGraphsWrong)

/-- 'gamekeep.NimTrue': WHATEVER THE INPUT: true; the input reads as it did. -/
def nimTrueSpec : ChangeSpec := { name := "nimTrue", fn := fun _ => fun
  | [d1, d2] => { results := [.lit (.bool true)], args := [d1, d2] }
  | _ => none }
def nimTrueRow : OpenClaim := { program := "ytphnjedoghopcaa", sum := "bc65f4e16723510fc7e91e827a9f44e0cf69c061e68aa25a8292eab35aec06f8", func := "parlour/gamekeep.NimTrue", spec := "nimTrue", unfollowed := true, recurses := true, apart := false }
def NimTrueSaid : Prop := nimTrueRow.holds Try.pinned (OpenSpec.ofChange nimTrueSpec)

/-- ITS FALSE NEIGHBOUR: 'it returns false'. Refute it at one input. -/
def nimTrueWrong : ChangeSpec := { name := "nimTrue", fn := fun _ => fun
  | [d1, d2] => { results := [.lit (.bool false)], args := [d1, d2] }
  | _ => none }
def NimTrueWrongFalsely : Prop := nimTrueRow.holds Try.pinned (OpenSpec.ofChange nimTrueWrong)

/-- 'gamekeep.NimSum': WHATEVER THE INPUT: true; the input reads as it did. -/
def nimSumSpec : ChangeSpec := { name := "nimSum", fn := fun _ => fun
  | [d1, d2] => { results := [.lit (.bool true)], args := [d1, d2] }
  | _ => none }
def nimSumRow : OpenClaim := { program := "ytphnjedoghopcaa", sum := "bc65f4e16723510fc7e91e827a9f44e0cf69c061e68aa25a8292eab35aec06f8", func := "parlour/gamekeep.NimSum", spec := "nimSum", recurses := true, apart := false }
def NimSumSaid : Prop := nimSumRow.holds Try.pinned (OpenSpec.ofChange nimSumSpec)

/-- ITS FALSE NEIGHBOUR: 'it returns false'. Refute it at one input. -/
def nimSumWrong : ChangeSpec := { name := "nimSum", fn := fun _ => fun
  | [d1, d2] => { results := [.lit (.bool false)], args := [d1, d2] }
  | _ => none }
def NimSumWrongFalsely : Prop := nimSumRow.holds Try.pinned (OpenSpec.ofChange nimSumWrong)

/- THE SECOND FORM. 'bulk': how many values and letters a reading holds, each counted each time it is reached (what is shared counts as often as it is met; a slice's spare places count too). A statement '..UptoSaid' is the law's where the arguments, and the package variables that the reading takes, are together of bulk at most 1048576: NARROWER than '..Said'. Prove '..Said' where nothing that the law and all that it calls make is longer than what came in: it says more and counts as full. Else prove '..UptoSaid'. A law counts once. -/
mutual
def uptoBulk {H : Type} : DataW H → Nat
  | .lit (.string bytes) => bytes.length + 1
  | .lit _ => 1
  | .nil => 1
  | .ptr d => uptoBulk d + 1
  | .slice elems spare => uptoBulkAll elems + uptoBulkAll spare + 1
  | .agg parts => uptoBulkAll parts + 1
  | .iface _ d => uptoBulk d + 1
  | .map entries => uptoBulkEntries entries + 1
  | .held _ => 1
def uptoBulkAll {H : Type} : List (DataW H) → Nat
  | [] => 0
  | d :: r => uptoBulk d + uptoBulkAll r
def uptoBulkEntries {H : Type} : List (Lit × DataW H) → Nat
  | [] => 0
  | x :: r => uptoBulkEntry x + uptoBulkEntries r
def uptoBulkEntry {H : Type} : Lit × DataW H → Nat
  | (.string bytes, d) => bytes.length + uptoBulk d + 1
  | (_, d) => uptoBulk d + 1
 end
def uptoSmall : (H : Type) → List (DataW H) → Bool := fun _ ds => decide (uptoBulkAll ds ≤ 1048576)
def OpenSpec.upto (s : _root_.Go.ChangeSpec) : _root_.Go.OpenSpec := { _root_.Go.OpenSpec.ofChange s with cond := some uptoSmall }

/-- 'gamelaw.NimGrundy', WHERE WHAT IT READS IS OF BULK AT MOST 1048576: true; the input reads as it did. -/
def nimGrundyUptoRow : OpenClaim := { program := "ytphnjedoghopcaa", sum := "bc65f4e16723510fc7e91e827a9f44e0cf69c061e68aa25a8292eab35aec06f8", func := "parlour/gamelaw.NimGrundy", spec := "nimGrundy", unfollowed := true, recurses := true, apart := false, narrowed := true }
def NimGrundyUptoSaid : Prop := nimGrundyUptoRow.holds Try.pinned (OpenSpec.upto nimGrundySpec)

/-- 'gamelaw.NimGraphs', WHERE WHAT IT READS IS OF BULK AT MOST 1048576: true; the input reads as it did. -/
def nimGraphsUptoRow : OpenClaim := { program := "ytphnjedoghopcaa", sum := "bc65f4e16723510fc7e91e827a9f44e0cf69c061e68aa25a8292eab35aec06f8", func := "parlour/gamelaw.NimGraphs", spec := "nimGraphs", recurses := true, apart := false, narrowed := true }
def NimGraphsUptoSaid : Prop := nimGraphsUptoRow.holds Try.pinned (OpenSpec.upto nimGraphsSpec)

/-- 'gamekeep.NimTrue', WHERE WHAT IT READS IS OF BULK AT MOST 1048576: true; the input reads as it did. -/
def nimTrueUptoRow : OpenClaim := { program := "ytphnjedoghopcaa", sum := "bc65f4e16723510fc7e91e827a9f44e0cf69c061e68aa25a8292eab35aec06f8", func := "parlour/gamekeep.NimTrue", spec := "nimTrue", unfollowed := true, recurses := true, apart := false, narrowed := true }
def NimTrueUptoSaid : Prop := nimTrueUptoRow.holds Try.pinned (OpenSpec.upto nimTrueSpec)

/-- 'gamekeep.NimSum', WHERE WHAT IT READS IS OF BULK AT MOST 1048576: true; the input reads as it did. -/
def nimSumUptoRow : OpenClaim := { program := "ytphnjedoghopcaa", sum := "bc65f4e16723510fc7e91e827a9f44e0cf69c061e68aa25a8292eab35aec06f8", func := "parlour/gamekeep.NimSum", spec := "nimSum", recurses := true, apart := false, narrowed := true }
def NimSumUptoSaid : Prop := nimSumUptoRow.holds Try.pinned (OpenSpec.upto nimSumSpec)

end Rows
end Go.Proofs.Ytphnjedoghopcaa
