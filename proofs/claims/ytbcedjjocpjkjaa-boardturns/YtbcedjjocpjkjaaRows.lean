/-
  No cell of these rows narrows 'for every input' (looked for: loops, veiled, ifaces, maps, wideKeys, modest, calm, conditions, laid).
  DERIVED. THE GIVEN ROWS OF THIS SEAT. 4 by the template 'for every input the law returns true; each argument reads behind the call as it read before'; 0 by the template 'total and deterministic' (their statements: YtbcedjjocpjkjaaTotals.lean).
  GIVEN WITH THE SEED: the statements are not yours to turn. If you find one false, say at which input.
  Laid BY PROGRAM, IN A SANDBOX (cutbox-rows.mjs): the forced cells as the released guide's own fill.sh prints them over the translation 1f1782b4ce4c55fb… (all of the seat's roots in one cut). By AI agents, Wed Nov 11 2026. No macro, syntax, notation, axiom, sorry.
-/
import Derived.Test.YtbcedjjocpjkjaaChecked
import GoSem.Claim
import GoSem.ClaimJoined
import GoSem.ClaimMapViews
import Derived.JoinedTies
import Derived.KernelRfl
namespace Go.Proofs.Ytbcedjjocpjkjaa
/- THE CELL 'sum', in the pinned program and in every row, IS THE sha256 OF THE DUMP (.gsa) THAT YtbcedjjocpjkjaaProg.lean LOADS. Nothing in Lean hashes anything: it is a label: what it is worth is what the hold of that sum in a sandbox is worth. -/
noncomputable def Try.pinned : Pinned := { name := "ytbcedjjocpjkjaa", sum := "1f1782b4ce4c55fb29f1eed3f2f217085088cd34e9f051fae608413748445ac9", checked := Try.checked }
namespace Rows
def none {H : Type} : Left H := { results := [], args := [] }

/-- 'gamelaw.BoardRanks': WHATEVER THE INPUT: true; the input reads as it did. -/
def boardRanksSpec : ChangeSpec := { name := "boardRanks", fn := fun _ => fun
  | [d1, d2] => { results := [.lit (.bool true)], args := [d1, d2] }
  | _ => none }
def boardRanksRow : OpenClaim := { program := "ytbcedjjocpjkjaa", sum := "1f1782b4ce4c55fb29f1eed3f2f217085088cd34e9f051fae608413748445ac9", func := "parlour/gamelaw.BoardRanks", spec := "boardRanks", inPlace := ["internal/bytealg.CountString", "internal/bytealg.IndexByteString", "internal/bytealg.IndexString"], named := ["internal/bytealg.MaxLen"], apart := false }
def BoardRanksSaid : Prop := boardRanksRow.holds Try.pinned (OpenSpec.ofChange boardRanksSpec)

/-- ITS FALSE NEIGHBOUR: 'it returns false'. Refute it at one input. -/
def boardRanksWrong : ChangeSpec := { name := "boardRanks", fn := fun _ => fun
  | [d1, d2] => { results := [.lit (.bool false)], args := [d1, d2] }
  | _ => none }
def BoardRanksWrongFalsely : Prop := boardRanksRow.holds Try.pinned (OpenSpec.ofChange boardRanksWrong)

/-- 'gamelaw.BoardTurns': WHATEVER THE INPUT: true; the input reads as it did. -/
def boardTurnsSpec : ChangeSpec := { name := "boardTurns", fn := fun _ => fun
  | [d1, d2, d3] => { results := [.lit (.bool true)], args := [d1, d2, d3] }
  | _ => none }
def boardTurnsRow : OpenClaim := { program := "ytbcedjjocpjkjaa", sum := "1f1782b4ce4c55fb29f1eed3f2f217085088cd34e9f051fae608413748445ac9", func := "parlour/gamelaw.BoardTurns", spec := "boardTurns", inPlace := ["internal/bytealg.abigen_runtime_cmpstring"], unfollowed := true, recurses := true, apart := false }
def BoardTurnsSaid : Prop := boardTurnsRow.holds Try.pinned (OpenSpec.ofChange boardTurnsSpec)

/-- ITS FALSE NEIGHBOUR: 'it returns false'. Refute it at one input. -/
def boardTurnsWrong : ChangeSpec := { name := "boardTurns", fn := fun _ => fun
  | [d1, d2, d3] => { results := [.lit (.bool false)], args := [d1, d2, d3] }
  | _ => none }
def BoardTurnsWrongFalsely : Prop := boardTurnsRow.holds Try.pinned (OpenSpec.ofChange boardTurnsWrong)

/-- 'gamekeep.BoardBack': WHATEVER THE INPUT: true; the input reads as it did. -/
def boardBackSpec : ChangeSpec := { name := "boardBack", fn := fun _ => fun
  | [d1, d2, d3] => { results := [.lit (.bool true)], args := [d1, d2, d3] }
  | _ => none }
def boardBackRow : OpenClaim := { program := "ytbcedjjocpjkjaa", sum := "1f1782b4ce4c55fb29f1eed3f2f217085088cd34e9f051fae608413748445ac9", func := "parlour/gamekeep.BoardBack", spec := "boardBack", inPlace := ["internal/abi.NoEscape"], apart := false }
def BoardBackSaid : Prop := boardBackRow.holds Try.pinned (OpenSpec.ofChange boardBackSpec)

/-- ITS FALSE NEIGHBOUR: 'it returns false'. Refute it at one input. -/
def boardBackWrong : ChangeSpec := { name := "boardBack", fn := fun _ => fun
  | [d1, d2, d3] => { results := [.lit (.bool false)], args := [d1, d2, d3] }
  | _ => none }
def BoardBackWrongFalsely : Prop := boardBackRow.holds Try.pinned (OpenSpec.ofChange boardBackWrong)

/-- 'gamekeep.BoardGroup': WHATEVER THE INPUT: true; the input reads as it did. -/
def boardGroupSpec : ChangeSpec := { name := "boardGroup", fn := fun _ => fun
  | [d1, d2, d3] => { results := [.lit (.bool true)], args := [d1, d2, d3] }
  | _ => none }
def boardGroupRow : OpenClaim := { program := "ytbcedjjocpjkjaa", sum := "1f1782b4ce4c55fb29f1eed3f2f217085088cd34e9f051fae608413748445ac9", func := "parlour/gamekeep.BoardGroup", spec := "boardGroup", inPlace := ["internal/bytealg.abigen_runtime_cmpstring"], apart := false }
def BoardGroupSaid : Prop := boardGroupRow.holds Try.pinned (OpenSpec.ofChange boardGroupSpec)

/-- ITS FALSE NEIGHBOUR: 'it returns false'. Refute it at one input. -/
def boardGroupWrong : ChangeSpec := { name := "boardGroup", fn := fun _ => fun
  | [d1, d2, d3] => { results := [.lit (.bool false)], args := [d1, d2, d3] }
  | _ => none }
def BoardGroupWrongFalsely : Prop := boardGroupRow.holds Try.pinned (OpenSpec.ofChange boardGroupWrong)

/- THE SECOND FORM. 'bulk': how many values and letters a reading holds, each counted each time it is reached (what is shared counts as often as it is met; a slice's spare places count too). A statement '..UptoSaid' is the law's where the arguments, and the package variables that the reading takes, are together of bulk at most 1048576: NARROWER than '..Said'. Prove '..Said' where nothing that the law and all that it calls make is longer than what came in: it says more and counts as full. Else prove '..UptoSaid'. A law counts once. -/
mutual
def uptoBulk {H : Type} : DataW H → Nat
  | .lit (.string bytes) => bytes.length + 1
  | .lit _ => 1
  | .nil => 1
  | .ptr d => uptoBulk d + 1
  | .slice elems spare => uptoBulkAll elems + uptoBulkAll spare + 1
  | .agg parts => uptoBulkAll parts + 1
  | .iface _ d => uptoBulk d + 1
  | .map entries => uptoBulkEntries entries + 1
  | .held _ => 1
def uptoBulkAll {H : Type} : List (DataW H) → Nat
  | [] => 0
  | d :: r => uptoBulk d + uptoBulkAll r
def uptoBulkEntries {H : Type} : List (Lit × DataW H) → Nat
  | [] => 0
  | x :: r => uptoBulkEntry x + uptoBulkEntries r
def uptoBulkEntry {H : Type} : Lit × DataW H → Nat
  | (.string bytes, d) => bytes.length + uptoBulk d + 1
  | (_, d) => uptoBulk d + 1
 end
def uptoSmall : (H : Type) → List (DataW H) → Bool := fun _ ds => decide (uptoBulkAll ds ≤ 1048576)
def OpenSpec.upto (s : _root_.Go.ChangeSpec) : _root_.Go.OpenSpec := { _root_.Go.OpenSpec.ofChange s with cond := some uptoSmall }

/-- 'gamelaw.BoardRanks', WHERE WHAT IT READS IS OF BULK AT MOST 1048576: true; the input reads as it did. -/
def boardRanksUptoRow : OpenClaim := { program := "ytbcedjjocpjkjaa", sum := "1f1782b4ce4c55fb29f1eed3f2f217085088cd34e9f051fae608413748445ac9", func := "parlour/gamelaw.BoardRanks", spec := "boardRanks", inPlace := ["internal/bytealg.CountString", "internal/bytealg.IndexByteString", "internal/bytealg.IndexString"], named := ["internal/bytealg.MaxLen"], apart := false, narrowed := true }
def BoardRanksUptoSaid : Prop := boardRanksUptoRow.holds Try.pinned (OpenSpec.upto boardRanksSpec)

/-- 'gamelaw.BoardTurns', WHERE WHAT IT READS IS OF BULK AT MOST 1048576: true; the input reads as it did. -/
def boardTurnsUptoRow : OpenClaim := { program := "ytbcedjjocpjkjaa", sum := "1f1782b4ce4c55fb29f1eed3f2f217085088cd34e9f051fae608413748445ac9", func := "parlour/gamelaw.BoardTurns", spec := "boardTurns", inPlace := ["internal/bytealg.abigen_runtime_cmpstring"], unfollowed := true, recurses := true, apart := false, narrowed := true }
def BoardTurnsUptoSaid : Prop := boardTurnsUptoRow.holds Try.pinned (OpenSpec.upto boardTurnsSpec)

/-- 'gamekeep.BoardBack', WHERE WHAT IT READS IS OF BULK AT MOST 1048576: true; the input reads as it did. -/
def boardBackUptoRow : OpenClaim := { program := "ytbcedjjocpjkjaa", sum := "1f1782b4ce4c55fb29f1eed3f2f217085088cd34e9f051fae608413748445ac9", func := "parlour/gamekeep.BoardBack", spec := "boardBack", inPlace := ["internal/abi.NoEscape"], apart := false, narrowed := true }
def BoardBackUptoSaid : Prop := boardBackUptoRow.holds Try.pinned (OpenSpec.upto boardBackSpec)

/-- 'gamekeep.BoardGroup', WHERE WHAT IT READS IS OF BULK AT MOST 1048576: true; the input reads as it did. -/
def boardGroupUptoRow : OpenClaim := { program := "ytbcedjjocpjkjaa", sum := "1f1782b4ce4c55fb29f1eed3f2f217085088cd34e9f051fae608413748445ac9", func := "parlour/gamekeep.BoardGroup", spec := "boardGroup", inPlace := ["internal/bytealg.abigen_runtime_cmpstring"], apart := false, narrowed := true }
def BoardGroupUptoSaid : Prop := boardGroupUptoRow.holds Try.pinned (OpenSpec.upto boardGroupSpec)

end Rows
end Go.Proofs.Ytbcedjjocpjkjaa
