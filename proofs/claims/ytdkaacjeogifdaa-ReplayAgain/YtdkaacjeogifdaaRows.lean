/-
  No cell of these rows narrows 'for every input' (looked for: loops, veiled, ifaces, maps, wideKeys, modest, calm, conditions, laid).
  DERIVED. THE GIVEN ROWS OF THIS SEAT. 3 by the template 'for every input the law returns true; each argument reads behind the call as it read before'; 0 by the template 'total and deterministic' (their statements: YtdkaacjeogifdaaTotals.lean).
  GIVEN WITH THE SEED: the statements are not yours to turn. If you find one false, say at which input.
  Laid BY PROGRAM, IN A SANDBOX (cutbox-rows.mjs): the forced cells as the released guide's own fill.sh prints them over the translation dce00cfe235d7844… (all of the seat's roots in one cut). By AI agents, Wed Nov 11 2026. No macro, syntax, notation, axiom, sorry.
-/
import Derived.Test.YtdkaacjeogifdaaChecked
import GoSem.Claim
import GoSem.ClaimJoined
import GoSem.ClaimMapViews
import Derived.JoinedTies
import Derived.KernelRfl
namespace Go.Proofs.Ytdkaacjeogifdaa
/- THE CELL 'sum', in the pinned program and in every row, IS THE sha256 OF THE DUMP (.gsa) THAT YtdkaacjeogifdaaProg.lean LOADS. Nothing in Lean hashes anything: it is a label: what it is worth is what the hold of that sum in a sandbox is worth. -/
noncomputable def Try.pinned : Pinned := { name := "ytdkaacjeogifdaa", sum := "dce00cfe235d784460652e1a50a3fd6ff7f5550e991ac6e3ccb7b7f9f07f4839", checked := Try.checked }
namespace Rows
def none {H : Type} : Left H := { results := [], args := [] }

/-- 'ledgerstonelaw10.ReplayNumbers': WHATEVER THE INPUT: true; the input reads as it did. -/
def replayNumbersSpec : ChangeSpec := { name := "replayNumbers", fn := fun _ => fun
  | [] => { results := [.lit (.bool true)], args := [] }
  | _ => none }
def replayNumbersRow : OpenClaim := { program := "ytdkaacjeogifdaa", sum := "dce00cfe235d784460652e1a50a3fd6ff7f5550e991ac6e3ccb7b7f9f07f4839", func := "ledgerstone/ledgerstonelaw10.ReplayNumbers", spec := "replayNumbers", unfollowed := true, recurses := true, apart := false }
def ReplayNumbersSaid : Prop := replayNumbersRow.holds Try.pinned (OpenSpec.ofChange replayNumbersSpec)

/-- ITS FALSE NEIGHBOUR: 'it returns false'. Refute it at one input. -/
def replayNumbersWrong : ChangeSpec := { name := "replayNumbers", fn := fun _ => fun
  | [] => { results := [.lit (.bool false)], args := [] }
  | _ => none }
def ReplayNumbersWrongFalsely : Prop := replayNumbersRow.holds Try.pinned (OpenSpec.ofChange replayNumbersWrong)

/-- 'ledgerstonelaw10.ReplayAgain': WHATEVER THE INPUT: true; the input reads as it did. -/
def replayAgainSpec : ChangeSpec := { name := "replayAgain", fn := fun _ => fun
  | [d1, d2] => { results := [.lit (.bool true)], args := [d1, d2] }
  | _ => none }
def replayAgainRow : OpenClaim := { program := "ytdkaacjeogifdaa", sum := "dce00cfe235d784460652e1a50a3fd6ff7f5550e991ac6e3ccb7b7f9f07f4839", func := "ledgerstone/ledgerstonelaw10.ReplayAgain", spec := "replayAgain", unfollowed := true, recurses := true, apart := false }
def ReplayAgainSaid : Prop := replayAgainRow.holds Try.pinned (OpenSpec.ofChange replayAgainSpec)

/-- ITS FALSE NEIGHBOUR: 'it returns false'. Refute it at one input. -/
def replayAgainWrong : ChangeSpec := { name := "replayAgain", fn := fun _ => fun
  | [d1, d2] => { results := [.lit (.bool false)], args := [d1, d2] }
  | _ => none }
def ReplayAgainWrongFalsely : Prop := replayAgainRow.holds Try.pinned (OpenSpec.ofChange replayAgainWrong)

/-- 'ledgerstonelaw10.ReplaySpares': WHATEVER THE INPUT: true; the input reads as it did. -/
def replaySparesSpec : ChangeSpec := { name := "replaySpares", fn := fun _ => fun
  | [d1, d2] => { results := [.lit (.bool true)], args := [d1, d2] }
  | _ => none }
def replaySparesRow : OpenClaim := { program := "ytdkaacjeogifdaa", sum := "dce00cfe235d784460652e1a50a3fd6ff7f5550e991ac6e3ccb7b7f9f07f4839", func := "ledgerstone/ledgerstonelaw10.ReplaySpares", spec := "replaySpares", unfollowed := true, recurses := true, apart := false }
def ReplaySparesSaid : Prop := replaySparesRow.holds Try.pinned (OpenSpec.ofChange replaySparesSpec)

/-- ITS FALSE NEIGHBOUR: 'it returns false'. Refute it at one input. -/
def replaySparesWrong : ChangeSpec := { name := "replaySpares", fn := fun _ => fun
  | [d1, d2] => { results := [.lit (.bool false)], args := [d1, d2] }
  | _ => none }
def ReplaySparesWrongFalsely : Prop := replaySparesRow.holds Try.pinned (OpenSpec.ofChange replaySparesWrong)

/- THE SECOND FORM. 'bulk': how many values and letters a reading holds, each counted each time it is reached (what is shared counts as often as it is met; a slice's spare places count too). A statement '..UptoSaid' is the law's where the arguments, and the package variables that the reading takes, are together of bulk at most 1048576: NARROWER than '..Said'. Prove '..Said' where nothing that the law and all that it calls make is longer than what came in: it says more and counts as full. Else prove '..UptoSaid'. A law counts once. -/
mutual
def uptoBulk {H : Type} : DataW H → Nat
  | .lit (.string bytes) => bytes.length + 1
  | .lit _ => 1
  | .nil => 1
  | .ptr d => uptoBulk d + 1
  | .slice elems spare => uptoBulkAll elems + uptoBulkAll spare + 1
  | .agg parts => uptoBulkAll parts + 1
  | .iface _ d => uptoBulk d + 1
  | .map entries => uptoBulkEntries entries + 1
  | .held _ => 1
def uptoBulkAll {H : Type} : List (DataW H) → Nat
  | [] => 0
  | d :: r => uptoBulk d + uptoBulkAll r
def uptoBulkEntries {H : Type} : List (Lit × DataW H) → Nat
  | [] => 0
  | x :: r => uptoBulkEntry x + uptoBulkEntries r
def uptoBulkEntry {H : Type} : Lit × DataW H → Nat
  | (.string bytes, d) => bytes.length + uptoBulk d + 1
  | (_, d) => uptoBulk d + 1
 end
def uptoSmall : (H : Type) → List (DataW H) → Bool := fun _ ds => decide (uptoBulkAll ds ≤ 1048576)
def OpenSpec.upto (s : _root_.Go.ChangeSpec) : _root_.Go.OpenSpec := { _root_.Go.OpenSpec.ofChange s with cond := some uptoSmall }

/-- 'ledgerstonelaw10.ReplayNumbers', WHERE WHAT IT READS IS OF BULK AT MOST 1048576: true; the input reads as it did. -/
def replayNumbersUptoRow : OpenClaim := { program := "ytdkaacjeogifdaa", sum := "dce00cfe235d784460652e1a50a3fd6ff7f5550e991ac6e3ccb7b7f9f07f4839", func := "ledgerstone/ledgerstonelaw10.ReplayNumbers", spec := "replayNumbers", unfollowed := true, recurses := true, apart := false, narrowed := true }
def ReplayNumbersUptoSaid : Prop := replayNumbersUptoRow.holds Try.pinned (OpenSpec.upto replayNumbersSpec)

/-- 'ledgerstonelaw10.ReplayAgain', WHERE WHAT IT READS IS OF BULK AT MOST 1048576: true; the input reads as it did. -/
def replayAgainUptoRow : OpenClaim := { program := "ytdkaacjeogifdaa", sum := "dce00cfe235d784460652e1a50a3fd6ff7f5550e991ac6e3ccb7b7f9f07f4839", func := "ledgerstone/ledgerstonelaw10.ReplayAgain", spec := "replayAgain", unfollowed := true, recurses := true, apart := false, narrowed := true }
def ReplayAgainUptoSaid : Prop := replayAgainUptoRow.holds Try.pinned (OpenSpec.upto replayAgainSpec)

/-- 'ledgerstonelaw10.ReplaySpares', WHERE WHAT IT READS IS OF BULK AT MOST 1048576: true; the input reads as it did. -/
def replaySparesUptoRow : OpenClaim := { program := "ytdkaacjeogifdaa", sum := "dce00cfe235d784460652e1a50a3fd6ff7f5550e991ac6e3ccb7b7f9f07f4839", func := "ledgerstone/ledgerstonelaw10.ReplaySpares", spec := "replaySpares", unfollowed := true, recurses := true, apart := false, narrowed := true }
def ReplaySparesUptoSaid : Prop := replaySparesUptoRow.holds Try.pinned (OpenSpec.upto replaySparesSpec)

end Rows
end Go.Proofs.Ytdkaacjeogifdaa
