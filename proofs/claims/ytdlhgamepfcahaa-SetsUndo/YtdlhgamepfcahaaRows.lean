/-
  No cell of these rows narrows 'for every input' (looked for: loops, veiled, ifaces, maps, wideKeys, modest, calm, conditions, laid).
  DERIVED. THE GIVEN ROWS OF THIS SEAT. 4 by the template 'for every input the law returns true; each argument reads behind the call as it read before'; 0 by the template 'total and deterministic' (their statements: YtdlhgamepfcahaaTotals.lean).
  GIVEN WITH THE SEED: the statements are not yours to turn. If you find one false, say at which input.
  Laid BY PROGRAM, IN A SANDBOX (cutbox-rows.mjs): the forced cells as the released guide's own fill.sh prints them over the translation 9b1a69ce1606f4d5… (all of the seat's roots in one cut). By AI agents, Wed Nov 11 2026. No macro, syntax, notation, axiom, sorry.
-/
import Derived.Test.YtdlhgamepfcahaaChecked
import GoSem.Claim
import GoSem.ClaimJoined
import GoSem.ClaimMapViews
import Derived.JoinedTies
import Derived.KernelRfl
namespace Go.Proofs.Ytdlhgamepfcahaa
/- THE CELL 'sum', in the pinned program and in every row, IS THE sha256 OF THE DUMP (.gsa) THAT YtdlhgamepfcahaaProg.lean LOADS. Nothing in Lean hashes anything: it is a label: what it is worth is what the hold of that sum in a sandbox is worth. -/
noncomputable def Try.pinned : Pinned := { name := "ytdlhgamepfcahaa", sum := "9b1a69ce1606f4d50ae0f408fb46a403153bafb2f64d3fd63b801c1a89487904", checked := Try.checked }
namespace Rows
def none {H : Type} : Left H := { results := [], args := [] }

/-- 'ledgerstonelaw15.SetsTells': WHATEVER THE INPUT: true; the input reads as it did. -/
def setsTellsSpec : ChangeSpec := { name := "setsTells", fn := fun _ => fun
  | [d] => { results := [.lit (.bool true)], args := [d] }
  | _ => none }
def setsTellsRow : OpenClaim := { program := "ytdlhgamepfcahaa", sum := "9b1a69ce1606f4d50ae0f408fb46a403153bafb2f64d3fd63b801c1a89487904", func := "ledgerstone/ledgerstonelaw15.SetsTells", spec := "setsTells", inPlace := ["maps.clone"], unfollowed := true, recurses := true, apart := false }
def SetsTellsSaid : Prop := setsTellsRow.holds Try.pinned (OpenSpec.ofChange setsTellsSpec)

/-- ITS FALSE NEIGHBOUR: 'it returns false'. Refute it at one input. -/
def setsTellsWrong : ChangeSpec := { name := "setsTells", fn := fun _ => fun
  | [d] => { results := [.lit (.bool false)], args := [d] }
  | _ => none }
def SetsTellsWrongFalsely : Prop := setsTellsRow.holds Try.pinned (OpenSpec.ofChange setsTellsWrong)

/-- 'ledgerstonelaw15.SetsNone': WHATEVER THE INPUT: true; the input reads as it did. -/
def setsNoneSpec : ChangeSpec := { name := "setsNone", fn := fun _ => fun
  | [d] => { results := [.lit (.bool true)], args := [d] }
  | _ => none }
def setsNoneRow : OpenClaim := { program := "ytdlhgamepfcahaa", sum := "9b1a69ce1606f4d50ae0f408fb46a403153bafb2f64d3fd63b801c1a89487904", func := "ledgerstone/ledgerstonelaw15.SetsNone", spec := "setsNone", inPlace := ["maps.clone"], unfollowed := true, recurses := true, apart := false }
def SetsNoneSaid : Prop := setsNoneRow.holds Try.pinned (OpenSpec.ofChange setsNoneSpec)

/-- ITS FALSE NEIGHBOUR: 'it returns false'. Refute it at one input. -/
def setsNoneWrong : ChangeSpec := { name := "setsNone", fn := fun _ => fun
  | [d] => { results := [.lit (.bool false)], args := [d] }
  | _ => none }
def SetsNoneWrongFalsely : Prop := setsNoneRow.holds Try.pinned (OpenSpec.ofChange setsNoneWrong)

/-- 'ledgerstonelaw15.SetsUndo': WHATEVER THE INPUT: true; the input reads as it did. -/
def setsUndoSpec : ChangeSpec := { name := "setsUndo", fn := fun _ => fun
  | [d1, d2] => { results := [.lit (.bool true)], args := [d1, d2] }
  | _ => none }
def setsUndoRow : OpenClaim := { program := "ytdlhgamepfcahaa", sum := "9b1a69ce1606f4d50ae0f408fb46a403153bafb2f64d3fd63b801c1a89487904", func := "ledgerstone/ledgerstonelaw15.SetsUndo", spec := "setsUndo", inPlace := ["maps.clone"], unfollowed := true, recurses := true, apart := false }
def SetsUndoSaid : Prop := setsUndoRow.holds Try.pinned (OpenSpec.ofChange setsUndoSpec)

/-- ITS FALSE NEIGHBOUR: 'it returns false'. Refute it at one input. -/
def setsUndoWrong : ChangeSpec := { name := "setsUndo", fn := fun _ => fun
  | [d1, d2] => { results := [.lit (.bool false)], args := [d1, d2] }
  | _ => none }
def SetsUndoWrongFalsely : Prop := setsUndoRow.holds Try.pinned (OpenSpec.ofChange setsUndoWrong)

/-- 'ledgerstonelaw15.SetsKeep': WHATEVER THE INPUT: true; the input reads as it did. -/
def setsKeepSpec : ChangeSpec := { name := "setsKeep", fn := fun _ => fun
  | [d] => { results := [.lit (.bool true)], args := [d] }
  | _ => none }
def setsKeepRow : OpenClaim := { program := "ytdlhgamepfcahaa", sum := "9b1a69ce1606f4d50ae0f408fb46a403153bafb2f64d3fd63b801c1a89487904", func := "ledgerstone/ledgerstonelaw15.SetsKeep", spec := "setsKeep", inPlace := ["maps.clone"], unfollowed := true, recurses := true, apart := false }
def SetsKeepSaid : Prop := setsKeepRow.holds Try.pinned (OpenSpec.ofChange setsKeepSpec)

/-- ITS FALSE NEIGHBOUR: 'it returns false'. Refute it at one input. -/
def setsKeepWrong : ChangeSpec := { name := "setsKeep", fn := fun _ => fun
  | [d] => { results := [.lit (.bool false)], args := [d] }
  | _ => none }
def SetsKeepWrongFalsely : Prop := setsKeepRow.holds Try.pinned (OpenSpec.ofChange setsKeepWrong)

/- THE SECOND FORM. 'bulk': how many values and letters a reading holds, each counted each time it is reached (what is shared counts as often as it is met; a slice's spare places count too). A statement '..UptoSaid' is the law's where the arguments, and the package variables that the reading takes, are together of bulk at most 1048576: NARROWER than '..Said'. Prove '..Said' where nothing that the law and all that it calls make is longer than what came in: it says more and counts as full. Else prove '..UptoSaid'. A law counts once. -/
mutual
def uptoBulk {H : Type} : DataW H → Nat
  | .lit (.string bytes) => bytes.length + 1
  | .lit _ => 1
  | .nil => 1
  | .ptr d => uptoBulk d + 1
  | .slice elems spare => uptoBulkAll elems + uptoBulkAll spare + 1
  | .agg parts => uptoBulkAll parts + 1
  | .iface _ d => uptoBulk d + 1
  | .map entries => uptoBulkEntries entries + 1
  | .held _ => 1
def uptoBulkAll {H : Type} : List (DataW H) → Nat
  | [] => 0
  | d :: r => uptoBulk d + uptoBulkAll r
def uptoBulkEntries {H : Type} : List (Lit × DataW H) → Nat
  | [] => 0
  | x :: r => uptoBulkEntry x + uptoBulkEntries r
def uptoBulkEntry {H : Type} : Lit × DataW H → Nat
  | (.string bytes, d) => bytes.length + uptoBulk d + 1
  | (_, d) => uptoBulk d + 1
 end
def uptoSmall : (H : Type) → List (DataW H) → Bool := fun _ ds => decide (uptoBulkAll ds ≤ 1048576)
def OpenSpec.upto (s : _root_.Go.ChangeSpec) : _root_.Go.OpenSpec := { _root_.Go.OpenSpec.ofChange s with cond := some uptoSmall }

/-- 'ledgerstonelaw15.SetsTells', WHERE WHAT IT READS IS OF BULK AT MOST 1048576: true; the input reads as it did. -/
def setsTellsUptoRow : OpenClaim := { program := "ytdlhgamepfcahaa", sum := "9b1a69ce1606f4d50ae0f408fb46a403153bafb2f64d3fd63b801c1a89487904", func := "ledgerstone/ledgerstonelaw15.SetsTells", spec := "setsTells", inPlace := ["maps.clone"], unfollowed := true, recurses := true, apart := false, narrowed := true }
def SetsTellsUptoSaid : Prop := setsTellsUptoRow.holds Try.pinned (OpenSpec.upto setsTellsSpec)

/-- 'ledgerstonelaw15.SetsNone', WHERE WHAT IT READS IS OF BULK AT MOST 1048576: true; the input reads as it did. -/
def setsNoneUptoRow : OpenClaim := { program := "ytdlhgamepfcahaa", sum := "9b1a69ce1606f4d50ae0f408fb46a403153bafb2f64d3fd63b801c1a89487904", func := "ledgerstone/ledgerstonelaw15.SetsNone", spec := "setsNone", inPlace := ["maps.clone"], unfollowed := true, recurses := true, apart := false, narrowed := true }
def SetsNoneUptoSaid : Prop := setsNoneUptoRow.holds Try.pinned (OpenSpec.upto setsNoneSpec)

/-- 'ledgerstonelaw15.SetsUndo', WHERE WHAT IT READS IS OF BULK AT MOST 1048576: true; the input reads as it did. -/
def setsUndoUptoRow : OpenClaim := { program := "ytdlhgamepfcahaa", sum := "9b1a69ce1606f4d50ae0f408fb46a403153bafb2f64d3fd63b801c1a89487904", func := "ledgerstone/ledgerstonelaw15.SetsUndo", spec := "setsUndo", inPlace := ["maps.clone"], unfollowed := true, recurses := true, apart := false, narrowed := true }
def SetsUndoUptoSaid : Prop := setsUndoUptoRow.holds Try.pinned (OpenSpec.upto setsUndoSpec)

/-- 'ledgerstonelaw15.SetsKeep', WHERE WHAT IT READS IS OF BULK AT MOST 1048576: true; the input reads as it did. -/
def setsKeepUptoRow : OpenClaim := { program := "ytdlhgamepfcahaa", sum := "9b1a69ce1606f4d50ae0f408fb46a403153bafb2f64d3fd63b801c1a89487904", func := "ledgerstone/ledgerstonelaw15.SetsKeep", spec := "setsKeep", inPlace := ["maps.clone"], unfollowed := true, recurses := true, apart := false, narrowed := true }
def SetsKeepUptoSaid : Prop := setsKeepUptoRow.holds Try.pinned (OpenSpec.upto setsKeepSpec)

end Rows
end Go.Proofs.Ytdlhgamepfcahaa
