/-
  No cell of these rows narrows 'for every input' (looked for: loops, veiled, ifaces, maps, wideKeys, modest, calm, conditions, laid).
  DERIVED. THE GIVEN ROWS OF THIS SEAT. 3 by the template 'for every input the law returns true; each argument reads behind the call as it read before'; 0 by the template 'total and deterministic' (their statements: YtafiopjgegmfoaaGreatTotals.lean).
  GIVEN WITH THE SEED: the statements are not yours to turn. If you find one false, say at which input.
  Laid BY PROGRAM, IN A SANDBOX (cutbox-rows.mjs): the forced cells as the released guide's own fill.sh prints them over the translation edc2434f467ced39… (all of the seat's roots in one cut). By AI agents, Wed Nov 11 2026. No macro, syntax, notation, axiom, sorry.
-/
import Derived.Test.YtafiopjgegmfoaaGreatChecked
import GoSem.Claim
import GoSem.ClaimJoined
import GoSem.ClaimMapViews
import Derived.JoinedTies
import Derived.KernelRfl
namespace Go.Proofs.YtafiopjgegmfoaaGreat
/- THE CELL 'sum', in the pinned program and in every row, IS THE sha256 OF THE DUMP (.gsa) THAT YtafiopjgegmfoaaGreatProg.lean LOADS. Nothing in Lean hashes anything: it is a label: what it is worth is what the hold of that sum in a sandbox is worth. -/
noncomputable def Tryz.pinned : Pinned := { name := "ytafiopjgegmfoaagreat", sum := "edc2434f467ced398a7b221f28998f4b1c2a2a31773ff6707bb0fa04c8d0a9a1", checked := Tryz.checked }
namespace Rows
def none {H : Type} : Left H := { results := [], args := [] }

/-- 'ledgerstonelaw18.WaitNone': WHATEVER THE INPUT: true; the input reads as it did. -/
def waitNoneSpec : ChangeSpec := { name := "waitNone", fn := fun _ => fun
  | [d] => { results := [.lit (.bool true)], args := [d] }
  | _ => none }
def waitNoneRow : OpenClaim := { program := "ytafiopjgegmfoaagreat", sum := "edc2434f467ced398a7b221f28998f4b1c2a2a31773ff6707bb0fa04c8d0a9a1", func := "ledgerstone/ledgerstonelaw18.WaitNone", spec := "waitNone", inPlace := ["maps.clone"], unfollowed := true, recurses := true, apart := false }
def WaitNoneSaid : Prop := waitNoneRow.holds Tryz.pinned (OpenSpec.ofChange waitNoneSpec)

/-- ITS FALSE NEIGHBOUR: 'it returns false'. Refute it at one input. -/
def waitNoneWrong : ChangeSpec := { name := "waitNone", fn := fun _ => fun
  | [d] => { results := [.lit (.bool false)], args := [d] }
  | _ => none }
def WaitNoneWrongFalsely : Prop := waitNoneRow.holds Tryz.pinned (OpenSpec.ofChange waitNoneWrong)

/-- 'ledgerstonelaw18.WaitWakes': WHATEVER THE INPUT: true; the input reads as it did. -/
def waitWakesSpec : ChangeSpec := { name := "waitWakes", fn := fun _ => fun
  | [d1, d2, d3] => { results := [.lit (.bool true)], args := [d1, d2, d3] }
  | _ => none }
def waitWakesRow : OpenClaim := { program := "ytafiopjgegmfoaagreat", sum := "edc2434f467ced398a7b221f28998f4b1c2a2a31773ff6707bb0fa04c8d0a9a1", func := "ledgerstone/ledgerstonelaw18.WaitWakes", spec := "waitWakes", inPlace := ["maps.clone"], unfollowed := true, recurses := true, apart := false }
def WaitWakesSaid : Prop := waitWakesRow.holds Tryz.pinned (OpenSpec.ofChange waitWakesSpec)

/-- ITS FALSE NEIGHBOUR: 'it returns false'. Refute it at one input. -/
def waitWakesWrong : ChangeSpec := { name := "waitWakes", fn := fun _ => fun
  | [d1, d2, d3] => { results := [.lit (.bool false)], args := [d1, d2, d3] }
  | _ => none }
def WaitWakesWrongFalsely : Prop := waitWakesRow.holds Tryz.pinned (OpenSpec.ofChange waitWakesWrong)

/-- 'ledgerstonelaw18.WaitElse': WHATEVER THE INPUT: true; the input reads as it did. -/
def waitElseSpec : ChangeSpec := { name := "waitElse", fn := fun _ => fun
  | [d1, d2] => { results := [.lit (.bool true)], args := [d1, d2] }
  | _ => none }
def waitElseRow : OpenClaim := { program := "ytafiopjgegmfoaagreat", sum := "edc2434f467ced398a7b221f28998f4b1c2a2a31773ff6707bb0fa04c8d0a9a1", func := "ledgerstone/ledgerstonelaw18.WaitElse", spec := "waitElse", inPlace := ["maps.clone"], unfollowed := true, recurses := true, apart := false }
def WaitElseSaid : Prop := waitElseRow.holds Tryz.pinned (OpenSpec.ofChange waitElseSpec)

/-- ITS FALSE NEIGHBOUR: 'it returns false'. Refute it at one input. -/
def waitElseWrong : ChangeSpec := { name := "waitElse", fn := fun _ => fun
  | [d1, d2] => { results := [.lit (.bool false)], args := [d1, d2] }
  | _ => none }
def WaitElseWrongFalsely : Prop := waitElseRow.holds Tryz.pinned (OpenSpec.ofChange waitElseWrong)

/- THE SECOND FORM. 'bulk': how many values and letters a reading holds, each counted each time it is reached (what is shared counts as often as it is met; a slice's spare places count too). A statement '..UptoSaid' is the law's where the arguments, and the package variables that the reading takes, are together of bulk at most 1048576: NARROWER than '..Said'. Prove '..Said' where nothing that the law and all that it calls make is longer than what came in: it says more and counts as full. Else prove '..UptoSaid'. A law counts once. -/
mutual
def uptoBulk {H : Type} : DataW H → Nat
  | .lit (.string bytes) => bytes.length + 1
  | .lit _ => 1
  | .nil => 1
  | .ptr d => uptoBulk d + 1
  | .slice elems spare => uptoBulkAll elems + uptoBulkAll spare + 1
  | .agg parts => uptoBulkAll parts + 1
  | .iface _ d => uptoBulk d + 1
  | .map entries => uptoBulkEntries entries + 1
  | .held _ => 1
def uptoBulkAll {H : Type} : List (DataW H) → Nat
  | [] => 0
  | d :: r => uptoBulk d + uptoBulkAll r
def uptoBulkEntries {H : Type} : List (Lit × DataW H) → Nat
  | [] => 0
  | x :: r => uptoBulkEntry x + uptoBulkEntries r
def uptoBulkEntry {H : Type} : Lit × DataW H → Nat
  | (.string bytes, d) => bytes.length + uptoBulk d + 1
  | (_, d) => uptoBulk d + 1
 end
def uptoSmall : (H : Type) → List (DataW H) → Bool := fun _ ds => decide (uptoBulkAll ds ≤ 1048576)
def OpenSpec.upto (s : _root_.Go.ChangeSpec) : _root_.Go.OpenSpec := { _root_.Go.OpenSpec.ofChange s with cond := some uptoSmall }

/-- 'ledgerstonelaw18.WaitNone', WHERE WHAT IT READS IS OF BULK AT MOST 1048576: true; the input reads as it did. -/
def waitNoneUptoRow : OpenClaim := { program := "ytafiopjgegmfoaagreat", sum := "edc2434f467ced398a7b221f28998f4b1c2a2a31773ff6707bb0fa04c8d0a9a1", func := "ledgerstone/ledgerstonelaw18.WaitNone", spec := "waitNone", inPlace := ["maps.clone"], unfollowed := true, recurses := true, apart := false, narrowed := true }
def WaitNoneUptoSaid : Prop := waitNoneUptoRow.holds Tryz.pinned (OpenSpec.upto waitNoneSpec)

/-- 'ledgerstonelaw18.WaitWakes', WHERE WHAT IT READS IS OF BULK AT MOST 1048576: true; the input reads as it did. -/
def waitWakesUptoRow : OpenClaim := { program := "ytafiopjgegmfoaagreat", sum := "edc2434f467ced398a7b221f28998f4b1c2a2a31773ff6707bb0fa04c8d0a9a1", func := "ledgerstone/ledgerstonelaw18.WaitWakes", spec := "waitWakes", inPlace := ["maps.clone"], unfollowed := true, recurses := true, apart := false, narrowed := true }
def WaitWakesUptoSaid : Prop := waitWakesUptoRow.holds Tryz.pinned (OpenSpec.upto waitWakesSpec)

/-- 'ledgerstonelaw18.WaitElse', WHERE WHAT IT READS IS OF BULK AT MOST 1048576: true; the input reads as it did. -/
def waitElseUptoRow : OpenClaim := { program := "ytafiopjgegmfoaagreat", sum := "edc2434f467ced398a7b221f28998f4b1c2a2a31773ff6707bb0fa04c8d0a9a1", func := "ledgerstone/ledgerstonelaw18.WaitElse", spec := "waitElse", inPlace := ["maps.clone"], unfollowed := true, recurses := true, apart := false, narrowed := true }
def WaitElseUptoSaid : Prop := waitElseUptoRow.holds Tryz.pinned (OpenSpec.upto waitElseSpec)

end Rows
end Go.Proofs.YtafiopjgegmfoaaGreat
