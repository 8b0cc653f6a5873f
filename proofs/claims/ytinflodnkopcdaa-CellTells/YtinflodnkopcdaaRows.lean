/-
  No cell of these rows narrows 'for every input' (looked for: loops, veiled, ifaces, maps, wideKeys, modest, calm, conditions, laid).
  DERIVED. THE GIVEN ROWS OF THIS SEAT. 5 by the template 'for every input the law returns true; each argument reads behind the call as it read before'; 0 by the template 'total and deterministic' (their statements: YtinflodnkopcdaaTotals.lean).
  GIVEN WITH THE SEED: the statements are not yours to turn. If you find one false, say at which input.
  Laid BY PROGRAM, IN A SANDBOX (cutbox-rows.mjs): the forced cells as the released guide's own fill.sh prints them over the translation 004f35789545aeb6… (all of the seat's roots in one cut). By AI agents, Wed Nov 11 2026. No macro, syntax, notation, axiom, sorry.
-/
import Derived.Test.YtinflodnkopcdaaChecked
import GoSem.Claim
import GoSem.ClaimJoined
import GoSem.ClaimMapViews
import Derived.JoinedTies
import Derived.KernelRfl
namespace Go.Proofs.Ytinflodnkopcdaa
/- THE CELL 'sum', in the pinned program and in every row, IS THE sha256 OF THE DUMP (.gsa) THAT YtinflodnkopcdaaProg.lean LOADS. Nothing in Lean hashes anything: it is a label: what it is worth is what the hold of that sum in a sandbox is worth. -/
noncomputable def Try.pinned : Pinned := { name := "ytinflodnkopcdaa", sum := "004f35789545aeb6ec4d564f6768706b7ef2e5b8411a240bb390334fdee5b54d", checked := Try.checked }
namespace Rows
def none {H : Type} : Left H := { results := [], args := [] }

/-- 'ledgerstonelaw14.CellNumbers': WHATEVER THE INPUT: true; the input reads as it did. -/
def cellNumbersSpec : ChangeSpec := { name := "cellNumbers", fn := fun _ => fun
  | [] => { results := [.lit (.bool true)], args := [] }
  | _ => none }
def cellNumbersRow : OpenClaim := { program := "ytinflodnkopcdaa", sum := "004f35789545aeb6ec4d564f6768706b7ef2e5b8411a240bb390334fdee5b54d", func := "ledgerstone/ledgerstonelaw14.CellNumbers", spec := "cellNumbers", apart := false }
def CellNumbersSaid : Prop := cellNumbersRow.holds Try.pinned (OpenSpec.ofChange cellNumbersSpec)

/-- ITS FALSE NEIGHBOUR: 'it returns false'. Refute it at one input. -/
def cellNumbersWrong : ChangeSpec := { name := "cellNumbers", fn := fun _ => fun
  | [] => { results := [.lit (.bool false)], args := [] }
  | _ => none }
def CellNumbersWrongFalsely : Prop := cellNumbersRow.holds Try.pinned (OpenSpec.ofChange cellNumbersWrong)

/-- 'ledgerstonelaw14.CellTells': WHATEVER THE INPUT: true; the input reads as it did. -/
def cellTellsSpec : ChangeSpec := { name := "cellTells", fn := fun _ => fun
  | [d1, d2] => { results := [.lit (.bool true)], args := [d1, d2] }
  | _ => none }
def cellTellsRow : OpenClaim := { program := "ytinflodnkopcdaa", sum := "004f35789545aeb6ec4d564f6768706b7ef2e5b8411a240bb390334fdee5b54d", func := "ledgerstone/ledgerstonelaw14.CellTells", spec := "cellTells", apart := false }
def CellTellsSaid : Prop := cellTellsRow.holds Try.pinned (OpenSpec.ofChange cellTellsSpec)

/-- ITS FALSE NEIGHBOUR: 'it returns false'. Refute it at one input. -/
def cellTellsWrong : ChangeSpec := { name := "cellTells", fn := fun _ => fun
  | [d1, d2] => { results := [.lit (.bool false)], args := [d1, d2] }
  | _ => none }
def CellTellsWrongFalsely : Prop := cellTellsRow.holds Try.pinned (OpenSpec.ofChange cellTellsWrong)

/-- 'ledgerstonelaw14.CellNone': WHATEVER THE INPUT: true; the input reads as it did. -/
def cellNoneSpec : ChangeSpec := { name := "cellNone", fn := fun _ => fun
  | [d] => { results := [.lit (.bool true)], args := [d] }
  | _ => none }
def cellNoneRow : OpenClaim := { program := "ytinflodnkopcdaa", sum := "004f35789545aeb6ec4d564f6768706b7ef2e5b8411a240bb390334fdee5b54d", func := "ledgerstone/ledgerstonelaw14.CellNone", spec := "cellNone", apart := false }
def CellNoneSaid : Prop := cellNoneRow.holds Try.pinned (OpenSpec.ofChange cellNoneSpec)

/-- ITS FALSE NEIGHBOUR: 'it returns false'. Refute it at one input. -/
def cellNoneWrong : ChangeSpec := { name := "cellNone", fn := fun _ => fun
  | [d] => { results := [.lit (.bool false)], args := [d] }
  | _ => none }
def CellNoneWrongFalsely : Prop := cellNoneRow.holds Try.pinned (OpenSpec.ofChange cellNoneWrong)

/-- 'ledgerstonelaw14.CellVersions': WHATEVER THE INPUT: true; the input reads as it did. -/
def cellVersionsSpec : ChangeSpec := { name := "cellVersions", fn := fun _ => fun
  | [d] => { results := [.lit (.bool true)], args := [d] }
  | _ => none }
def cellVersionsRow : OpenClaim := { program := "ytinflodnkopcdaa", sum := "004f35789545aeb6ec4d564f6768706b7ef2e5b8411a240bb390334fdee5b54d", func := "ledgerstone/ledgerstonelaw14.CellVersions", spec := "cellVersions", apart := false }
def CellVersionsSaid : Prop := cellVersionsRow.holds Try.pinned (OpenSpec.ofChange cellVersionsSpec)

/-- ITS FALSE NEIGHBOUR: 'it returns false'. Refute it at one input. -/
def cellVersionsWrong : ChangeSpec := { name := "cellVersions", fn := fun _ => fun
  | [d] => { results := [.lit (.bool false)], args := [d] }
  | _ => none }
def CellVersionsWrongFalsely : Prop := cellVersionsRow.holds Try.pinned (OpenSpec.ofChange cellVersionsWrong)

/-- 'ledgerstonelaw14.CellOwners': WHATEVER THE INPUT: true; the input reads as it did. -/
def cellOwnersSpec : ChangeSpec := { name := "cellOwners", fn := fun _ => fun
  | [d] => { results := [.lit (.bool true)], args := [d] }
  | _ => none }
def cellOwnersRow : OpenClaim := { program := "ytinflodnkopcdaa", sum := "004f35789545aeb6ec4d564f6768706b7ef2e5b8411a240bb390334fdee5b54d", func := "ledgerstone/ledgerstonelaw14.CellOwners", spec := "cellOwners", apart := false }
def CellOwnersSaid : Prop := cellOwnersRow.holds Try.pinned (OpenSpec.ofChange cellOwnersSpec)

/-- ITS FALSE NEIGHBOUR: 'it returns false'. Refute it at one input. -/
def cellOwnersWrong : ChangeSpec := { name := "cellOwners", fn := fun _ => fun
  | [d] => { results := [.lit (.bool false)], args := [d] }
  | _ => none }
def CellOwnersWrongFalsely : Prop := cellOwnersRow.holds Try.pinned (OpenSpec.ofChange cellOwnersWrong)

/- THE SECOND FORM. 'bulk': how many values and letters a reading holds, each counted each time it is reached (what is shared counts as often as it is met; a slice's spare places count too). A statement '..UptoSaid' is the law's where the arguments, and the package variables that the reading takes, are together of bulk at most 1048576: NARROWER than '..Said'. Prove '..Said' where nothing that the law and all that it calls make is longer than what came in: it says more and counts as full. Else prove '..UptoSaid'. A law counts once. -/
mutual
def uptoBulk {H : Type} : DataW H → Nat
  | .lit (.string bytes) => bytes.length + 1
  | .lit _ => 1
  | .nil => 1
  | .ptr d => uptoBulk d + 1
  | .slice elems spare => uptoBulkAll elems + uptoBulkAll spare + 1
  | .agg parts => uptoBulkAll parts + 1
  | .iface _ d => uptoBulk d + 1
  | .map entries => uptoBulkEntries entries + 1
  | .held _ => 1
def uptoBulkAll {H : Type} : List (DataW H) → Nat
  | [] => 0
  | d :: r => uptoBulk d + uptoBulkAll r
def uptoBulkEntries {H : Type} : List (Lit × DataW H) → Nat
  | [] => 0
  | x :: r => uptoBulkEntry x + uptoBulkEntries r
def uptoBulkEntry {H : Type} : Lit × DataW H → Nat
  | (.string bytes, d) => bytes.length + uptoBulk d + 1
  | (_, d) => uptoBulk d + 1
 end
def uptoSmall : (H : Type) → List (DataW H) → Bool := fun _ ds => decide (uptoBulkAll ds ≤ 1048576)
def OpenSpec.upto (s : _root_.Go.ChangeSpec) : _root_.Go.OpenSpec := { _root_.Go.OpenSpec.ofChange s with cond := some uptoSmall }

/-- 'ledgerstonelaw14.CellNumbers', WHERE WHAT IT READS IS OF BULK AT MOST 1048576: true; the input reads as it did. -/
def cellNumbersUptoRow : OpenClaim := { program := "ytinflodnkopcdaa", sum := "004f35789545aeb6ec4d564f6768706b7ef2e5b8411a240bb390334fdee5b54d", func := "ledgerstone/ledgerstonelaw14.CellNumbers", spec := "cellNumbers", apart := false, narrowed := true }
def CellNumbersUptoSaid : Prop := cellNumbersUptoRow.holds Try.pinned (OpenSpec.upto cellNumbersSpec)

/-- 'ledgerstonelaw14.CellTells', WHERE WHAT IT READS IS OF BULK AT MOST 1048576: true; the input reads as it did. -/
def cellTellsUptoRow : OpenClaim := { program := "ytinflodnkopcdaa", sum := "004f35789545aeb6ec4d564f6768706b7ef2e5b8411a240bb390334fdee5b54d", func := "ledgerstone/ledgerstonelaw14.CellTells", spec := "cellTells", apart := false, narrowed := true }
def CellTellsUptoSaid : Prop := cellTellsUptoRow.holds Try.pinned (OpenSpec.upto cellTellsSpec)

/-- 'ledgerstonelaw14.CellNone', WHERE WHAT IT READS IS OF BULK AT MOST 1048576: true; the input reads as it did. -/
def cellNoneUptoRow : OpenClaim := { program := "ytinflodnkopcdaa", sum := "004f35789545aeb6ec4d564f6768706b7ef2e5b8411a240bb390334fdee5b54d", func := "ledgerstone/ledgerstonelaw14.CellNone", spec := "cellNone", apart := false, narrowed := true }
def CellNoneUptoSaid : Prop := cellNoneUptoRow.holds Try.pinned (OpenSpec.upto cellNoneSpec)

/-- 'ledgerstonelaw14.CellVersions', WHERE WHAT IT READS IS OF BULK AT MOST 1048576: true; the input reads as it did. -/
def cellVersionsUptoRow : OpenClaim := { program := "ytinflodnkopcdaa", sum := "004f35789545aeb6ec4d564f6768706b7ef2e5b8411a240bb390334fdee5b54d", func := "ledgerstone/ledgerstonelaw14.CellVersions", spec := "cellVersions", apart := false, narrowed := true }
def CellVersionsUptoSaid : Prop := cellVersionsUptoRow.holds Try.pinned (OpenSpec.upto cellVersionsSpec)

/-- 'ledgerstonelaw14.CellOwners', WHERE WHAT IT READS IS OF BULK AT MOST 1048576: true; the input reads as it did. -/
def cellOwnersUptoRow : OpenClaim := { program := "ytinflodnkopcdaa", sum := "004f35789545aeb6ec4d564f6768706b7ef2e5b8411a240bb390334fdee5b54d", func := "ledgerstone/ledgerstonelaw14.CellOwners", spec := "cellOwners", apart := false, narrowed := true }
def CellOwnersUptoSaid : Prop := cellOwnersUptoRow.holds Try.pinned (OpenSpec.upto cellOwnersSpec)

end Rows
end Go.Proofs.Ytinflodnkopcdaa
