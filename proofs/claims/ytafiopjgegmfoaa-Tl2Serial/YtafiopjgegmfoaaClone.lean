/-
  maps.Clone at this program's maps; Mark.
-/
import Derived.Test.YtafiopjgegmfoaaMarked
import Derived.Shelf.SlMaps.Clone
import Derived.Deep.RegionHeld3
import Derived.Deep.AppendLies
namespace Go.Proofs.Ytafiopjgegmfoaa
open Go.RowKit Go.Maps Go.Shelf

theorem To.drew {α : Type} {enc : α → Value} {tS tM : TypeId} {w w' : World} {B g : Nat} {S : SS α} {F : Nat → Prop} (h : To enc tS tM w.drew B g S F w') : To enc tS tM w B g S F w' :=
  ⟨h.1, ⟨h.2.1.os, h.2.1.tape, h.2.1.output, h.2.1.size, h.2.1.block⟩, h.2.2⟩

theorem infoM : (Try.prog.info? 30).map (fun i => (i.zero, i.size, i.bytes)) = some (some (.map none), 1, 8) := by kernel_rfl

end Go.Proofs.Ytafiopjgegmfoaa
