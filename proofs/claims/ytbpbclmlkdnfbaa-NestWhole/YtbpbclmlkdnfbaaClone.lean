/-
  maps.Clone at this program's maps; Mark.
-/
import Derived.Test.YtbpbclmlkdnfbaaMarked
import Derived.Shelf.SlMaps.Clone
import Derived.Deep.RegionHeld3
import Derived.Deep.AppendLies
namespace Go.Proofs.Ytbpbclmlkdnfbaa
open Go.RowKit Go.Maps Go.Shelf

theorem To.drew {α : Type} {enc : α → Value} {tS tM : TypeId} {w w' : World} {B g : Nat} {S : SS α} {F : Nat → Prop} (h : To enc tS tM w.drew B g S F w') : To enc tS tM w B g S F w' :=
  ⟨h.1, ⟨h.2.1.os, h.2.1.tape, h.2.1.output, h.2.1.size, h.2.1.block⟩, h.2.2⟩

def clRen : Go.Shelf.Ren := ⟨fun | 5 => 85 | 7 => 97 | n => n, fun | 23 => 30 | 25 => 3 | 3 => 3 | n => n, fun n => n⟩
theorem clLay : Go.Proofs.SlLaysW.n5 Try.prog clRen :=
  { mixed := by kernel_rfl
    f5 := ⟨Try.f85.name, by decide, Try.func85.trans (congrArg some (by kernel_rfl))⟩
    f7 := by kernel_rfl
    t4 := by kernel_rfl
    a4 := Try.isAgg4
    z4 := Try.sizeOf4
    v4 := Try.zeroValue4
    t20 := by kernel_rfl
    a20 := Try.isAgg20
    z20 := Try.sizeOf20
    v20 := Try.zeroValue20
    t23 := by kernel_rfl
    a23 := Try.isAgg30
    z23 := Try.sizeOf30
    v23 := Try.zeroValue30 }
theorem clone_at {w : World} {b : Nat} {es : Array MapEntry} {cl : Nat} (h : w.heap[b]? = some (.map es cl)) :
    Calls Try.prog 85 #[.map (some b)] w fun e w' => e = .returned (.map (some w.heap.size)) ∧ w' = w.alloc (.map es cl) :=
  AnyW.maps_Clone clLay b es cl w h
theorem infoM : (Try.prog.info? 30).map (fun i => (i.zero, i.size, i.bytes)) = some (some (.map none), 1, 8) := by kernel_rfl

end Go.Proofs.Ytbpbclmlkdnfbaa
