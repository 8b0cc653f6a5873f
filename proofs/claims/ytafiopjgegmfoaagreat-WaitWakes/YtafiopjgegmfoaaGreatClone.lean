/-
  maps.Clone at this program's maps; Mark.
-/
import Derived.Test.YtafiopjgegmfoaaGreatMarked
import Derived.Shelf.SlMaps.Clone
import Derived.Deep.RegionHeld3
import Derived.Deep.AppendLies
namespace Go.Proofs.YtafiopjgegmfoaaGreat
open Go.RowKit Go.Maps Go.Shelf

theorem To.drew {α : Type} {enc : α → Value} {tS tM : TypeId} {w w' : World} {B g : Nat} {S : SS α} {F : Nat → Prop} (h : To enc tS tM w.drew B g S F w') : To enc tS tM w B g S F w' :=
  ⟨h.1, ⟨h.2.1.os, h.2.1.tape, h.2.1.output, h.2.1.size, h.2.1.block⟩, h.2.2⟩

def clRen : Go.Shelf.Ren := ⟨fun | 5 => 88 | 7 => 100 | n => n, fun | 23 => 85 | 25 => 3 | 3 => 3 | n => n, fun n => n⟩
theorem clLay : Go.Proofs.SlLaysW.n5 Tryz.prog clRen :=
  { mixed := by kernel_rfl
    f5 := ⟨Tryz.f88.name, by decide, Tryz.func88.trans (congrArg some (by kernel_rfl))⟩
    f7 := by kernel_rfl
    t4 := by kernel_rfl
    a4 := Tryz.isAgg4
    z4 := Tryz.sizeOf4
    v4 := Tryz.zeroValue4
    t20 := by kernel_rfl
    a20 := Tryz.isAgg20
    z20 := Tryz.sizeOf20
    v20 := Tryz.zeroValue20
    t23 := by kernel_rfl
    a23 := Tryz.isAgg85
    z23 := Tryz.sizeOf85
    v23 := Tryz.zeroValue85 }
theorem clone_at {w : World} {b : Nat} {es : Array MapEntry} {cl : Nat} (h : w.heap[b]? = some (.map es cl)) :
    Calls Tryz.prog 88 #[.map (some b)] w fun e w' => e = .returned (.map (some w.heap.size)) ∧ w' = w.alloc (.map es cl) :=
  AnyW.maps_Clone clLay b es cl w h
theorem infoM : (Tryz.prog.info? 85).map (fun i => (i.zero, i.size, i.bytes)) = some (some (.map none), 1, 8) := by kernel_rfl

end Go.Proofs.YtafiopjgegmfoaaGreat
