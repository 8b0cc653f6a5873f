/-
  slices.Sort of a row of one's own.
-/
import Derived.Shelf.SortM.Plain
import Derived.Shelf.SortM.SortNone
import Derived.Sort.OwnSortedInts
import Derived.Test.YtafiopjgegmfoaaGreatSame
import Derived.Test.YtafiopjgegmfoaaGreatSrt
namespace Go.Proofs.YtafiopjgegmfoaaGreat.W
open Go.RowKit Go.Maps Go.Sort Go.Shelf Go.Proofs.YtafiopjgegmfoaaGreat
def sortA_ren : Go.Shelf.Ren := ⟨fun | 5 => 57 | 8 => 71 | 7 => 70 | 19 => 86 | 20 => 87 | 10 => 77 | 11 => 78 | 12 => 79 | 13 => 80 | 14 => 81 | 15 => 82 | 16 => 83 | 17 => 84 | 18 => 85 | 30 => 94 | 31 => 95 | 32 => 96 | 33 => 97 | 34 => 98 | 35 => 99 | 40 => 104 | n => n, fun | 23 => 42 | 25 => 3 | 3 => 3 | 32 => 101 | 22 => 42 | 0 => 0 | 44 => 113 | 46 => 115 | 4 => 4 | 36 => 107 | 35 => 106 | 41 => 73 | 5 => 5 | 9 => 9 | 53 => 119 | 57 => 123 | 63 => 128 | 64 => 129 | n => n, fun n => n⟩
theorem sortA : Go.Proofs.SlLaysM.n5 Tryz.prog sortA_ren :=
  { mixed := by kernel_rfl
    f5 := ⟨Tryz.f57.name, by decide, Tryz.func57.trans (congrArg some (by kernel_rfl))⟩
    f7 := ⟨Tryz.f70.name, by decide, Tryz.func70.trans (congrArg some (by kernel_rfl))⟩
    f8 := Tryz.func71.trans (congrArg some (by kernel_rfl))
    f10 := ⟨Tryz.f77.name, by decide, Tryz.func77.trans (congrArg some (by kernel_rfl))⟩
    f11 := ⟨Tryz.f78.name, by decide, Tryz.func78.trans (congrArg some (by kernel_rfl))⟩
    f12 := ⟨Tryz.f79.name, by decide, Tryz.func79.trans (congrArg some (by kernel_rfl))⟩
    f13 := ⟨Tryz.f80.name, by decide, Tryz.func80.trans (congrArg some (by kernel_rfl))⟩
    f14 := ⟨Tryz.f81.name, by decide, Tryz.func81.trans (congrArg some (by kernel_rfl))⟩
    f15 := ⟨Tryz.f82.name, by decide, Tryz.func82.trans (congrArg some (by kernel_rfl))⟩
    f16 := ⟨Tryz.f83.name, by decide, Tryz.func83.trans (congrArg some (by kernel_rfl))⟩
    f17 := ⟨Tryz.f84.name, by decide, Tryz.func84.trans (congrArg some (by kernel_rfl))⟩
    f18 := ⟨Tryz.f85.name, by decide, Tryz.func85.trans (congrArg some (by kernel_rfl))⟩
    f19 := Tryz.func86.trans (congrArg some (by kernel_rfl))
    f20 := Tryz.func87.trans (congrArg some (by kernel_rfl))
    f30 := ⟨Tryz.f94.name, by decide, Tryz.func94.trans (congrArg some (by kernel_rfl))⟩
    f31 := Tryz.func95.trans (congrArg some (by kernel_rfl))
    f32 := Tryz.func96.trans (congrArg some (by kernel_rfl))
    f33 := ⟨Tryz.f97.name, by decide, Tryz.func97.trans (congrArg some (by kernel_rfl))⟩
    f34 := ⟨Tryz.f98.name, by decide, Tryz.func98.trans (congrArg some (by kernel_rfl))⟩
    f35 := ⟨Tryz.f99.name, by decide, Tryz.func99.trans (congrArg some (by kernel_rfl))⟩
    f40 := ⟨Tryz.f104.name, by decide, Tryz.func104.trans (congrArg some (by kernel_rfl))⟩
    t0 := by kernel_rfl
    a0 := Tryz.isAgg0
    z0 := Tryz.sizeOf0
    v0 := Tryz.zeroValue0
    t3 := by kernel_rfl
    a3 := Tryz.isAgg3
    z3 := Tryz.sizeOf3
    v3 := Tryz.zeroValue3
    t4 := by kernel_rfl
    a4 := Tryz.isAgg4
    z4 := Tryz.sizeOf4
    v4 := Tryz.zeroValue4
    t5 := by kernel_rfl
    a5 := Tryz.isAgg5
    z5 := Tryz.sizeOf5
    v5 := Tryz.zeroValue5
    t9 := by kernel_rfl
    a9 := Tryz.isAgg9
    z9 := Tryz.sizeOf9
    v9 := Tryz.zeroValue9
    t22 := by kernel_rfl
    a22 := Tryz.isAgg42
    z22 := Tryz.sizeOf42
    v22 := Tryz.zeroValue42
    t23 := by kernel_rfl
    a23 := Tryz.isAgg42
    z23 := Tryz.sizeOf42
    v23 := Tryz.zeroValue42
    t25 := by kernel_rfl
    a25 := Tryz.isAgg3
    z25 := Tryz.sizeOf3
    v25 := Tryz.zeroValue3
    t32 := by kernel_rfl
    a32 := Tryz.isAgg101
    z32 := Tryz.sizeOf101
    v32 := Tryz.zeroValue101
    t35 := by kernel_rfl
    a35 := Tryz.isAgg106
    z35 := Tryz.sizeOf106
    v35 := Tryz.zeroValue106
    t36 := by kernel_rfl
    a36 := Tryz.isAgg107
    z36 := Tryz.sizeOf107
    v36 := Tryz.zeroValue107
    t41 := by kernel_rfl
    a41 := Tryz.isAgg73
    z41 := Tryz.sizeOf73
    v41 := Tryz.zeroValue73
    t44 := by kernel_rfl
    a44 := Tryz.isAgg113
    z44 := Tryz.sizeOf113
    v44 := Tryz.zeroValue113
    t46 := by kernel_rfl
    a46 := Tryz.isAgg115
    z46 := Tryz.sizeOf115
    v46 := Tryz.zeroValue115
    t53 := by kernel_rfl
    a53 := Tryz.isAgg119
    z53 := Tryz.sizeOf119
    v53 := Tryz.zeroValue119
    t57 := by kernel_rfl
    a57 := Tryz.isAgg123
    z57 := Tryz.sizeOf123
    v57 := Tryz.zeroValue123
    t63 := by kernel_rfl
    a63 := Tryz.isAgg128
    z63 := Tryz.sizeOf128
    v63 := Tryz.zeroValue128
    t64 := by kernel_rfl
    a64 := Tryz.isAgg129
    z64 := Tryz.sizeOf129
    v64 := Tryz.zeroValue129 }

/-- slices.Sort of a row of one's own -/
theorem sort_own {w : World} {B : Nat} {v : Value} (l : List Int) (h : w.ownsRow B 3 1 v l.length (zcs l)) (hl : l.length < 100000) :
    Calls Tryz.prog 57 #[v] w fun e w' => e = .returned (.tuple #[]) ∧ w'.ownsRow B 3 1 v (srt l).length (zcs (srt l)) ∧ w.grownBy w' v.ownBlock := by
  have hls : (srt l).length = l.length := List.length_mergeSort l
  rcases h.2 with ⟨rfl, h0⟩ | ⟨g, cap, cur, rfl, hb, hg, hn, hm, hs, ht⟩
  · have hl0 : l = [] := List.length_eq_zero_iff.1 (by omega)
    subst hl0
    refine (AnyM.slices_Sort_int_none sortA none 0 w).mono ?_
    rintro e w' ⟨rfl, rfl⟩
    exact ⟨rfl, by simpa [srt] using h, ⟨rfl, rfl, rfl, Nat.le_refl _, fun _ _ _ => rfl⟩⟩
  · rw [Nat.mul_one] at ht
    have hH := holds_of_blockI (w := w) (g := g) (ss := l) hg ht
    have hlt : g < w.heap.size := (Array.getElem?_eq_some_iff.1 hg).1
    refine (AnyM.slices_Sort_int sortA g 0 cap l w hH hlt (by omega)).mono ?_
    rintro e w' ⟨rfl, n, os, rfl⟩
    refine ⟨rfl, ?_, grownBy_sortedI (w := w) (g := g) (n := n) (os := os) (srt l).toArray⟩
    rw [hls]
    exact ownsRow_sortedI hls hb hg hn hm hs
end Go.Proofs.YtafiopjgegmfoaaGreat.W
