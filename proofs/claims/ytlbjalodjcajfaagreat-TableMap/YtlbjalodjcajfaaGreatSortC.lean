/-
  slices.SortFunc of cells' numbers, in rising order.
-/
import Derived.Test.YtlbjalodjcajfaaGreatSortL
import Derived.Test.YtlbjalodjcajfaaGreatSet
import Derived.Test.YtlbjalodjcajfaaGreatMem
import Derived.Shelf.SlSortCmp.NoneTotal
import Derived.Lib.RowBridge
import Derived.Lib.SlKeysI
import Derived.Sort.OwnSorted
namespace Go.Proofs.YtlbjalodjcajfaaGreat
open Go.RowKit Go.Sort Go.Shelf Go.Maps

abbrev Cel := {x : Int // 0 ≤ x ∧ x < 1024}
instance : Inhabited Cel := ⟨⟨0, by omega⟩⟩
def encC (x : Cel) : Value := .int .i64 x.1
def cfC (x y : Cel) : Int := x.1 - y.1
theorem ltC (x y : Cel) : ltOf cfC x y = decide (x.1 < y.1) := by
  unfold ltOf cfC
  by_cases h : x.1 < y.1
  · rw [decide_eq_true h, decide_eq_true (by omega)]
  · rw [decide_eq_false h, decide_eq_false (by omega)]
theorem swoC : SWO (ltOf cfC) where
  irrefl x := by rw [ltC]; simp
  trans x y z h1 h2 := by rw [ltC] at *; simp at *; omega
  ntrans x y z h1 h2 := by rw [ltC] at *; simp at *; omega
theorem totC (x y : Cel) (h1 : ltOf cfC x y = false) (h2 : ltOf cfC y x = false) : x = y := by
  rw [ltC] at *
  simp at h1 h2
  exact Subtype.ext (by omega)
theorem closure49 (x y : Int) (hx : 0 ≤ x ∧ x < 1024) (hy : 0 ≤ y ∧ y < 1024) (W : World) : Calls Tryz.prog 82 #[.int .i64 x, .int .i64 y] W fun e w' => e = .returned (.int .i64 (x - y)) ∧ w' = W := by
  have h1 : -9223372036854775808 ≤ x - y := by omega
  have h2 : x - y ≤ 9223372036854775807 := by omega
  clear hx hy
  go_enter Tryz.func82, Tryz.ntmps82
  go_wp2
  go_ret
  simp
theorem closure50 (x y : Int) (hx : 0 ≤ x ∧ x < 1024) (hy : 0 ≤ y ∧ y < 1024) (W : World) : Calls Tryz.prog 81 #[.int .i64 x, .int .i64 y] W fun e w' => e = .returned (.int .i64 (x - y)) ∧ w' = W := by
  have h1 : -9223372036854775808 ≤ x - y := by omega
  have h2 : x - y ≤ 9223372036854775807 := by omega
  clear hx hy
  go_enter Tryz.func81, Tryz.ntmps81
  go_wp2
  go_ret
  simp
theorem cmpReads49 (blk off size : Nat) (w : World) : CmpReads Tryz.prog 82 #[] encC cfC blk off size w := fun _ _ _ _ x y => (closure49 x.1 y.1 x.2 y.2 _).mono fun _ _ ⟨h1, h2⟩ => ⟨h1, 0, h2⟩
theorem cmpReads50 (blk off size : Nat) (w : World) : CmpReads Tryz.prog 81 #[] encC cfC blk off size w := fun _ _ _ _ x y => (closure50 x.1 y.1 x.2 y.2 _).mono fun _ _ ⟨h1, h2⟩ => ⟨h1, 0, h2⟩
theorem eg49 : ∀ args w, (callFunc 82 args).run Tryz.prog w = .ok (.enter 82 args) w := enters_of Tryz.func82 (by kernel_rfl) rfl
theorem eg50 : ∀ args w, (callFunc 81 args).run Tryz.prog w = .ok (.enter 81 args) w := enters_of Tryz.func81 (by kernel_rfl) rfl

section
variable {α : Type} [Inhabited α] {enc : α → Value}
theorem heap_sortedC {w : World} {g n : Nat} {os : Array Obj} {cur : Array Value} {e : TypeId} {fr : Nat × Nat} (d : Array α) (hb : w.heap[g]? = some (.cells cur e fr)) :
    (Go.Sort.grow (putRow enc (Sort.ahead w n) g 0 d) os).heap[g]? = some (.cells (putCells enc 0 d cur) e fr) := by
  have hg : g < w.heap.size := (Array.getElem?_eq_some_iff.1 hb).1
  rw [heap_grow_old _ _ (by simpa using hg)]
  simp [putRow, mapBlock, Sort.ahead, Array.getElem?_modify, hb, onCells]
theorem grownBy_sortedC {w : World} {g n : Nat} {os : Array Obj} (d : Array α) : w.grownBy (Go.Sort.grow (putRow enc (Sort.ahead w n) g 0 d) os) (some g) := by
  refine ⟨rfl, rfl, rfl, by simp, fun k hk hne => ?_⟩
  rw [heap_grow_old _ _ (by simpa using hk)]
  have : g ≠ k := fun e => hne (by rw [e])
  simp [putRow, mapBlock, Sort.ahead, Array.getElem?_modify, this]
theorem take_putCellsC (cur : Array Value) (ts : List α) (h : ts.length ≤ cur.size) : (putCells enc 0 ts.toArray cur).toList.take ts.length = ts.map enc := by
  apply List.ext_getElem?
  intro j
  by_cases hj : j < ts.length
  · rw [List.getElem?_take_of_lt hj, Array.getElem?_toList]
    simp [putCells, hj, show j < cur.size by omega]
  · rw [List.getElem?_take_eq_none (by omega), List.getElem?_eq_none (by simp; omega)]
end
theorem srtC (cs : List Cel) : (cs.mergeSort fun x y => !ltOf cfC y x).map encC = zcs (srt (cs.map (·.1))) := by
  have h : (cs.mergeSort fun x y => !ltOf cfC y x).map (·.1) = (cs.map (·.1)).mergeSort leI := List.map_mergeSort (fun a _ b _ => by
    rw [ltC]
    unfold leI
    by_cases e : a.1 ≤ b.1
    · simp [e]
    · simp [e]; omega)
  unfold zcs srt
  rw [← h, List.map_map]
  rfl
theorem sortC_at (f : Nat) (eg : ∀ args w, (callFunc f args).run Tryz.prog w = .ok (.enter f args) w) (hcmp : ∀ blk off size w, CmpReads Tryz.prog f #[] encC cfC blk off size w) {w : World} {B : Nat} {v : Value} {ss : List Int} (h : w.ownsRow B 3 1 v ss.length (zcs ss)) (hc : ∀ x ∈ ss, 0 ≤ x ∧ x < 1024) (hle : ss.length ≤ 1000000) :
    Calls Tryz.prog 80 #[v, .func (.func f) #[] #[]] w fun r w' => r = .returned (.tuple #[]) ∧ w'.ownsRow B 3 1 v ss.length (zcs (srt ss)) ∧ w.grownBy w' v.ownBlock := by
  obtain ⟨a, c, rfl⟩ := ownsRow_slice h
  by_cases h0 : ss = []
  · subst h0
    have hS := AnyF.slices_SortFunc_none (P := Tryz.prog) (ρ := sfRen) { sfLay with } a c (.func (.func f) #[] #[]) w
    refine Calls.mono (show Calls Tryz.prog 80 _ _ _ from hS) ?_
    rintro e w' ⟨rfl, rfl⟩
    exact ⟨rfl, by simpa [srt, zcs] using h, ⟨rfl, rfl, rfl, Nat.le_refl _, fun _ _ _ => rfl⟩⟩
  obtain ⟨cs, hcs⟩ : ∃ cs : List Cel, cs.map (·.1) = ss := ⟨ss.pmap (fun x h => ⟨x, h⟩) hc, by rw [List.map_pmap]; simp⟩
  have hlen : cs.length = ss.length := by rw [← hcs]; simp
  have hpos : 0 < ss.length := List.length_pos_iff.2 h0
  rcases h.2 with ⟨_, e0⟩ | ⟨g, cap, cur, e, hb, hg, hnc, hcm, hsz, ht⟩
  · omega
  injection e with e1 e2 e3
  subst e1 e3
  rw [Nat.mul_one] at hsz ht
  have hH : Holds encC w g 0 cs.toArray := fun j hj => by
    have hj' : j < ss.length := by simpa [hlen] using hj
    refine ⟨?_, Box.frozen hg _⟩
    rw [Nat.zero_add, Box.cell hg j]
    have e : cur[j]? = (zcs ss)[j]? := by
      rw [← ht, List.getElem?_take, if_pos hj']
      simp
    rw [e, ← hcs, getElem!_pos cs.toArray j hj]
    have hj2 : j < cs.length := by omega
    simp [zcs, hj2, encC, encI]
  have hsize : cs.toArray.size = ss.length := by simpa using hlen
  have hS := Any.slices_SortFunc_total sfLay encC (fun _ => rfl) cfC swoC f #[] g 0 c cs.toArray w eg (hcmp g 0 cs.toArray.size w).lays hH (Box.lt hg) (by rw [hsize]; omega) totC
  rw [hsize] at hS
  refine Calls.mono (show Calls Tryz.prog 80 _ _ _ from hS) ?_
  rintro e w' ⟨rfl, n, os, rfl⟩
  refine ⟨rfl, ⟨?_, .inr ⟨g, c, _, rfl, hb, heap_sortedC _ hg, hnc, hcm, by simp [putCells, hsz], ?_⟩⟩, grownBy_sortedC _⟩
  · simp [zcs, srt]
  · have hl2 : (cs.toArray.toList.mergeSort fun x y => !ltOf cfC y x).length = ss.length := by simp [hlen]
    have key := take_putCellsC (enc := encC) cur (cs.toArray.toList.mergeSort fun x y => !ltOf cfC y x) (by omega)
    rw [hl2] at key
    rw [Nat.mul_one, key]
    have := srtC cs
    rw [hcs] at this
    simpa using this
end Go.Proofs.YtlbjalodjcajfaaGreat
