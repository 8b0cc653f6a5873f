/-
  sort.SliceIsSorted, over a list of entries with the law's own order.
-/
import Derived.Test.YtlbjalodjcajfaaGreatHsp
import Derived.Lib.ReflectliteSlice
import Derived.Laws.Externs
namespace Go.Proofs.YtlbjalodjcajfaaGreat
open Go.RowKit Go.Maps
set_option maxRecDepth 100000 in
set_option maxHeartbeats 2000000 in
theorem less_at {u : World} {p q n c i j : Nat} {a b : ByteArray} (hp : Box u p #[.slice (some ⟨q, 0, none⟩) n c] 42) (hi : i < n) (hj : j < n) (ca : u.cell? ⟨q, i * 3 + 1, none⟩ = some (.string a)) (cb : u.cell? ⟨q, j * 3 + 1, none⟩ = some (.string b)) :
    Calls Tryz.prog 12 #[.int .i64 (i : Int), .int .i64 (j : Int), ptr p] u fun r w' => r = .returned (.bool (blt a b)) ∧ Below u.heap.size u w' := by
  have cp : u.cell? ⟨p, 0, none⟩ = some (.slice (some ⟨q, 0, none⟩) n c) := hp.cell 0
  have hki : (i : Int) < (n : Int) := by omega
  have hkj : (j : Int) < (n : Int) := by omega
  have HB : Hid (∀ m, Below u.heap.size u (u.drewN m)) := fun m => below_drewN (Below.refl _ _) m
  have HLT : Hid (blt a b = Op.bytesLess a.toList b.toList) := rfl
  generalize blt a b = z at *
  clear hp
  unfold ptr
  go_enter Tryz.func12, Tryz.ntmps12
  go_wp2_with fail
  go_quiet (fail)
  go_wp2_with fail
  go_ret
  exact ⟨by rw [HLT.out]; rfl, HB.out _⟩
theorem info42 : ∃ i, Tryz.prog.info? 42 = some i ∧ i.desc = .slice 28 := by
  cases h : Tryz.prog.info? 42 with
  | none =>
    have : (Tryz.prog.info? 42).isSome = true := by kernel_rfl
    rw [h] at this
    cases this
  | some i =>
    have : (Tryz.prog.info? 42).map (·.desc) = some (.slice 28) := by kernel_rfl
    rw [h] at this
    exact ⟨i, rfl, by simpa using this⟩
set_option maxRecDepth 100000 in
set_option maxHeartbeats 4000000 in
theorem sis_at {u : World} {p q n c : Nat} {P : List Pr} (hp : Box u p #[.slice (some ⟨q, 0, none⟩) n c] 42) (hn : P.length = n) (h2 : n ≤ 1024) (ha : Asc P) (hc : ∀ i x, P[i]? = some x → u.cell? ⟨q, i * 3 + 1, none⟩ = some (.string x.1)) (hq : q < u.heap.size) :
    Calls Tryz.prog 11 #[.iface 42 (.slice (some ⟨q, 0, none⟩) n c), .func (.func 12) #[] #[ptr p]] u fun r w' => r = .returned (.bool true) ∧ Below u.heap.size u w' := by
  obtain ⟨i, hi, hd⟩ := info42
  have hv := Lib.run_valueOf_slice (P := Tryz.prog) 42 28 i hi hd (some ⟨q, 0, none⟩) n c u
  have hl := fun a w h => Lib.run_valueLen_slice (P := Tryz.prog) 42 28 i hi hd (by kernel_rfl) a (some ⟨q, 0, none⟩) n c w h
  have hin : ∀ args w, (callFunc 12 args).run Tryz.prog w = .ok (.enter 12 args) w := enters_of Tryz.func12 (by kernel_rfl) rfl
  have HH := hid (And.intro hp (And.intro hn (And.intro ha (And.intro hc hq))))
  clear hp hn ha hc hq hd
  have hgs : Tryz.prog.globals.size = 0 := by kernel_rfl
  simp only [Go.typeHandle, hgs] at hv hl
  clear hgs
  go_enter Tryz.func11, Tryz.ntmps11
  go_wp2_with fail
  rw [run_callFunc_extern Tryz.func28 (by kernel_rfl) (by kernel_rfl) (by kernel_rfl) (e := fun args => Extern.ReflectliteValue.unpack (args.getD 0 (.tuple #[]))) (by kernel_rfl),
    show Sem.run Tryz.prog ((fun args : Array Value => Extern.ReflectliteValue.unpack (args.getD 0 (.tuple #[]))) #[.iface 42 (.slice (some ⟨q, 0, none⟩) n c)]) u = _ from hv]
  simp only [Result.andThen]
  rw [Oper.upon_value]
  go_wp2_with fail
  rw [run_callFunc_extern Tryz.func29 (by kernel_rfl) (by kernel_rfl) (by kernel_rfl) (e := Extern.ReflectliteValue.method (Extern.ReflectliteValue.valueError "reflectlite.Value.Len" 0) Extern.ReflectliteValue.len) (by kernel_rfl),
    hl _ _ (by simp)]
  simp only [Result.andThen]
  rw [Oper.upon_value]
  obtain ⟨w1, hw1⟩ : ∃ w1, w1 = ((u.alloc (.cells #[.slice (some ⟨q, 0, none⟩) n c] 42)).alloc (.cells #[.pointer (some ⟨0, 42, none⟩), .pointer (some ⟨u.heap.size, 0, none⟩), .int .u64 151] 77)) := ⟨_, rfl⟩
  have HB : Hid (Below u.heap.size u w1) := by rw [hw1]; exact ((Below.refl _ _).alloc (Nat.le_refl _) _).alloc (by simp) _
  rw [← hw1]
  clear hw1 hv hl
  go_wp2_with fail
  go_loopw [7] (fun x v => ∃ z : Int, -1 ≤ z ∧ z < (n : Int) ∧ x = .int .i64 z ∧ Hid (Below u.heap.size u v)) (fun x _ => (iof x).toNat)
  case atStart => exact ⟨(n : Int) - 1, by omega, by omega, by simp, HB.out⟩
  case round =>
    clear HB
    obtain ⟨z, hz1, hz2, rfl, hrel⟩ := hrel
    by_cases hlt : 0 < z
    · obtain ⟨j, rfl⟩ : ∃ j : Nat, z = ((j + 1 : Nat) : Int) := ⟨(z - 1).toNat, by omega⟩
      obtain ⟨hp, hn, ha, hc, hq⟩ := HH.out
      have hj1 : j + 1 < P.length := by omega
      have hx := List.getElem?_eq_getElem hj1
      have hy := List.getElem?_eq_getElem (show j < P.length by omega)
      have cx := (hrel.out.cell (p := ⟨q, _, none⟩) hq).trans (hc _ _ hx)
      have cy := (hrel.out.cell (p := ⟨q, _, none⟩) hq).trans (hc _ _ hy)
      have cf := less_at (hp.below hrel.out hp.lt) (i := j + 1) (j := j) (by omega) (by omega) cx cy
      rw [blt_asymm (asc_at ha hy hx (by omega))] at cf
      have wr1 : IntKind.i64.wrap (((j + 1 : Nat) : Int) - 1) = (j : Int) := by rw [IntKind.wrap_i64]; omega
      have hgt : (0 : Int) < ((j + 1 : Nat) : Int) := by omega
      clear hp hn ha hc hq hx hy cx cy hj1
      unfold ptr at *
      go_wp2_with fail
      refine cf.mono ?_
      rintro e w2 ⟨rfl, hb⟩
      have HB : Hid (Below u.heap.size u w2) := hrel.out.trans (hb.mono hrel.out.size)
      clear cf hb hrel
      go_wp2_with fail
      go_roundw
      case rel => exact ⟨(j : Int), by omega, by omega, by simp, HB.out⟩
      case measure => simp only [iof]; omega
    · have hgt : ¬ (0 : Int) < z := hlt
      have HB := hid hrel.out
      clear hrel HH
      go_wp2_with fail
      go_ret
      exact ⟨rfl, HB.out⟩
end Go.Proofs.YtlbjalodjcajfaaGreat
