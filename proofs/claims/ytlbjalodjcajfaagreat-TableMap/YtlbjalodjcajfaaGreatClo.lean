/-
  The five closures of a transaction's end.
-/
import Derived.Test.YtlbjalodjcajfaaGreatStp
namespace Go.Proofs.YtlbjalodjcajfaaGreat
open Go.RowKit Go.Sort Go.Maps
section
variable {O : List (Nat × Obj)}
variable {w0 u u' : World} {x m g s n : Nat} {k b st : Int} {lv : Value} {ver : Int} {pub : Bool} {L : List Stp} {C : List Cl} {S : SS En} {K : List Bx} {Fs Q : Nat → Prop} {tb ib : Nat}
theorem cStay (h : HE O w0 u x m g s n k b st lv ver pub L C S K Fs Q) (ht : Box u tb #[ptr x] 30) : Calls Tryz.prog 47 #[ptr tb] u fun r w' => r = .returned (.int .i64 0) ∧ HE O w0 w' x m g s n k b st lv b pub L C S K Fs Q := by
  have c := eStay h
  have ct : u.cell? ⟨tb, 0, none⟩ = some (ptr x) := ht.cell 0
  clear h ht
  unfold ptr at *
  go_enter Tryz.func47, Tryz.ntmps47
  go_wp2_with fail
  refine c.mono ?_
  rintro e w1 ⟨rfl, h1⟩
  have HF := hid h1
  clear c h1
  go_wp2_with fail
  go_ret
  exact ⟨rfl, HF.out⟩
theorem cAdv (h : HE O w0 u x m g s n k b st lv ver pub L C S K Fs Q) (h0 : 0 ≤ k) (hk : k < 1099511627776) (ht : Box u tb #[ptr x] 30) : Calls Tryz.prog 51 #[ptr tb] u fun r w' => r = .returned (.int .i64 0) ∧ HE O w0 w' x m g s n (k + 1) b st lv (k + 1) pub L C S K Fs Q := by
  have c := eAdv h h0 hk
  have ct : u.cell? ⟨tb, 0, none⟩ = some (ptr x) := ht.cell 0
  clear h ht
  unfold ptr at *
  go_enter Tryz.func51, Tryz.ntmps51
  go_wp2_with fail
  refine c.mono ?_
  rintro e w1 ⟨rfl, h1⟩
  have HF := hid h1
  clear c h1
  go_wp2_with fail
  go_ret
  exact ⟨rfl, HF.out⟩
theorem cLook (h : HE O w0 u x m g s n k b st lv ver pub L C S K Fs Q) {j : Nat} {c : Cl} (hc : C[j]? = some c) (ho : c.own = 0 ∨ c.own = 1) (hr : gt S.R (j : Int) = some c.ver ∨ gt S.R (j : Int) = none) (ht : Box u tb #[ptr x] 30) (hi : Box u ib #[.int .i64 (j : Int)] 3) : Calls Tryz.prog 54 #[ptr tb, ptr ib] u fun r w' => r = .returned (.int .i64 0) ∧ HE O w0 w' x m g s n k b st lv ver pub L C S K Fs Q := by
  have c := eLook h hc ho hr
  have ct : u.cell? ⟨tb, 0, none⟩ = some (ptr x) := ht.cell 0
  have ci : u.cell? ⟨ib, 0, none⟩ = some (.int .i64 (j : Int)) := hi.cell 0
  clear h ht hi hc ho hr
  unfold ptr at *
  go_enter Tryz.func54, Tryz.ntmps54
  go_wp2_with fail
  refine c.mono ?_
  rintro e w1 ⟨rfl, h1⟩
  have HF := hid h1
  clear c h1
  go_wp2_with fail
  go_ret
  exact ⟨rfl, HF.out⟩
theorem cPub (h : HE O w0 u x m g s n k b st lv ver pub L C S K Fs Q) {j : Nat} {c : Cl} {e : En} (hc : C[j]? = some c) (ho : c.own = 1) (hv : c.ver < ver) (hk : ver ≤ k) (hw : gt S.W (j : Int) = some e) (ht : Box u tb #[ptr x] 30) (hi : Box u ib #[.int .i64 (j : Int)] 3) : Calls Tryz.prog 56 #[ptr tb, ptr ib] u fun r w' => r = .returned (.int .i64 0) ∧ HE O w0 w' x m g s n k b st lv ver true L (C.set j ⟨e, ver, 0⟩) S K Fs Q := by
  have c := ePub h hc ho hv hk hw
  have ct : u.cell? ⟨tb, 0, none⟩ = some (ptr x) := ht.cell 0
  have ci : u.cell? ⟨ib, 0, none⟩ = some (.int .i64 (j : Int)) := hi.cell 0
  clear h ht hi hc ho hv hk hw
  unfold ptr at *
  go_enter Tryz.func56, Tryz.ntmps56
  go_wp2_with fail
  refine c.mono ?_
  rintro e w1 ⟨rfl, h1⟩
  have HF := hid h1
  clear c h1
  go_wp2_with fail
  go_ret
  exact ⟨rfl, HF.out⟩
set_option maxRecDepth 100000 in
set_option maxHeartbeats 4000000 in
theorem cLock (h : HE O w0 u x m g s n k b st lv ver pub L C S K Fs Q) {j : Nat} {c : Cl} (hc : C[j]? = some c) (ho : c.own = 0) (ht : Box u tb #[ptr x] 30) (hi : Box u ib #[.int .i64 (j : Int)] 3) : Calls Tryz.prog 49 #[ptr tb, ptr ib] u fun r w' => r = .returned (.int .i64 0) ∧ HE O w0 w' x m g s n k b st lv ver pub L (C.set j ⟨c.e, c.ver, 1⟩) S K Fs Q := by
  have hl := lock_at h.drew.mb j c hc ho
  have ct : u.cell? ⟨tb, 0, none⟩ = some (ptr x) := ht.cell 0
  have ci : u.cell? ⟨ib, 0, none⟩ = some (.int .i64 (j : Int)) := hi.cell 0
  have c1 : u.cell? ⟨x, 1, none⟩ = some (ptr m) := h.bx.cell 1
  have c2 : u.cell? ⟨x, 2, none⟩ = some (.int .i64 1) := h.bx.cell 2
  have n1 : tb ≠ g := ht.ne h.mb.bg (by decide)
  have n2 : ib ≠ g := hi.ne h.mb.bg (by decide)
  generalize hC : C.set j ⟨c.e, c.ver, 1⟩ = C' at *
  have HG : Hid (∀ w', Box w' g (cls C').toArray 119 → Chg (fun y => y = g) u.drew w' → HE O w0 w' x m g s n k b st lv ver pub L C' S K Fs Q ∧ Box w' tb #[ptr x] 30 ∧ Box w' ib #[.int .i64 (j : Int)] 3) := fun w' hb hc' => ⟨h.drew.setG hc' hb (by rw [← hC, List.length_set]; exact h.mb.hl), (ht.drew 1).chg hc' n1, (hi.drew 1).chg hc' n2⟩
  have HK : Hid (∀ w', HE O w0 w' x m g s n k b st lv ver pub L C' S K Fs Q ∧ Box w' tb #[ptr x] 30 ∧ Box w' ib #[.int .i64 (j : Int)] 3 → w'.cell? ⟨tb, 0, none⟩ = some (.pointer (some ⟨x, 0, none⟩)) ∧ w'.cell? ⟨ib, 0, none⟩ = some (.int .i64 (j : Int)) ∧ w'.cell? ⟨x, 1, none⟩ = some (.pointer (some ⟨m, 0, none⟩)) ∧ w'.cell? ⟨x, 2, none⟩ = some (.int .i64 1)) := fun w' hh => ⟨hh.2.1.cell 0, hh.2.2.cell 0, hh.1.bx.cell 1, hh.1.bx.cell 2⟩
  clear h ht hi hc ho hC n1 n2
  unfold ptr at *
  go_enter Tryz.func49, Tryz.ntmps49
  go_wp2_with fail
  go_region_held3 (fun u => u.cell? ⟨tb, 0, none⟩ = some (.pointer (some ⟨x, 0, none⟩)) ∧ u.cell? ⟨ib, 0, none⟩ = some (.int .i64 (j : Int)) ∧ u.cell? ⟨x, 1, none⟩ = some (.pointer (some ⟨m, 0, none⟩)) ∧ u.cell? ⟨x, 2, none⟩ = some (.int .i64 1)) (first | with_reducible exact HK.out _ m2 | go_keep) (first | (go_at_call 50; refine Calls.mono hl ?_; rintro e v2 ⟨rfl, mb, mc⟩; have m2 := HG.out _ mb mc; clear mb mc))
  have HF := hid m2.1
  clear m2 HK HG hl
  go_wp2_with fail
  go_ret
  exact ⟨rfl, HF.out⟩
end
end Go.Proofs.YtlbjalodjcajfaaGreat
