/-
  The fixed answers.
-/
import Derived.Test.YtmhplpiglbamcaaFormS
import Derived.Test.YtmhplpiglbamcaaSame
namespace Go.Proofs.Ytmhplpiglbamcaa
open Go.RowKit

theorem erP_some (xs : List UInt8) : erP (some xs) = 0 := rfl
theorem erG_true : erG true = 0 := rfl
def one30 : List Ext := [⟨0, 30, 1⟩]
theorem one30_right : rightFrom 0 one30 = true := by decide
theorem put_awake : putInode 1 1 5 one30 0 = some (inodeB 1 1 5 one30 0) := by
  unfold putInode
  have h1 : unusedI 1 1 5 one30.length 0 = false := by decide
  have h2 : usedI 1 1 5 one30 0 = true := by decide
  rw [h1, h2]
  rfl
theorem awake_bytes : (inodeB 1 1 5 one30 0).take 14 = [1, 1, 0, 1, 0, 0, 0, 5, 0, 0, 0, 30, 0, 1] := by
  unfold inodeB headI
  simp only [List.append_assoc]
  rfl

/-- a Put that goes well -/
theorem puts_some {w w' : World} {o : Option (List UInt8)} {r : Ending} {xs : List UInt8} (h : Puts w w' o r) (ho : o = some xs) :
    ∃ v, r = .returned (.tuple #[v, .int .i64 0]) ∧ w'.ownsRow w.heap.size 5 1 v xs.length (bcs xs) ∧ Below w.heap.size w w' := by
  subst ho
  exact h

theorem getsS_some {w w' : World} {o : Option Sup} {r : Ending} {s : Sup} (h : GetsS w w' o r) (ho : o = some s) : r = .returned (.tuple #[.agg #[.int .i64 s.b, .int .i64 s.e, .int .i64 s.q, .int .i64 s.t], .int .i64 0]) ∧ Below w.heap.size w w' := by
  subst ho; exact h
theorem getsS_none {w w' : World} {o : Option Sup} {r : Ending} (h : GetsS w w' o r) (ho : o = none) : r = .returned (.tuple #[.agg #[.int .i64 0, .int .i64 0, .int .i64 0, .int .i64 0], .int .i64 30]) ∧ Below w.heap.size w w' := by
  subst ho; exact h
theorem getsI_some {w w' : World} {o : Option Ino} {r : Ending} {i : Ino} (h : GetsI w w' o r) (ho : o = some i) : ∃ v, r = .returned (.tuple #[.agg #[.int .u8 (i.k : Int), .int .i64 i.l, .int .i64 i.s, v, .int .i64 i.n], .int .i64 0]) ∧ w'.ownsRow w.heap.size 46 3 v i.d.length (ecs i.d) ∧ Below w.heap.size w w' := by
  subst ho; exact h
theorem getsI_none {w w' : World} {o : Option Ino} {r : Ending} (h : GetsI w w' o r) (ho : o = none) : ∃ v, r = .returned (.tuple #[.agg #[.int .u8 0, .int .i64 0, .int .i64 0, v, .int .i64 0], .int .i64 30]) ∧ w'.ownsRow w.heap.size 46 3 v 0 (ecs []) ∧ Below w.heap.size w w' := by
  subst ho; exact h
theorem getsN_some {w w' : World} {o : Option (List Ext)} {r : Ending} {es : List Ext} (h : GetsN w w' o r) (ho : o = some es) : ∃ v, r = .returned (.tuple #[v, .int .i64 0]) ∧ w'.ownsRow w.heap.size 46 3 v es.length (ecs es) ∧ Below w.heap.size w w' := by
  subst ho; exact h
theorem getsN_none {w w' : World} {o : Option (List Ext)} {r : Ending} (h : GetsN w w' o r) (ho : o = none) : ∃ v, r = .returned (.tuple #[v, .int .i64 30]) ∧ w'.ownsRow w.heap.size 46 3 v 0 (ecs []) ∧ Below w.heap.size w w' := by
  subst ho; exact h
theorem puts_none {w w' : World} {o : Option (List UInt8)} {r : Ending} (h : Puts w w' o r) (ho : o = none) :
    ∃ v, r = .returned (.tuple #[v, .int .i64 2]) ∧ w'.ownsRow w.heap.size 5 1 v 0 (bcs []) ∧ Below w.heap.size w w' := by
  subst ho
  exact h

set_option maxRecDepth 100000 in
set_option maxHeartbeats 1000000 in
theorem awake_any (w : World) : Calls Try.prog 19 #[] w fun e w' => e = .returned (.bool true) ∧ Below w.heap.size w w' := by
  have hp : putSuper 64 1 1 0 = some (superB 64 1 1 0) := rfl
  have hg : getSuper (superB 64 1 1 0) = some ⟨64, 1, 1, 0⟩ := getSuper_put 64 1 1 0 (by decide)
  have hsl : Hid ((superB 64 1 1 0).length = 4096) := superB_length _ _ _ _
  have hil : Hid ((inodeB 1 1 5 one30 0).length = 64) := inodeB_length _ _ _ _ _ (by decide)
  have hab : Hid _ := awake_bytes
  have Hp : Hid _ := hp
  have Hg : Hid _ := hg
  clear hp hg
  generalize superB 64 1 1 0 = S at Hp Hg hsl
  have hpi : Hid _ := put_awake
  generalize inodeB 1 1 5 one30 0 = I at hab hpi hil
  go_enter Try.func19, Try.ntmps19
  go_wp2_with fail
  refine (putSuper_at 64 1 1 0 w).mono ?_
  rintro r w1 h1
  obtain ⟨v1, rfl, o1, b1⟩ := puts_some h1 Hp.out
  clear h1
  rw [hsl.out] at o1
  obtain ⟨a1, cap1, rfl, l1, hc1, hx1, r1, n1, _⟩ := owns_parts o1
  have L1 : Hid _ := l1
  clear l1 o1
  go_wp2_with fail
  refine (getSuper_at 4096 cap1 a1 S w1 hsl.out hc1 hx1 r1).mono ?_
  rintro r w2 h2
  obtain ⟨rfl, b2⟩ := getsS_some h2 Hg.out
  have B2 := b1.trans (b2.mono b1.size)
  clear r1 b1 b2 h2
  have e0 : Hid (ecs one30 = [.int .i64 0, .int .i64 30, .int .i64 1]) := rfl
  go_wp2_with fail
  obtain ⟨W, hW⟩ : ∃ W, W = ((w2.alloc (.cells #[.int .i64 64, .int .i64 1, .int .i64 1, .int .i64 0] 27)).alloc (.cells #[.int .i64 0, .int .i64 30, .int .i64 1] 46)) := ⟨_, rfl⟩
  have s1 : (w2.alloc (.cells #[.int .i64 64, .int .i64 1, .int .i64 1, .int .i64 0] 27)).heap.size = w2.heap.size + 1 := by simp
  have b3 := (Below.refl w2.heap.size w2).alloc (Nat.le_refl _) (.cells #[.int .i64 64, .int .i64 1, .int .i64 1, .int .i64 0] 27)
  have x3 := Box.new w2 #[.int .i64 64, .int .i64 1, .int .i64 1, .int .i64 0] 27
  have b4 := (Below.refl _ (w2.alloc (.cells #[.int .i64 64, .int .i64 1, .int .i64 1, .int .i64 0] 27))).alloc (Nat.le_refl _) (.cells #[.int .i64 0, .int .i64 30, .int .i64 1] 46)
  have y4 := Box.new (w2.alloc (.cells #[.int .i64 64, .int .i64 1, .int .i64 1, .int .i64 0] 27)) #[.int .i64 0, .int .i64 30, .int .i64 1] 46
  have x4 := x3.below b4
  have B4 := B2.trans ((b3.trans (b4.mono b3.size)).mono B2.size)
  rw [s1] at y4
  rw [← hW] at x4 y4 B4 ⊢
  clear hW b3 b4 x3 s1 B2
  have hrE : RdE W (some ⟨w2.heap.size + 1, 0, none⟩) one30 := fun _ => ⟨_, _, rfl, fun j hj => by
    obtain rfl : j = 0 := by simp [one30] at hj; omega
    exact ⟨y4.cell 0, y4.cell 1, y4.cell 2⟩⟩
  refine (putInode_at 1 1 1 1 5 0 (some ⟨w2.heap.size + 1, 0, none⟩) one30 W rfl (by omega) (by intro e he; simp [one30] at he; subst he; simp [wfE]) hrE).mono ?_
  rintro r w5 h5
  obtain ⟨v5, rfl, o5, b5⟩ := puts_some h5 hpi.out
  rw [hil.out] at o5
  obtain ⟨a5, cap5, rfl, l5, hc5, hx5, r5, n5, _⟩ := owns_parts o5
  have c0 := (x4.below b5).cell 0
  simp only [List.getElem?_toArray, List.getElem?_cons_zero] at c0
  have B5 := B4.trans (b5.mono B4.size)
  have r5' := r5.take 14
  rw [hab.out] at r5'
  clear h5 x4 y4 B4 b5 hrE r5 o5 l5
  have z5 := B5.size
  go_wp2_with fail
  obtain ⟨V, hV⟩ : ∃ V, V = w5.alloc (.cells #[.int .u8 1, .int .u8 1, .int .u8 0, .int .u8 1, .int .u8 0, .int .u8 0, .int .u8 0, .int .u8 5, .int .u8 0, .int .u8 0, .int .u8 0, .int .u8 30, .int .u8 0, .int .u8 1] 5) := ⟨_, rfl⟩
  have q := own_lit w5 [1, 1, 0, 1, 0, 0, 0, 5, 0, 0, 0, 30, 0, 1]
  have eV : w5.alloc (.cells (bcs [1, 1, 0, 1, 0, 0, 0, 5, 0, 0, 0, 30, 0, 1]).toArray 5) = V := by rw [hV]; rfl
  have bV : Below w5.heap.size w5 V := by rw [hV]; exact (Below.refl _ _).alloc (Nat.le_refl _) _
  rw [eV] at q
  rw [← hV]
  clear hV eV
  refine (same_at _ _ 14 14 _ _ [1, 1, 0, 1, 0, 0, 0, 5, 0, 0, 0, 30, 0, 1] [1, 1, 0, 1, 0, 0, 0, 5, 0, 0, 0, 30, 0, 1] V rfl rfl (r5'.below bV (Nat.le_refl _)) q.rd).mono ?_
  rintro r w6 ⟨rfl, rfl⟩
  have B6 := B5.trans (bV.mono z5)
  clear q r5' bV
  go_wp2
  go_ret
  exact ⟨rfl, B6⟩
end Go.Proofs.Ytmhplpiglbamcaa
