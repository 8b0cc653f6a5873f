/-
  Step of a task that has nothing more to do; Step whatever it does.
-/
import Derived.Test.YtjhhncbadkpbaaaTStep
namespace Go.Proofs.Ytjhhncbadkpbaaa
open Go.RowKit
set_option maxRecDepth 20000 in
set_option maxHeartbeats 4000000 in
theorem tStep_over {w : World} {B s : Nat} {S : SS} (h : IsS w B s S) {tb bb tg n ln lc : Nat} {tv : Value} {told : List Bool} {bad : Bool} (hT : TW w B tb bb tv told bad) {la : Option Addr} (hk : Box w tg (tkC s la ln lc n tb bb) 51) (hbg : B ≤ tg) (hn : ln ≤ n) (hn1 : n < 1000000) :
    Calls Try.prog 54 #[ptr tg] w fun r w' => r = .returned (.int .u8 0) ∧ StepTo w B s S tb bb tg la ln lc n tv told bad w' := by
  have k1 : w.cell? ⟨tg, 1, none⟩ = some (.slice la ln lc) := hk.cell 1
  have k2 : w.cell? ⟨tg, 2, none⟩ = some (.int .i64 (n : Int)) := hk.cell 2
  have hni : (ln : Int) ≤ (n : Int) := by omega
  have hlt := hk.lt
  have Hh : Hid (IsS w B s S) := h
  have HhT : Hid (TW w B tb bb tv told bad) := hT
  have Hhk : Hid (Box w tg (tkC s la ln lc n tb bb) 51) := hk
  obtain ⟨dg, hdg⟩ : ∃ dg, dg = w.heap.size := ⟨_, rfl⟩
  have Hdg : Hid (dg = w.heap.size) := hdg
  unfold ptr at *
  clear h hT hk hdg
  go_enter Try.func54, Try.ntmps54
  go_wp2_with fail
  go_quiet (fail)
  have BG : ∀ q, Beg w B s S tb bb tg la ln lc n tv told bad w.heap.size do0 (((w.alloc (.cells #[.int .i64 0, .int .i64 0, .bool false] 45)).drewN q).setCell ⟨tg, 2, none⟩ (.int .i64 ((n : Int) + 1))) := fun q => by
    refine Beg.make Hh.out HhT.out Hhk.out hbg ?_ ?_ (by omega)
    · exact Below.drewN ((Below.refl _ _).alloc (Nat.le_refl _) _) q
    · exact (Box.new w _ 45).drew q
  have BX : ∀ q, Box ((w.alloc (.cells #[.int .i64 0, .int .i64 0, .bool false] 45)).drewN q) tg (tkC s la ln lc n tb bb) 51 := fun q => (Hhk.out.alloc _).drew q
  have bg := BG nq
  have bx := BX nq
  clear BG BX k1 k2
  generalize ((w.alloc (.cells #[.int .i64 0, .int .i64 0, .bool false] 45)).drewN nq) = W0 at bg bx ⊢
  have k2 : W0.cell? ⟨tg, 2, none⟩ = some (.int .i64 (n : Int)) := bx.cell 2
  have f2 := bx.frozen 2
  obtain ⟨W1, hW1⟩ : ∃ W1, W0.setCell ⟨tg, 2, none⟩ (.int .i64 ((n : Int) + 1)) = W1 := ⟨_, rfl⟩
  rw [hW1, ← Hdg.out] at bg
  rw [← Hdg.out]
  have HBG : Hid (Beg w B s S tb bb tg la ln lc n tv told bad dg do0 W1) := bg
  have e0 : W1.cell? ⟨dg, 0, none⟩ = some (.int .i64 0) := bg.dx.cell 0
  have e1 : W1.cell? ⟨dg, 1, none⟩ = some (.int .i64 0) := bg.dx.cell 1
  have e2 : W1.cell? ⟨dg, 2, none⟩ = some (.bool false) := bg.dx.cell 2
  clear bg bx hlt hni
  go_wp2_with fail
  refine Calls.mono (kitPick_at 0 7 W1 (by decide) (by decide)) ?_
  rintro r W6 ⟨rfl, hW6⟩
  subst W6
  go_wp2_with fail
  go_ret
  exact ⟨rfl, HBG.out.quit⟩
/-- what a task's next step does -/
def doAt (xs : List Do3) (n : Nat) : Do3 := xs[n]?.getD do0
def SS.did (S : SS) (d : Do3) : SS := if d.wake = 0 then S else (S.wake d.wake).1
def toldBy (S : SS) (told : List Bool) (d : Do3) : List Bool := if d.wake = 0 then told else told ++ [(S.wake d.wake).2]
theorem tStep_at {w : World} {B s : Nat} {S : SS} (h : IsS w B s S) (i : Nat) (hnow : S.now = some i) {tb bb tg n ln lc : Nat} {tv : Value} {told : List Bool} {bad : Bool} (hT : TW w B tb bb tv told bad) {la : Option Addr} {xs : List Do3} (hk : Box w tg (tkC s la ln lc n tb bb) 51) (hl : DoRow w B la xs) (hln : xs.length = ln) (hbg : B ≤ tg) (hn1 : n < 1000000)
    (hst : ∀ e ∈ S.E, e.st < 200) (hGl : S.G.length < 1000000) (hLl : S.L.length < 1000000) (htl : told.length < 1000000) :
    Calls Try.prog 54 #[ptr tg] w fun r w' => r = .returned (.int .u8 ((((doAt xs n).tell % 7).toNat : Nat) : Int)) ∧ StepTo w B s (S.did (doAt xs n)) tb bb tg la ln lc n tv (toldBy S told (doAt xs n)) bad w' := by
  have e7 : ((((doAt xs n).tell % 7).toNat : Nat) : Int) = (doAt xs n).tell % 7 := by omega
  rw [e7]
  by_cases hn : n < ln
  · have hd : xs[n]? = some (xs[n]'(by omega)) := List.getElem?_eq_getElem _
    have ed : doAt xs n = xs[n]'(by omega) := by unfold doAt; rw [hd]; rfl
    rw [ed]
    by_cases hw : (xs[n]'(by omega)).wake = 0
    · unfold SS.did toldBy
      rw [if_pos hw, if_pos hw]
      exact tStep_calm h i hnow hT hk hl hln hbg hn1 hn _ hd hw
    · unfold SS.did toldBy
      rw [if_neg hw, if_neg hw]
      exact tStep_wake h i hnow hT hk hl hln hbg hn1 hn _ hd hw hst hGl hLl htl
  · have ed : doAt xs n = do0 := by unfold doAt; rw [List.getElem?_eq_none (by omega)]; rfl
    rw [ed]
    exact tStep_over h hT hk hbg (by omega) hn1
theorem task_tsk (tg : Nat) : Tsk 47 (ptr tg) 54 := ⟨fun _ => by kernel_rfl, enters_of Try.func54 (by kernel_rfl) rfl⟩
end Go.Proofs.Ytjhhncbadkpbaaa
