/-
  The document's own Pick: one more told.
-/
import Derived.Test.YtjhhncbadkpbaaaRefFin
namespace Go.Proofs.Ytjhhncbadkpbaaa
open Go.RowKit
theorem RB.notMine {w : World} {B g : Nat} {V : RV} {R : RS} {P : List PV} (h : RB w B g V R P) {k : Nat} {cs : Array Value} (x : Box w k cs 45) : ¬ RF g V k := by
  rintro (e | e | e | e | e | e)
  · exact x.ne h.box (by decide) e
  · obtain ⟨c, y⟩ := ownsRow_box h.rp k e; exact x.ne y (by decide) rfl
  · obtain ⟨c, y⟩ := ownsRow_box h.rs k e; exact x.ne y (by decide) rfl
  · obtain ⟨c, y⟩ := ownsRow_box h.rn k e; exact x.ne y (by decide) rfl
  · obtain ⟨c, y⟩ := ownsRow_box h.rl k e; exact x.ne y (by decide) rfl
  · obtain ⟨c, y⟩ := ownsRow_box h.rt k e; exact x.ne y (by decide) rfl
theorem RS.wake_td (R : RS) (id : Int) : (R.wake id).1.Td = R.Td := by
  unfold RS.wake
  split
  · rfl
  · split
    · rfl
    · split <;> rfl
theorem RS.wake_st (R : RS) (id : Int) : (R.wake id).1.St.length = R.St.length := by
  unfold RS.wake
  split
  · rfl
  · split
    · rfl
    · split
      · simp
      · rfl
theorem RS.wake_ln (R : RS) (id : Int) : (R.wake id).1.Ln.length ≤ R.Ln.length + 1 := by
  unfold RS.wake
  split
  · simp
  · split
    · simp
    · split <;> simp
def TwoCells (g dg : Nat) (v : Value) (x : Int) (w : World) : Prop := ∀ q ∈ [((⟨g, 4, none⟩ : Addr), v), (⟨dg, 1, none⟩, .int .i64 x)], w.cell? q.1 = some q.2
theorem TwoCells.of {g dg : Nat} {v : Value} {x : Int} {w : World} (h1 : w.cell? ⟨g, 4, none⟩ = some v) (h2 : w.cell? ⟨dg, 1, none⟩ = some (.int .i64 x)) : TwoCells g dg v x w := fun q hq => by
  simp at hq
  rcases hq with rfl | rfl
  · exact h1
  · exact h2
theorem RTo.drew {w w' : World} {B g : Nat} {V : RV} {R : RS} {P : List PV} (h : RTo w B g V R P w') (n : Nat) : RTo w B g V R P (w'.drewN n) := by
  obtain ⟨V', h1, h2⟩ := h.is
  exact ⟨⟨V', h1.below (Below.drewN (Below.refl _ _) n), h2⟩, Below.drewN h.bel n, h.kt⟩
theorem Pt.drew {w W : World} {B g : Nat} {V V' : RV} {P : List PV} {R : RS} (h : Pt w B g V P R W V') (n : Nat) : Pt w B g V P R (W.drewN n) V' := ⟨h.rb.below (Below.drewN (Below.refl _ _) n), h.rt.drew n, h.rf⟩
theorem Pt.told {w W : World} {B g : Nat} {V V' : RV} {P : List PV} {R : RS} (h : Pt w B g V P R W V') {dg : Nat} {d : Do3} (hx : Box W dg (doC d) 45) {ta : Option Addr} {nt tc : Nat} (htv : V'.vt = .slice ta nt tc) (hnt : nt = R.Td.length) {R3 : RS} (h3 : R3.Td = R.Td) (wb : Bool) {W2 : World} (T : RTo W B g V' R3 P W2) (hc : W2.cell? ⟨g, 4, none⟩ = W.cell? ⟨g, 4, none⟩) :
    TwoCells g dg (.slice ta nt tc) d.wake W2 ∧ TwoCells g dg (.slice ta nt tc) d.wake (W2.alloc (.cells #[.bool wb] 4)) ∧ (W2.alloc (.cells #[.bool wb] 4)).ownsRow B 4 1 (.slice ta nt tc) nt (tdC R.Td) ∧ B ≤ W2.heap.size ∧
    ∀ v4 W4, W4.ownsRow B 4 1 v4 (nt + 1) (tdC R.Td ++ [.bool wb]) → (W2.alloc (.cells #[.bool wb] 4)).grownBy W4 (Value.ownBlock (.slice ta nt tc)) → (v4.ownBlock = Value.ownBlock (.slice ta nt tc) ∨ v4.ownBlock = some (W2.alloc (.cells #[.bool wb] 4)).heap.size) →
      TwoCells g dg (.slice ta nt tc) d.wake W4 ∧ W4.frozen? ⟨g, 4, none⟩ = false ∧ (∃ a n c, v4 = .slice a n c) ∧ (∃ V6, Pt w B g V P { R3 with Td := R.Td ++ [wb] } (W4.setCell ⟨g, 4, none⟩ v4) V6) ∧ Box (W4.setCell ⟨g, 4, none⟩ v4) dg (doC d) 45 := by
  obtain ⟨V2, P2⟩ := h.next T
  have e4 : V2.vt = .slice ta nt tc := by
    have h1 : W2.cell? ⟨g, 4, none⟩ = some V2.vt := P2.rb.box.cell 4
    have h2 : W.cell? ⟨g, 4, none⟩ = some V'.vt := h.rb.box.cell 4
    rw [hc, h2, htv] at h1
    injection h1 with h1
    exact h1.symm
  have x2 : Box W2 dg (doC d) 45 := T.kt dg _ _ hx trivial (h.rb.notMine hx)
  have xA := x2.alloc (.cells #[.bool wb] 4)
  have gA := P2.rb.box.alloc (.cells #[.bool wb] 4)
  have g4 : ∀ u, Box u g (rC V2 R3) 42 → u.cell? ⟨g, 4, none⟩ = some (.slice ta nt tc) := fun u hu => by rw [← e4]; exact hu.cell 4
  refine ⟨.of (g4 _ P2.rb.box) (x2.cell 1), .of (g4 _ gA) (xA.cell 1), ?_, P2.rb.hB, fun v4 W4 ho hg hw => ?_⟩
  · have := P2.rb.rt.alloc (.cells #[.bool wb] 4)
    rw [e4, h3, ← hnt] at this
    exact this
  · have ho' : W4.ownsRow B 4 1 v4 (R3.Td.length + 1) (tdC R3.Td ++ [.bool wb]) := by rw [h3, ← hnt]; exact ho
    obtain ⟨hR7, hF7, hT7, hbx7, hex⟩ := P2.rb.vtApp wb v4 W4 ho' (by rw [e4]; exact hg) (by rw [e4]; exact hw)
    have x4 : Box W4 dg (doC d) 45 := (hg.block dg xA.lt (fun e => P2.rb.notMine x2 (.inr (.inr (.inr (.inr (.inr (by rw [e4]; exact e.symm)))))))).trans xA
    rw [h3] at hT7
    exact ⟨.of (g4 _ hbx7) (x4.cell 1), hbx7.frozen 4, hex, P2.next hT7, x4.other g 4 v4 (x4.ne hbx7 (by decide))⟩
end Go.Proofs.Ytjhhncbadkpbaaa
