/-
  The document's own Pick: what its step leaves, plainly.
-/
import Derived.Test.YtjhhncbadkpbaaaRefLine
namespace Go.Proofs.Ytjhhncbadkpbaaa
open Go.RowKit
theorem RB.stat {w : World} {B g : Nat} {V : RV} {R : RS} {P : List PV} (h : RB w B g V R P) (i : Nat) (hi : i < R.St.length) : ∃ q c, w.cell? ⟨g, 1, none⟩ = some (.slice (some ⟨q, 0, none⟩) R.St.length c) ∧ w.cell? ⟨q, i, none⟩ = some (.int .i64 ((R.St[i] : Nat) : Int)) ∧ w.frozen? ⟨q, i, none⟩ = false ∧ V.vs.ownBlock = some q := by
  obtain ⟨q, c, e, y, f⟩ := ics_at h.rs rfl i hi
  exact ⟨q, c, by rw [← e]; exact h.box.cell 1, y, f, by rw [e]; rfl⟩
def RS.fin (R : RS) (i : Nat) (tell : Int) : RS :=
  if tell = 1 ∨ (tell = 2 ∧ R.wk = true) then { R with now := 0, St := R.St.set i 1, Ln := R.Ln ++ [i + 1] }
  else if tell = 2 then { R with now := 0, St := R.St.set i 2 } else { R with now := 0, St := R.St.set i 3 }
def RS.finSt (R : RS) (tell : Int) : Nat := if tell = 1 ∨ (tell = 2 ∧ R.wk = true) then 1 else if tell = 2 then 2 else 3
def RS.did (R : RS) (d : Do3) : RS := if d.wake = 0 then R else { (R.wake d.wake).1 with Td := R.Td ++ [(R.wake d.wake).2] }
/-- what was written last -/
structure Pt (w : World) (B g : Nat) (V : RV) (P : List PV) (R : RS) (W : World) (V' : RV) : Prop where
  rb : RB W B g V' R P
  rt : RTo w B g V R P W
  rf : ∀ k, RF g V' k → RF g V k ∨ w.heap.size ≤ k
theorem Pt.next {w W W' : World} {B g : Nat} {V V' : RV} {P : List PV} {R R' : RS} (h : Pt w B g V P R W V') (k : RTo W B g V' R' P W') : ∃ V'', Pt w B g V P R' W' V'' := by
  obtain ⟨V'', h1, h2⟩ := k.is
  refine ⟨V'', h1, RTo.trans h.rt h.rf k, fun q hq => ?_⟩
  rcases h2 q hq with e | e
  · exact h.rf q e
  · exact .inr (Nat.le_trans h.rt.bel.size e)
theorem Pt.now0 {w W : World} {B g : Nat} {V V' : RV} {P : List PV} {R : RS} (h : Pt w B g V P R W V') : ∃ V'', Pt w B g V P { R with now := 0 } (W.setCell ⟨g, 6, none⟩ (.int .i64 0)) V'' := h.next (h.rb.flag 6 (.int .i64 0) R.wk 0 rfl)
theorem Pt.st {w W : World} {B g : Nat} {V V' : RV} {P : List PV} {R : RS} (h : Pt w B g V P R W V') {q : Nat} (hq : V'.vs.ownBlock = some q) (i x : Nat) : ∃ V'', Pt w B g V P { R with St := R.St.set i x } (W.setCell ⟨q, i, none⟩ (.int .i64 (x : Int))) V'' := h.next (h.rb.vsSet hq i x)
/-- the line, one more in it -/
theorem Pt.line {w W : World} {B g : Nat} {V V' : RV} {P : List PV} {R : RS} (h : Pt w B g V P R W V') (y : Nat) : ∃ al nl cl, nl = R.Ln.length ∧ W.cell? ⟨g, 3, none⟩ = some (.slice al nl cl) ∧ (W.alloc (.cells #[.int .i64 (y : Int)] 3)).ownsRow B 3 1 (.slice al nl cl) nl (ics R.Ln) ∧ B ≤ W.heap.size ∧
    ∀ v' w4, w4.ownsRow B 3 1 v' (nl + 1) (ics R.Ln ++ [.int .i64 (y : Int)]) → (W.alloc (.cells #[.int .i64 (y : Int)] 3)).grownBy w4 (Value.ownBlock (.slice al nl cl)) → (v'.ownBlock = Value.ownBlock (.slice al nl cl) ∨ v'.ownBlock = some (W.alloc (.cells #[.int .i64 (y : Int)] 3)).heap.size) →
      w4.cell? ⟨g, 3, none⟩ = some (.slice al nl cl) ∧ w4.frozen? ⟨g, 3, none⟩ = false ∧ (∃ a n c, v' = .slice a n c) ∧ ∃ V'', Pt w B g V P { R with Ln := R.Ln ++ [y] } (w4.setCell ⟨g, 3, none⟩ v') V'' := by
  obtain ⟨al, cl, hvl⟩ := ownsRow_slice h.rb.rl
  refine ⟨al, R.Ln.length, cl, rfl, by rw [← hvl]; exact h.rb.box.cell 3, by rw [← hvl]; exact h.rb.rl.alloc _, h.rb.hB, fun v' w4 ho hg hw => ?_⟩
  obtain ⟨hR7, hF7, hT7, hbx7, hex⟩ := h.rb.vlApp y v' w4 ho (by rw [hvl]; exact hg) (by rw [hvl]; exact hw)
  exact ⟨by rw [← hvl]; exact hbx7.cell 3, hbx7.frozen 3, hex, h.next hT7⟩
end Go.Proofs.Ytjhhncbadkpbaaa
