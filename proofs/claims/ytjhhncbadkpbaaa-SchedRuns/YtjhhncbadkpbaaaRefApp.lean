/-
  The document's own scheduler: one more in a row.
-/
import Derived.Test.YtjhhncbadkpbaaaRefWake
namespace Go.Proofs.Ytjhhncbadkpbaaa
open Go.RowKit
theorem RB.vpApp {w : World} {B g : Nat} {V : RV} {R : RS} {P : List PV} (h : RB w B g V R P) (y : PV) (hy : DoRow w B y.la y.xs ∧ y.xs.length = y.ln) (v' : Value) (w4 : World) (ho : w4.ownsRow B 43 1 v' (P.length + 1) (psC P ++ [.slice y.la y.ln y.lc])) (hg : (w.alloc (.cells #[.slice y.la y.ln y.lc] 43)).grownBy w4 V.vp.ownBlock) (hw : v'.ownBlock = V.vp.ownBlock ∨ v'.ownBlock = some (w.alloc (.cells #[.slice y.la y.ln y.lc] 43)).heap.size) :
    RB (w4.setCell ⟨g, 0, none⟩ v') B g { V with vp := v' } R (P ++ [y]) ∧ (∀ k, RF g { V with vp := v' } k → RF g V k ∨ w.heap.size ≤ k) ∧ RTo w B g V R (P ++ [y]) (w4.setCell ⟨g, 0, none⟩ v') ∧ Box w4 g (rC V R) 42 ∧ ∃ a n c, v' = .slice a n c := by
  have hsz : (w.alloc (.cells #[.slice y.la y.ln y.lc] 43)).heap.size = w.heap.size + 1 := by simp
  have bA : Below w.heap.size w (w.alloc (.cells #[.slice y.la y.ln y.lc] 43)) := (Below.refl _ _).alloc (Nat.le_refl _) _
  have hA := h.below bA
  have ho4 : w4.ownsRow B 43 1 v' (P ++ [y]).length (psC (P ++ [y])) := by
    rw [List.length_append, psC, List.map_append]
    exact ho
  obtain ⟨hR, hbx, hkt, hbl, hF⟩ := hA.vp hg (P ++ [y]) ho4 (fun k hk => by
    rcases hw with h1 | h1
    · exact .inl (h1 ▸ hk)
    · rw [h1] at hk; cases hk; exact .inr (Nat.le_refl _)) (fun p hp => by
      have hold : ∀ k cs, Box w k cs 45 → Box w4 k cs 45 := fun k cs z => (hg.block k (z.alloc (.cells #[.slice y.la y.ln y.lc] 43)).lt (fun e => by obtain ⟨cs', hc⟩ := ownsRow_box hA.rp k e.symm; exact ((z.alloc (.cells #[.slice y.la y.ln y.lc] 43)).ne hc (by decide)) rfl)).trans (z.alloc (.cells #[.slice y.la y.ln y.lc] 43))
      have hb4 : Below B w w4 := (bA.mono h.hB).trans ((Below.refl B _).grown hg (by have := h.hB; rw [hsz]; omega) (fun k hk => (hA.rp.lt k hk).1))
      rcases List.mem_append.1 hp with h1 | h1
      · exact ⟨(h.pd p h1).1.keep hb4 hold, (h.pd p h1).2⟩
      · simp at h1; subst h1; exact ⟨hy.1.keep hb4 hold, hy.2⟩)
  obtain ⟨a', c', hv'⟩ := ownsRow_slice ho
  have hF' : ∀ k, RF g { V with vp := v' } k → RF g V k ∨ w.heap.size ≤ k := fun k hk => by
    rcases hF k hk with h1 | h1
    · exact .inl h1
    · exact .inr (by omega)
  exact ⟨hR, hF', ⟨⟨_, hR, hF'⟩, (bA.mono h.hB).trans hbl, KtF.trans' (KtF.of (Kt.below bA)) hkt (fun _ h => .inl h)⟩, hbx, a', _, c', hv'⟩
theorem RB.vsApp {w : World} {B g : Nat} {V : RV} {R : RS} {P : List PV} (h : RB w B g V R P) (y : Nat) (v' : Value) (w4 : World) (ho : w4.ownsRow B 3 1 v' (R.St.length + 1) (ics R.St ++ [.int .i64 (y : Int)])) (hg : (w.alloc (.cells #[.int .i64 (y : Int)] 3)).grownBy w4 V.vs.ownBlock) (hw : v'.ownBlock = V.vs.ownBlock ∨ v'.ownBlock = some (w.alloc (.cells #[.int .i64 (y : Int)] 3)).heap.size) :
    RB (w4.setCell ⟨g, 1, none⟩ v') B g { V with vs := v' } { R with St := R.St ++ [y] } P ∧ (∀ k, RF g { V with vs := v' } k → RF g V k ∨ w.heap.size ≤ k) ∧ RTo w B g V { R with St := R.St ++ [y] } P (w4.setCell ⟨g, 1, none⟩ v') ∧ Box w4 g (rC V R) 42 ∧ ∃ a n c, v' = .slice a n c := by
  have hsz : (w.alloc (.cells #[.int .i64 (y : Int)] 3)).heap.size = w.heap.size + 1 := by simp
  have bA : Below w.heap.size w (w.alloc (.cells #[.int .i64 (y : Int)] 3)) := (Below.refl _ _).alloc (Nat.le_refl _) _
  have hA := h.below bA
  have ho4 : w4.ownsRow B 3 1 v' (R.St ++ [y]).length (ics (R.St ++ [y])) := by
    rw [List.length_append, ics, List.map_append]
    exact ho
  obtain ⟨hR, hbx, hkt, hbl, hF⟩ := hA.vs hg (R.St ++ [y]) ho4 (fun k hk => by
    rcases hw with h1 | h1
    · exact .inl (h1 ▸ hk)
    · rw [h1] at hk; cases hk; exact .inr (Nat.le_refl _)) 
  obtain ⟨a', c', hv'⟩ := ownsRow_slice ho
  have hF' : ∀ k, RF g { V with vs := v' } k → RF g V k ∨ w.heap.size ≤ k := fun k hk => by
    rcases hF k hk with h1 | h1
    · exact .inl h1
    · exact .inr (by omega)
  exact ⟨hR, hF', ⟨⟨_, hR, hF'⟩, (bA.mono h.hB).trans hbl, KtF.trans' (KtF.of (Kt.below bA)) hkt (fun _ h => .inl h)⟩, hbx, a', _, c', hv'⟩
theorem RB.vnApp {w : World} {B g : Nat} {V : RV} {R : RS} {P : List PV} (h : RB w B g V R P) (y : Nat) (v' : Value) (w4 : World) (ho : w4.ownsRow B 3 1 v' (R.Sp.length + 1) (ics R.Sp ++ [.int .i64 (y : Int)])) (hg : (w.alloc (.cells #[.int .i64 (y : Int)] 3)).grownBy w4 V.vn.ownBlock) (hw : v'.ownBlock = V.vn.ownBlock ∨ v'.ownBlock = some (w.alloc (.cells #[.int .i64 (y : Int)] 3)).heap.size) :
    RB (w4.setCell ⟨g, 2, none⟩ v') B g { V with vn := v' } { R with Sp := R.Sp ++ [y] } P ∧ (∀ k, RF g { V with vn := v' } k → RF g V k ∨ w.heap.size ≤ k) ∧ RTo w B g V { R with Sp := R.Sp ++ [y] } P (w4.setCell ⟨g, 2, none⟩ v') ∧ Box w4 g (rC V R) 42 ∧ ∃ a n c, v' = .slice a n c := by
  have hsz : (w.alloc (.cells #[.int .i64 (y : Int)] 3)).heap.size = w.heap.size + 1 := by simp
  have bA : Below w.heap.size w (w.alloc (.cells #[.int .i64 (y : Int)] 3)) := (Below.refl _ _).alloc (Nat.le_refl _) _
  have hA := h.below bA
  have ho4 : w4.ownsRow B 3 1 v' (R.Sp ++ [y]).length (ics (R.Sp ++ [y])) := by
    rw [List.length_append, ics, List.map_append]
    exact ho
  obtain ⟨hR, hbx, hkt, hbl, hF⟩ := hA.vn hg (R.Sp ++ [y]) ho4 (fun k hk => by
    rcases hw with h1 | h1
    · exact .inl (h1 ▸ hk)
    · rw [h1] at hk; cases hk; exact .inr (Nat.le_refl _)) 
  obtain ⟨a', c', hv'⟩ := ownsRow_slice ho
  have hF' : ∀ k, RF g { V with vn := v' } k → RF g V k ∨ w.heap.size ≤ k := fun k hk => by
    rcases hF k hk with h1 | h1
    · exact .inl h1
    · exact .inr (by omega)
  exact ⟨hR, hF', ⟨⟨_, hR, hF'⟩, (bA.mono h.hB).trans hbl, KtF.trans' (KtF.of (Kt.below bA)) hkt (fun _ h => .inl h)⟩, hbx, a', _, c', hv'⟩
theorem RB.vlApp {w : World} {B g : Nat} {V : RV} {R : RS} {P : List PV} (h : RB w B g V R P) (y : Nat) (v' : Value) (w4 : World) (ho : w4.ownsRow B 3 1 v' (R.Ln.length + 1) (ics R.Ln ++ [.int .i64 (y : Int)])) (hg : (w.alloc (.cells #[.int .i64 (y : Int)] 3)).grownBy w4 V.vl.ownBlock) (hw : v'.ownBlock = V.vl.ownBlock ∨ v'.ownBlock = some (w.alloc (.cells #[.int .i64 (y : Int)] 3)).heap.size) :
    RB (w4.setCell ⟨g, 3, none⟩ v') B g { V with vl := v' } { R with Ln := R.Ln ++ [y] } P ∧ (∀ k, RF g { V with vl := v' } k → RF g V k ∨ w.heap.size ≤ k) ∧ RTo w B g V { R with Ln := R.Ln ++ [y] } P (w4.setCell ⟨g, 3, none⟩ v') ∧ Box w4 g (rC V R) 42 ∧ ∃ a n c, v' = .slice a n c := by
  have hsz : (w.alloc (.cells #[.int .i64 (y : Int)] 3)).heap.size = w.heap.size + 1 := by simp
  have bA : Below w.heap.size w (w.alloc (.cells #[.int .i64 (y : Int)] 3)) := (Below.refl _ _).alloc (Nat.le_refl _) _
  have hA := h.below bA
  have ho4 : w4.ownsRow B 3 1 v' (R.Ln ++ [y]).length (ics (R.Ln ++ [y])) := by
    rw [List.length_append, ics, List.map_append]
    exact ho
  obtain ⟨hR, hbx, hkt, hbl, hF⟩ := hA.vl hg (R.Ln ++ [y]) ho4 (fun k hk => by
    rcases hw with h1 | h1
    · exact .inl (h1 ▸ hk)
    · rw [h1] at hk; cases hk; exact .inr (Nat.le_refl _)) 
  obtain ⟨a', c', hv'⟩ := ownsRow_slice ho
  have hF' : ∀ k, RF g { V with vl := v' } k → RF g V k ∨ w.heap.size ≤ k := fun k hk => by
    rcases hF k hk with h1 | h1
    · exact .inl h1
    · exact .inr (by omega)
  exact ⟨hR, hF', ⟨⟨_, hR, hF'⟩, (bA.mono h.hB).trans hbl, KtF.trans' (KtF.of (Kt.below bA)) hkt (fun _ h => .inl h)⟩, hbx, a', _, c', hv'⟩
theorem RB.vtApp {w : World} {B g : Nat} {V : RV} {R : RS} {P : List PV} (h : RB w B g V R P) (y : Bool) (v' : Value) (w4 : World) (ho : w4.ownsRow B 4 1 v' (R.Td.length + 1) (tdC R.Td ++ [.bool y])) (hg : (w.alloc (.cells #[.bool y] 4)).grownBy w4 V.vt.ownBlock) (hw : v'.ownBlock = V.vt.ownBlock ∨ v'.ownBlock = some (w.alloc (.cells #[.bool y] 4)).heap.size) :
    RB (w4.setCell ⟨g, 4, none⟩ v') B g { V with vt := v' } { R with Td := R.Td ++ [y] } P ∧ (∀ k, RF g { V with vt := v' } k → RF g V k ∨ w.heap.size ≤ k) ∧ RTo w B g V { R with Td := R.Td ++ [y] } P (w4.setCell ⟨g, 4, none⟩ v') ∧ Box w4 g (rC V R) 42 ∧ ∃ a n c, v' = .slice a n c := by
  have hsz : (w.alloc (.cells #[.bool y] 4)).heap.size = w.heap.size + 1 := by simp
  have bA : Below w.heap.size w (w.alloc (.cells #[.bool y] 4)) := (Below.refl _ _).alloc (Nat.le_refl _) _
  have hA := h.below bA
  have ho4 : w4.ownsRow B 4 1 v' (R.Td ++ [y]).length (tdC (R.Td ++ [y])) := by
    rw [List.length_append, tdC, List.map_append]
    exact ho
  obtain ⟨hR, hbx, hkt, hbl, hF⟩ := hA.vt hg (R.Td ++ [y]) ho4 (fun k hk => by
    rcases hw with h1 | h1
    · exact .inl (h1 ▸ hk)
    · rw [h1] at hk; cases hk; exact .inr (Nat.le_refl _)) 
  obtain ⟨a', c', hv'⟩ := ownsRow_slice ho
  have hF' : ∀ k, RF g { V with vt := v' } k → RF g V k ∨ w.heap.size ≤ k := fun k hk => by
    rcases hF k hk with h1 | h1
    · exact .inl h1
    · exact .inr (by omega)
  exact ⟨hR, hF', ⟨⟨_, hR, hF'⟩, (bA.mono h.hB).trans hbl, KtF.trans' (KtF.of (Kt.below bA)) hkt (fun _ h => .inl h)⟩, hbx, a', _, c', hv'⟩
end Go.Proofs.Ytjhhncbadkpbaaa
