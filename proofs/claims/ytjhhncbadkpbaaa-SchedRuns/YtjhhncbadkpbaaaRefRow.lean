/-
  The document's own scheduler: a row of it is another one.
-/
import Derived.Test.YtjhhncbadkpbaaaRef
namespace Go.Proofs.Ytjhhncbadkpbaaa
open Go.RowKit
def tdC (l : List Bool) : List Value := l.map Value.bool
theorem RB.vp {w w1 : World} {B g : Nat} {V : RV} {R : RS} {P : List PV} (h : RB w B g V R P) (hg : w.grownBy w1 V.vp.ownBlock) {v : Value} (P' : List PV) (ho : w1.ownsRow B 43 1 v P'.length (psC P')) (hv : ∀ k, v.ownBlock = some k → V.vp.ownBlock = some k ∨ w.heap.size ≤ k) (hP : ∀ p ∈ P', DoRow w1 B p.la p.xs ∧ p.xs.length = p.ln) :
    RB (w1.setCell ⟨g, 0, none⟩ v) B g { V with vp := v } R P' ∧ Box w1 g (rC V R) 42 ∧ KtF (RF g V) (fun _ => True) w (w1.setCell ⟨g, 0, none⟩ v) ∧ Below B w (w1.setCell ⟨g, 0, none⟩ v) ∧ ∀ k, RF g { V with vp := v } k → RF g V k ∨ w.heap.size ≤ k := by
  have hbx : Box w1 g (rC V R) 42 := (hg.block g h.box.lt (fun e => by obtain ⟨cs, hc⟩ := ownsRow_box h.rp g e.symm; exact (h.box.ne hc (by decide)) rfl)).trans h.box
  have hk : Kt (fun t => t ≠ 42) w1 (w1.setCell ⟨g, 0, none⟩ v) := (Kt.refl _ _).setCell hbx (by simp) 0 v
  have hbel : Below B w (w1.setCell ⟨g, 0, none⟩ v) := ((Below.refl B w).grown hg h.hB (fun k hk => (h.rp.lt k hk).1)).setCell (p := ⟨g, 0, none⟩) h.hg v
  refine ⟨⟨h.hg, hbx.store 0 v, ownsRow_kt ho hk (by decide), ownsRow_kt (ownsRow_grown h.rs hg (fun k hk e => by obtain ⟨cs, hc⟩ := ownsRow_box h.rp k e; obtain ⟨cs', hc'⟩ := ownsRow_box h.rs k hk; exact (hc.ne hc' (by decide)) rfl)) hk (by decide), ownsRow_kt (ownsRow_grown h.rn hg (fun k hk e => by obtain ⟨cs, hc⟩ := ownsRow_box h.rp k e; obtain ⟨cs', hc'⟩ := ownsRow_box h.rn k hk; exact (hc.ne hc' (by decide)) rfl)) hk (by decide), ownsRow_kt (ownsRow_grown h.rl hg (fun k hk e => by obtain ⟨cs, hc⟩ := ownsRow_box h.rp k e; obtain ⟨cs', hc'⟩ := ownsRow_box h.rl k hk; exact (hc.ne hc' (by decide)) rfl)) hk (by decide), ownsRow_kt (ownsRow_grown h.rt hg (fun k hk e => by obtain ⟨cs, hc⟩ := ownsRow_box h.rp k e; obtain ⟨cs', hc'⟩ := ownsRow_box h.rt k hk; exact (hc.ne hc' (by decide)) rfl)) hk (by decide), h.sn, h.sl, h.nl, fun p hp => ⟨(hP p hp).1.keep ((Below.refl B w1).setCell (p := ⟨g, 0, none⟩) h.hg v) (fun k cs y => hk k cs 45 y (by decide)), (hP p hp).2⟩⟩, hbx, ?_, hbel, ?_⟩
  · exact KtF.setCell (KtF.grown (KtF.refl _ _ _) hg (fun k hk => .inr (.inl hk))) g 0 v (.inl rfl)
  · rintro k (rfl | h1 | h1 | h1 | h1 | h1)
    · exact .inl (.inl rfl)
    · rcases hv k h1 with h2 | h2
      · exact .inl (.inr (.inl h2))
      · exact .inr h2
    · exact .inl (.inr (.inr (.inl h1)))
    · exact .inl (.inr (.inr (.inr (.inl h1))))
    · exact .inl (.inr (.inr (.inr (.inr (.inl h1)))))
    · exact .inl (.inr (.inr (.inr (.inr (.inr h1)))))
theorem RB.vs {w w1 : World} {B g : Nat} {V : RV} {R : RS} {P : List PV} (h : RB w B g V R P) (hg : w.grownBy w1 V.vs.ownBlock) {v : Value} (l : List Nat) (ho : w1.ownsRow B 3 1 v l.length (ics l)) (hv : ∀ k, v.ownBlock = some k → V.vs.ownBlock = some k ∨ w.heap.size ≤ k) :
    RB (w1.setCell ⟨g, 1, none⟩ v) B g { V with vs := v } { R with St := l } P ∧ Box w1 g (rC V R) 42 ∧ KtF (RF g V) (fun _ => True) w (w1.setCell ⟨g, 1, none⟩ v) ∧ Below B w (w1.setCell ⟨g, 1, none⟩ v) ∧ ∀ k, RF g { V with vs := v } k → RF g V k ∨ w.heap.size ≤ k := by
  have hbx : Box w1 g (rC V R) 42 := (hg.block g h.box.lt (fun e => by obtain ⟨cs, hc⟩ := ownsRow_box h.rs g e.symm; exact (h.box.ne hc (by decide)) rfl)).trans h.box
  have hk : Kt (fun t => t ≠ 42) w1 (w1.setCell ⟨g, 1, none⟩ v) := (Kt.refl _ _).setCell hbx (by simp) 1 v
  have hbel : Below B w (w1.setCell ⟨g, 1, none⟩ v) := ((Below.refl B w).grown hg h.hB (fun k hk => (h.rs.lt k hk).1)).setCell (p := ⟨g, 1, none⟩) h.hg v
  refine ⟨⟨h.hg, hbx.store 1 v, ownsRow_kt (ownsRow_grown h.rp hg (fun k hk e => by obtain ⟨cs, hc⟩ := ownsRow_box h.rs k e; obtain ⟨cs', hc'⟩ := ownsRow_box h.rp k hk; exact (hc.ne hc' (by decide)) rfl)) hk (by decide), ownsRow_kt ho hk (by decide), ownsRow_kt (ownsRow_grown h.rn hg (fun k hk e => h.sn k e hk)) hk (by decide), ownsRow_kt (ownsRow_grown h.rl hg (fun k hk e => h.sl k e hk)) hk (by decide), ownsRow_kt (ownsRow_grown h.rt hg (fun k hk e => by obtain ⟨cs, hc⟩ := ownsRow_box h.rs k e; obtain ⟨cs', hc'⟩ := ownsRow_box h.rt k hk; exact (hc.ne hc' (by decide)) rfl)) hk (by decide), fun k hk e => (hv k hk).elim (fun h1 => h.sn k h1 e) (fun h1 => by have := (h.rn.lt k e).2; omega), fun k hk e => (hv k hk).elim (fun h1 => h.sl k h1 e) (fun h1 => by have := (h.rl.lt k e).2; omega), h.nl, fun p hp => ⟨(h.pd p hp).1.keep hbel (fun k cs y => hk k cs 45 ((hg.block k y.lt (fun e => by obtain ⟨cs', hc⟩ := ownsRow_box h.rs k e.symm; exact (y.ne hc (by decide)) rfl)).trans y) (by decide)), (h.pd p hp).2⟩⟩, hbx, ?_, hbel, ?_⟩
  · exact KtF.setCell (KtF.grown (KtF.refl _ _ _) hg (fun k hk => .inr (.inr (.inl hk)))) g 1 v (.inl rfl)
  · rintro k (rfl | h1 | h1 | h1 | h1 | h1)
    · exact .inl (.inl rfl)
    · exact .inl (.inr (.inl h1))
    · rcases hv k h1 with h2 | h2
      · exact .inl (.inr (.inr (.inl h2)))
      · exact .inr h2
    · exact .inl (.inr (.inr (.inr (.inl h1))))
    · exact .inl (.inr (.inr (.inr (.inr (.inl h1)))))
    · exact .inl (.inr (.inr (.inr (.inr (.inr h1)))))
theorem RB.vn {w w1 : World} {B g : Nat} {V : RV} {R : RS} {P : List PV} (h : RB w B g V R P) (hg : w.grownBy w1 V.vn.ownBlock) {v : Value} (l : List Nat) (ho : w1.ownsRow B 3 1 v l.length (ics l)) (hv : ∀ k, v.ownBlock = some k → V.vn.ownBlock = some k ∨ w.heap.size ≤ k) :
    RB (w1.setCell ⟨g, 2, none⟩ v) B g { V with vn := v } { R with Sp := l } P ∧ Box w1 g (rC V R) 42 ∧ KtF (RF g V) (fun _ => True) w (w1.setCell ⟨g, 2, none⟩ v) ∧ Below B w (w1.setCell ⟨g, 2, none⟩ v) ∧ ∀ k, RF g { V with vn := v } k → RF g V k ∨ w.heap.size ≤ k := by
  have hbx : Box w1 g (rC V R) 42 := (hg.block g h.box.lt (fun e => by obtain ⟨cs, hc⟩ := ownsRow_box h.rn g e.symm; exact (h.box.ne hc (by decide)) rfl)).trans h.box
  have hk : Kt (fun t => t ≠ 42) w1 (w1.setCell ⟨g, 2, none⟩ v) := (Kt.refl _ _).setCell hbx (by simp) 2 v
  have hbel : Below B w (w1.setCell ⟨g, 2, none⟩ v) := ((Below.refl B w).grown hg h.hB (fun k hk => (h.rn.lt k hk).1)).setCell (p := ⟨g, 2, none⟩) h.hg v
  refine ⟨⟨h.hg, hbx.store 2 v, ownsRow_kt (ownsRow_grown h.rp hg (fun k hk e => by obtain ⟨cs, hc⟩ := ownsRow_box h.rn k e; obtain ⟨cs', hc'⟩ := ownsRow_box h.rp k hk; exact (hc.ne hc' (by decide)) rfl)) hk (by decide), ownsRow_kt (ownsRow_grown h.rs hg (fun k hk e => h.sn k hk e)) hk (by decide), ownsRow_kt ho hk (by decide), ownsRow_kt (ownsRow_grown h.rl hg (fun k hk e => h.nl k e hk)) hk (by decide), ownsRow_kt (ownsRow_grown h.rt hg (fun k hk e => by obtain ⟨cs, hc⟩ := ownsRow_box h.rn k e; obtain ⟨cs', hc'⟩ := ownsRow_box h.rt k hk; exact (hc.ne hc' (by decide)) rfl)) hk (by decide), fun k hk e => (hv k e).elim (fun h1 => h.sn k hk h1) (fun h1 => by have := (h.rs.lt k hk).2; omega), h.sl, fun k hk e => (hv k hk).elim (fun h1 => h.nl k h1 e) (fun h1 => by have := (h.rl.lt k e).2; omega), fun p hp => ⟨(h.pd p hp).1.keep hbel (fun k cs y => hk k cs 45 ((hg.block k y.lt (fun e => by obtain ⟨cs', hc⟩ := ownsRow_box h.rn k e.symm; exact (y.ne hc (by decide)) rfl)).trans y) (by decide)), (h.pd p hp).2⟩⟩, hbx, ?_, hbel, ?_⟩
  · exact KtF.setCell (KtF.grown (KtF.refl _ _ _) hg (fun k hk => .inr (.inr (.inr (.inl hk))))) g 2 v (.inl rfl)
  · rintro k (rfl | h1 | h1 | h1 | h1 | h1)
    · exact .inl (.inl rfl)
    · exact .inl (.inr (.inl h1))
    · exact .inl (.inr (.inr (.inl h1)))
    · rcases hv k h1 with h2 | h2
      · exact .inl (.inr (.inr (.inr (.inl h2))))
      · exact .inr h2
    · exact .inl (.inr (.inr (.inr (.inr (.inl h1)))))
    · exact .inl (.inr (.inr (.inr (.inr (.inr h1)))))
theorem RB.vl {w w1 : World} {B g : Nat} {V : RV} {R : RS} {P : List PV} (h : RB w B g V R P) (hg : w.grownBy w1 V.vl.ownBlock) {v : Value} (l : List Nat) (ho : w1.ownsRow B 3 1 v l.length (ics l)) (hv : ∀ k, v.ownBlock = some k → V.vl.ownBlock = some k ∨ w.heap.size ≤ k) :
    RB (w1.setCell ⟨g, 3, none⟩ v) B g { V with vl := v } { R with Ln := l } P ∧ Box w1 g (rC V R) 42 ∧ KtF (RF g V) (fun _ => True) w (w1.setCell ⟨g, 3, none⟩ v) ∧ Below B w (w1.setCell ⟨g, 3, none⟩ v) ∧ ∀ k, RF g { V with vl := v } k → RF g V k ∨ w.heap.size ≤ k := by
  have hbx : Box w1 g (rC V R) 42 := (hg.block g h.box.lt (fun e => by obtain ⟨cs, hc⟩ := ownsRow_box h.rl g e.symm; exact (h.box.ne hc (by decide)) rfl)).trans h.box
  have hk : Kt (fun t => t ≠ 42) w1 (w1.setCell ⟨g, 3, none⟩ v) := (Kt.refl _ _).setCell hbx (by simp) 3 v
  have hbel : Below B w (w1.setCell ⟨g, 3, none⟩ v) := ((Below.refl B w).grown hg h.hB (fun k hk => (h.rl.lt k hk).1)).setCell (p := ⟨g, 3, none⟩) h.hg v
  refine ⟨⟨h.hg, hbx.store 3 v, ownsRow_kt (ownsRow_grown h.rp hg (fun k hk e => by obtain ⟨cs, hc⟩ := ownsRow_box h.rl k e; obtain ⟨cs', hc'⟩ := ownsRow_box h.rp k hk; exact (hc.ne hc' (by decide)) rfl)) hk (by decide), ownsRow_kt (ownsRow_grown h.rs hg (fun k hk e => h.sl k hk e)) hk (by decide), ownsRow_kt (ownsRow_grown h.rn hg (fun k hk e => h.nl k hk e)) hk (by decide), ownsRow_kt ho hk (by decide), ownsRow_kt (ownsRow_grown h.rt hg (fun k hk e => by obtain ⟨cs, hc⟩ := ownsRow_box h.rl k e; obtain ⟨cs', hc'⟩ := ownsRow_box h.rt k hk; exact (hc.ne hc' (by decide)) rfl)) hk (by decide), h.sn, fun k hk e => (hv k e).elim (fun h1 => h.sl k hk h1) (fun h1 => by have := (h.rs.lt k hk).2; omega), fun k hk e => (hv k e).elim (fun h1 => h.nl k hk h1) (fun h1 => by have := (h.rn.lt k hk).2; omega), fun p hp => ⟨(h.pd p hp).1.keep hbel (fun k cs y => hk k cs 45 ((hg.block k y.lt (fun e => by obtain ⟨cs', hc⟩ := ownsRow_box h.rl k e.symm; exact (y.ne hc (by decide)) rfl)).trans y) (by decide)), (h.pd p hp).2⟩⟩, hbx, ?_, hbel, ?_⟩
  · exact KtF.setCell (KtF.grown (KtF.refl _ _ _) hg (fun k hk => .inr (.inr (.inr (.inr (.inl hk)))))) g 3 v (.inl rfl)
  · rintro k (rfl | h1 | h1 | h1 | h1 | h1)
    · exact .inl (.inl rfl)
    · exact .inl (.inr (.inl h1))
    · exact .inl (.inr (.inr (.inl h1)))
    · exact .inl (.inr (.inr (.inr (.inl h1))))
    · rcases hv k h1 with h2 | h2
      · exact .inl (.inr (.inr (.inr (.inr (.inl h2)))))
      · exact .inr h2
    · exact .inl (.inr (.inr (.inr (.inr (.inr h1)))))
theorem RB.vt {w w1 : World} {B g : Nat} {V : RV} {R : RS} {P : List PV} (h : RB w B g V R P) (hg : w.grownBy w1 V.vt.ownBlock) {v : Value} (l : List Bool) (ho : w1.ownsRow B 4 1 v l.length (tdC l)) (hv : ∀ k, v.ownBlock = some k → V.vt.ownBlock = some k ∨ w.heap.size ≤ k) :
    RB (w1.setCell ⟨g, 4, none⟩ v) B g { V with vt := v } { R with Td := l } P ∧ Box w1 g (rC V R) 42 ∧ KtF (RF g V) (fun _ => True) w (w1.setCell ⟨g, 4, none⟩ v) ∧ Below B w (w1.setCell ⟨g, 4, none⟩ v) ∧ ∀ k, RF g { V with vt := v } k → RF g V k ∨ w.heap.size ≤ k := by
  have hbx : Box w1 g (rC V R) 42 := (hg.block g h.box.lt (fun e => by obtain ⟨cs, hc⟩ := ownsRow_box h.rt g e.symm; exact (h.box.ne hc (by decide)) rfl)).trans h.box
  have hk : Kt (fun t => t ≠ 42) w1 (w1.setCell ⟨g, 4, none⟩ v) := (Kt.refl _ _).setCell hbx (by simp) 4 v
  have hbel : Below B w (w1.setCell ⟨g, 4, none⟩ v) := ((Below.refl B w).grown hg h.hB (fun k hk => (h.rt.lt k hk).1)).setCell (p := ⟨g, 4, none⟩) h.hg v
  refine ⟨⟨h.hg, hbx.store 4 v, ownsRow_kt (ownsRow_grown h.rp hg (fun k hk e => by obtain ⟨cs, hc⟩ := ownsRow_box h.rt k e; obtain ⟨cs', hc'⟩ := ownsRow_box h.rp k hk; exact (hc.ne hc' (by decide)) rfl)) hk (by decide), ownsRow_kt (ownsRow_grown h.rs hg (fun k hk e => by obtain ⟨cs, hc⟩ := ownsRow_box h.rt k e; obtain ⟨cs', hc'⟩ := ownsRow_box h.rs k hk; exact (hc.ne hc' (by decide)) rfl)) hk (by decide), ownsRow_kt (ownsRow_grown h.rn hg (fun k hk e => by obtain ⟨cs, hc⟩ := ownsRow_box h.rt k e; obtain ⟨cs', hc'⟩ := ownsRow_box h.rn k hk; exact (hc.ne hc' (by decide)) rfl)) hk (by decide), ownsRow_kt (ownsRow_grown h.rl hg (fun k hk e => by obtain ⟨cs, hc⟩ := ownsRow_box h.rt k e; obtain ⟨cs', hc'⟩ := ownsRow_box h.rl k hk; exact (hc.ne hc' (by decide)) rfl)) hk (by decide), ownsRow_kt ho hk (by decide), h.sn, h.sl, h.nl, fun p hp => ⟨(h.pd p hp).1.keep hbel (fun k cs y => hk k cs 45 ((hg.block k y.lt (fun e => by obtain ⟨cs', hc⟩ := ownsRow_box h.rt k e.symm; exact (y.ne hc (by decide)) rfl)).trans y) (by decide)), (h.pd p hp).2⟩⟩, hbx, ?_, hbel, ?_⟩
  · exact KtF.setCell (KtF.grown (KtF.refl _ _ _) hg (fun k hk => .inr (.inr (.inr (.inr (.inr hk)))))) g 4 v (.inl rfl)
  · rintro k (rfl | h1 | h1 | h1 | h1 | h1)
    · exact .inl (.inl rfl)
    · exact .inl (.inr (.inl h1))
    · exact .inl (.inr (.inr (.inl h1)))
    · exact .inl (.inr (.inr (.inr (.inl h1))))
    · exact .inl (.inr (.inr (.inr (.inr (.inl h1)))))
    · rcases hv k h1 with h2 | h2
      · exact .inl (.inr (.inr (.inr (.inr (.inr h2)))))
      · exact .inr h2
theorem RB.vsSet {w : World} {B g : Nat} {V : RV} {R : RS} {P : List PV} (h : RB w B g V R P) {q : Nat} (hb : V.vs.ownBlock = some q) (j x : Nat) :
    RTo w B g V { R with St := R.St.set j x } P (w.setCell ⟨q, j, none⟩ (.int .i64 (x : Int))) := by
  obtain ⟨cq, xq⟩ := ownsRow_box h.rs q hb
  have hbel : Below B w (w.setCell ⟨q, j, none⟩ (.int .i64 (x : Int))) := (Below.refl _ _).setCell (p := ⟨q, j, none⟩) (h.rs.lt q hb).1 _
  refine ⟨⟨V, ⟨h.hg, h.box.other q j _ (h.box.ne xq (by decide)), ownsRow_grown h.rp (grown_store w q j _) (fun k hk e => by obtain ⟨cs, hc⟩ := ownsRow_box h.rs k (by rw [hb]; exact e); obtain ⟨cs', hc'⟩ := ownsRow_box h.rp k hk; exact (hc.ne hc' (by decide)) rfl), by simpa using ics_set h.rs hb j x, ownsRow_grown h.rn (grown_store w q j _) (fun k hk e => h.sn k (by rw [hb]; exact e) hk), ownsRow_grown h.rl (grown_store w q j _) (fun k hk e => h.sl k (by rw [hb]; exact e) hk), ownsRow_grown h.rt (grown_store w q j _) (fun k hk e => by obtain ⟨cs, hc⟩ := ownsRow_box h.rs k (by rw [hb]; exact e); obtain ⟨cs', hc'⟩ := ownsRow_box h.rt k hk; exact (hc.ne hc' (by decide)) rfl), h.sn, h.sl, h.nl, fun p hp => ⟨(h.pd p hp).1.keep hbel (fun k cs y => y.other q j _ (y.ne xq (by decide))), (h.pd p hp).2⟩⟩, fun _ hk => .inl hk⟩, hbel, KtF.setCell (KtF.refl _ _ _) q j _ (.inr (.inr (.inl hb)))⟩
theorem RB.vnSet {w : World} {B g : Nat} {V : RV} {R : RS} {P : List PV} (h : RB w B g V R P) {q : Nat} (hb : V.vn.ownBlock = some q) (j x : Nat) :
    RTo w B g V { R with Sp := R.Sp.set j x } P (w.setCell ⟨q, j, none⟩ (.int .i64 (x : Int))) := by
  obtain ⟨cq, xq⟩ := ownsRow_box h.rn q hb
  have hbel : Below B w (w.setCell ⟨q, j, none⟩ (.int .i64 (x : Int))) := (Below.refl _ _).setCell (p := ⟨q, j, none⟩) (h.rn.lt q hb).1 _
  refine ⟨⟨V, ⟨h.hg, h.box.other q j _ (h.box.ne xq (by decide)), ownsRow_grown h.rp (grown_store w q j _) (fun k hk e => by obtain ⟨cs, hc⟩ := ownsRow_box h.rn k (by rw [hb]; exact e); obtain ⟨cs', hc'⟩ := ownsRow_box h.rp k hk; exact (hc.ne hc' (by decide)) rfl), ownsRow_grown h.rs (grown_store w q j _) (fun k hk e => h.sn k hk (by rw [hb]; exact e)), by simpa using ics_set h.rn hb j x, ownsRow_grown h.rl (grown_store w q j _) (fun k hk e => h.nl k (by rw [hb]; exact e) hk), ownsRow_grown h.rt (grown_store w q j _) (fun k hk e => by obtain ⟨cs, hc⟩ := ownsRow_box h.rn k (by rw [hb]; exact e); obtain ⟨cs', hc'⟩ := ownsRow_box h.rt k hk; exact (hc.ne hc' (by decide)) rfl), h.sn, h.sl, h.nl, fun p hp => ⟨(h.pd p hp).1.keep hbel (fun k cs y => y.other q j _ (y.ne xq (by decide))), (h.pd p hp).2⟩⟩, fun _ hk => .inl hk⟩, hbel, KtF.setCell (KtF.refl _ _ _) q j _ (.inr (.inr (.inr (.inl hb))))⟩
theorem RB.flag {w : World} {B g : Nat} {V : RV} {R : RS} {P : List PV} (h : RB w B g V R P) (j : Nat) (v : Value) (wk' : Bool) (now' : Nat) (e : (rC V R).setIfInBounds j v = rC V { R with wk := wk', now := now' }) : RTo w B g V { R with wk := wk', now := now' } P (w.setCell ⟨g, j, none⟩ v) := by
  have hk : Kt (fun t => t ≠ 42) w (w.setCell ⟨g, j, none⟩ v) := (Kt.refl _ _).setCell h.box (by simp) j v
  have hb := h.box.store j v
  rw [e] at hb
  have hbel : Below B w (w.setCell ⟨g, j, none⟩ v) := (Below.refl _ _).setCell (p := ⟨g, j, none⟩) h.hg _
  exact ⟨⟨V, ⟨h.hg, hb, ownsRow_kt h.rp hk (by decide), ownsRow_kt h.rs hk (by decide), ownsRow_kt h.rn hk (by decide), ownsRow_kt h.rl hk (by decide), ownsRow_kt h.rt hk (by decide), h.sn, h.sl, h.nl, fun p hp => ⟨(h.pd p hp).1.keep hbel (fun k cs y => hk k cs 45 y (by decide)), (h.pd p hp).2⟩⟩, fun _ hk => .inl hk⟩, hbel, KtF.setCell (KtF.refl _ _ _) g j _ (.inl rfl)⟩
theorem KtF.trans' {F F' : Nat → Prop} {a b c : World} (h : KtF F (fun _ => True) a b) (k : KtF F' (fun _ => True) b c) (hF : ∀ i, F' i → F i ∨ a.heap.size ≤ i) : KtF F (fun _ => True) a c := fun i cs t x hp hn => k i cs t (h i cs t x hp hn) hp (fun e => by
  rcases hF i e with h1 | h1
  · exact hn h1
  · have := x.lt; omega)
theorem RTo.trans {w w1 w2 : World} {B g : Nat} {V V1 : RV} {R1 R2 : RS} {P1 P2 : List PV} (h : RTo w B g V R1 P1 w1) (hV : ∀ k, RF g V1 k → RF g V k ∨ w.heap.size ≤ k) (k : RTo w1 B g V1 R2 P2 w2) : RTo w B g V R2 P2 w2 := by
  obtain ⟨V2, h2, h3⟩ := k.is
  refine ⟨⟨V2, h2, fun q hq => ?_⟩, h.bel.trans k.bel, h.kt.trans' k.kt hV⟩
  rcases h3 q hq with h4 | h4
  · exact hV q h4
  · exact .inr (Nat.le_trans h.bel.size h4)
end Go.Proofs.Ytjhhncbadkpbaaa
