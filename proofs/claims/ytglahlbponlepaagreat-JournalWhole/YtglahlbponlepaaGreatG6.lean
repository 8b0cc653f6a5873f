/-
  JOpen, DkLoads, DkPower, DkMake, DkCarry, DkAll, DkFlush, JFlush, RgRing, RgAsk, RgClos, RgCalls, RgPut, JApp, JAppF, DkCrash: put together.
-/
import Derived.Test.YtglahlbponlepaaGreatG5
import Derived.WalkKit
import Derived.Orders
import Derived.RegionTactic
import Derived.Test.YtglahlbponlepaaGreatRows
import Derived.WalkSpells
import Derived.WalkLawsBesides
import Derived.Laws.BytesArg
import Derived.ProofKit
import Derived.Laws.StructEq
import Derived.BigQuiet
import Derived.Deep.RegionWith
import Derived.Deep.Cut
/-
  Open: of a disk, its own layout and numbers in bounds.
-/
namespace Go.Proofs.YtglahlbponlepaaGreat.J
open Go.RowKit
open Go.Proofs.YtglahlbponlepaaGreat.Dk (Box)

/-- a journal that was opened just now -/
def opened (n : Nat) (e s t : Int) : JS := ⟨2, e, s, s - 1, La.lgs n, t, 0, 0, false⟩

theorem neq40 (u : World) (n : Nat) : (binOp .neq 53 (.agg (La.layA n)) (.agg (La.layA n))).run Tryz.prog u = .ok (.bool false) u := by
  have h := La.eq23 u n 2 (La.lgs n) (2 + La.lgs n) (3 + La.lgs n) ((n : Int) / 16) (3 + (La.lgs n : Int) + (n : Int) / 16) n 2 (La.lgs n) (2 + La.lgs n) (3 + La.lgs n) ((n : Int) / 16) (3 + (La.lgs n : Int) + (n : Int) / 16)
  simp [La.same7] at h
  unfold La.layA
  simp only [binOp]
  simp [Op.equal, Op.maxDepth, h]

theorem open_good {g : Nat} {w : World} {D : Dk.DS} {F : Nat → Prop} {gd cd : Nat} {vu : Value} {ps : List (Nat × Nat × Nat)} (h : Dk.Lies w g D F gd cd vu ps) (hn : 64 ≤ D.nb) (hn' : D.nb ≤ 512)
    (e s t : Int) (he : 1 ≤ e ∧ e ≤ 8388608) (hs : 1 ≤ s ∧ s ≤ 549755813888) (ht : 0 ≤ t ∧ t ≤ (La.lgs D.nb : Int) - 1) :
    Calls Tryz.prog 19 #[.pointer (some ⟨g, 0, none⟩), .agg (La.layA D.nb), .int .i64 e, .int .i64 s, .int .i64 t] w fun r w' => ∃ j, w.heap.size ≤ j ∧ r = .returned (.tuple #[.pointer (some ⟨j, 0, none⟩), .int .i64 0]) ∧ Box w' j (jC j g (.slice none 0 0) (opened D.nb e s t)) 63 ∧ Below w.heap.size w w' := by
  have hq := neq40
  have B0 := (Below.refl w.heap.size w).alloc (Nat.le_refl _) (.cells (La.layA D.nb) 53)
  have l0 := Box.new w (La.layA D.nb) 53
  have hL := La.lgs_le D.nb hn'
  have hk : Dk.Lies (w.alloc (.cells (La.layA D.nb) 53)) g D F gd cd vu ps := h.kept (fun i hi => B0.block i (h.flt i hi)) B0.size
  have hgl := h.flt g h.fg
  have c1 := Dk.size_at hk
  generalize D.nb = n at *
  have hn0 : ((n : Int) = 0) = False := by simp; omega
  unfold La.layA at l0 B0 c1 hk ⊢
  go_enter Tryz.func19, Tryz.ntmps19
  go_wp2_with fail
  refine c1.mono ?_
  rintro r w1 ⟨rfl, rfl⟩
  go_wp2_with fail
  refine (La.of_good n _ hn hn').mono ?_
  rintro r w1 ⟨rfl, b1⟩
  unfold La.layA
  have B1 := B0.trans (b1.mono B0.size)
  have l1 := l0.below b1
  clear b1 c1 hk
  have l2 := l1.alloc (.cells #[.int .i64 n, .int .i64 2, .int .i64 (La.lgs n : Int), .int .i64 (2 + (La.lgs n : Int)), .int .i64 (3 + (La.lgs n : Int)), .int .i64 ((n : Int) / 16), .int .i64 (3 + (La.lgs n : Int) + (n : Int) / 16)] 53)
  have y0 := l2.cell 0
  have y1 := l2.cell 1
  have y2 := l2.cell 2
  have y3 := l2.cell 3
  have y4 := l2.cell 4
  have y5 := l2.cell 5
  have y6 := l2.cell 6
  simp at y0 y1 y2 y3 y4 y5 y6
  unfold La.layA at hq
  go_wp2_with fail
  refine (within_at _ _ _ _).mono ?_
  rintro r w2 ⟨rfl, rfl⟩
  rw [decide_eq_true he]
  go_wp2_with fail
  refine (within_at _ _ _ _).mono ?_
  rintro r w2 ⟨rfl, rfl⟩
  rw [decide_eq_true hs]
  go_wp2_with fail
  refine (within_at _ _ _ _).mono ?_
  rintro r w2 ⟨rfl, rfl⟩
  rw [decide_eq_true ht]
  go_wp2_with fail
  have hz := B1.size
  refine bodyPost_ret (v := .tuple #[.pointer (some ⟨w1.heap.size + 1, 0, none⟩), .int .i64 0]) (by simp [results, Tryz.results19, go_sem]) rfl ⟨w1.heap.size + 1, by omega, rfl, ?_, ?_⟩
  · have q := Box.new (w1.alloc (.cells #[.int .i64 n, .int .i64 2, .int .i64 (La.lgs n : Int), .int .i64 (2 + (La.lgs n : Int)), .int .i64 (3 + (La.lgs n : Int)), .int .i64 ((n : Int) / 16), .int .i64 (3 + (La.lgs n : Int) + (n : Int) / 16)] 53)) (jC (w1.heap.size + 1) g (.slice none 0 0) (opened n e s t)) 63
    rw [show (w1.alloc (.cells #[.int .i64 n, .int .i64 2, .int .i64 (La.lgs n : Int), .int .i64 (2 + (La.lgs n : Int)), .int .i64 (3 + (La.lgs n : Int)), .int .i64 ((n : Int) / 16), .int .i64 (3 + (La.lgs n : Int) + (n : Int) / 16)] 53)).heap.size = w1.heap.size + 1 by simp] at q
    exact q
  · exact (B1.alloc B1.size _).alloc (by simp; omega) _
end Go.Proofs.YtglahlbponlepaaGreat.J

/-
  A region that draws its order and holds loads beside calls that make memory: a load whose value is one in a whole class of frames and worlds may be taken first, if each step stays in the class.
-/
namespace Go.Proofs.YtglahlbponlepaaGreat.Dk

section
variable {P : Program} {ops : Array Oper} {Q : Exit → Act → World → Prop} {md : Region.Mode} {C : Act → World → Prop}

/-- Whatever order the draw gives: it ends in Q, and every step stays in the class. -/
def wpAnyC (P : Program) (md : Region.Mode) (ops : Array Oper) (Q : Exit → Act → World → Prop) (C : Act → World → Prop) : Nat → Array Bool → Act → World → Prop
  | 0, listed, a, w => Region.ready md ops listed = [] ∧ Q .normal a w
  | fuel + 1, listed, a, w => (Region.ready md ops listed = [] → Q .normal a w) ∧
    ∀ i ∈ Region.ready md ops listed, wpOp P ops Q i (fun a' w' => C a' w' ∧ wpAnyC P md ops Q C fuel (listed.setIfInBounds i true) a' w') a w

theorem wpAny_of_class : ∀ (fuel : Nat) (listed : Array Bool) (a : Act) (w : World), wpAnyC P md ops Q C fuel listed a w → wpAny P md ops Q fuel listed a w
  | 0, _, _, _, h => h
  | fuel + 1, _, _, _, h => ⟨h.1, fun i hi => wpOp_mono (fun a' w' h' => wpAny_of_class fuel _ a' w' h'.2) (h.2 i hi)⟩

/-- In all of the class the operation yields this one value, and leaves the world. -/
def Gives (P : Program) (ops : Array Oper) (C : Act → World → Prop) (o : Oper) (v : Value) : Prop :=
  ∀ a w, C a w → Region.wanted o (yielded ops a.tmps) = true ∧ (execOp a.eval o).run P w = .ok (.value v) w

theorem Gives.wpOp {i : Nat} {o : Oper} {v : Value} {a : Act} {w : World} (hi : ops[i]? = some o) (hg : Gives P ops C o v) (hc : C a w) {K : Act → World → Prop} (h : K (a.put o.dst v) w) : wpOp P ops Q i K a w := by
  obtain ⟨h1, h2⟩ := hg a w hc
  unfold Go.wpOp
  simp only [hi, h1, if_true, Oper.wp, h2, Oper.upon]
  exact .inl h

/-- the stand-in: the same slot, a constant -/
def standIn (o : Oper) (v : Value) : Oper := { o with op := .move (.const v), guard := none }
theorem standIn_yields (o : Oper) (v : Value) (a : Act) : Yields P ops (standIn o v) v a := by
  refine .inl ⟨rfl, fun w => ?_⟩
  rfl
theorem standIn_apart {o y : Oper} {v : Value} (h : o.apart ops y = true) : (standIn o v).apart ops y = true := by
  unfold Oper.apart at h ⊢
  simp only [Bool.and_eq_true] at h ⊢
  refine ⟨h.1, ?_⟩
  have e : (standIn o v).looksAt ops = [] := rfl
  rw [e]
  cases y.dst <;> rfl

theorem wpAnyC_first {i : Nat} {oi : Oper} {v : Value} (hi : ops[i]? = some oi) (hs : Region.noSelect ops = true)
    (hQ : ∀ c a w, Q (.panic c) (a.put oi.dst v) w → Q (.panic c) a w) (hg : Gives P ops C oi v) (hdn : ∀ a w, C (a.put oi.dst v) w → C a w) (hup : ∀ a w, C a w → C (a.put oi.dst v) w) :
    ∀ (fuel : Nat) (listed : Array Bool) (a : Act) (w : World),
      (∀ j oj, ops[j]? = some oj → j ≠ i → listed.getD j true = false → (∀ e ∈ oj.after, Region.binds md e = true → e.on ≠ i) → oi.apart ops oj = true) →
      i ∈ Region.ready md ops listed → C a w →
      wpAnyC P md ops Q C fuel (listed.setIfInBounds i true) (a.put oi.dst v) w → wpAnyC P md ops Q C (fuel + 1) listed a w
  | fuel, listed, a, w, hfree, hr, hc, H => by
    refine ⟨fun h => (by rw [h] at hr; cases hr), fun j hj => ?_⟩
    by_cases hji : j = i
    · subst hji
      exact hg.wpOp hi hc ⟨hup a w hc, H⟩
    · have hm := ready_mono hj hji
      cases fuel with
      | zero =>
        rw [H.1] at hm
        cases hm
      | succ fuel =>
        obtain ⟨hjun, oj, hoj, hall⟩ := mem_ready.1 hj
        have hnot : ∀ e ∈ oj.after, Region.binds md e = true → e.on ≠ i := fun e he hb heq => by
          have h1 := hall e he hb
          have h0 := (mem_ready.1 hr).1
          rw [heq] at h1
          rcases Nat.lt_or_ge i listed.size with h' | h'
          · simp [h'] at h0 h1; rw [h0] at h1; cases h1
          · simp [Array.getElem?_eq_none h'] at h1
        have h2 := wpOp_put (oi := standIn oi v) (v := v) hoj (standIn_apart (hfree j oj hoj hji hjun hnot)) (fun cs b h => by cases h) (fun cs b => Region.noSelect_spec hs j oj cs b hoj) hQ (standIn_yields oi v a) (H.2 j hm)
        have hfree' : ∀ k ok, ops[k]? = some ok → k ≠ i → (listed.setIfInBounds j true).getD k true = false →
            (∀ e ∈ ok.after, Region.binds md e = true → e.on ≠ i) → oi.apart ops ok = true := fun k ok hk hki hun hno => by
          refine hfree k ok hk hki ?_ hno
          by_cases hjk : j = k
          · subst hjk; exact hjun
          · rw [getD_set_ne true hjk] at hun; exact hun
        refine wpOp_mono (fun a' w' h3 => ?_) h2
        have hc' := hdn a' w' h3.2.1
        refine ⟨hc', wpAnyC_first hi hs hQ hg hdn hup fuel (listed.setIfInBounds j true) a' w' hfree' (ready_mono hr (Ne.symm hji)) hc' ?_⟩
        rw [Array.setIfInBounds_comm _ _ hji]
        exact h3.2.2

/-- A load is taken first. -/
theorem wpAnyC_take {i : Nat} {oi : Oper} {v : Value} {fuel : Nat} {listed : Array Bool} {a : Act} {w : World} (hi : ops[i]? = some oi) (hs : Region.noSelect ops = true)
    (hf : Region.free md ops listed i = true) (hr : (Region.ready md ops listed).contains i = true)
    (hQ : ∀ c a w, Q (.panic c) (a.put oi.dst v) w → Q (.panic c) a w) (hg : Gives P ops C oi v) (hdn : ∀ a w, C (a.put oi.dst v) w → C a w) (hup : ∀ a w, C a w → C (a.put oi.dst v) w)
    (hc : C a w) (h : wpAnyC P md ops Q C fuel (listed.setIfInBounds i true) (a.put oi.dst v) w) : wpAnyC P md ops Q C (fuel + 1) listed a w :=
  wpAnyC_first hi hs hQ hg hdn hup fuel listed a w (Region.free_spec hi hf) (by simpa using hr) hc h

/-- One operation alone may come up. -/
theorem wpAnyC_one {i : Nat} {o : Oper} {fuel : Nat} {listed : Array Bool} {a : Act} {w : World} (hr : Region.ready md ops listed = [i]) (ho : ops[i]? = some o)
    (h : ∀ K' : Act → World → Prop, (∀ a w, (C a w ∧ wpAnyC P md ops Q C fuel (listed.setIfInBounds i true) a w) → K' a w) → if Region.wanted o (yielded ops a.tmps) = true then Oper.wp P o a w K' Q else K' (a.put o.dst undef) w) :
    wpAnyC P md ops Q C (fuel + 1) listed a w := by
  refine ⟨fun h0 => (by rw [hr] at h0; cases h0), fun j hj => ?_⟩
  rw [hr] at hj
  obtain rfl : j = i := by simpa using hj
  exact wpOp_step ho h

theorem wpAnyC_done {listed : Array Bool} {a : Act} {w : World} (hr : Region.ready md ops listed = []) (h : Q .normal a w) : ∀ fuel, wpAnyC P md ops Q C fuel listed a w
  | 0 => ⟨hr, h⟩
  | _ + 1 => ⟨fun _ => h, by rw [hr]; simp⟩
/-- Two operations may come up. -/
theorem wpAnyC_two {i j : Nat} {oi oj : Oper} {fuel : Nat} {listed : Array Bool} {a : Act} {w : World} (hr : Region.ready md ops listed = [i, j]) (hi : ops[i]? = some oi) (hj : ops[j]? = some oj)
    (h1 : ∀ K' : Act → World → Prop, (∀ a w, (C a w ∧ wpAnyC P md ops Q C fuel (listed.setIfInBounds i true) a w) → K' a w) → if Region.wanted oi (yielded ops a.tmps) = true then Oper.wp P oi a w K' Q else K' (a.put oi.dst undef) w)
    (h2 : ∀ K' : Act → World → Prop, (∀ a w, (C a w ∧ wpAnyC P md ops Q C fuel (listed.setIfInBounds j true) a w) → K' a w) → if Region.wanted oj (yielded ops a.tmps) = true then Oper.wp P oj a w K' Q else K' (a.put oj.dst undef) w) :
    wpAnyC P md ops Q C (fuel + 1) listed a w := by
  refine ⟨fun h0 => (by rw [hr] at h0; cases h0), fun k hk => ?_⟩
  rw [hr] at hk
  rcases List.mem_cons.1 hk with rfl | hk
  · exact wpOp_step hi h1
  · obtain rfl : k = j := by simpa using hk
    exact wpOp_step hj h2
end

section
variable {P : Program} {ops : Array Oper} {Q : Exit → Act → World → Prop} {md : Region.Mode}
theorem wpAnyC_mono {C C' : Act → World → Prop} (hC : ∀ a w, C' a w → C a w) : ∀ (fuel : Nat) (listed : Array Bool) (a : Act) (w : World), wpAnyC P md ops Q C' fuel listed a w → wpAnyC P md ops Q C fuel listed a w
  | 0, _, _, _, h => h
  | fuel + 1, _, _, _, h => ⟨h.1, fun i hi => wpOp_mono (fun a' w' h' => ⟨hC _ _ h'.1, wpAnyC_mono hC fuel _ a' w' h'.2⟩) (h.2 i hi)⟩
end

/-- The class: these slots hold these values, these cells hold these. -/
def SlotsCells (ps : List (Nat × Value)) (qs : List (Addr × Value)) (a : Act) (u : World) : Prop := (∀ p ∈ ps, a.eval (.tmp p.1) = p.2) ∧ ∀ q ∈ qs, u.cell? q.1 = some q.2
theorem SlotsCells.put {ps : List (Nat × Value)} {qs : List (Addr × Value)} {a : Act} {u : World} (s : Nat) (v : Value) (hs : (ps.all fun p => p.1 != s) = true) :
    SlotsCells ps qs (a.put (some s) v) u ↔ SlotsCells ps qs a u := by
  have e : ∀ p ∈ ps, (a.put (some s) v).eval (.tmp p.1) = a.eval (.tmp p.1) := fun p hp => Act.eval_put (fun d hd => by
    have h1 := (List.all_eq_true.1 hs) p hp
    simp at h1 hd
    subst hd
    intro h
    injection h with h
    exact h1 h)
  constructor
  · rintro ⟨h, hb⟩
    exact ⟨fun p hp => (e p hp).symm.trans (h p hp), hb⟩
  · rintro ⟨h, hb⟩
    exact ⟨fun p hp => (e p hp).trans (h p hp), hb⟩
theorem SlotsCells.load {ps : List (Nat × Value)} {qs : List (Addr × Value)} {a : Act} {u : World} (h : SlotsCells ps qs a u) {s : Nat} {p : Addr} {v : Value} (hp : (s, Value.pointer (some p)) ∈ ps) (hq : (p, v) ∈ qs) :
    a.tmps[s]?.getD undef = .pointer (some p) ∧ u.cell? p = some v := ⟨by have := h.1 _ hp; simpa [Act.eval] using this, h.2 _ hq⟩

/-- a value of the class -/
theorem SlotsCells.val {ps : List (Nat × Value)} {qs : List (Addr × Value)} {a : Act} {u : World} (h : SlotsCells ps qs a u) {s : Nat} {v : Value} (hp : (s, v) ∈ ps) : a.tmps[s]?.getD undef = v := by have := h.1 _ hp; simpa [Act.eval] using this
end Go.Proofs.YtglahlbponlepaaGreat.Dk

/-
  The power of a disk: fuses, operations, Arm, Fail.
-/
namespace Go.Proofs.YtglahlbponlepaaGreat.Dk
open Go.RowKit

theorem set_same {cs : Array Value} {j : Nat} {v : Value} (h : cs[j]? = some v) : cs.setIfInBounds j v = cs := by
  obtain ⟨hj, rfl⟩ := Array.getElem?_eq_some_iff.1 h
  apply Array.toList_inj.1
  rw [Array.toList_setIfInBounds]
  apply List.ext_getElem?
  intro i
  by_cases e : j = i
  · subst e; simp [hj]
  · rw [List.getElem?_set_ne e]

theorem stops_at (g j : Nat) (f : Fuse) (cs : Array Value) (w : World) (hb : Box w g cs 86) (h0 : cs[j]? = some (.bool f.set)) (h1 : cs[j + 1]? = some (.int .i64 (f.left : Int))) (hf : f.left < 9223372036854775808) :
    Calls Tryz.prog 89 #[.pointer (some ⟨g, j, none⟩)] w fun e w' => e = .returned (.bool f.stops) ∧ Box w' g ((cs.setIfInBounds j (.bool f.then.set)).setIfInBounds (j + 1) (.int .i64 (f.then.left : Int))) 86 ∧ w.grownBy w' (some g) := by
  have c0 := hb.cell j
  have c1 := hb.cell (j + 1)
  rw [h0] at c0
  rw [h1] at c1
  have f0 := hb.frozen j
  have f1 := hb.frozen (j + 1)
  obtain ⟨s, n⟩ := f
  cases s with
  | false =>
    have e : ((cs.setIfInBounds j (.bool (Fuse.then ⟨false, n⟩).set)).setIfInBounds (j + 1) (.int .i64 ((Fuse.then ⟨false, n⟩).left : Int))) = cs := by
      show (cs.setIfInBounds j (.bool false)).setIfInBounds (j + 1) (.int .i64 (n : Int)) = cs
      rw [set_same h0, set_same h1]
    rw [e]
    go_enter Tryz.func89, Tryz.ntmps89
    go_wp2
    go_ret
    exact ⟨rfl, hb, World.grownBy.refl _ _⟩
  | true =>
    by_cases hn : 0 < n
    · have e1 : Fuse.then ⟨true, n⟩ = ⟨true, n - 1⟩ := by simp [Fuse.then, hn]
      have e2 : Fuse.stops ⟨true, n⟩ = false := by simp [Fuse.stops]; omega
      have e3 : ((n - 1 : Nat) : Int) = (n : Int) - 1 := by omega
      rw [e1, e2]
      have e4 : cs.setIfInBounds j (.bool true) = cs := set_same h0
      have hs := hb.store (j + 1) (.int .i64 ((n : Int) - 1))
      have hg := grown_store w g (j + 1) (.int .i64 ((n : Int) - 1))
      have hn' : (0 : Int) < n := by omega
      dsimp only at c1 hf
      clear h0 h1 hb e1 e2
      have E3 : Hid _ := e3
      have E4 : Hid _ := e4
      clear e3 e4
      go_enter Tryz.func89, Tryz.ntmps89
      go_wp2
      go_ret
      refine ⟨rfl, ?_, hg⟩
      show Box _ g ((cs.setIfInBounds j (.bool true)).setIfInBounds (j + 1) (.int .i64 ((n - 1 : Nat) : Int))) 86
      rw [E3.out, E4.out]
      exact hs
    · obtain rfl : n = 0 := by omega
      have hs := (hb.store j (.bool false)).store (j + 1) (.int .i64 0)
      have hg := grown_trans (grown_store w g j (.bool false)) (grown_store _ g (j + 1) (.int .i64 0))
      clear h0 h1 hb
      go_enter Tryz.func89, Tryz.ntmps89
      go_wp2
      go_ret
      exact ⟨rfl, hs, hg⟩

/-- Only the disk's own cells have turned, and of them only its numbers. -/
theorem Lies.turned {w w' : World} {g : Nat} {D D' : DS} {F : Nat → Prop} {gd cd : Nat} {vu : Value} {ps : List (Nat × Nat × Nat)} (h : Lies w g D F gd cd vu ps) (hg : w.grownBy w' (some g))
    (hb : Box w' g (diskC g (.slice (some ⟨gd, 0, none⟩) (D'.nb * 4096) cd) vu D') 86) (hd : D'.dur = D.dur) (hu : D'.uf = D.uf) (ok : D'.Ok) : Lies w' g D' F gd cd vu ps := by
  obtain ⟨cur, hcur, hrest⟩ := h.dur
  have ngd : gd ≠ g := hcur.ne h.box (by decide)
  refine ⟨hb, ?_, ?_, ?_, ?_, h.fg, h.fd, h.fu, fun i hi => Nat.lt_of_lt_of_le (h.flt i hi) hg.size, ok⟩
  · rw [hd]
    exact h.dur.same (hg.block gd hcur.lt (by simpa using ngd))
  · rw [hu]
    refine ⟨h.row.1, ?_⟩
    rcases h.row.2 with h1 | ⟨g', cap, cur', rfl, hb', hg', r⟩
    · exact .inl h1
    · have hne : g' ≠ g := Box.ne (w := w) (t := 120) hg' h.box (by decide)
      exact .inr ⟨g', cap, cur', rfl, hb', (hg.block g' (Array.getElem?_eq_some_iff.1 hg').1 (by simpa using hne)).trans hg', r⟩
  · rw [hu]; exact h.len
  · intro k h1 h2
    have h2' : k < D.uf.length := by rw [← hu]; exact h2
    obtain ⟨a, b, c, d⟩ := h.each k h1 h2'
    have e : D'.uf[k] = D.uf[k] := by simp only [hu]
    rw [e]
    obtain ⟨cur2, hb2, r2⟩ := b
    have hne : ps[k].2.1 ≠ g := hb2.ne h.box (by decide)
    exact ⟨a, RowB.same ⟨cur2, hb2, r2⟩ (hg.block _ hb2.lt (by simpa using hne)), c, d⟩

set_option maxRecDepth 100000 in
theorem operation_at {g : Nat} {w : World} {D : DS} {F : Nat → Prop} {gd cd : Nat} {vu : Value} {ps : List (Nat × Nat × Nat)} (h : Lies w g D F gd cd vu ps) :
    Calls Tryz.prog 58 #[.pointer (some ⟨g, 4, none⟩)] w fun e w' => e = .returned (.int .i64 (D.operE : Int)) ∧ Lies w' g D.oper F gd cd vu ps ∧ w.grownBy w' (some g) := by
  obtain ⟨_, _, _, _, c4, _⟩ := box_cells h.box
  cases hgone : D.gone with
  | true =>
    have e1 : D.operE = 6 := by simp [DS.operE, hgone]
    have e2 : D.oper = D := by simp [DS.oper, hgone]
    rw [e1, e2]
    rw [hgone] at c4
    go_enter Tryz.func58, Tryz.ntmps58
    go_wp2
    go_ret
    exact ⟨rfl, h, World.grownBy.refl _ _⟩
  | false =>
    rw [hgone] at c4
    have e0 : D.oper = { D with gone := D.arm.stops, arm := D.arm.then, fail := D.fail.then } := by simp [DS.oper, hgone]
    have e1 : D.operE = if D.arm.stops then 6 else if D.fail.stops then 4 else 0 := by simp [DS.operE, hgone]
    have hok := h.ok.oper
    rw [e0] at hok
    obtain ⟨E, hE⟩ : ∃ E, E = D.operE := ⟨_, rfl⟩
    obtain ⟨O, hO⟩ : ∃ O, O = D.oper := ⟨_, rfl⟩
    rw [← hE, ← hO]
    rw [e1] at hE
    rw [e0] at hO
    have HE : Hid _ := hE
    have HO : Hid _ := hO
    clear e0 e1 hE hO
    go_enter Tryz.func58, Tryz.ntmps58
    go_wp2_with fail
    refine wp_region_any (by kernel_rfl) ?_
    change wpAny _ _ _ _ _ _ _ (World.drew _)
    refine wpAny_take (i := 0) (v := ?_) rfl (by kernel_rfl) (by kernel_rfl) (by kernel_rfl) (fun _ _ _ h => h) (Or.inl ⟨by rfl, ?_⟩) ?_
    rotate_left
    · intro w
      go_simp
      with_reducible rfl
    refine wpAny_take (i := 1) (v := ?_) rfl (by kernel_rfl) (by kernel_rfl) (by kernel_rfl) (fun _ _ _ h => h) (Or.inl ⟨by rfl, ?_⟩) ?_
    rotate_left
    · intro w
      go_simp
      with_reducible rfl
    refine wpAny_take (i := 2) (v := ?_) rfl (by kernel_rfl) (by kernel_rfl) (by kernel_rfl) (fun _ _ _ h => h) (Or.inl ⟨by rfl, ?_⟩) ?_
    rotate_left
    · intro w
      go_simp
      with_reducible rfl
    refine wpAny_take (i := 4) (v := ?_) rfl (by kernel_rfl) (by kernel_rfl) (by kernel_rfl) (fun _ _ _ h => h) (Or.inl ⟨by rfl, ?_⟩) ?_
    rotate_left
    · intro w
      go_simp
      with_reducible rfl
    refine wpAny_take (i := 5) (v := ?_) rfl (by kernel_rfl) (by kernel_rfl) (by kernel_rfl) (fun _ _ _ h => h) (Or.inl ⟨by rfl, ?_⟩) ?_
    rotate_left
    · intro w
      go_simp
      with_reducible rfl
    refine wpAny_take (i := 6) (v := ?_) rfl (by kernel_rfl) (by kernel_rfl) (by kernel_rfl) (fun _ _ _ h => h) (Or.inl ⟨by rfl, ?_⟩) ?_
    rotate_left
    · intro w
      go_simp
      with_reducible rfl
    simp only [Act.put, List.setIfInBounds_toArray, List.set_cons_zero, List.set_cons_succ, List.getElem_toArray, List.getElem_cons_zero, List.getElem_cons_succ]
    refine wpAny_of_class (C := fun _ _ => True) _ _ _ _ ?_
    refine wpAnyC_one (i := 3) (by kernel_rfl) rfl (fun K hK => ?_)
    go_simp
    have hb0 : Box w.drew g (diskC g (.slice (some ⟨gd, 0, none⟩) (D.nb * 4096) cd) vu D) 86 := h.box
    refine (stops_at g 5 D.arm _ w.drew hb0 rfl rfl h.ok.arm).mono ?_
    rintro e w1 ⟨rfl, b1, g1⟩
    refine hK _ _ ⟨trivial, ?_⟩
    clear hK K
    refine wpAnyC_one (i := 7) (by kernel_rfl) rfl (fun K hK => ?_)
    go_simp
    refine (stops_at g 7 D.fail _ w1 b1 rfl rfl h.ok.fail).mono ?_
    rintro e w2 ⟨rfl, b2, g2⟩
    refine hK _ _ ⟨trivial, ?_⟩
    clear hK K
    have gr : w.grownBy w2 (some g) := grown_trans ⟨g1.os, g1.tape, g1.output, g1.size, g1.block⟩ g2
    have bx : Box w2 g #[.pointer (some ⟨g, 0, none⟩), .slice (some ⟨gd, 0, none⟩) (D.nb * 4096) cd, vu, .int .i64 (D.n : Int), .bool D.gone, .bool D.arm.then.set, .int .i64 (D.arm.then.left : Int), .bool D.fail.then.set, .int .i64 (D.fail.then.left : Int)] 86 := b2
    clear b1 b2 g1 g2 hb0 c4
    refine wpAnyC_mono (C' := SlotsCells [(12, .bool D.arm.stops), (16, .bool D.fail.stops)] []) (fun _ _ _ => trivial) _ _ _ _ ?_
    refine wpAnyC_take (i := 8) (v := .bool D.arm.stops) rfl (by kernel_rfl) (by kernel_rfl) (by kernel_rfl) (fun _ _ _ h => h) ?_ (fun fr u h => (SlotsCells.put 3 _ (by rfl)).1 h) (fun fr u h => (SlotsCells.put 3 _ (by rfl)).2 h) ?_ ?_
    · intro fr u hh
      have h1 := hh.val (s := 12) (v := .bool D.arm.stops) (by simp)
      exact ⟨rfl, by simp [execOp, h1, go_sem]⟩
    · refine ⟨fun p hp => ?_, fun q hq => by simp at hq⟩
      simp at hp
      rcases hp with rfl | rfl <;> rfl
    simp only [Act.put, List.setIfInBounds_toArray, List.set_cons_zero, List.set_cons_succ, List.getElem_toArray, List.getElem_cons_zero, List.getElem_cons_succ]
    refine wpAnyC_one (i := 9) (by kernel_rfl) rfl (fun K hK => ?_)
    go_simp
    refine hK _ _ ⟨?_, ?_⟩
    · refine ⟨fun p hp => ?_, fun q hq => by simp at hq⟩
      simp at hp
      rcases hp with rfl | rfl <;> rfl
    clear hK K
    refine wpAnyC_done (by kernel_rfl) ?_ _
    have f4 := bx.frozen 4
    have c4 := bx.cell 4
    simp only [List.getElem?_toArray, List.getElem?_cons_zero, List.getElem?_cons_succ] at c4
    cases ha : D.arm.stops with
    | true =>
      have b3 := bx.store 4 (.bool true)
      have g3 := grown_trans gr (grown_store w2 g 4 (.bool true))
      have hl := h.turned (D' := { D with gone := true, arm := D.arm.then, fail := D.fail.then }) g3 b3 rfl rfl (by rw [ha] at hok; exact hok)
      clear h hok bx gr b3
      have HO' : Hid (O = { D with gone := true, arm := D.arm.then, fail := D.fail.then }) := by have := HO.out; rw [ha] at this; exact this
      have HE' : Hid (E = 6) := by have := HE.out; rw [ha] at this; exact this
      clear HO HE
      go_wp2
      go_ret
      rw [HO'.out, HE'.out]
      exact ⟨rfl, hl, g3⟩
    | false =>
      have b3 : Box w2 g (diskC g (.slice (some ⟨gd, 0, none⟩) (D.nb * 4096) cd) vu { D with gone := false, arm := D.arm.then, fail := D.fail.then }) 86 := by rw [← hgone]; exact bx
      have hl := h.turned (D' := { D with gone := false, arm := D.arm.then, fail := D.fail.then }) gr b3 rfl rfl (by rw [ha] at hok; exact hok)
      clear h hok bx b3
      have HO' : Hid (O = { D with gone := false, arm := D.arm.then, fail := D.fail.then }) := by have := HO.out; rw [ha] at this; exact this
      clear HO
      cases hf : D.fail.stops with
      | true =>
        have HE' : Hid (E = 4) := by have := HE.out; rw [ha, hf] at this; exact this
        clear HE
        go_wp2
        go_ret
        rw [HO'.out, HE'.out]
        exact ⟨rfl, hl, gr⟩
      | false =>
        have HE' : Hid (E = 0) := by have := HE.out; rw [ha, hf] at this; exact this
        clear HE
        go_wp2
        go_ret
        rw [HO'.out, HE'.out]
        exact ⟨rfl, hl, gr⟩

def armE (n : Int) : Nat := if n < 0 then 2 else 0
def DS.armed (D : DS) (n : Int) : DS := if n < 0 then D else { D with arm := ⟨true, n.toNat⟩ }
def DS.failing (D : DS) (n : Int) : DS := if n < 0 then D else { D with fail := ⟨true, n.toNat⟩ }

end Go.Proofs.YtglahlbponlepaaGreat.Dk

/-
  Disks that are made: Clone, holding, New, Load.
-/
namespace Go.Proofs.YtglahlbponlepaaGreat.Dk
open Go.RowKit

theorem eqlSlice (ad : Addr) (n cap : Nat) (u : World) : (binOp .eql 40 (.slice (some ad) n cap) (.slice none 0 0)).run Tryz.prog u = .ok (.bool false) u := by
  have h : ∀ d : Nat, (Op.equalIn (d + 1) 40 (.slice (some ad) n cap) (.slice none 0 0)).run Tryz.prog u = .ok false u := fun d => by
    simp [Op.equalIn, run_underlying Tryz.underlying40]
  simp only [binOp]
  simp [Op.equal, Op.maxDepth, h 9999]

theorem clone_at (cap n : Nat) (ad : Addr) (xs : List UInt8) (w : World) (hl : xs.length = n) (h0 : 0 < n) (hn : n ≤ 100000000) (hr : Rd w (some ad) xs) :
    Calls Tryz.prog 42 #[.slice (some ad) n cap] w fun e w' => ∃ g cap', e = .returned (.slice (some ⟨g, 0, none⟩) n cap') ∧ w.heap.size ≤ g ∧ RowB w' g cap' xs ∧ Below w.heap.size w w' := by
  obtain ⟨i0, hi, hz0, hz1, hz2⟩ := info_parts info5
  have hb0 : Below w.heap.size w (w.alloc (.cells #[] 5)) := (Below.refl _ _).alloc (Nat.le_refl _) _
  have hr1 := hr.below hb0 (Nat.le_refl _)
  have ho : (w.alloc (.cells #[] 5)).ownsRow w.heap.size 5 1 (.slice (some ⟨w.heap.size, 0, none⟩) 0 0) 0 [] := World.ownsRow_made w #[] 0 (Nat.le_refl _) (by simp [maxLen]) rfl
  have Hl : Hid _ := hl
  clear hl
  have z0 := hb0.size
  have he := eqlSlice ad n cap
  go_enter Tryz.func42, Tryz.ntmps42
  go_wp2_with (at_builtin; refine wpList_append_bytes rfl _ _ rfl w.heap.size (.slice (some ⟨w.heap.size, 0, none⟩) 0 0) 0 [] rfl ho (some ad) n cap xs rfl Hl.out hr1 (by simp) (by omega) z0 ?_)
  intro v1 w1 o1 g1
  obtain ⟨g, cap', rfl, hg, hrow⟩ := RowB.owns o1 h0
  have B1 : Below w.heap.size w w1 := hb0.grown g1 z0 (fun k hk => by simp [Value.ownBlock] at hk; omega)
  clear o1 g1 ho hr1 hb0
  go_wp2
  go_ret
  exact ⟨g, cap', rfl, hg, hrow, B1⟩

theorem holding_at (gd cd nb : Nat) (d : List UInt8) (w : World) (hrow : RowB w gd cd d) (hl : d.length = nb * 4096) (h1 : 1 ≤ nb) (h2 : nb ≤ 512) :
    Calls Tryz.prog 53 #[.slice (some ⟨gd, 0, none⟩) (nb * 4096) cd] w fun e w' => e = .returned (.pointer (some ⟨w.heap.size, 0, none⟩)) ∧ IsDisk w' w.heap.size (DS.new nb d) (fun i => i = w.heap.size ∨ i = gd) ∧ Below w.heap.size w w' := by
  have b1 := Box.new w (diskC w.heap.size (.slice (some ⟨gd, 0, none⟩) (nb * 4096) cd) (.slice none 0 0) (DS.new nb d)) 86
  have B1 := (Below.refl w.heap.size w).alloc (Nat.le_refl _) (.cells (diskC w.heap.size (.slice (some ⟨gd, 0, none⟩) (nb * 4096) cd) (.slice none 0 0) (DS.new nb d)) 86)
  have hlt := hrow.lt
  have hs := B1.size
  have hlies : Lies _ w.heap.size (DS.new nb d) (fun i => i = w.heap.size ∨ i = gd) gd cd (.slice none 0 0) [] :=
    { box := b1, dur := hrow.same (B1.block gd hlt), row := World.ownsRow_nil _ _ _ _, len := rfl, each := fun k h => by simp at h, fg := .inl rfl, fd := .inr rfl, fu := fun k h => by simp [Value.ownBlock] at h,
      flt := fun i hi => by
        rcases hi with rfl | rfl
        · exact b1.lt
        · omega
      ok := DS.Ok.new hl h1 h2 }
  clear b1 hrow hl
  go_enter Tryz.func53, Tryz.ntmps53
  go_wp2
  go_ret
  exact ⟨rfl, ⟨_, _, _, _, hlies⟩, B1⟩

theorem made_zeros (n : Nat) : (madeCells #[Value.int .u8 0] n) = (bcs (List.replicate n 0)).toArray := made_zero n

/-- noughts -/
def nought (n : Nat) : List UInt8 := List.replicate n 0
theorem nought_length (n : Nat) : (nought n).length = n := by simp [nought]

theorem make_run (n : Nat) (hn : n ≤ 281474976710656) (u : World) : (Instr.makeSlice 40 (.int .i64 (n : Int)) (.int .i64 (n : Int))).run Tryz.prog u =
    .ok (.slice (some ⟨u.heap.size, 0, none⟩) n n) (u.alloc (.cells (bcs (nought n)).toArray 5)) := by
  obtain ⟨i0, hi, hz0, hz1, hz2⟩ := info_parts info5
  have h := run_make (P := Tryz.prog) u 40 5 i0 (.int .u8 0) Tryz.underlying40 hi hz0 .i64 .i64 (n : Int) (n : Int) (by omega) (Int.le_refl _) (by rw [hz2]; omega) (by omega)
  have e : ((n : Int)).toNat = n := by omega
  rw [e, hz1, Nat.mul_one] at h
  have e2 : madeCells #[.int .u8 0] n = (bcs (nought n)).toArray := made_zero n
  rw [← e2]
  exact h

/-- a disk in new blocks -/
def NewDisk (w w' : World) (g : Nat) (D : DS) : Prop := ∃ F : Nat → Prop, IsDisk w' g D F ∧ (∀ i, F i → w.heap.size ≤ i) ∧ Below w.heap.size w w'

theorem new_at (nb : Nat) (w : World) (h1 : 1 ≤ nb) (h2 : nb ≤ 512) :
    Calls Tryz.prog 17 #[.int .i64 (nb : Int)] w fun e w' => ∃ g, e = .returned (.tuple #[.pointer (some ⟨g, 0, none⟩), .int .i64 0]) ∧ NewDisk w w' g (DS.new nb (nought (nb * 4096))) := by
  have c := rightSize_at nb w
  have hc : (decide ((1 : Int) ≤ (nb : Int)) && decide ((nb : Int) ≤ 512)) = true := by simp; omega
  rw [hc] at c
  have hm := make_run (nb * 4096) (by omega)
  have em : ((nb * 4096 : Nat) : Int) = (nb : Int) * 4096 := by omega
  rw [em] at hm
  clear em
  have own := own_lit w (nought (nb * 4096))
  have B1 := (Below.refl w.heap.size w).alloc (Nat.le_refl _) (.cells (bcs (nought (nb * 4096))).toArray 5)
  have rw0 := RowB.own own (by rw [nought_length]; unfold maxLen; omega)
  rw [nought_length] at rw0
  have hlen : (nought (nb * 4096)).length = nb * 4096 := nought_length _
  generalize nought (nb * 4096) = Z at hm own B1 rw0 hlen ⊢
  obtain ⟨U, hU⟩ : ∃ U, U = w.alloc (.cells (bcs Z).toArray 5) := ⟨_, rfl⟩
  rw [← hU] at B1 rw0
  have ch := holding_at w.heap.size (nb * 4096) nb Z U rw0 hlen h1 h2
  have HU : Hid _ := hU
  clear own hU hlen hc
  go_enter Tryz.func17, Tryz.ntmps17
  go_wp2_with fail
  refine c.mono ?_
  rintro e w' ⟨rfl, rfl⟩
  go_wp2_with fail
  rw [← HU.out]
  refine ch.mono ?_
  rintro e w2 ⟨rfl, hd, b2⟩
  have B2 := B1.trans (b2.mono B1.size)
  have z1 := B1.size
  clear hm ch
  go_wp2
  go_ret2
  exact ⟨_, rfl, _, hd, fun i hi => by rcases hi with rfl | rfl; exact z1; exact Nat.le_refl _, B2⟩

theorem new_bad (n : Int) (w : World) (h : n < 1 ∨ 512 < n) :
    Calls Tryz.prog 17 #[.int .i64 n] w fun e w' => e = .returned (.tuple #[.pointer none, .int .i64 2]) ∧ w = w' := by
  have c := rightSize_at n w
  have hc : (decide ((1 : Int) ≤ n) && decide (n ≤ 512)) = false := by simp; omega
  rw [hc] at c
  clear hc h
  go_enter Tryz.func17, Tryz.ntmps17
  go_wp2_with fail
  refine c.mono ?_
  rintro e w' ⟨rfl, rfl⟩
  go_wp2
  go_ret2
  exact ⟨rfl, rfl⟩

end Go.Proofs.YtglahlbponlepaaGreat.Dk

/-
  Writes that are carried out upon an image.
-/
namespace Go.Proofs.YtglahlbponlepaaGreat.Dk
open Go.RowKit

theorem Upd.box {F : Nat → Prop} {w w' : World} {g : Nat} {cs : Array Value} {t : TypeId} (h : Upd F w w') (hb : Box w g cs t) (hg : ¬ F g) : Box w' g cs t := (h.block g hb.lt hg).trans hb
theorem Upd.rowB {F : Nat → Prop} {w w' : World} {g cap : Nat} {ys : List UInt8} (h : Upd F w w') (hb : RowB w g cap ys) (hg : ¬ F g) : RowB w' g cap ys := hb.same (h.block g hb.lt hg)
theorem Rd.part {w : World} {g o : Nat} {xs : List UInt8} (h : Rd w (some ⟨g, o, none⟩) xs) (k n : Nat) : Rd w (some ⟨g, o + k, none⟩) ((xs.drop k).take n) := fun hp => by
  have hk : k < xs.length := by simp at hp; omega
  obtain ⟨b', o', he, hc⟩ := h (by omega)
  simp only [Option.some.injEq, Addr.mk.injEq, and_true] at he
  obtain ⟨rfl, rfl⟩ := he
  refine ⟨g, o + k, rfl, fun j hj => ?_⟩
  have hj' : k + j < xs.length := by simp at hj; omega
  rw [Nat.add_assoc, hc (k + j) hj']
  simp

theorem and_one8 (a : Nat) (ha : a < 256) : bits .and .u8 (a : Int) 1 = ((a % 2 : Nat) : Int) := by
  have h := bits_mask .u8 8 (by decide) (fun n h0 h1 => by rw [IntKind.wrap_u8]; omega) 1 (by decide) (a : Int) (by omega) (by omega)
  simpa using h
theorem bitI (m k : Nat) (hm : m < 256) : (bits .and .u8 ((m : Int) / 2 ^ k) 1 == 1) = bit m k := by
  unfold bit
  have e : ((m : Int) / 2 ^ k) = ((m / 2 ^ k : Nat) : Int) := by push_cast; rfl
  rw [e, and_one8 _ (Nat.lt_of_le_of_lt (Nat.div_le_self _ _) hm)]
  rcases Nat.mod_two_eq_zero_or_one (m / 2 ^ k) with h | h <;> rw [h] <;> rfl

theorem part_i (g o len cap n size : Nat) (N S : Int) (w : World) (hN : N = (n : Int)) (hS : S = (size : Int)) (hf : n * size + size ≤ cap) (hc : cap ≤ 9223372036854775807) (hs : 0 < size) :
    Calls Tryz.prog 77 #[.slice (some ⟨g, o, none⟩) len cap, .int .i64 N, .int .i64 S] w fun e w' => e = .returned (.slice (some ⟨g, o + n * size, none⟩) size size) ∧ w = w' := by
  subst hN hS
  exact part_at g o len cap n size w hf hc hs

set_option maxRecDepth 100000 in
set_option maxHeartbeats 1000000 in
theorem carryOut_at (b gk ck gd cd L m : Nat) (data d : List UInt8) (w : World) (hk : RowB w gk ck data) (hd : RowB w gd cd d) (hne : gk ≠ gd) (hdl : data.length = 4096) (hL : d.length = L) (hb : b * 4096 + 4096 ≤ L) (hm : m < 256) :
    Calls Tryz.prog 90 #[.agg #[.int .i64 (b : Int), .slice (some ⟨gk, 0, none⟩) 4096 ck], .slice (some ⟨gd, 0, none⟩) L cd, .int .u8 (m : Int)] w fun e w' => e = .returned (.tuple #[]) ∧ RowB w' gd cd (carry d b data m) ∧ Upd (fun i => i = gd) w w' := by
  have x0 := Box.new w #[.int .i64 (b : Int), .slice (some ⟨gk, 0, none⟩) 4096 ck] 120
  have U0 := (Upd.refl (fun i => i = gd) w).alloc (.cells #[.int .i64 (b : Int), .slice (some ⟨gk, 0, none⟩) 4096 ck] 120)
  have hglt := hd.lt
  have hklt := hk.lt
  have hcd : L ≤ cd ∧ cd ≤ 9223372036854775807 := by
    obtain ⟨_, _, h1, h2, _⟩ := hd
    unfold maxLen at h2
    omega
  have hck : 4096 ≤ ck ∧ ck ≤ 9223372036854775807 := by
    obtain ⟨_, _, h1, h2, _⟩ := hk
    unfold maxLen at h2
    omega
  go_enter Tryz.func90, Tryz.ntmps90
  go_wp2_with fail
  obtain ⟨W, hW⟩ : ∃ W, W = w.alloc (.cells #[.int .i64 (b : Int), .slice (some ⟨gk, 0, none⟩) 4096 ck] 120) := ⟨_, rfl⟩
  rw [← hW] at x0 U0 ⊢
  have k0 := U0.rowB hk (fun h => hne h)
  have d0 : RowB W gd cd d := hd.same (by rw [hW]; exact Below.heap_alloc w _ gd hglt)
  obtain ⟨G, hG⟩ : ∃ G, G = w.heap.size := ⟨_, rfl⟩
  rw [← hG] at x0 ⊢
  have HL : Hid _ := hL
  have Hdl : Hid _ := hdl
  have hGd : G ≠ gd := by omega
  clear hW hG hk hd hL hdl hglt hklt
  refine (part_i gd 0 L cd b 4096 _ _ W rfl rfl (by omega) (by omega) (by omega)).mono ?_
  rintro e w' ⟨rfl, rfl⟩
  rw [Nat.zero_add]
  obtain ⟨O, hO⟩ : ∃ O, O = b * 4096 := ⟨_, rfl⟩
  rw [← hO]
  have HO : Hid _ := hO
  rw [← hO] at hb
  clear hO
  go_wp2_with fail
  go_loopw [12] (fun i wr => ∃ k : Nat, k ≤ 8 ∧ i = .int .i64 k ∧ Box wr G #[.int .i64 (b : Int), .slice (some ⟨gk, 0, none⟩) 4096 ck] 120 ∧ RowB wr gd cd (carryN d b data m k) ∧ RowB wr gk ck data ∧ Upd (fun i => i = gd) w wr) (fun i _ => 8 - (intOf i).toNat)
  case atStart => exact ⟨0, Nat.zero_le _, rfl, x0, d0, k0, U0⟩
  case round =>
    obtain ⟨k, hk, rfl, x, hd, hkd, U⟩ := hrel
    clear x0 d0 k0 U0
    by_cases hlt : k < 8
    · have hlt2 : (k : Int) < 8 := by omega
      have hbi := bitI m k hm
      have hcl : (carryN d b data m k).length = L := by rw [carryN_length d b data m (by rw [HL.out, ← HO.out]; exact hb) Hdl.out k hk, HL.out]
      have hsucc : carryN d b data m (k + 1) = if bit m k then putAt (carryN d b data m k) (b * 4096 + k * 512) (sec data k) else carryN d b data m k := rfl
      have Hcl : Hid _ := hcl
      have Hsucc : Hid _ := hsucc
      clear hcl hsucc
      cases hbit : bit m k with
      | false =>
        rw [hbit] at hbi
        have Hs : Hid (carryN d b data m (k + 1) = carryN d b data m k) := by have := Hsucc.out; rw [hbit] at this; exact this
        clear Hsucc
        go_wp2_with fail
        go_roundw
        case rel => exact ⟨k + 1, by omega, by go_num, x, by rw [Hs.out]; exact hd, hkd, U⟩
        case measure => simp [intOf]; omega
      | true =>
        rw [hbit] at hbi
        have Hs : Hid (carryN d b data m (k + 1) = putAt (carryN d b data m k) (O + k * 512) (sec data k)) := by have := Hsucc.out; rw [hbit, ← HO.out] at this; exact this
        clear Hsucc
        have hsl := sec_length data k Hdl.out hlt
        have x1 := x.cell 1
        simp only [List.getElem?_toArray, List.getElem?_cons_zero, List.getElem?_cons_succ] at x1
        have dr : RowB wr.drew gd cd (carryN d b data m k) := hd
        have kr : RowB wr.drew gk ck data := hkd
        have rs : Rd wr.drew (some ⟨gk, k * 512, none⟩) (sec data k) := by have := kr.rd.part (k * 512) 512; rw [Nat.zero_add] at this; exact this
        obtain ⟨V, hcp, hV, hgV⟩ := copy_row gd cd (O + k * 512) 512 512 (some ⟨gk, k * 512, none⟩) 512 (sec data k) (carryN d b data m k) wr.drew dr rs (by omega) (by rw [Hcl.out, hsl]; omega) (by omega)
        rw [hsl] at hcp
        have U2 : Upd (fun i => i = gd) w V := (U.drew).grown hgV (fun q e => by cases e; exact .inl rfl)
        have xV : Box V G #[.int .i64 (b : Int), .slice (some ⟨gk, 0, none⟩) 4096 ck] 120 := (hgV.block G x.lt (by simpa using hGd)).trans x
        have kV : RowB V gk ck data := kr.same (hgV.block gk kr.lt (by simpa using hne))
        clear hsl hgV dr kr rs
        go_wp2_with fail
        refine wp_region_any (by kernel_rfl) ?_
        change wpAny _ _ _ _ _ _ _ (World.drew _)
        refine wpAny_take (i := 0) (v := ?_) rfl (by kernel_rfl) (by kernel_rfl) (by kernel_rfl) (fun _ _ _ h => h) (Or.inl ⟨by rfl, ?_⟩) ?_
        rotate_left
        · intro w
          go_simp
          with_reducible rfl
        refine wpAny_take (i := 1) (v := ?_) rfl (by kernel_rfl) (by kernel_rfl) (by kernel_rfl) (fun _ _ _ h => h) (Or.inl ⟨by rfl, ?_⟩) ?_
        rotate_left
        · intro w
          go_simp
          with_reducible rfl
        refine wpAny_take (i := 3) (v := ?_) rfl (by kernel_rfl) (by kernel_rfl) (by kernel_rfl) (fun _ _ _ h => h) (Or.inl ⟨by rfl, ?_⟩) ?_
        rotate_left
        · intro w
          go_simp
          with_reducible rfl
        refine wpAny_take (i := 5) (v := ?_) rfl (by kernel_rfl) (by kernel_rfl) (by kernel_rfl) (fun _ _ _ h => h) (Or.inl ⟨by rfl, ?_⟩) ?_
        rotate_left
        · intro w
          go_simp
          with_reducible rfl
        simp only [Act.put, List.setIfInBounds_toArray, List.set_cons_zero, List.set_cons_succ, List.getElem_toArray, List.getElem_cons_zero, List.getElem_cons_succ]
        refine wpAny_of_class (C := SlotsCells [(23, .pointer (some ⟨G, 1, none⟩))] [(⟨G, 1, none⟩, .slice (some ⟨gk, 0, none⟩) 4096 ck)]) _ _ _ _ ?_
        have hq : ∀ u : World, Box u G #[.int .i64 (b : Int), .slice (some ⟨gk, 0, none⟩) 4096 ck] 120 → ∀ q ∈ ([(⟨G, 1, none⟩, .slice (some ⟨gk, 0, none⟩) 4096 ck)] : List (Addr × Value)), u.cell? q.1 = some q.2 := by
          intro u hu q hq
          simp at hq
          subst hq
          exact hu.cell 1
        have xd : Box wr.drew G #[.int .i64 (b : Int), .slice (some ⟨gk, 0, none⟩) 4096 ck] 120 := x
        refine wpAnyC_take (i := 4) (v := .slice (some ⟨gk, 0, none⟩) 4096 ck) rfl (by kernel_rfl) (by kernel_rfl) (by kernel_rfl) (fun _ _ _ h => h) ?_ (fun fr u h => (SlotsCells.put 24 _ (by rfl)).1 h) (fun fr u h => (SlotsCells.put 24 _ (by rfl)).2 h) ?_ ?_
        · intro fr u hh
          obtain ⟨e1, e2⟩ := hh.load (s := 23) (p := ⟨G, 1, none⟩) (v := .slice (some ⟨gk, 0, none⟩) 4096 ck) (by simp) (by simp)
          exact ⟨rfl, by simp [execOp, e1, go_sem, e2]⟩
        · refine ⟨fun p hp => ?_, hq _ xd⟩
          simp at hp
          subst hp
          rfl
        simp only [Act.put, List.setIfInBounds_toArray, List.set_cons_zero, List.set_cons_succ, List.getElem_toArray, List.getElem_cons_zero, List.getElem_cons_succ]
        refine wpAnyC_one (i := 2) (by kernel_rfl) rfl (fun K hK => ?_)
        go_simp
        refine (part_i gd O 4096 4096 k 512 _ _ wr.drew rfl rfl (by omega) (by omega) (by omega)).mono ?_
        rintro e w' ⟨rfl, rfl⟩
        refine hK _ _ ⟨?_, ?_⟩
        · refine ⟨fun p hp => ?_, hq _ xd⟩
          simp at hp
          subst hp
          rfl
        clear hK K
        refine wpAnyC_one (i := 6) (by kernel_rfl) rfl (fun K hK => ?_)
        go_simp
        refine (part_i gk 0 4096 ck k 512 _ _ wr.drew rfl rfl (by omega) (by omega) (by omega)).mono ?_
        rintro e w' ⟨rfl, rfl⟩
        rw [Nat.zero_add]
        refine hK _ _ ⟨?_, ?_⟩
        · refine ⟨fun p hp => ?_, hq _ xd⟩
          simp at hp
          subst hp
          rfl
        clear hK K
        refine wpAnyC_one (i := 7) (by kernel_rfl) rfl (fun K hK => ?_)
        go_simp
        refine hK _ _ ⟨?_, ?_⟩
        · refine ⟨fun p hp => ?_, hq _ xV⟩
          simp at hp
          subst hp
          rfl
        clear hK K hcp
        refine wpAnyC_done (by kernel_rfl) ?_ _
        go_wp2_with fail
        go_roundw
        case rel => exact ⟨k + 1, by omega, by go_num, xV, by rw [Hs.out]; exact hV, kV, U2⟩
        case measure => simp [intOf]; omega
    · obtain rfl : k = 8 := by omega
      go_wp2
      go_end0
      exact ⟨rfl, hd, U⟩
end Go.Proofs.YtglahlbponlepaaGreat.Dk

/-
  All unflushed writes carried out; Flush, Image, Crash.
-/
namespace Go.Proofs.YtglahlbponlepaaGreat.Dk
open Go.RowKit

/-- the row of the unflushed writes, cell by cell -/
theorem Lies.writes {w : World} {g : Nat} {D : DS} {F : Nat → Prop} {gd cd : Nat} {vu : Value} {ps : List (Nat × Nat × Nat)} (h : Lies w g D F gd cd vu ps) (h0 : 0 < D.uf.length) :
    ∃ gv cu cur, vu = .slice (some ⟨gv, 0, none⟩) D.uf.length cu ∧ D.uf.length ≤ cu ∧ cu ≤ 9223372036854775807 ∧ Box w gv cur 120 ∧
      ∀ k (hk : k < D.uf.length) (hp : k < ps.length), w.cell? ⟨gv, 0 + k * 2, none⟩ = some (.int .i64 (D.uf[k].1 : Int)) ∧ w.cell? ⟨gv, 0 + k * 2 + 1, none⟩ = some (.slice (some ⟨ps[k].2.1, 0, none⟩) 4096 ps[k].2.2) := by
  rcases h.row.2 with ⟨_, h1⟩ | ⟨gv, cu, cur, hv, hb, hg, hn, hm, hs, ht⟩
  · omega
  · refine ⟨gv, cu, cur, hv, hn, by unfold maxLen at hm; omega, hg, fun k hk hkp => ?_⟩
    obtain ⟨a0, a1⟩ := wcs_at ps k hkp
    have hc := h.row.cells (g := gv) (by rw [hv]; rfl)
    have c0 := hc _ _ a0
    have c1 := hc _ _ a1
    rw [Addr.add_lit] at c0 c1
    obtain ⟨e, _⟩ := h.each k hkp hk
    rw [e] at c0
    exact ⟨c0, c1⟩

set_option maxRecDepth 100000 in
set_option maxHeartbeats 1000000 in
theorem carryAll_at {g : Nat} {w : World} {D : DS} {F : Nat → Prop} {gd cd : Nat} {vu : Value} {ps : List (Nat × Nat × Nat)} (h : Lies w g D F gd cd vu ps) (gi ci L : Nat) (d : List UInt8) (hi : RowB w gi ci d) (hL : L = D.nb * 4096) (hd : d.length = L) (hne : ∀ k (hk : k < ps.length), ps[k].2.1 ≠ gi) :
    Calls Tryz.prog 59 #[.pointer (some ⟨g, 0, none⟩), .slice (some ⟨gi, 0, none⟩) L ci] w fun e w' => e = .returned (.tuple #[]) ∧ RowB w' gi ci (carryTo D.uf d D.uf.length) ∧ Upd (fun i => i = gi) w w' := by
  obtain ⟨_, _, c2, _⟩ := box_cells h.box
  by_cases h0 : 0 < D.uf.length
  · obtain ⟨gv, cu, cur, rfl, hcu, hmu, hbv, hcells⟩ := h.writes h0
    have hgi : gv ≠ gi := by
      obtain ⟨cur', hb', _⟩ := hi
      exact hbv.ne hb' (by decide)
    have Hcells : Hid _ := hcells
    have hlt := hbv.lt
    have Hd : Hid _ := hd
    have HL : Hid _ := hL
    have H : Hid (Lies w g D F gd cd (.slice (some ⟨gv, 0, none⟩) D.uf.length cu) ps) := h
    obtain ⟨n, hn⟩ : ∃ n, n = D.uf.length := ⟨_, rfl⟩
    rw [← hn] at hcu c2 ⊢
    have Hn : Hid _ := hn
    clear hcells hd hL h hn h0
    go_enter Tryz.func59, Tryz.ntmps59
    go_wp2_with fail
    go_loopw [11] (fun i wr => ∃ k : Nat, k ≤ n ∧ i = .int .i64 k ∧ RowB wr gi ci (carryTo D.uf d k) ∧ Upd (fun i => i = gi) w wr) (fun i _ => n - (intOf i).toNat)
    case atStart => exact ⟨0, Nat.zero_le _, rfl, hi, Upd.refl _ _⟩
    case round =>
      obtain ⟨k, hk, rfl, hrow, U⟩ := hrel
      clear hi
      by_cases hlt' : k < n
      · have hk' : k < D.uf.length := by rw [← Hn.out]; exact hlt'
        have hkp : k < ps.length := by rw [H.out.len]; exact hk'
        obtain ⟨a0, a1⟩ := Hcells.out k hk' hkp
        obtain ⟨_, hdat, _, _⟩ := H.out.each k hkp hk'
        obtain ⟨hb1, hb2⟩ := H.out.ok.at k hk'
        have hps := hne k hkp
        have hsucc : Hid (carryTo D.uf d (k + 1) = carry (carryTo D.uf d k) D.uf[k].1 D.uf[k].2 255) := carryTo_succ D.uf d k hk'
        have hlen : Hid ((carryTo D.uf d k).length = L) := by rw [carryTo_length D H.out.ok d (by rw [Hd.out, HL.out, H.out.ok.len]) k]; exact Hd.out
        have hroom : D.uf[k].1 * 4096 + 4096 ≤ L := by rw [HL.out]; omega
        generalize (ps[k]'hkp).2.1 = gk at a1 hdat hps
        generalize (ps[k]'hkp).2.2 = ck at a1 hdat
        generalize (D.uf[k]'hk').2 = data at hdat hb2 hsucc
        generalize (D.uf[k]'hk').1 = bn at a0 hsucc hb1 hroom
        have a0' := (World.cell?_of_block (a := ⟨gv, 0 + k * 2, none⟩) (U.block gv hlt hgi)).trans a0
        have a1' := (World.cell?_of_block (a := ⟨gv, 0 + k * 2 + 1, none⟩) (U.block gv hlt hgi)).trans a1
        simp only [Nat.zero_add] at a0' a1'
        have hdat' := U.rowB hdat hps
        have bA := (Below.refl wr.heap.size wr).alloc (Nat.le_refl _) (.cells #[.int .i64 (bn : Int), .slice (some ⟨gk, 0, none⟩) 4096 ck] 120)
        have U1 := U.alloc (.cells #[.int .i64 (bn : Int), .slice (some ⟨gk, 0, none⟩) 4096 ck] 120)
        have hrow1 := hrow.same (bA.block gi hrow.lt)
        have hdat1 := hdat'.same (bA.block gk hdat'.lt)
        have Hb2 : Hid _ := hb2
        clear a0 a1 hdat hdat' hb2 bA
        go_wp2_with fail
        refine (carryOut_at bn gk ck gi ci L 255 data (carryTo D.uf d k) _ hdat1 hrow1 hps Hb2.out hlen.out hroom (by omega)).mono ?_
        rintro e w1 ⟨rfl, r1, u1⟩
        have U2 := U1.trans u1 (fun i e => .inl e)
        clear hrow hrow1 hdat1 U1 u1 U
        go_wp2
        go_roundw
        case rel => exact ⟨k + 1, by omega, by go_num, by rw [hsucc.out]; exact r1, U2⟩
        case measure => simp [intOf]; omega
      · obtain rfl : k = n := by omega
        go_wp2
        go_end0
        exact ⟨rfl, hrow, U⟩
  · have hn : D.uf.length = 0 := by omega
    rw [hn]
    have hv : vu = .slice none 0 0 ∨ ∃ ad cu, vu = .slice (some ad) 0 cu := by
      rcases h.row.2 with ⟨h1, _⟩ | ⟨gv, cu, cur, hv, _⟩
      · exact .inl h1
      · exact .inr ⟨⟨gv, 0, none⟩, cu, by rw [hv, hn]⟩
    obtain ⟨av, cu, rfl⟩ : ∃ av cu, vu = .slice av 0 cu := by
      rcases hv with rfl | ⟨ad, cu, rfl⟩
      · exact ⟨none, 0, rfl⟩
      · exact ⟨some ad, cu, rfl⟩
    clear hv hd
    go_enter Tryz.func59, Tryz.ntmps59
    go_wp2_with fail
    refine wp_loop_rounds 1 ?_
    rw [rounds_succ]
    go_wp2
    go_end0
    exact ⟨rfl, hi, Upd.refl _ _⟩
end Go.Proofs.YtglahlbponlepaaGreat.Dk

/-
  Flush, Image.
-/
namespace Go.Proofs.YtglahlbponlepaaGreat.Dk
open Go.RowKit

/-- The unflushed writes are gone, what is durable has turned. -/
theorem Lies.emptied {w w1 : World} {g : Nat} {D : DS} {F : Nat → Prop} {gd cd : Nat} {vu : Value} {ps : List (Nat × Nat × Nat)} (h : Lies w g D F gd cd vu ps) (d : List UInt8) (hu : Upd (fun i => i = gd) w w1) (hr : RowB w1 gd cd d) (hl : d.length = D.dur.length) :
    Lies (w1.setCell ⟨g, 2, none⟩ (.slice none 0 0)) g { D with dur := d, uf := [] } F gd cd (.slice none 0 0) [] ∧ Upd F w (w1.setCell ⟨g, 2, none⟩ (.slice none 0 0)) := by
  have hne : g ≠ gd := by
    obtain ⟨cur, hb, _⟩ := h.dur
    exact h.box.ne hb (by decide)
  have b1 := hu.box h.box hne
  have b2 := b1.store 2 (.slice none 0 0)
  have gr := grown_store w1 g 2 (.slice none 0 0)
  refine ⟨⟨b2, hr.same (gr.block gd hr.lt (by simpa using hne.symm)), World.ownsRow_nil _ _ _ _, rfl, fun k hk => by simp at hk, h.fg, h.fd, fun k hk => by simp [Value.ownBlock] at hk, fun i hi => Nat.lt_of_lt_of_le (h.flt i hi) (Nat.le_trans hu.size gr.size), ?_⟩, ?_⟩
  · exact ⟨by show d.length = _; rw [hl, h.ok.len], h.ok.lo, h.ok.hi, by simp, h.ok.arm, h.ok.fail⟩
  · have u0 : Upd F w w1 := ⟨hu.os, hu.tape, hu.output, hu.size, fun k hk hn => hu.block k hk (fun e => hn (by rw [e]; exact h.fd))⟩
    exact u0.setCell (.inl h.fg) _

set_option maxRecDepth 100000 in
theorem flush_at {g : Nat} {w : World} {D : DS} {F : Nat → Prop} (hd : IsDisk w g D F) :
    Calls Tryz.prog 23 #[.pointer (some ⟨g, 0, none⟩)] w fun e w' => e = .returned (.int .i64 (D.operE : Int)) ∧ IsDisk w' g D.flush F ∧ Upd F w w' := by
  obtain ⟨gd, cd, vu, ps, h⟩ := hd
  have c := isMade_at h
  have hfl : Hid (D.flush = if D.operE = 0 then { D.oper with dur := D.image, uf := [] } else D.oper) := rfl
  have cO := operation_at h
  obtain ⟨E, hE⟩ : ∃ E, E = D.operE := ⟨_, rfl⟩
  rw [← hE] at hfl cO ⊢
  clear hE
  have hnb := D.oper_nb
  have hdur := D.oper_dur
  have huf := D.oper_uf
  have hfg := h.fg
  have himg : Hid (D.image = carryTo D.uf D.dur D.uf.length) := rfl
  generalize D.flush = Fl at hfl ⊢
  have Hnb : Hid _ := hnb
  have Hdur : Hid _ := hdur
  have Huf : Hid _ := huf
  clear hnb hdur huf
  by_cases h0 : E = 0
  · subst h0
    have hfl' : Hid (Fl = { D.oper with dur := D.image, uf := [] }) := by have := hfl.out; rw [if_pos rfl] at this; exact this
    clear hfl
    go_enter Tryz.func23, Tryz.ntmps23
    go_wp2_with fail
    refine c.mono ?_
    rintro e w' ⟨rfl, rfl⟩
    go_wp2_with fail
    refine cO.mono ?_
    rintro e w1 ⟨rfl, h1, g1⟩
    clear cO c
    obtain ⟨_, c1, _⟩ := box_cells h1.box
    have hneq : ∀ k (hk : k < ps.length), ps[k].2.1 ≠ gd := fun k hk => (h1.each k hk (by rw [← h1.len]; exact hk)).2.2.1
    go_wp2_with fail
    refine (carryAll_at h1 gd cd (D.oper.nb * 4096) D.oper.dur h1.dur rfl (by rw [h1.ok.len]) hneq).mono ?_
    rintro e w2 ⟨rfl, r2, u2⟩
    have hlen : (carryTo D.oper.uf D.oper.dur D.oper.uf.length).length = D.oper.dur.length := carryTo_length D.oper h1.ok D.oper.dur rfl _
    obtain ⟨hl, hu⟩ := h1.emptied _ u2 r2 hlen
    have hu0 : Upd F w w1 := (Upd.refl F w).grown g1 (fun k e => by cases e; exact .inl hfg)
    have hu3 := hu0.trans hu (fun i hi => .inl hi)
    rw [Huf.out, Hdur.out, ← himg.out] at hl
    have b2 : Box w2 g _ 86 := u2.box h1.box (by
      obtain ⟨cur, hb, _⟩ := h1.dur
      exact h1.box.ne hb (by decide))
    have f2 := b2.frozen 2
    obtain ⟨_, _, c2, _⟩ := box_cells b2
    clear c1 r2 u2 hu hu0 b2 h1 g1 hlen
    go_wp2
    go_ret
    rw [hfl'.out]
    exact ⟨rfl, ⟨_, _, _, _, hl⟩, hu3⟩
  · have hfl' : Hid (Fl = D.oper) := by have := hfl.out; rw [if_neg h0] at this; exact this
    have h0' : ((E : Int) != 0) = true := by simp; omega
    clear hfl h0
    go_enter Tryz.func23, Tryz.ntmps23
    go_wp2_with fail
    refine c.mono ?_
    rintro e w' ⟨rfl, rfl⟩
    go_wp2_with fail
    refine cO.mono ?_
    rintro e w1 ⟨rfl, h1, g1⟩
    have hu0 : Upd F w w1 := (Upd.refl F w).grown g1 (fun k e => by cases e; exact .inl hfg)
    clear cO c
    go_wp2
    go_ret
    rw [hfl'.out]
    exact ⟨rfl, ⟨_, _, _, _, h1⟩, hu0⟩

end Go.Proofs.YtglahlbponlepaaGreat.Dk

/-
  The rest is asked of a journal that is whole; Flush.
-/
namespace Go.Proofs.YtglahlbponlepaaGreat.J
open Go.RowKit
open Go.Proofs.YtglahlbponlepaaGreat.Dk (Box)

theorem ahead_in31 {w : World} {g dg : Nat} {vs : Value} {J : JS} (h : Box w g (jC g dg vs J) 63) (hb : J.broken = false) (Q : Int → World → Prop) (caps : Array Value)
    (hc : Calls Tryz.prog 21 caps w fun r w' => ∃ e : Int, r = .returned (.int .i64 e) ∧ Q e w') :
    Calls Tryz.prog 20 #[.pointer (some ⟨g, 0, none⟩), .func (.func 21) #[] caps] w fun r w' => ∃ e : Int, r = .returned (.int .i64 e) ∧ Q e w' := by
  obtain ⟨c0, _, _, _, _, _, _, _, _, _, _, c11⟩ := box_cells h
  rw [hb] at c11
  go_enter Tryz.func20, Tryz.ntmps20
  go_wp2_with fail
  refine (isMade_cell g w c0).mono ?_
  rintro r w1 ⟨rfl, rfl⟩
  go_wp2_with fail
  refine hc.mono ?_
  rintro r w1 ⟨e, rfl, hq⟩
  go_wp2_with fail
  go_ret
  exact ⟨e, rfl, hq⟩
theorem ahead_in34 {w : World} {g dg : Nat} {vs : Value} {J : JS} (h : Box w g (jC g dg vs J) 63) (hb : J.broken = false) (Q : Int → World → Prop) (caps : Array Value)
    (hc : Calls Tryz.prog 24 caps w fun r w' => ∃ e : Int, r = .returned (.int .i64 e) ∧ Q e w') :
    Calls Tryz.prog 20 #[.pointer (some ⟨g, 0, none⟩), .func (.func 24) #[] caps] w fun r w' => ∃ e : Int, r = .returned (.int .i64 e) ∧ Q e w' := by
  obtain ⟨c0, _, _, _, _, _, _, _, _, _, _, c11⟩ := box_cells h
  rw [hb] at c11
  go_enter Tryz.func20, Tryz.ntmps20
  go_wp2_with fail
  refine (isMade_cell g w c0).mono ?_
  rintro r w1 ⟨rfl, rfl⟩
  go_wp2_with fail
  refine hc.mono ?_
  rintro r w1 ⟨e, rfl, hq⟩
  go_wp2_with fail
  go_ret
  exact ⟨e, rfl, hq⟩
theorem ahead_in41 {w : World} {g dg : Nat} {vs : Value} {J : JS} (h : Box w g (jC g dg vs J) 63) (hb : J.broken = false) (Q : Int → World → Prop) (caps : Array Value)
    (hc : Calls Tryz.prog 30 caps w fun r w' => ∃ e : Int, r = .returned (.int .i64 e) ∧ Q e w') :
    Calls Tryz.prog 20 #[.pointer (some ⟨g, 0, none⟩), .func (.func 30) #[] caps] w fun r w' => ∃ e : Int, r = .returned (.int .i64 e) ∧ Q e w' := by
  obtain ⟨c0, _, _, _, _, _, _, _, _, _, _, c11⟩ := box_cells h
  rw [hb] at c11
  go_enter Tryz.func20, Tryz.ntmps20
  go_wp2_with fail
  refine (isMade_cell g w c0).mono ?_
  rintro r w1 ⟨rfl, rfl⟩
  go_wp2_with fail
  refine hc.mono ?_
  rintro r w1 ⟨e, rfl, hq⟩
  go_wp2_with fail
  go_ret
  exact ⟨e, rfl, hq⟩
theorem ahead_in43 {w : World} {g dg : Nat} {vs : Value} {J : JS} (h : Box w g (jC g dg vs J) 63) (hb : J.broken = false) (Q : Int → World → Prop) (caps : Array Value)
    (hc : Calls Tryz.prog 38 caps w fun r w' => ∃ e : Int, r = .returned (.int .i64 e) ∧ Q e w') :
    Calls Tryz.prog 20 #[.pointer (some ⟨g, 0, none⟩), .func (.func 38) #[] caps] w fun r w' => ∃ e : Int, r = .returned (.int .i64 e) ∧ Q e w' := by
  obtain ⟨c0, _, _, _, _, _, _, _, _, _, _, c11⟩ := box_cells h
  rw [hb] at c11
  go_enter Tryz.func20, Tryz.ntmps20
  go_wp2_with fail
  refine (isMade_cell g w c0).mono ?_
  rintro r w1 ⟨rfl, rfl⟩
  go_wp2_with fail
  refine hc.mono ?_
  rintro r w1 ⟨e, rfl, hq⟩
  go_wp2_with fail
  go_ret
  exact ⟨e, rfl, hq⟩
theorem ahead_in25 {w : World} {g dg : Nat} {vs : Value} {J : JS} (h : Box w g (jC g dg vs J) 63) (hb : J.broken = false) (Q : Int → World → Prop) (caps : Array Value)
    (hc : Calls Tryz.prog 34 caps w fun r w' => ∃ e : Int, r = .returned (.int .i64 e) ∧ Q e w') :
    Calls Tryz.prog 20 #[.pointer (some ⟨g, 0, none⟩), .func (.func 34) #[] caps] w fun r w' => ∃ e : Int, r = .returned (.int .i64 e) ∧ Q e w' := by
  obtain ⟨c0, _, _, _, _, _, _, _, _, _, _, c11⟩ := box_cells h
  rw [hb] at c11
  go_enter Tryz.func20, Tryz.ntmps20
  go_wp2_with fail
  refine (isMade_cell g w c0).mono ?_
  rintro r w1 ⟨rfl, rfl⟩
  go_wp2_with fail
  refine hc.mono ?_
  rintro r w1 ⟨e, rfl, hq⟩
  go_wp2_with fail
  go_ret
  exact ⟨e, rfl, hq⟩

theorem flush1_at (w : World) : Calls Tryz.prog 21 #[] w fun r w' => r = .returned (.int .i64 0) ∧ w = w' := by
  go_enter Tryz.func21, Tryz.ntmps21
  go_wp2_with fail
  go_ret
  exact ⟨rfl, rfl⟩

theorem flush_good {w : World} {g dg : Nat} {vs : Value} {J : JS} {D : Dk.DS} {F : Nat → Prop} (h : Box w g (jC g dg vs J) 63) (hd : Dk.IsDisk w dg D F) (hg : ¬ F g) (hb : J.broken = false) (hE : D.operE = 0) (h1 : 1 ≤ J.next) (h2 : J.next ≤ 549755813889) :
    Calls Tryz.prog 6 #[.pointer (some ⟨g, 0, none⟩)] w fun r w' => r = .returned (.int .i64 0) ∧ ∃ u, Dk.IsDisk u dg D.flush F ∧ Dk.Upd F w u ∧ Box u g (jC g dg vs J) 63 ∧ w' = u.setCell ⟨g, 5, none⟩ (.int .i64 (J.next - 1)) := by
  have a := ahead_in31 h hb (fun e w' => e = 0 ∧ w = w') #[] ((flush1_at w).mono (by rintro r w' ⟨rfl, rfl⟩; exact ⟨0, rfl, rfl, rfl⟩))
  have c1 := (box_cells h).2.1
  have cf := Dk.flush_at hd
  rw [hE] at cf
  go_enter Tryz.func6, Tryz.ntmps6
  go_wp2_with fail
  refine a.mono ?_
  rintro r w1 ⟨e, rfl, rfl, rfl⟩
  go_wp2_with fail
  refine cf.mono ?_
  rintro r u ⟨rfl, hd', hu⟩
  have h' : Box u g (jC g dg vs J) 63 := (hu.block g h.lt hg).trans h
  go_wp2_with fail
  refine (asked_ok g u).mono ?_
  rintro r w1 ⟨rfl, rfl⟩
  obtain ⟨_, _, _, _, c4, c5, _, _, _, _, _, _⟩ := box_cells h'
  have f5 := h'.frozen 5
  go_wp2_with fail
  go_ret
  exact ⟨rfl, _, hd', hu, h', rfl⟩
end Go.Proofs.YtglahlbponlepaaGreat.J

/-
  ring's own calls: within, Right, Free, behind, ask with its closures, At, Reserve, Release, Put, Drop.
-/
namespace Go.Proofs.YtglahlbponlepaaGreat.Rg
open Go.RowKit

/-- a block that was made for one value -/
def Box (w : World) (g : Nat) (cs : Array Value) (t : TypeId) : Prop := w.heap[g]? = some (.cells cs t (0, 0))
theorem Box.cell {w : World} {g : Nat} {cs : Array Value} {t : TypeId} (h : Box w g cs t) (j : Nat) : w.cell? ⟨g, j, none⟩ = cs[j]? := cell_of_row w g j cs t (0, 0) h
theorem Box.lt {w : World} {g : Nat} {cs : Array Value} {t : TypeId} (h : Box w g cs t) : g < w.heap.size := (Array.getElem?_eq_some_iff.1 h).1
theorem Box.below {w w' : World} {g : Nat} {cs : Array Value} {t : TypeId} (h : Box w g cs t) (hb : Below w.heap.size w w') : Box w' g cs t := (hb.block g h.lt).trans h
theorem Box.new (w : World) (cs : Array Value) (t : TypeId) : Box (w.alloc (.cells cs t)) w.heap.size cs t := heap_alloc_new w _
theorem Box.frozen {w : World} {g : Nat} {cs : Array Value} {t : TypeId} (h : Box w g cs t) (j : Nat) : w.frozen? ⟨g, j, none⟩ = false := frozen_of_row w g j cs t h
theorem Box.store {w : World} {g : Nat} {cs : Array Value} {t : TypeId} (h : Box w g cs t) (j : Nat) (v : Value) : Box (w.setCell ⟨g, j, none⟩ v) g (cs.setIfInBounds j v) t := heap_setCell_same w g j cs t v h
theorem Box.other {w : World} {g k : Nat} {cs : Array Value} {t : TypeId} (h : Box w g cs t) (j : Nat) (v : Value) (hn : g ≠ k) : Box (w.setCell ⟨k, j, none⟩ v) g cs t := (heap_setCell_other w ⟨k, j, none⟩ g v hn).trans h
theorem Box.alloc {w : World} {g : Nat} {cs : Array Value} {t : TypeId} (h : Box w g cs t) (o : Obj) : Box (w.alloc o) g cs t := (Below.heap_alloc w o g h.lt).trans h
theorem Box.next (w : World) (o : Obj) (cs : Array Value) (t : TypeId) : Box ((w.alloc o).alloc (.cells cs t)) (w.heap.size + 1) cs t := by
  have := Box.new (w.alloc o) cs t
  simpa using this
theorem Box.next2 (w : World) (o o' : Obj) (cs : Array Value) (t : TypeId) : Box (((w.alloc o).alloc o').alloc (.cells cs t)) (w.heap.size + 2) cs t := by
  have := Box.new ((w.alloc o).alloc o') cs t
  simpa using this
theorem Box.next3 (w : World) (o o' o'' : Obj) (cs : Array Value) (t : TypeId) : Box ((((w.alloc o).alloc o').alloc o'').alloc (.cells cs t)) (w.heap.size + 3) cs t := by
  have := Box.new (((w.alloc o).alloc o').alloc o'') cs t
  simpa using this
theorem Box.all4 {w : World} {g : Nat} {v0 v1 v2 v3 : Value} {t : TypeId} (h : Box w g #[v0, v1, v2, v3] t) : w.cell? ⟨g, 0, none⟩ = some v0 ∧ w.cell? ⟨g, 1, none⟩ = some v1 ∧ w.cell? ⟨g, 2, none⟩ = some v2 ∧ w.cell? ⟨g, 3, none⟩ = some v3 :=
  ⟨h.cell 0, h.cell 1, h.cell 2, h.cell 3⟩
theorem Box.fr4 {w : World} {g : Nat} {cs : Array Value} {t : TypeId} (h : Box w g cs t) : w.frozen? ⟨g, 0, none⟩ = false ∧ w.frozen? ⟨g, 1, none⟩ = false ∧ w.frozen? ⟨g, 2, none⟩ = false ∧ w.frozen? ⟨g, 3, none⟩ = false :=
  ⟨h.frozen 0, h.frozen 1, h.frozen 2, h.frozen 3⟩
theorem Box.one {w : World} {g : Nat} {v0 : Value} {t : TypeId} (h : Box w g #[v0] t) : w.cell? ⟨g, 0, none⟩ = some v0 := h.cell 0
theorem keep {w wk w' : World} (B : Below w.heap.size w wk) (b : Below wk.heap.size wk w') : Below w.heap.size w w' := B.trans (b.mono B.size)
theorem keepA {w wk w' : World} {o : Obj} (B : Below w.heap.size w wk) (b : Below (wk.alloc o).heap.size (wk.alloc o) w') : Below w.heap.size w w' := keep (B.alloc B.size o) b

/-- the numbers make a right ring -/
def R (S T U H : Int) : Prop := (1 ≤ S ∧ S ≤ 512) ∧ (0 ≤ T ∧ T ≤ S - 1) ∧ (0 ≤ U ∧ U ≤ S) ∧ (0 ≤ H ∧ H ≤ S - U)
instance (S T U H : Int) : Decidable (R S T U H) := by unfold R; infer_instance
/-- a ring as a value's parts -/
def ri (S T U H : Int) : Array Value := #[.int .i64 S, .int .i64 T, .int .i64 U, .int .i64 H]

theorem within_at (n a b : Int) (w : World) :
    Calls Tryz.prog 72 #[.int .i64 n, .int .i64 a, .int .i64 b] w fun r w' => r = .returned (.bool (decide (a ≤ n ∧ n ≤ b))) ∧ w = w' := by
  by_cases h1 : a ≤ n
  · by_cases h2 : n ≤ b
    · rw [decide_eq_true ⟨h1, h2⟩]
      go_enter Tryz.func72, Tryz.ntmps72
      go_wp2
      go_ret
      exact ⟨rfl, rfl⟩
    · rw [decide_eq_false (fun h => h2 h.2)]
      go_enter Tryz.func72, Tryz.ntmps72
      go_wp2
      go_ret
      exact ⟨rfl, rfl⟩
  · rw [decide_eq_false (fun h => h1 h.1)]
    go_enter Tryz.func72, Tryz.ntmps72
    go_wp2
    go_ret
    exact ⟨rfl, rfl⟩

theorem right_at (S T U H : Int) (w : World) :
    Calls Tryz.prog 91 #[.agg (ri S T U H)] w fun r w' => r = .returned (.bool (decide (R S T U H))) ∧ Below w.heap.size w w' := by
  unfold ri
  have B := (Below.refl w.heap.size w).alloc (Nat.le_refl _) (.cells #[.int .i64 S, .int .i64 T, .int .i64 U, .int .i64 H] 61)
  by_cases h1 : 1 ≤ S ∧ S ≤ 512
  · by_cases h2 : 0 ≤ T ∧ T ≤ S - 1
    · by_cases h3 : 0 ≤ U ∧ U ≤ S
      · have e : decide (R S T U H) = decide (0 ≤ H ∧ H ≤ S - U) := decide_eq_decide.2 ⟨fun h => h.2.2.2, fun h => ⟨h1, h2, h3, h⟩⟩
        rw [e]
        go_enter Tryz.func91, Tryz.ntmps91
        go_wp2_with fail
        refine (within_at _ _ _ _).mono ?_
        rintro r w1 ⟨rfl, rfl⟩
        rw [decide_eq_true h1]
        go_wp2_with fail
        refine (within_at _ _ _ _).mono ?_
        rintro r w1 ⟨rfl, rfl⟩
        rw [decide_eq_true h2]
        go_wp2_with fail
        refine (within_at _ _ _ _).mono ?_
        rintro r w1 ⟨rfl, rfl⟩
        rw [decide_eq_true h3]
        go_wp2_with fail
        refine (within_at _ _ _ _).mono ?_
        rintro r w1 ⟨rfl, rfl⟩
        go_wp2_with fail
        go_ret
        exact ⟨by simp, B⟩
      · rw [decide_eq_false (p := R S T U H) (fun h => h3 h.2.2.1)]
        go_enter Tryz.func91, Tryz.ntmps91
        go_wp2_with fail
        refine (within_at _ _ _ _).mono ?_
        rintro r w1 ⟨rfl, rfl⟩
        rw [decide_eq_true h1]
        go_wp2_with fail
        refine (within_at _ _ _ _).mono ?_
        rintro r w1 ⟨rfl, rfl⟩
        rw [decide_eq_true h2]
        go_wp2_with fail
        refine (within_at _ _ _ _).mono ?_
        rintro r w1 ⟨rfl, rfl⟩
        rw [decide_eq_false h3]
        go_wp2_with fail
        go_ret
        exact ⟨rfl, B⟩
    · rw [decide_eq_false (p := R S T U H) (fun h => h2 h.2.1)]
      go_enter Tryz.func91, Tryz.ntmps91
      go_wp2_with fail
      refine (within_at _ _ _ _).mono ?_
      rintro r w1 ⟨rfl, rfl⟩
      rw [decide_eq_true h1]
      go_wp2_with fail
      refine (within_at _ _ _ _).mono ?_
      rintro r w1 ⟨rfl, rfl⟩
      rw [decide_eq_false h2]
      go_wp2_with fail
      go_ret
      exact ⟨rfl, B⟩
  · rw [decide_eq_false (p := R S T U H) (fun h => h1 h.1)]
    go_enter Tryz.func91, Tryz.ntmps91
    go_wp2_with fail
    refine (within_at _ _ _ _).mono ?_
    rintro r w1 ⟨rfl, rfl⟩
    rw [decide_eq_false h1]
    go_wp2_with fail
    go_ret
    exact ⟨rfl, B⟩

/-- what is free -/
def fr (S T U H : Int) : Int := if R S T U H then S - U - H else 0
theorem free_at (S T U H : Int) (w : World) :
    Calls Tryz.prog 66 #[.agg (ri S T U H)] w fun r w' => r = .returned (.int .i64 (fr S T U H)) ∧ Below w.heap.size w w' := by
  have B := (Below.refl w.heap.size w).alloc (Nat.le_refl _) (.cells (ri S T U H) 61)
  have bx := Box.new w (ri S T U H) 61
  unfold ri at *
  by_cases h : R S T U H
  · rw [fr, if_pos h]
    go_enter Tryz.func66, Tryz.ntmps66
    go_wp2_with fail
    refine (right_at _ _ _ _ _).mono ?_
    rintro r w1 ⟨rfl, b1⟩
    have bx1 := bx.below b1
    have B1 := keep B b1
    clear bx B b1
    obtain ⟨c0, c1, c2, c3⟩ := bx1.all4
    rw [decide_eq_true h]
    obtain ⟨h1, h2, h3, h4⟩ := h
    go_wp2_with fail
    go_ret
    exact ⟨rfl, B1⟩
  · rw [fr, if_neg h]
    go_enter Tryz.func66, Tryz.ntmps66
    go_wp2_with fail
    refine (right_at _ _ _ _ _).mono ?_
    rintro r w1 ⟨rfl, b1⟩
    have B1 := keep B b1
    clear bx B b1
    rw [decide_eq_false h]
    go_wp2_with fail
    go_ret
    exact ⟨rfl, B1⟩

theorem behind_at (S T U H n : Int) (w : World) (hS : 1 ≤ S) (hS' : S ≤ 512) (hT : 0 ≤ T) (hT' : T < S) (hn : 0 ≤ n) (hn' : n ≤ S) :
    Calls Tryz.prog 63 #[.agg (ri S T U H), .int .i64 n] w fun r w' => r = .returned (.int .i64 ((T + n) % S)) ∧ Below w.heap.size w w' := by
  have B := (Below.refl w.heap.size w).alloc (Nat.le_refl _) (.cells (ri S T U H) 61)
  have bx := Box.new w (ri S T U H) 61
  have e : (T + n).tmod S = (T + n) % S := Int.tmod_eq_emod_of_nonneg (by omega)
  unfold ri at *
  obtain ⟨c0, c1, c2, c3⟩ := bx.all4
  go_enter Tryz.func63, Tryz.ntmps63
  go_wp2_with fail
  go_ret
  exact ⟨by simp, B⟩

end Go.Proofs.YtglahlbponlepaaGreat.Rg

/-
  ask, whatever closure it is handed.
-/
namespace Go.Proofs.YtglahlbponlepaaGreat.Rg
open Go.RowKit

theorem ask_bad (S T U H n no : Int) (f : Value) (w : World) (h : ¬(R S T U H ∧ 0 ≤ n)) :
    Calls Tryz.prog 62 #[.agg (ri S T U H), .int .i64 n, f, .int .i64 no] w fun r w' => r = .returned (.int .i64 2) ∧ Below w.heap.size w w' := by
  have B := (Below.refl w.heap.size w).alloc (Nat.le_refl _) (.cells (ri S T U H) 61)
  unfold ri at *
  by_cases hR : R S T U H
  · have hn : n < 0 := by
      by_cases q : 0 ≤ n
      · exact absurd ⟨hR, q⟩ h
      · omega
    go_enter Tryz.func62, Tryz.ntmps62
    go_wp2_with fail
    refine (right_at _ _ _ _ _).mono ?_
    rintro r w1 ⟨rfl, b1⟩
    have B1 := keep B b1
    clear B b1
    rw [decide_eq_true hR]
    go_wp2_with fail
    go_ret
    exact ⟨rfl, B1⟩
  · go_enter Tryz.func62, Tryz.ntmps62
    go_wp2_with fail
    refine (right_at _ _ _ _ _).mono ?_
    rintro r w1 ⟨rfl, b1⟩
    have B1 := keep B b1
    clear B b1
    rw [decide_eq_false hR]
    go_wp2_with fail
    go_ret
    exact ⟨rfl, B1⟩

theorem ask_in22 (caps : Array Value) (S T U H n no : Int) (m : Bool) (w : World) (hR : R S T U H) (hn : 0 ≤ n)
    (hm : ∀ w', Below w.heap.size w w' → Calls Tryz.prog 65 caps w' fun r w'' => r = .returned (.bool m) ∧ Below w'.heap.size w' w'') :
    Calls Tryz.prog 62 #[.agg (ri S T U H), .int .i64 n, .func (.func 65) #[] caps, .int .i64 no] w fun r w' => r = .returned (.int .i64 (if m then 0 else no)) ∧ Below w.heap.size w w' := by
  have B := (Below.refl w.heap.size w).alloc (Nat.le_refl _) (.cells (ri S T U H) 61)
  unfold ri at *
  cases m
  · rw [if_neg (by simp)]
    go_enter Tryz.func62, Tryz.ntmps62
    go_wp2_with fail
    refine (right_at _ _ _ _ _).mono ?_
    rintro r w1 ⟨rfl, b1⟩
    have B1 := keep B b1
    clear B b1
    rw [decide_eq_true hR]
    go_wp2_with fail
    refine (hm _ B1).mono ?_
    rintro r w2 ⟨rfl, b2⟩
    have B2 := keep B1 b2
    go_wp2_with fail
    go_ret
    exact ⟨rfl, B2⟩
  · rw [if_pos rfl]
    go_enter Tryz.func62, Tryz.ntmps62
    go_wp2_with fail
    refine (right_at _ _ _ _ _).mono ?_
    rintro r w1 ⟨rfl, b1⟩
    have B1 := keep B b1
    clear B b1
    rw [decide_eq_true hR]
    go_wp2_with fail
    refine (hm _ B1).mono ?_
    rintro r w2 ⟨rfl, b2⟩
    have B2 := keep B1 b2
    go_wp2_with fail
    go_ret
    exact ⟨rfl, B2⟩

theorem ask_in24 (caps : Array Value) (S T U H n no : Int) (m : Bool) (w : World) (hR : R S T U H) (hn : 0 ≤ n)
    (hm : ∀ w', Below w.heap.size w w' → Calls Tryz.prog 61 caps w' fun r w'' => r = .returned (.bool m) ∧ Below w'.heap.size w' w'') :
    Calls Tryz.prog 62 #[.agg (ri S T U H), .int .i64 n, .func (.func 61) #[] caps, .int .i64 no] w fun r w' => r = .returned (.int .i64 (if m then 0 else no)) ∧ Below w.heap.size w w' := by
  have B := (Below.refl w.heap.size w).alloc (Nat.le_refl _) (.cells (ri S T U H) 61)
  unfold ri at *
  cases m
  · rw [if_neg (by simp)]
    go_enter Tryz.func62, Tryz.ntmps62
    go_wp2_with fail
    refine (right_at _ _ _ _ _).mono ?_
    rintro r w1 ⟨rfl, b1⟩
    have B1 := keep B b1
    clear B b1
    rw [decide_eq_true hR]
    go_wp2_with fail
    refine (hm _ B1).mono ?_
    rintro r w2 ⟨rfl, b2⟩
    have B2 := keep B1 b2
    go_wp2_with fail
    go_ret
    exact ⟨rfl, B2⟩
  · rw [if_pos rfl]
    go_enter Tryz.func62, Tryz.ntmps62
    go_wp2_with fail
    refine (right_at _ _ _ _ _).mono ?_
    rintro r w1 ⟨rfl, b1⟩
    have B1 := keep B b1
    clear B b1
    rw [decide_eq_true hR]
    go_wp2_with fail
    refine (hm _ B1).mono ?_
    rintro r w2 ⟨rfl, b2⟩
    have B2 := keep B1 b2
    go_wp2_with fail
    go_ret
    exact ⟨rfl, B2⟩

theorem ask_in26 (caps : Array Value) (S T U H n no : Int) (m : Bool) (w : World) (hR : R S T U H) (hn : 0 ≤ n)
    (hm : ∀ w', Below w.heap.size w w' → Calls Tryz.prog 75 caps w' fun r w'' => r = .returned (.bool m) ∧ Below w'.heap.size w' w'') :
    Calls Tryz.prog 62 #[.agg (ri S T U H), .int .i64 n, .func (.func 75) #[] caps, .int .i64 no] w fun r w' => r = .returned (.int .i64 (if m then 0 else no)) ∧ Below w.heap.size w w' := by
  have B := (Below.refl w.heap.size w).alloc (Nat.le_refl _) (.cells (ri S T U H) 61)
  unfold ri at *
  cases m
  · rw [if_neg (by simp)]
    go_enter Tryz.func62, Tryz.ntmps62
    go_wp2_with fail
    refine (right_at _ _ _ _ _).mono ?_
    rintro r w1 ⟨rfl, b1⟩
    have B1 := keep B b1
    clear B b1
    rw [decide_eq_true hR]
    go_wp2_with fail
    refine (hm _ B1).mono ?_
    rintro r w2 ⟨rfl, b2⟩
    have B2 := keep B1 b2
    go_wp2_with fail
    go_ret
    exact ⟨rfl, B2⟩
  · rw [if_pos rfl]
    go_enter Tryz.func62, Tryz.ntmps62
    go_wp2_with fail
    refine (right_at _ _ _ _ _).mono ?_
    rintro r w1 ⟨rfl, b1⟩
    have B1 := keep B b1
    clear B b1
    rw [decide_eq_true hR]
    go_wp2_with fail
    refine (hm _ B1).mono ?_
    rintro r w2 ⟨rfl, b2⟩
    have B2 := keep B1 b2
    go_wp2_with fail
    go_ret
    exact ⟨rfl, B2⟩

theorem ask_in27 (caps : Array Value) (S T U H n no : Int) (m : Bool) (w : World) (hR : R S T U H) (hn : 0 ≤ n)
    (hm : ∀ w', Below w.heap.size w w' → Calls Tryz.prog 71 caps w' fun r w'' => r = .returned (.bool m) ∧ Below w'.heap.size w' w'') :
    Calls Tryz.prog 62 #[.agg (ri S T U H), .int .i64 n, .func (.func 71) #[] caps, .int .i64 no] w fun r w' => r = .returned (.int .i64 (if m then 0 else no)) ∧ Below w.heap.size w w' := by
  have B := (Below.refl w.heap.size w).alloc (Nat.le_refl _) (.cells (ri S T U H) 61)
  unfold ri at *
  cases m
  · rw [if_neg (by simp)]
    go_enter Tryz.func62, Tryz.ntmps62
    go_wp2_with fail
    refine (right_at _ _ _ _ _).mono ?_
    rintro r w1 ⟨rfl, b1⟩
    have B1 := keep B b1
    clear B b1
    rw [decide_eq_true hR]
    go_wp2_with fail
    refine (hm _ B1).mono ?_
    rintro r w2 ⟨rfl, b2⟩
    have B2 := keep B1 b2
    go_wp2_with fail
    go_ret
    exact ⟨rfl, B2⟩
  · rw [if_pos rfl]
    go_enter Tryz.func62, Tryz.ntmps62
    go_wp2_with fail
    refine (right_at _ _ _ _ _).mono ?_
    rintro r w1 ⟨rfl, b1⟩
    have B1 := keep B b1
    clear B b1
    rw [decide_eq_true hR]
    go_wp2_with fail
    refine (hm _ B1).mono ?_
    rintro r w2 ⟨rfl, b2⟩
    have B2 := keep B1 b2
    go_wp2_with fail
    go_ret
    exact ⟨rfl, B2⟩

theorem ask_in29 (caps : Array Value) (S T U H n no : Int) (m : Bool) (w : World) (hR : R S T U H) (hn : 0 ≤ n)
    (hm : ∀ w', Below w.heap.size w w' → Calls Tryz.prog 73 caps w' fun r w'' => r = .returned (.bool m) ∧ Below w'.heap.size w' w'') :
    Calls Tryz.prog 62 #[.agg (ri S T U H), .int .i64 n, .func (.func 73) #[] caps, .int .i64 no] w fun r w' => r = .returned (.int .i64 (if m then 0 else no)) ∧ Below w.heap.size w w' := by
  have B := (Below.refl w.heap.size w).alloc (Nat.le_refl _) (.cells (ri S T U H) 61)
  unfold ri at *
  cases m
  · rw [if_neg (by simp)]
    go_enter Tryz.func62, Tryz.ntmps62
    go_wp2_with fail
    refine (right_at _ _ _ _ _).mono ?_
    rintro r w1 ⟨rfl, b1⟩
    have B1 := keep B b1
    clear B b1
    rw [decide_eq_true hR]
    go_wp2_with fail
    refine (hm _ B1).mono ?_
    rintro r w2 ⟨rfl, b2⟩
    have B2 := keep B1 b2
    go_wp2_with fail
    go_ret
    exact ⟨rfl, B2⟩
  · rw [if_pos rfl]
    go_enter Tryz.func62, Tryz.ntmps62
    go_wp2_with fail
    refine (right_at _ _ _ _ _).mono ?_
    rintro r w1 ⟨rfl, b1⟩
    have B1 := keep B b1
    clear B b1
    rw [decide_eq_true hR]
    go_wp2_with fail
    refine (hm _ B1).mono ?_
    rintro r w2 ⟨rfl, b2⟩
    have B2 := keep B1 b2
    go_wp2_with fail
    go_ret
    exact ⟨rfl, B2⟩

end Go.Proofs.YtglahlbponlepaaGreat.Rg

/-
  The closures that ask is handed.
-/
namespace Go.Proofs.YtglahlbponlepaaGreat.Rg
open Go.RowKit

abbrev pt (g : Nat) : Value := .pointer (some ⟨g, 0, none⟩)

theorem drop1 (S T U H n : Int) (g h : Nat) (w : World) (bn : Box w g #[.int .i64 n] 3) (br : Box w h (ri S T U H) 61) :
    Calls Tryz.prog 61 #[pt g, pt h] w fun r w' => r = .returned (.bool (decide (n ≤ U))) ∧ Below w.heap.size w w' := by
  have c := bn.one
  obtain ⟨c0, c1, c2, c3⟩ := br.all4
  go_enter Tryz.func61, Tryz.ntmps61
  go_wp2_with fail
  go_ret
  exact ⟨rfl, Below.refl _ _⟩
theorem release1 (S T U H n : Int) (g h : Nat) (w : World) (bn : Box w g #[.int .i64 n] 3) (br : Box w h (ri S T U H) 61) :
    Calls Tryz.prog 75 #[pt g, pt h] w fun r w' => r = .returned (.bool (decide (n ≤ H))) ∧ Below w.heap.size w w' := by
  have c := bn.one
  obtain ⟨c0, c1, c2, c3⟩ := br.all4
  go_enter Tryz.func75, Tryz.ntmps75
  go_wp2_with fail
  go_ret
  exact ⟨rfl, Below.refl _ _⟩
theorem put1 (S T U H n k : Int) (f g h : Nat) (w : World) (bk : Box w f #[.int .i64 k] 3) (bn : Box w g #[.int .i64 n] 3) (br : Box w h (ri S T U H) 61) :
    Calls Tryz.prog 71 #[pt f, pt g, pt h] w fun r w' => r = .returned (.bool (decide (0 ≤ k ∧ k ≤ n ∧ k ≤ H))) ∧ Below w.heap.size w w' := by
  have c := bn.one
  have d := bk.one
  obtain ⟨c0, c1, c2, c3⟩ := br.all4
  by_cases q : n ≤ H
  · have e : decide (0 ≤ k ∧ k ≤ n ∧ k ≤ H) = decide (0 ≤ k ∧ k ≤ n) := decide_eq_decide.2 (by omega)
    rw [e]
    go_enter Tryz.func71, Tryz.ntmps71
    go_wp2_with fail
    refine (within_at _ _ _ _).mono ?_
    rintro r w1 ⟨rfl, rfl⟩
    go_wp2_with fail
    go_ret
    exact ⟨by simp, Below.refl _ _⟩
  · have e : decide (0 ≤ k ∧ k ≤ n ∧ k ≤ H) = decide (0 ≤ k ∧ k ≤ H) := decide_eq_decide.2 (by omega)
    rw [e]
    go_enter Tryz.func71, Tryz.ntmps71
    go_wp2_with fail
    refine (within_at _ _ _ _).mono ?_
    rintro r w1 ⟨rfl, rfl⟩
    go_wp2_with fail
    go_ret
    exact ⟨by simp, Below.refl _ _⟩

theorem reserve1 (S T U H n : Int) (g h : Nat) (w : World) (bn : Box w g #[.int .i64 n] 3) (br : Box w h (ri S T U H) 61) :
    Calls Tryz.prog 65 #[pt g, pt h] w fun r w' => r = .returned (.bool (decide (n ≤ fr S T U H))) ∧ Below w.heap.size w w' := by
  have c := bn.one
  obtain ⟨c0, c1, c2, c3⟩ := br.all4
  go_enter Tryz.func65, Tryz.ntmps65
  go_wp2_with fail
  go_region_with (go_at_call 66; refine (free_at S T U H _).mono ?_; rintro e w2 ⟨rfl, b2⟩; have B2 := ((Below.refl w.heap.size w).drew).trans b2; have d := ((show Box w.drew g #[.int .i64 n] 3 from bn).below b2).one)
  all_goals go_wp2_with fail
  all_goals go_ret
  all_goals exact ⟨rfl, B2⟩
set_option maxHeartbeats 2000000 in
theorem put2 (S T U H n k : Int) (f g h : Nat) (w : World) (hk : 0 ≤ k) (hkn : k ≤ n) (hn : n ≤ 9223372036854775807) (bk : Box w f #[.int .i64 k] 3) (bn : Box w g #[.int .i64 n] 3) (br : Box w h (ri S T U H) 61) :
    Calls Tryz.prog 73 #[pt g, pt f, pt h] w fun r w' => r = .returned (.bool (decide (n - k ≤ fr S T U H))) ∧ Below w.heap.size w w' := by
  have hw : IntKind.i64.wrap (n - k) = n - k := by rw [IntKind.wrap_i64]; omega
  have c := bn.one
  have c' := bk.one
  obtain ⟨c0, c1, c2, c3⟩ := br.all4
  go_enter Tryz.func73, Tryz.ntmps73
  go_wp2_with fail
  go_region_with (go_at_call 66; refine (free_at S T U H _).mono ?_; rintro e w2 ⟨rfl, b2⟩; have B2 := ((Below.refl w.heap.size w).drew).trans b2; have d := ((show Box w.drew g #[.int .i64 n] 3 from bn).below b2).one; have d' := ((show Box w.drew f #[.int .i64 k] 3 from bk).below b2).one)
  all_goals go_wp2_with fail
  all_goals go_ret
  all_goals exact ⟨by first | rfl | (rw [hw]; rfl), B2⟩
end Go.Proofs.YtglahlbponlepaaGreat.Rg

/-
  The calls: At, Reserve, Release, Put, Drop.
-/
namespace Go.Proofs.YtglahlbponlepaaGreat.Rg
open Go.RowKit

/-- four numbers stored over four -/
def set4 (w : World) (g : Nat) (u0 u1 u2 u3 : Value) : World := ((((w.setCell ⟨g, 0, none⟩ u0).setCell ⟨g, 1, none⟩ u1).setCell ⟨g, 2, none⟩ u2).setCell ⟨g, 3, none⟩ u3)
theorem Box.store4 {w : World} {g : Nat} {v0 v1 v2 v3 u0 u1 u2 u3 : Value} {t : TypeId} (h : Box w g #[v0, v1, v2, v3] t) : Box (set4 w g u0 u1 u2 u3) g #[u0, u1, u2, u3] t := by
  have q := ((((h.store 0 u0).store 1 u1).store 2 u2).store 3 u3)
  unfold set4
  simpa using q
theorem below4 {B : Nat} {w0 w : World} {g : Nat} (h : Below B w0 w) (hg : B ≤ g) (u0 u1 u2 u3 : Value) : Below B w0 (set4 w g u0 u1 u2 u3) := ((((h.setCell (p := ⟨g, 0, none⟩) hg u0).setCell (p := ⟨g, 1, none⟩) hg u1).setCell (p := ⟨g, 2, none⟩) hg u2).setCell (p := ⟨g, 3, none⟩) hg u3)

/-- the world behind the boxes of a ring and a number -/
def W2 (w : World) (S T U H n : Int) : World := (w.alloc (.cells (ri S T U H) 61)).alloc (.cells #[.int .i64 n] 3)
def W3 (w : World) (S T U H n : Int) : World := (W2 w S T U H n).alloc (.cells #[.int .i64 0, .int .i64 0, .int .i64 0, .int .i64 0] 61)
theorem w2_r (w : World) (S T U H n : Int) : Box (W2 w S T U H n) w.heap.size (ri S T U H) 61 := (Box.new w _ 61).alloc _
theorem w2_n (w : World) (S T U H n : Int) : Box (W2 w S T U H n) (w.heap.size + 1) #[.int .i64 n] 3 := Box.next w _ _ 3
theorem w2_b (w : World) (S T U H n : Int) : Below w.heap.size w (W2 w S T U H n) := ((Below.refl w.heap.size w).alloc (Nat.le_refl _) _).alloc (by simp) _
theorem w3_r (w : World) (S T U H n : Int) : Box (W3 w S T U H n) w.heap.size (ri S T U H) 61 := (w2_r w S T U H n).alloc _
theorem w3_n (w : World) (S T U H n : Int) : Box (W3 w S T U H n) (w.heap.size + 1) #[.int .i64 n] 3 := (w2_n w S T U H n).alloc _
theorem w3_o (w : World) (S T U H n : Int) : Box (W3 w S T U H n) (w.heap.size + 2) #[.int .i64 0, .int .i64 0, .int .i64 0, .int .i64 0] 61 := Box.next2 w _ _ _ 61
theorem w3_b (w : World) (S T U H n : Int) : Below w.heap.size w (W3 w S T U H n) := (w2_b w S T U H n).alloc (w2_b w S T U H n).size _

theorem reserve_no (S T U H n E : Int) (w : World) (h : ¬(R S T U H ∧ 0 ≤ n) ∧ E = 2 ∨ (R S T U H ∧ 0 ≤ n ∧ ¬(n ≤ fr S T U H)) ∧ E = 5) :
    Calls Tryz.prog 32 #[.agg (ri S T U H), .int .i64 n] w fun r w' => r = .returned (.tuple #[.agg (ri 0 0 0 0), .int .i64 E]) ∧ Below w.heap.size w w' := by
  have br := w3_r w S T U H n
  have bn := w3_n w S T U H n
  have bo := w3_o w S T U H n
  have B0 := w3_b w S T U H n
  have hask : Calls Tryz.prog 62 #[.agg (ri S T U H), .int .i64 n, .func (.func 65) #[] #[pt (w.heap.size + 1), pt w.heap.size], .int .i64 5] (W3 w S T U H n) fun r w' => r = .returned (.int .i64 E) ∧ Below (W3 w S T U H n).heap.size (W3 w S T U H n) w' := by
    rcases h with ⟨q, rfl⟩ | ⟨⟨q1, q2, q3⟩, rfl⟩
    · exact ask_bad S T U H n 5 _ _ q
    · have := ask_in22 #[pt (w.heap.size + 1), pt w.heap.size] S T U H n 5 (decide (n ≤ fr S T U H)) (W3 w S T U H n) q1 q2 (fun w' b => reserve1 S T U H n _ _ w' (bn.below b) (br.below b))
      rw [decide_eq_false q3] at this
      exact this
  have hE : E ≠ 0 := by
    rcases h with ⟨_, rfl⟩ | ⟨_, rfl⟩ <;> decide
  have hE' : (E == 0) = false := by simp [hE]
  clear h
  unfold W3 W2 ri at *
  go_enter Tryz.func32, Tryz.ntmps32
  go_wp2_with fail
  refine hask.mono ?_
  rintro r w1 ⟨rfl, b1⟩
  have B1 := keep B0 b1
  have bo1 := bo.below b1
  obtain ⟨c0, c1, c2, c3⟩ := bo1.all4
  obtain ⟨f0, f1, f2, f3⟩ := bo1.fr4
  clear hask br bn B0 b1 bo
  go_wp2_with fail
  have y := bo1.store4 (u0 := .int .i64 0) (u1 := .int .i64 0) (u2 := .int .i64 0) (u3 := .int .i64 0)
  have C1 := below4 B1 (by omega : w.heap.size ≤ w.heap.size + 2) (.int .i64 0) (.int .i64 0) (.int .i64 0) (.int .i64 0)
  unfold set4 at y C1
  clear bo1 B1 c0 c1 c2 c3 f0 f1 f2 f3
  obtain ⟨c0, c1, c2, c3⟩ := y.all4
  exact bodyPost_ret (v := .tuple #[.agg (ri 0 0 0 0), .int .i64 E]) (by simp only [ri]; simp [results, Tryz.results32, go_sem, c0, c1, c2, c3]) rfl ⟨rfl, C1⟩

theorem release_no (S T U H n E : Int) (w : World) (h : ¬(R S T U H ∧ 0 ≤ n) ∧ E = 2 ∨ (R S T U H ∧ 0 ≤ n ∧ ¬(n ≤ H)) ∧ E = 2) :
    Calls Tryz.prog 39 #[.agg (ri S T U H), .int .i64 n] w fun r w' => r = .returned (.tuple #[.agg (ri 0 0 0 0), .int .i64 E]) ∧ Below w.heap.size w w' := by
  have br := w3_r w S T U H n
  have bn := w3_n w S T U H n
  have bo := w3_o w S T U H n
  have B0 := w3_b w S T U H n
  have hask : Calls Tryz.prog 62 #[.agg (ri S T U H), .int .i64 n, .func (.func 75) #[] #[pt (w.heap.size + 1), pt w.heap.size], .int .i64 2] (W3 w S T U H n) fun r w' => r = .returned (.int .i64 E) ∧ Below (W3 w S T U H n).heap.size (W3 w S T U H n) w' := by
    rcases h with ⟨q, rfl⟩ | ⟨⟨q1, q2, q3⟩, rfl⟩
    · exact ask_bad S T U H n 2 _ _ q
    · have := ask_in26 #[pt (w.heap.size + 1), pt w.heap.size] S T U H n 2 (decide (n ≤ H)) (W3 w S T U H n) q1 q2 (fun w' b => release1 S T U H n _ _ w' (bn.below b) (br.below b))
      rw [decide_eq_false q3] at this
      exact this
  have hE : E ≠ 0 := by
    rcases h with ⟨_, rfl⟩ | ⟨_, rfl⟩ <;> decide
  have hE' : (E == 0) = false := by simp [hE]
  clear h
  unfold W3 W2 ri at *
  go_enter Tryz.func39, Tryz.ntmps39
  go_wp2_with fail
  refine hask.mono ?_
  rintro r w1 ⟨rfl, b1⟩
  have B1 := keep B0 b1
  have bo1 := bo.below b1
  obtain ⟨c0, c1, c2, c3⟩ := bo1.all4
  obtain ⟨f0, f1, f2, f3⟩ := bo1.fr4
  clear hask br bn B0 b1 bo
  go_wp2_with fail
  have y := bo1.store4 (u0 := .int .i64 0) (u1 := .int .i64 0) (u2 := .int .i64 0) (u3 := .int .i64 0)
  have C1 := below4 B1 (by omega : w.heap.size ≤ w.heap.size + 2) (.int .i64 0) (.int .i64 0) (.int .i64 0) (.int .i64 0)
  unfold set4 at y C1
  clear bo1 B1 c0 c1 c2 c3 f0 f1 f2 f3
  obtain ⟨c0, c1, c2, c3⟩ := y.all4
  exact bodyPost_ret (v := .tuple #[.agg (ri 0 0 0 0), .int .i64 E]) (by simp only [ri]; simp [results, Tryz.results39, go_sem, c0, c1, c2, c3]) rfl ⟨rfl, C1⟩

theorem drop_no (S T U H n E : Int) (w : World) (h : ¬(R S T U H ∧ 0 ≤ n) ∧ E = 2 ∨ (R S T U H ∧ 0 ≤ n ∧ ¬(n ≤ U)) ∧ E = 2) :
    Calls Tryz.prog 28 #[.agg (ri S T U H), .int .i64 n] w fun r w' => r = .returned (.tuple #[.agg (ri 0 0 0 0), .int .i64 E]) ∧ Below w.heap.size w w' := by
  have br := w3_r w S T U H n
  have bn := w3_n w S T U H n
  have bo := w3_o w S T U H n
  have B0 := w3_b w S T U H n
  have hask : Calls Tryz.prog 62 #[.agg (ri S T U H), .int .i64 n, .func (.func 61) #[] #[pt (w.heap.size + 1), pt w.heap.size], .int .i64 2] (W3 w S T U H n) fun r w' => r = .returned (.int .i64 E) ∧ Below (W3 w S T U H n).heap.size (W3 w S T U H n) w' := by
    rcases h with ⟨q, rfl⟩ | ⟨⟨q1, q2, q3⟩, rfl⟩
    · exact ask_bad S T U H n 2 _ _ q
    · have := ask_in24 #[pt (w.heap.size + 1), pt w.heap.size] S T U H n 2 (decide (n ≤ U)) (W3 w S T U H n) q1 q2 (fun w' b => drop1 S T U H n _ _ w' (bn.below b) (br.below b))
      rw [decide_eq_false q3] at this
      exact this
  have hE : E ≠ 0 := by
    rcases h with ⟨_, rfl⟩ | ⟨_, rfl⟩ <;> decide
  have hE' : (E == 0) = false := by simp [hE]
  clear h
  unfold W3 W2 ri at *
  go_enter Tryz.func28, Tryz.ntmps28
  go_wp2_with fail
  refine hask.mono ?_
  rintro r w1 ⟨rfl, b1⟩
  have B1 := keep B0 b1
  have bo1 := bo.below b1
  obtain ⟨c0, c1, c2, c3⟩ := bo1.all4
  obtain ⟨f0, f1, f2, f3⟩ := bo1.fr4
  clear hask br bn B0 b1 bo
  go_wp2_with fail
  have y := bo1.store4 (u0 := .int .i64 0) (u1 := .int .i64 0) (u2 := .int .i64 0) (u3 := .int .i64 0)
  have C1 := below4 B1 (by omega : w.heap.size ≤ w.heap.size + 2) (.int .i64 0) (.int .i64 0) (.int .i64 0) (.int .i64 0)
  unfold set4 at y C1
  clear bo1 B1 c0 c1 c2 c3 f0 f1 f2 f3
  obtain ⟨c0, c1, c2, c3⟩ := y.all4
  exact bodyPost_ret (v := .tuple #[.agg (ri 0 0 0 0), .int .i64 E]) (by simp only [ri]; simp [results, Tryz.results28, go_sem, c0, c1, c2, c3]) rfl ⟨rfl, C1⟩

theorem reserve_ok (S T U H n : Int) (w : World) (hR : R S T U H) (h0 : 0 ≤ n) (h1 : n ≤ fr S T U H) :
    Calls Tryz.prog 32 #[.agg (ri S T U H), .int .i64 n] w fun r w' => r = .returned (.tuple #[.agg (ri S T U (H + n)), .int .i64 0]) ∧ Below w.heap.size w w' := by
  have br := w3_r w S T U H n
  have bn := w3_n w S T U H n
  have bo := w3_o w S T U H n
  have B0 := w3_b w S T U H n
  have hask : Calls Tryz.prog 62 #[.agg (ri S T U H), .int .i64 n, .func (.func 65) #[] #[pt (w.heap.size + 1), pt w.heap.size], .int .i64 5] (W3 w S T U H n) fun r w' => r = .returned (.int .i64 0) ∧ Below (W3 w S T U H n).heap.size (W3 w S T U H n) w' := by
    have := ask_in22 #[pt (w.heap.size + 1), pt w.heap.size] S T U H n 5 (decide (n ≤ fr S T U H)) (W3 w S T U H n) hR h0 (fun w' b => reserve1 S T U H n _ _ w' (bn.below b) (br.below b))
    rw [decide_eq_true h1] at this
    exact this
  have hn : n ≤ 512 := by
    unfold R at hR
    have := h1
    try rw [fr, if_pos (by exact hR)] at this
    omega
  obtain ⟨q1, q2, q3, q4⟩ := hR
  clear h1
  unfold W3 W2 ri at *
  go_enter Tryz.func32, Tryz.ntmps32
  go_wp2_with fail
  refine hask.mono ?_
  rintro r w1 ⟨rfl, b1⟩
  have B1 := keep B0 b1
  have bo1 := bo.below b1
  have br1 := br.below b1
  obtain ⟨c0, c1, c2, c3⟩ := br1.all4
  have f3 := br1.frozen 3
  have c := (bn.below b1).one
  have br2 : Box (w1.setCell ⟨w.heap.size, 3, none⟩ (.int .i64 (H + n))) w.heap.size #[.int .i64 S, .int .i64 T, .int .i64 U, .int .i64 (H + n)] 61 := by simpa using br1.store 3 (.int .i64 (H + n))
  have bo2 := bo1.other (k := w.heap.size) 3 (.int .i64 (H + n)) (by omega)
  have B2 := B1.setCell (p := ⟨w.heap.size, 3, none⟩) (Nat.le_refl _) (.int .i64 (H + n))
  clear hask br bn B0 b1 bo bo1 br1 B1
  obtain ⟨d0, d1, d2, d3⟩ := br2.all4
  obtain ⟨e0, e1, e2, e3⟩ := bo2.all4
  obtain ⟨g0, g1, g2, g3⟩ := bo2.fr4
  go_wp2_with fail
  have y := bo2.store4 (u0 := .int .i64 S) (u1 := .int .i64 T) (u2 := .int .i64 U) (u3 := .int .i64 (H + n))
  have C1 := below4 B2 (by omega : w.heap.size ≤ w.heap.size + 2) (.int .i64 S) (.int .i64 T) (.int .i64 U) (.int .i64 (H + n))
  unfold set4 at y C1
  clear bo2 B2 br2 c0 c1 c2 c3 c f3 d0 d1 d2 d3 e0 e1 e2 e3 g0 g1 g2 g3
  obtain ⟨c0, c1, c2, c3⟩ := y.all4
  exact bodyPost_ret (v := .tuple #[.agg (ri S T U (H + n)), .int .i64 0]) (by simp only [ri]; simp [results, Tryz.results32, go_sem, c0, c1, c2, c3]) rfl ⟨rfl, C1⟩

theorem release_ok (S T U H n : Int) (w : World) (hR : R S T U H) (h0 : 0 ≤ n) (h1 : n ≤ H) :
    Calls Tryz.prog 39 #[.agg (ri S T U H), .int .i64 n] w fun r w' => r = .returned (.tuple #[.agg (ri S T U (H - n)), .int .i64 0]) ∧ Below w.heap.size w w' := by
  have br := w3_r w S T U H n
  have bn := w3_n w S T U H n
  have bo := w3_o w S T U H n
  have B0 := w3_b w S T U H n
  have hask : Calls Tryz.prog 62 #[.agg (ri S T U H), .int .i64 n, .func (.func 75) #[] #[pt (w.heap.size + 1), pt w.heap.size], .int .i64 2] (W3 w S T U H n) fun r w' => r = .returned (.int .i64 0) ∧ Below (W3 w S T U H n).heap.size (W3 w S T U H n) w' := by
    have := ask_in26 #[pt (w.heap.size + 1), pt w.heap.size] S T U H n 2 (decide (n ≤ H)) (W3 w S T U H n) hR h0 (fun w' b => release1 S T U H n _ _ w' (bn.below b) (br.below b))
    rw [decide_eq_true h1] at this
    exact this
  have hn : n ≤ 512 := by
    unfold R at hR
    have := h1
    try rw [fr, if_pos (by exact hR)] at this
    omega
  obtain ⟨q1, q2, q3, q4⟩ := hR
  clear h1
  unfold W3 W2 ri at *
  go_enter Tryz.func39, Tryz.ntmps39
  go_wp2_with fail
  refine hask.mono ?_
  rintro r w1 ⟨rfl, b1⟩
  have B1 := keep B0 b1
  have bo1 := bo.below b1
  have br1 := br.below b1
  obtain ⟨c0, c1, c2, c3⟩ := br1.all4
  have f3 := br1.frozen 3
  have c := (bn.below b1).one
  have br2 : Box (w1.setCell ⟨w.heap.size, 3, none⟩ (.int .i64 (H - n))) w.heap.size #[.int .i64 S, .int .i64 T, .int .i64 U, .int .i64 (H - n)] 61 := by simpa using br1.store 3 (.int .i64 (H - n))
  have bo2 := bo1.other (k := w.heap.size) 3 (.int .i64 (H - n)) (by omega)
  have B2 := B1.setCell (p := ⟨w.heap.size, 3, none⟩) (Nat.le_refl _) (.int .i64 (H - n))
  clear hask br bn B0 b1 bo bo1 br1 B1
  obtain ⟨d0, d1, d2, d3⟩ := br2.all4
  obtain ⟨e0, e1, e2, e3⟩ := bo2.all4
  obtain ⟨g0, g1, g2, g3⟩ := bo2.fr4
  go_wp2_with fail
  have y := bo2.store4 (u0 := .int .i64 S) (u1 := .int .i64 T) (u2 := .int .i64 U) (u3 := .int .i64 (H - n))
  have C1 := below4 B2 (by omega : w.heap.size ≤ w.heap.size + 2) (.int .i64 S) (.int .i64 T) (.int .i64 U) (.int .i64 (H - n))
  unfold set4 at y C1
  clear bo2 B2 br2 c0 c1 c2 c3 c f3 d0 d1 d2 d3 e0 e1 e2 e3 g0 g1 g2 g3
  obtain ⟨c0, c1, c2, c3⟩ := y.all4
  exact bodyPost_ret (v := .tuple #[.agg (ri S T U (H - n)), .int .i64 0]) (by simp only [ri]; simp [results, Tryz.results39, go_sem, c0, c1, c2, c3]) rfl ⟨rfl, C1⟩

theorem drop_ok (S T U H n : Int) (w : World) (hR : R S T U H) (h0 : 0 ≤ n) (h1 : n ≤ U) :
    Calls Tryz.prog 28 #[.agg (ri S T U H), .int .i64 n] w fun r w' => r = .returned (.tuple #[.agg (ri S ((T + n) % S) (U - n) H), .int .i64 0]) ∧ Below w.heap.size w w' := by
  have br := w3_r w S T U H n
  have bn := w3_n w S T U H n
  have bo := w3_o w S T U H n
  have B0 := w3_b w S T U H n
  have hask : Calls Tryz.prog 62 #[.agg (ri S T U H), .int .i64 n, .func (.func 61) #[] #[pt (w.heap.size + 1), pt w.heap.size], .int .i64 2] (W3 w S T U H n) fun r w' => r = .returned (.int .i64 0) ∧ Below (W3 w S T U H n).heap.size (W3 w S T U H n) w' := by
    have := ask_in24 #[pt (w.heap.size + 1), pt w.heap.size] S T U H n 2 (decide (n ≤ U)) (W3 w S T U H n) hR h0 (fun w' b => drop1 S T U H n _ _ w' (bn.below b) (br.below b))
    rw [decide_eq_true h1] at this
    exact this
  have hb := fun u => behind_at S T U H n u hR.1.1 hR.1.2 hR.2.1.1 (by have := hR.2.1.2; omega) h0 (by have := hR.2.2.1.2; omega)
  obtain ⟨P, hP⟩ : ∃ P, P = (T + n) % S := ⟨_, rfl⟩
  rw [← hP] at hb ⊢
  clear hP
  obtain ⟨q1, q2, q3, q4⟩ := hR
  unfold W3 W2 ri at *
  go_enter Tryz.func28, Tryz.ntmps28
  go_wp2_with fail
  refine hask.mono ?_
  rintro r w1 ⟨rfl, b1⟩
  have B1 := keep B0 b1
  have bo1 := bo.below b1
  have br1 := br.below b1
  have bn1 := bn.below b1
  clear hask br bn B0 b1 bo
  obtain ⟨c0, c1, c2, c3⟩ := br1.all4
  have c := bn1.one
  go_wp2_with fail
  refine (hb _).mono ?_
  rintro r w2 ⟨rfl, b2⟩
  have B2 := keep B1 b2
  have bo2 := bo1.below b2
  have br2 := br1.below b2
  have bn2 := bn1.below b2
  clear hb bo1 br1 bn1 b2 B1 c0 c1 c2 c3 c
  have f1 := br2.frozen 1
  have br3 : Box (w2.setCell ⟨w.heap.size, 1, none⟩ (.int .i64 P)) w.heap.size #[.int .i64 S, .int .i64 P, .int .i64 U, .int .i64 H] 61 := by simpa using br2.store 1 (.int .i64 P)
  have bo3 := bo2.other (k := w.heap.size) 1 (.int .i64 P) (by omega)
  have bn3 := bn2.other (k := w.heap.size) 1 (.int .i64 P) (by omega)
  have B3 := B2.setCell (p := ⟨w.heap.size, 1, none⟩) (Nat.le_refl _) (.int .i64 P)
  have f2 := br3.frozen 2
  have br4 : Box ((w2.setCell ⟨w.heap.size, 1, none⟩ (.int .i64 P)).setCell ⟨w.heap.size, 2, none⟩ (.int .i64 (U - n))) w.heap.size #[.int .i64 S, .int .i64 P, .int .i64 (U - n), .int .i64 H] 61 := by simpa using br3.store 2 (.int .i64 (U - n))
  have bo4 := bo3.other (k := w.heap.size) 2 (.int .i64 (U - n)) (by omega)
  have B4 := B3.setCell (p := ⟨w.heap.size, 2, none⟩) (Nat.le_refl _) (.int .i64 (U - n))
  obtain ⟨c0, c1, c2, c3⟩ := br2.all4
  obtain ⟨k0, k1, k2, k3⟩ := br3.all4
  have c := bn3.one
  obtain ⟨d0, d1, d2, d3⟩ := br4.all4
  obtain ⟨e0, e1, e2, e3⟩ := bo4.all4
  obtain ⟨g0, g1, g2, g3⟩ := bo4.fr4
  clear bo2 br2 bn2 bo3 br3 bn3 B2 B3 br4
  go_wp2_with fail
  have y := bo4.store4 (u0 := .int .i64 S) (u1 := .int .i64 P) (u2 := .int .i64 (U - n)) (u3 := .int .i64 H)
  have C1 := below4 B4 (by omega : w.heap.size ≤ w.heap.size + 2) (.int .i64 S) (.int .i64 P) (.int .i64 (U - n)) (.int .i64 H)
  unfold set4 at y C1
  clear bo4 B4 c0 c1 c2 c3 c f1 f2 k0 k1 k2 k3 d0 d1 d2 d3 e0 e1 e2 e3 g0 g1 g2 g3
  obtain ⟨c0, c1, c2, c3⟩ := y.all4
  exact bodyPost_ret (v := .tuple #[.agg (ri S P (U - n) H), .int .i64 0]) (by simp only [ri]; simp [results, Tryz.results28, go_sem, c0, c1, c2, c3]) rfl ⟨rfl, C1⟩

end Go.Proofs.YtglahlbponlepaaGreat.Rg

/-
  Put.
-/
namespace Go.Proofs.YtglahlbponlepaaGreat.Rg
open Go.RowKit

def W4 (w : World) (S T U H n k : Int) : World := (((w.alloc (.cells (ri S T U H) 61)).alloc (.cells #[.int .i64 n] 3)).alloc (.cells #[.int .i64 k] 3)).alloc (.cells #[.int .i64 0, .int .i64 0, .int .i64 0, .int .i64 0] 61)
theorem w4_r (w : World) (S T U H n k : Int) : Box (W4 w S T U H n k) w.heap.size (ri S T U H) 61 := (((Box.new w _ 61).alloc _).alloc _).alloc _
theorem w4_n (w : World) (S T U H n k : Int) : Box (W4 w S T U H n k) (w.heap.size + 1) #[.int .i64 n] 3 := ((Box.next w _ _ 3).alloc _).alloc _
theorem w4_k (w : World) (S T U H n k : Int) : Box (W4 w S T U H n k) (w.heap.size + 2) #[.int .i64 k] 3 := (Box.next2 w _ _ _ 3).alloc _
theorem w4_o (w : World) (S T U H n k : Int) : Box (W4 w S T U H n k) (w.heap.size + 3) #[.int .i64 0, .int .i64 0, .int .i64 0, .int .i64 0] 61 := Box.next3 w _ _ _ _ 61
theorem w4_b (w : World) (S T U H n k : Int) : Below w.heap.size w (W4 w S T U H n k) := ((((Below.refl w.heap.size w).alloc (Nat.le_refl _) _).alloc (by simp) _).alloc (by simp; omega) _).alloc (by simp; omega) _

theorem put_no (S T U H n k : Int) (w : World) (h : ¬((R S T U H ∧ 0 ≤ n) ∧ 0 ≤ k ∧ k ≤ n ∧ k ≤ H)) :
    Calls Tryz.prog 36 #[.agg (ri S T U H), .int .i64 n, .int .i64 k] w fun r w' => r = .returned (.tuple #[.agg (ri 0 0 0 0), .int .i64 0, .int .i64 2]) ∧ Below w.heap.size w w' := by
  have br := w4_r w S T U H n k
  have bn := w4_n w S T U H n k
  have bk := w4_k w S T U H n k
  have bo := w4_o w S T U H n k
  have B0 := w4_b w S T U H n k
  have hask : Calls Tryz.prog 62 #[.agg (ri S T U H), .int .i64 n, .func (.func 71) #[] #[pt (w.heap.size + 2), pt (w.heap.size + 1), pt w.heap.size], .int .i64 2] (W4 w S T U H n k) fun r w' => r = .returned (.int .i64 2) ∧ Below (W4 w S T U H n k).heap.size (W4 w S T U H n k) w' := by
    by_cases q : R S T U H ∧ 0 ≤ n
    · have := ask_in27 #[pt (w.heap.size + 2), pt (w.heap.size + 1), pt w.heap.size] S T U H n 2 (decide (0 ≤ k ∧ k ≤ n ∧ k ≤ H)) (W4 w S T U H n k) q.1 q.2 (fun w' b => put1 S T U H n k _ _ _ w' (bk.below b) (bn.below b) (br.below b))
      rw [decide_eq_false (fun e => h ⟨q, e⟩)] at this
      exact this
    · exact ask_bad S T U H n 2 _ _ q
  clear h
  unfold W4 ri at *
  go_enter Tryz.func36, Tryz.ntmps36
  go_wp2_with fail
  refine hask.mono ?_
  rintro r w1 ⟨rfl, b1⟩
  have B1 := keep B0 b1
  have bo1 := bo.below b1
  obtain ⟨c0, c1, c2, c3⟩ := bo1.all4
  obtain ⟨f0, f1, f2, f3⟩ := bo1.fr4
  clear hask br bn bk B0 b1 bo
  go_wp2_with fail
  have y := bo1.store4 (u0 := .int .i64 0) (u1 := .int .i64 0) (u2 := .int .i64 0) (u3 := .int .i64 0)
  have C1 := below4 B1 (by omega : w.heap.size ≤ w.heap.size + 3) (.int .i64 0) (.int .i64 0) (.int .i64 0) (.int .i64 0)
  unfold set4 at y C1
  clear bo1 B1 c0 c1 c2 c3 f0 f1 f2 f3
  obtain ⟨c0, c1, c2, c3⟩ := y.all4
  exact bodyPost_ret (v := .tuple #[.agg (ri 0 0 0 0), .int .i64 0, .int .i64 2]) (by simp only [ri]; simp [results, Tryz.results36, go_sem, c0, c1, c2, c3]) rfl ⟨rfl, C1⟩

theorem ask27_ok (S T U H n k : Int) (w w0 : World) (hR : R S T U H) (h0 : 0 ≤ n) (h1 : 0 ≤ k ∧ k ≤ n ∧ k ≤ H) (g : Nat) (bk : Box w (g + 2) #[.int .i64 k] 3) (bn : Box w (g + 1) #[.int .i64 n] 3) (br : Box w g (ri S T U H) 61) (e : w0 = w) :
    Calls Tryz.prog 62 #[.agg (ri S T U H), .int .i64 n, .func (.func 71) #[] #[pt (g + 2), pt (g + 1), pt g], .int .i64 2] w0 fun r w' => r = .returned (.int .i64 0) ∧ Below w0.heap.size w0 w' := by
  subst e
  have := ask_in27 #[pt (g + 2), pt (g + 1), pt g] S T U H n 2 (decide (0 ≤ k ∧ k ≤ n ∧ k ≤ H)) w0 hR h0 (fun w' b => put1 S T U H n k _ _ _ w' (bk.below b) (bn.below b) (br.below b))
  rw [decide_eq_true h1] at this
  exact this
theorem ask29 (S T U H n k : Int) (w : World) (hR : R S T U H) (h0 : 0 ≤ n) (hn : n ≤ 9223372036854775807) (h1 : 0 ≤ k ∧ k ≤ n ∧ k ≤ H) (g : Nat) (bk : Box w (g + 2) #[.int .i64 k] 3) (bn : Box w (g + 1) #[.int .i64 n] 3) (br : Box w g (ri S T U H) 61) :
    Calls Tryz.prog 62 #[.agg (ri S T U H), .int .i64 n, .func (.func 73) #[] #[pt (g + 1), pt (g + 2), pt g], .int .i64 5] w fun r w' => r = .returned (.int .i64 (if n - k ≤ fr S T U H then 0 else 5)) ∧ Below w.heap.size w w' := by
  have := ask_in29 #[pt (g + 1), pt (g + 2), pt g] S T U H n 5 (decide (n - k ≤ fr S T U H)) w hR h0 (fun w' b => put2 S T U H n k _ _ _ w' h1.1 h1.2.1 hn (bk.below b) (bn.below b) (br.below b))
  simpa using this

theorem put_full (S T U H n k : Int) (w : World) (hR : R S T U H) (h0 : 0 ≤ n) (hn : n ≤ 9223372036854775807) (h1 : 0 ≤ k ∧ k ≤ n ∧ k ≤ H) (h2 : ¬ n - k ≤ fr S T U H) :
    Calls Tryz.prog 36 #[.agg (ri S T U H), .int .i64 n, .int .i64 k] w fun r w' => r = .returned (.tuple #[.agg (ri 0 0 0 0), .int .i64 0, .int .i64 5]) ∧ Below w.heap.size w w' := by
  have br := w4_r w S T U H n k
  have bn := w4_n w S T U H n k
  have bk := w4_k w S T U H n k
  have bo := w4_o w S T U H n k
  have B0 := w4_b w S T U H n k
  have hask := ask27_ok S T U H n k _ _ hR h0 h1 _ bk bn br rfl
  have hask2 := fun u => ask29 S T U H n k u hR h0 hn h1 w.heap.size
  rw [if_neg h2] at hask2
  have A2 : Hid _ := hask2
  clear h2 hask2 hR h1 hn h0
  unfold W4 ri at *
  go_enter Tryz.func36, Tryz.ntmps36
  go_wp2_with fail
  refine hask.mono ?_
  rintro r w1 ⟨rfl, b1⟩
  have B1 := keep B0 b1
  have bo1 := bo.below b1
  have br1 := br.below b1
  have bn1 := bn.below b1
  have bk1 := bk.below b1
  obtain ⟨c0, c1, c2, c3⟩ := br1.all4
  have c := bn1.one
  clear hask br bn bk B0 b1 bo
  go_wp2_with fail
  refine (A2.out _ bk1 bn1 br1).mono ?_
  rintro r w2 ⟨rfl, b2⟩
  have B2 := keep B1 b2
  have bo2 := bo1.below b2
  clear B1 bo1 b2 c0 c1 c2 c3 c br1 bn1 bk1 A2
  obtain ⟨c0, c1, c2, c3⟩ := bo2.all4
  obtain ⟨f0, f1, f2, f3⟩ := bo2.fr4
  go_wp2_with fail
  have y := bo2.store4 (u0 := .int .i64 0) (u1 := .int .i64 0) (u2 := .int .i64 0) (u3 := .int .i64 0)
  have C1 := below4 B2 (by omega : w.heap.size ≤ w.heap.size + 3) (.int .i64 0) (.int .i64 0) (.int .i64 0) (.int .i64 0)
  unfold set4 at y C1
  clear bo2 B2 c0 c1 c2 c3 f0 f1 f2 f3
  obtain ⟨c0, c1, c2, c3⟩ := y.all4
  exact bodyPost_ret (v := .tuple #[.agg (ri 0 0 0 0), .int .i64 0, .int .i64 5]) (by simp only [ri]; simp [results, Tryz.results36, go_sem, c0, c1, c2, c3]) rfl ⟨rfl, C1⟩

set_option maxHeartbeats 1000000 in
theorem put_ok (S T U H n k : Int) (w : World) (hR : R S T U H) (h0 : 0 ≤ n) (h1 : 0 ≤ k ∧ k ≤ n ∧ k ≤ H) (h2 : n - k ≤ fr S T U H) :
    Calls Tryz.prog 36 #[.agg (ri S T U H), .int .i64 n, .int .i64 k] w fun r w' => r = .returned (.tuple #[.agg (ri S T (U + n) (H - k)), .int .i64 ((T + U) % S), .int .i64 0]) ∧ Below w.heap.size w w' := by
  have hn : n ≤ 512 := by
    rw [fr, if_pos hR] at h2
    unfold R at hR
    omega
  have br := w4_r w S T U H n k
  have bn := w4_n w S T U H n k
  have bk := w4_k w S T U H n k
  have bo := w4_o w S T U H n k
  have B0 := w4_b w S T U H n k
  have hask := ask27_ok S T U H n k _ _ hR h0 h1 _ bk bn br rfl
  have hask2 := fun u => ask29 S T U H n k u hR h0 (by omega) h1 w.heap.size
  rw [if_pos h2] at hask2
  have A2 : Hid _ := hask2
  have hb : Hid _ := fun u => behind_at S T U H U u hR.1.1 hR.1.2 hR.2.1.1 (by have := hR.2.1.2; omega) hR.2.2.1.1 hR.2.2.1.2
  obtain ⟨P, hP⟩ : ∃ P, P = (T + U) % S := ⟨_, rfl⟩
  rw [← hP] at hb ⊢
  clear hP hask2 h2
  obtain ⟨q1, q2, q3, q4⟩ := hR
  unfold W4 ri at *
  go_enter Tryz.func36, Tryz.ntmps36
  go_wp2_with fail
  refine hask.mono ?_
  rintro r w1 ⟨rfl, b1⟩
  have B1 := keep B0 b1
  have bo1 := bo.below b1
  have br1 := br.below b1
  have bn1 := bn.below b1
  have bk1 := bk.below b1
  obtain ⟨c0, c1, c2, c3⟩ := br1.all4
  have c := bn1.one
  clear hask br bn bk B0 b1 bo
  go_wp2_with fail
  refine (A2.out _ bk1 bn1 br1).mono ?_
  rintro r w2 ⟨rfl, b2⟩
  have B2 := keep B1 b2
  have bo2 := bo1.below b2
  have br2 := br1.below b2
  have bn2 := bn1.below b2
  have bk2 := bk1.below b2
  clear B1 bo1 b2 c0 c1 c2 c3 c br1 bn1 bk1 A2
  obtain ⟨c0, c1, c2, c3⟩ := br2.all4
  go_wp2_with fail
  refine (hb.out _).mono ?_
  rintro r w3 ⟨rfl, b3⟩
  have B3 := keep B2 b3
  have bo3 := bo2.below b3
  have br3 := br2.below b3
  have bn3 := bn2.below b3
  have bk3 := bk2.below b3
  clear B2 bo2 b3 c0 c1 c2 c3 br2 bn2 bk2 hb
  have f2 := br3.frozen 2
  have br4 : Box (w3.setCell ⟨w.heap.size, 2, none⟩ (.int .i64 (U + n))) w.heap.size #[.int .i64 S, .int .i64 T, .int .i64 (U + n), .int .i64 H] 61 := by simpa using br3.store 2 (.int .i64 (U + n))
  have bo4 := bo3.other (k := w.heap.size) 2 (.int .i64 (U + n)) (by omega)
  have bk4 := bk3.other (k := w.heap.size) 2 (.int .i64 (U + n)) (by omega)
  have B4 := B3.setCell (p := ⟨w.heap.size, 2, none⟩) (Nat.le_refl _) (.int .i64 (U + n))
  have f3 := br4.frozen 3
  have br5 : Box ((w3.setCell ⟨w.heap.size, 2, none⟩ (.int .i64 (U + n))).setCell ⟨w.heap.size, 3, none⟩ (.int .i64 (H - k))) w.heap.size #[.int .i64 S, .int .i64 T, .int .i64 (U + n), .int .i64 (H - k)] 61 := by simpa using br4.store 3 (.int .i64 (H - k))
  have bo5 := bo4.other (k := w.heap.size) 3 (.int .i64 (H - k)) (by omega)
  have B5 := B4.setCell (p := ⟨w.heap.size, 3, none⟩) (Nat.le_refl _) (.int .i64 (H - k))
  obtain ⟨c0, c1, c2, c3⟩ := br3.all4
  obtain ⟨k0, k1, k2, k3⟩ := br4.all4
  have c := bn3.one
  have c' := bk4.one
  obtain ⟨d0, d1, d2, d3⟩ := br5.all4
  obtain ⟨e0, e1, e2, e3⟩ := bo5.all4
  obtain ⟨g0, g1, g2, g3⟩ := bo5.fr4
  clear bo3 br3 bn3 bk3 bo4 br4 bk4 B3 B4 br5
  go_wp2_with fail
  have y := bo5.store4 (u0 := .int .i64 S) (u1 := .int .i64 T) (u2 := .int .i64 (U + n)) (u3 := .int .i64 (H - k))
  have C1 := below4 B5 (by omega : w.heap.size ≤ w.heap.size + 3) (.int .i64 S) (.int .i64 T) (.int .i64 (U + n)) (.int .i64 (H - k))
  unfold set4 at y C1
  clear bo5 B5 c0 c1 c2 c3 c c' f2 f3 k0 k1 k2 k3 d0 d1 d2 d3 e0 e1 e2 e3 g0 g1 g2 g3
  obtain ⟨c0, c1, c2, c3⟩ := y.all4
  exact bodyPost_ret (v := .tuple #[.agg (ri S T (U + n) (H - k)), .int .i64 P, .int .i64 0]) (by simp only [ri]; simp [results, Tryz.results36, go_sem, c0, c1, c2, c3]) rfl ⟨rfl, C1⟩

end Go.Proofs.YtglahlbponlepaaGreat.Rg

/-
  Append that is refused: no right group, too great, no room.
-/
namespace Go.Proofs.YtglahlbponlepaaGreat.J
open Go.RowKit
open Go.Proofs.YtglahlbponlepaaGreat.Dk (Box)

/-- the world behind Append's boxes -/
def ap3 (w : World) (g : Nat) (al : Option Addr) (n cap : Nat) : World := ((w.alloc (.cells #[.pointer (some ⟨g, 0, none⟩)] 24)).alloc (.cells #[.slice al n cap] 32)).alloc (.cells #[.slice none 0 0] 39)
section
variable (w : World) (g : Nat) (al : Option Addr) (n cap : Nat)
theorem ap3_a : Box (ap3 w g al n cap) w.heap.size #[.pointer (some ⟨g, 0, none⟩)] 24 := ((Dk.Box.new w _ 24).alloc _).alloc _
theorem ap3_b : Box (ap3 w g al n cap) (w.heap.size + 1) #[.slice al n cap] 32 := Rg.Box.alloc (Rg.Box.next w _ _ 32) _
theorem ap3_c : Box (ap3 w g al n cap) (w.heap.size + 2) #[.slice none 0 0] 39 := Rg.Box.next2 w _ _ _ 39
theorem ap3_below : Below w.heap.size w (ap3 w g al n cap) := (((Below.refl w.heap.size w).alloc (Nat.le_refl _) _).alloc (by simp) _).alloc (by simp; omega) _
end
theorem ap3_size (w : World) (g : Nat) (al : Option Addr) (n cap : Nat) : (ap3 w g al n cap).heap.size = w.heap.size + 3 := by simp [ap3]
theorem ap3_upd {w : World} {g : Nat} {al : Option Addr} {n cap : Nat} {w' : World} (h : Dk.Upd (· = w.heap.size + 2) (ap3 w g al n cap) w') : Below w.heap.size w w' := by
  have b := ap3_below w g al n cap
  have z := ap3_size w g al n cap
  have z2 := h.size
  exact ⟨h.os.trans b.os, h.tape.trans b.tape, h.output.trans b.output, by omega, fun k hk => (h.block k (by omega) (by show ¬ k = w.heap.size + 2; omega)).trans (b.block k hk)⟩

section
variable {w : World} {g dg n cap : Nat} {al : Option Addr} {vs : Value} {J : JS} {is : List (Int × List UInt8)} (h : Box w g (jC g dg vs J) 63) (hb : J.broken = false) (hl : is.length = n) (hI : Rc.Imgs w al is)
include h hb hl hI
theorem app_ahead_no (hn : n * 32 ≤ 140737488355328) (hno : ¬ Rc.okGroup J.epoch J.next is) :
    Calls Tryz.prog 20 #[.pointer (some ⟨g, 0, none⟩), .func (.func 34) #[] #[.pointer (some ⟨w.heap.size, 0, none⟩), .pointer (some ⟨w.heap.size + 1, 0, none⟩), .pointer (some ⟨w.heap.size + 2, 0, none⟩)]] (ap3 w g al n cap) fun r w' => ∃ e : Int, r = .returned (.int .i64 e) ∧ e = 80 ∧ Below w.heap.size w w' := by
  have b := ap3_below w g al n cap
  have h' : Box (ap3 w g al n cap) g (jC g dg vs J) 63 := h.below b
  refine ahead_in25 h' hb (fun e w' => e = 80 ∧ Below w.heap.size w w') _ ((append1_no h' (ap3_a w g al n cap) (ap3_b w g al n cap) (ap3_c w g al n cap) is hl hn (hI.below b) hno).mono ?_)
  rintro r w' ⟨rfl, hu⟩
  exact ⟨80, rfl, rfl, ap3_upd hu⟩
theorem app_ahead_ok (hok : Rc.okGroup J.epoch J.next is) :
    Calls Tryz.prog 20 #[.pointer (some ⟨g, 0, none⟩), .func (.func 34) #[] #[.pointer (some ⟨w.heap.size, 0, none⟩), .pointer (some ⟨w.heap.size + 1, 0, none⟩), .pointer (some ⟨w.heap.size + 2, 0, none⟩)]] (ap3 w g al n cap) fun r w' => ∃ e : Int, r = .returned (.int .i64 e) ∧ e = (if J.S < (n + 1 : Nat) then 232 else 0) ∧ Puts (ap3 w g al n cap) w' (w.heap.size + 2) n (Rc.putL J.epoch.toNat J.next.toNat is) := by
  have b := ap3_below w g al n cap
  have h' : Box (ap3 w g al n cap) g (jC g dg vs J) 63 := h.below b
  refine ahead_in25 h' hb (fun e w' => e = (if J.S < (n + 1 : Nat) then 232 else 0) ∧ Puts (ap3 w g al n cap) w' (w.heap.size + 2) n (Rc.putL J.epoch.toNat J.next.toNat is)) _ ((append1_ok h' (ap3_a w g al n cap) (ap3_b w g al n cap) (ap3_c w g al n cap) is hl (hI.below b) hok).mono ?_)
  rintro r w' ⟨rfl, hu⟩
  exact ⟨_, rfl, rfl, hu⟩

theorem append_bad (rv : Bool) (hn : n * 32 ≤ 140737488355328) (hno : ¬ Rc.okGroup J.epoch J.next is) :
    Calls Tryz.prog 11 #[.pointer (some ⟨g, 0, none⟩), .slice al n cap, .bool rv] w fun r w' => r = .returned (.tuple #[.int .i64 0, .int .i64 80]) ∧ Below w.heap.size w w' := by
  have ca := app_ahead_no (cap := cap) h hb hl hI hn hno
  go_enter Tryz.func11, Tryz.ntmps11
  go_wp2_with fail
  refine Calls.mono ca ?_
  rintro r w1 ⟨e, rfl, rfl, B⟩
  go_wp2_with fail
  exact bodyPost_ret (v := .tuple #[.int .i64 0, .int .i64 80]) (by simp [results, Tryz.results11, go_sem]) rfl ⟨rfl, B⟩
theorem append_big (rv : Bool) (hok : Rc.okGroup J.epoch J.next is) (hS : J.S < (n + 1 : Nat)) :
    Calls Tryz.prog 11 #[.pointer (some ⟨g, 0, none⟩), .slice al n cap, .bool rv] w fun r w' => r = .returned (.tuple #[.int .i64 0, .int .i64 232]) ∧ Below w.heap.size w w' := by
  have ca := app_ahead_ok (cap := cap) h hb hl hI hok
  rw [if_pos hS] at ca
  go_enter Tryz.func11, Tryz.ntmps11
  go_wp2_with fail
  refine Calls.mono ca ?_
  rintro r w1 ⟨e, rfl, rfl, hu, _⟩
  have B := ap3_upd hu
  go_wp2_with fail
  exact bodyPost_ret (v := .tuple #[.int .i64 0, .int .i64 232]) (by simp [results, Tryz.results11, go_sem]) rfl ⟨rfl, B⟩
end
end Go.Proofs.YtglahlbponlepaaGreat.J

/-
  Append that has no room.
-/
namespace Go.Proofs.YtglahlbponlepaaGreat.J
open Go.RowKit
open Go.Proofs.YtglahlbponlepaaGreat.Dk (Box)

/-- what region 8 of Append loads -/
@[reducible] def R8 (w : World) (g gl n cl : Nat) (J : JS) (u : World) : Prop :=
  u.cell? ⟨w.heap.size, 0, none⟩ = some (.pointer (some ⟨g, 0, none⟩)) ∧ u.cell? ⟨g, 6, none⟩ = some (.int .i64 J.S) ∧ u.cell? ⟨g, 7, none⟩ = some (.int .i64 J.T) ∧ u.cell? ⟨g, 8, none⟩ = some (.int .i64 J.U) ∧ u.cell? ⟨g, 9, none⟩ = some (.int .i64 J.H) ∧ u.cell? ⟨w.heap.size + 2, 0, none⟩ = some (.slice (some ⟨gl, 0, none⟩) (n + 1) cl)

theorem box4 {W : World} {b : Nat} {v0 v1 v2 v3 : Value} (h : Box W b #[v0, v1, v2, v3] 61) : (W.cell? ⟨b, 0, none⟩ = some v0 ∧ W.cell? ⟨b, 1, none⟩ = some v1 ∧ W.cell? ⟨b, 2, none⟩ = some v2 ∧ W.cell? ⟨b, 3, none⟩ = some v3) ∧ W.frozen? ⟨b, 0, none⟩ = false ∧ W.frozen? ⟨b, 1, none⟩ = false ∧ W.frozen? ⟨b, 2, none⟩ = false ∧ W.frozen? ⟨b, 3, none⟩ = false :=
  ⟨⟨h.cell 0, h.cell 1, h.cell 2, h.cell 3⟩, h.frozen 0, h.frozen 1, h.frozen 2, h.frozen 3⟩
theorem below_set4 {B : Nat} {a W : World} (h : Below B a W) {k : Nat} (hk : B ≤ k) (v0 v1 v2 v3 : Value) : Below B a ((((W.setCell ⟨k, 0, none⟩ v0).setCell ⟨k, 1, none⟩ v1).setCell ⟨k, 2, none⟩ v2).setCell ⟨k, 3, none⟩ v3) :=
  (((h.setCell (p := ⟨k, 0, none⟩) hk v0).setCell (p := ⟨k, 1, none⟩) hk v1).setCell (p := ⟨k, 2, none⟩) hk v2).setCell (p := ⟨k, 3, none⟩) hk v3

section
variable {w : World} {g dg n cap : Nat} {al : Option Addr} {vs : Value} {J : JS} {is : List (Int × List UInt8)} (h : Box w g (jC g dg vs J) 63) (hb : J.broken = false) (hl : is.length = n) (hI : Rc.Imgs w al is)
include h hb hl hI
theorem append_full (hok : Rc.okGroup J.epoch J.next is) (hS : ¬ J.S < (n + 1 : Nat)) (hR : Rg.R J.S J.T J.U J.H) (h2 : ¬ ((n + 1 : Nat) : Int) ≤ Rg.fr J.S J.T J.U J.H) :
    Calls Tryz.prog 11 #[.pointer (some ⟨g, 0, none⟩), .slice al n cap, .bool false] w fun r w' => r = .returned (.tuple #[.int .i64 0, .int .i64 5]) ∧ Below w.heap.size w w' := by
  have ca := app_ahead_ok (cap := cap) h hb hl hI hok
  rw [if_neg hS] at ca
  have hn32 : n ≤ 32 := by have := hok.1.2.1; simp at this; omega
  have cp := fun u => Rg.put_full J.S J.T J.U J.H ((n + 1 : Nat) : Int) 0 u hR (by omega) (by omega) ⟨by omega, by omega, by unfold Rg.R at hR; omega⟩ (by omega)
  unfold Rg.ri at cp
  have hlt := h.lt
  have H0 : Hid (Box w g (jC g dg vs J) 63) := h
  clear h hI hok hS hR h2
  go_enter Tryz.func11, Tryz.ntmps11
  go_wp2_with fail
  refine Calls.mono ca ?_
  rintro r w4 ⟨e, rfl, rfl, hu, gl, cl, hbc, _⟩
  have B4 := ap3_upd hu
  have z4 : w.heap.size + 3 ≤ w4.heap.size := by have := hu.size; rwa [ap3_size] at this
  have HS : Hid (∀ u, Below w4.heap.size w4 u → R8 w g gl n cl J u) := fun u bu => by
    have hz := bu.size
    obtain ⟨_, _, _, _, _, _, c6, c7, c8, c9, _, _⟩ := box_cells (H0.out.below B4)
    have ha : Box w4 w.heap.size #[.pointer (some ⟨g, 0, none⟩)] 24 := (hu.block w.heap.size (by rw [ap3_size]; omega) (by show ¬ w.heap.size = w.heap.size + 2; omega)).trans (ap3_a w g al n cap)
    have ca := ha.cell 0
    have cc := hbc.cell 0
    simp at ca cc
    have hg4 : g < w4.heap.size := by omega
    exact ⟨(bu.cell (p := ⟨w.heap.size, 0, none⟩) ha.lt).trans ca, (bu.cell (p := ⟨g, 6, none⟩) hg4).trans c6, (bu.cell (p := ⟨g, 7, none⟩) hg4).trans c7, (bu.cell (p := ⟨g, 8, none⟩) hg4).trans c8, (bu.cell (p := ⟨g, 9, none⟩) hg4).trans c9, (bu.cell (p := ⟨w.heap.size + 2, 0, none⟩) hbc.lt).trans cc⟩
  clear hu hbc ca
  go_wp2_with fail
  go_region_held3 (fun u => u.cell? ⟨w.heap.size, 0, none⟩ = some (.pointer (some ⟨g, 0, none⟩)) ∧ u.cell? ⟨g, 6, none⟩ = some (.int .i64 J.S) ∧ u.cell? ⟨g, 7, none⟩ = some (.int .i64 J.T) ∧ u.cell? ⟨g, 8, none⟩ = some (.int .i64 J.U) ∧ u.cell? ⟨g, 9, none⟩ = some (.int .i64 J.H) ∧ u.cell? ⟨w.heap.size + 2, 0, none⟩ = some (.slice (some ⟨gl, 0, none⟩) (n + 1) cl))
    (first
      | with_reducible exact HS.out _ ((Below.refl w4.heap.size w4).drew)
      | with_reducible exact HS.out _ hb1
      | with_reducible exact HS.out _ (((Below.refl w4.heap.size w4).alloc (Nat.le_refl _) _).drew)
      | with_reducible exact HS.out _ (hb1.alloc hb1.size _)
      | with_reducible exact HS.out _ (below_set4 hb1 (Nat.le_refl _) _ _ _ _))
    (first
      | (go_at_call 36; refine Calls.mono (cp w4.drew) ?_; rintro r W ⟨rfl, hw1⟩; have hb1 : Below w4.heap.size w4 W := (Below.refl w4.heap.size w4).drew.trans hw1)
      | (go_at_call 36; refine Calls.mono (cp (w4.alloc (.cells #[.int .i64 0, .int .i64 0, .int .i64 0, .int .i64 0] 61)).drew) ?_; rintro r W ⟨rfl, hw1⟩; have hb1 : Below w4.heap.size w4 W := ((Below.refl w4.heap.size w4).alloc (Nat.le_refl _) _).drew.trans (hw1.mono (by simp)); have hnb := (hw1.block w4.heap.size (by simp)).trans (Dk.Box.new w4 #[.int .i64 0, .int .i64 0, .int .i64 0, .int .i64 0] 61); obtain ⟨⟨q0, q1, q2, q3⟩, p0, p1, p2, p3⟩ := box4 hnb))
  all_goals
    first
      | have B5 := B4.trans ((below_set4 (k := w4.heap.size) hb1 (Nat.le_refl _) (.int .i64 0) (.int .i64 0) (.int .i64 0) (.int .i64 0)).mono B4.size)
        go_wp2_with fail
        exact bodyPost_ret (v := .tuple #[.int .i64 0, .int .i64 5]) (by simp [results, Tryz.results11, go_sem]) rfl ⟨rfl, B5⟩
      | have B5 := B4.trans ((hb1.alloc hb1.size (.cells #[.int .i64 0, .int .i64 0, .int .i64 0, .int .i64 0] 61)).mono B4.size)
        go_wp2_with fail
        exact bodyPost_ret (v := .tuple #[.int .i64 0, .int .i64 5]) (by simp [results, Tryz.results11, go_sem]) rfl ⟨rfl, B5⟩
end
end Go.Proofs.YtglahlbponlepaaGreat.J

/-
  Crash.
-/
namespace Go.Proofs.YtglahlbponlepaaGreat.Dk
open Go.RowKit

/-- These bools lie where a says (of none nothing is asked). -/
def RdBl (w : World) (a : Option Addr) (ks : List Bool) : Prop :=
  0 < ks.length → ∃ b o, a = some ⟨b, o, none⟩ ∧ ∀ j (h : j < ks.length), w.cell? ⟨b, o + j, none⟩ = some (.bool ks[j])
theorem RdBl.nil (w : World) (a : Option Addr) : RdBl w a [] := fun h => absurd h (by simp)

theorem keeps_lt {ks : List Bool} {k : Nat} (h : k < ks.length) : keeps ks k = ks[k] := by simp [keeps, List.getElem?_eq_getElem h]
theorem keeps_ge {ks : List Bool} {k : Nat} (h : ¬ k < ks.length) : keeps ks k = false := by simp [keeps, List.getElem?_eq_none (Nat.le_of_not_lt h)]

end Go.Proofs.YtglahlbponlepaaGreat.Dk
