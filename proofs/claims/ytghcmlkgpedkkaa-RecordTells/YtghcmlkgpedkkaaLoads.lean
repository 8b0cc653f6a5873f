/-
  A region that draws its order and holds loads beside calls that make memory: a load whose value is one in a whole class of frames and worlds may be taken first, if each step stays in the class.
-/
import Derived.WalkKit
import Derived.Orders
import Derived.RegionTactic
namespace Go.Proofs.Ytghcmlkgpedkkaa

section
variable {P : Program} {ops : Array Oper} {Q : Exit → Act → World → Prop} {md : Region.Mode} {C : Act → World → Prop}

/-- Whatever order the draw gives: it ends in Q, and every step stays in the class. -/
def wpAnyC (P : Program) (md : Region.Mode) (ops : Array Oper) (Q : Exit → Act → World → Prop) (C : Act → World → Prop) : Nat → Array Bool → Act → World → Prop
  | 0, listed, a, w => Region.ready md ops listed = [] ∧ Q .normal a w
  | fuel + 1, listed, a, w => (Region.ready md ops listed = [] → Q .normal a w) ∧
    ∀ i ∈ Region.ready md ops listed, wpOp P ops Q i (fun a' w' => C a' w' ∧ wpAnyC P md ops Q C fuel (listed.setIfInBounds i true) a' w') a w

theorem wpAny_of_class : ∀ (fuel : Nat) (listed : Array Bool) (a : Act) (w : World), wpAnyC P md ops Q C fuel listed a w → wpAny P md ops Q fuel listed a w
  | 0, _, _, _, h => h
  | fuel + 1, _, _, _, h => ⟨h.1, fun i hi => wpOp_mono (fun a' w' h' => wpAny_of_class fuel _ a' w' h'.2) (h.2 i hi)⟩

/-- In all of the class the operation yields this one value, and leaves the world. -/
def Gives (P : Program) (ops : Array Oper) (C : Act → World → Prop) (o : Oper) (v : Value) : Prop :=
  ∀ a w, C a w → Region.wanted o (yielded ops a.tmps) = true ∧ (execOp a.eval o).run P w = .ok (.value v) w

theorem Gives.wpOp {i : Nat} {o : Oper} {v : Value} {a : Act} {w : World} (hi : ops[i]? = some o) (hg : Gives P ops C o v) (hc : C a w) {K : Act → World → Prop} (h : K (a.put o.dst v) w) : wpOp P ops Q i K a w := by
  obtain ⟨h1, h2⟩ := hg a w hc
  unfold Go.wpOp
  simp only [hi, h1, if_true, Oper.wp, h2, Oper.upon]
  exact .inl h

/-- the stand-in: the same slot, a constant -/
def standIn (o : Oper) (v : Value) : Oper := { o with op := .move (.const v), guard := none }
theorem standIn_yields (o : Oper) (v : Value) (a : Act) : Yields P ops (standIn o v) v a := by
  refine .inl ⟨rfl, fun w => ?_⟩
  rfl
theorem standIn_apart {o y : Oper} {v : Value} (h : o.apart ops y = true) : (standIn o v).apart ops y = true := by
  unfold Oper.apart at h ⊢
  simp only [Bool.and_eq_true] at h ⊢
  refine ⟨h.1, ?_⟩
  have e : (standIn o v).looksAt ops = [] := rfl
  rw [e]
  cases y.dst <;> rfl

theorem wpAnyC_first {i : Nat} {oi : Oper} {v : Value} (hi : ops[i]? = some oi) (hs : Region.noSelect ops = true)
    (hQ : ∀ c a w, Q (.panic c) (a.put oi.dst v) w → Q (.panic c) a w) (hg : Gives P ops C oi v) (hdn : ∀ a w, C (a.put oi.dst v) w → C a w) (hup : ∀ a w, C a w → C (a.put oi.dst v) w) :
    ∀ (fuel : Nat) (listed : Array Bool) (a : Act) (w : World),
      (∀ j oj, ops[j]? = some oj → j ≠ i → listed.getD j true = false → (∀ e ∈ oj.after, Region.binds md e = true → e.on ≠ i) → oi.apart ops oj = true) →
      i ∈ Region.ready md ops listed → C a w →
      wpAnyC P md ops Q C fuel (listed.setIfInBounds i true) (a.put oi.dst v) w → wpAnyC P md ops Q C (fuel + 1) listed a w
  | fuel, listed, a, w, hfree, hr, hc, H => by
    refine ⟨fun h => (by rw [h] at hr; cases hr), fun j hj => ?_⟩
    by_cases hji : j = i
    · subst hji
      exact hg.wpOp hi hc ⟨hup a w hc, H⟩
    · have hm := ready_mono hj hji
      cases fuel with
      | zero =>
        rw [H.1] at hm
        cases hm
      | succ fuel =>
        obtain ⟨hjun, oj, hoj, hall⟩ := mem_ready.1 hj
        have hnot : ∀ e ∈ oj.after, Region.binds md e = true → e.on ≠ i := fun e he hb heq => by
          have h1 := hall e he hb
          have h0 := (mem_ready.1 hr).1
          rw [heq] at h1
          rcases Nat.lt_or_ge i listed.size with h' | h'
          · simp [h'] at h0 h1; rw [h0] at h1; cases h1
          · simp [Array.getElem?_eq_none h'] at h1
        have h2 := wpOp_put (oi := standIn oi v) (v := v) hoj (standIn_apart (hfree j oj hoj hji hjun hnot)) (fun cs b h => by cases h) (fun cs b => Region.noSelect_spec hs j oj cs b hoj) hQ (standIn_yields oi v a) (H.2 j hm)
        have hfree' : ∀ k ok, ops[k]? = some ok → k ≠ i → (listed.setIfInBounds j true).getD k true = false →
            (∀ e ∈ ok.after, Region.binds md e = true → e.on ≠ i) → oi.apart ops ok = true := fun k ok hk hki hun hno => by
          refine hfree k ok hk hki ?_ hno
          by_cases hjk : j = k
          · subst hjk; exact hjun
          · rw [getD_set_ne true hjk] at hun; exact hun
        refine wpOp_mono (fun a' w' h3 => ?_) h2
        have hc' := hdn a' w' h3.2.1
        refine ⟨hc', wpAnyC_first hi hs hQ hg hdn hup fuel (listed.setIfInBounds j true) a' w' hfree' (ready_mono hr (Ne.symm hji)) hc' ?_⟩
        rw [Array.setIfInBounds_comm _ _ hji]
        exact h3.2.2

/-- A load is taken first. -/
theorem wpAnyC_take {i : Nat} {oi : Oper} {v : Value} {fuel : Nat} {listed : Array Bool} {a : Act} {w : World} (hi : ops[i]? = some oi) (hs : Region.noSelect ops = true)
    (hf : Region.free md ops listed i = true) (hr : (Region.ready md ops listed).contains i = true)
    (hQ : ∀ c a w, Q (.panic c) (a.put oi.dst v) w → Q (.panic c) a w) (hg : Gives P ops C oi v) (hdn : ∀ a w, C (a.put oi.dst v) w → C a w) (hup : ∀ a w, C a w → C (a.put oi.dst v) w)
    (hc : C a w) (h : wpAnyC P md ops Q C fuel (listed.setIfInBounds i true) (a.put oi.dst v) w) : wpAnyC P md ops Q C (fuel + 1) listed a w :=
  wpAnyC_first hi hs hQ hg hdn hup fuel listed a w (Region.free_spec hi hf) (by simpa using hr) hc h

/-- One operation alone may come up. -/
theorem wpAnyC_one {i : Nat} {o : Oper} {fuel : Nat} {listed : Array Bool} {a : Act} {w : World} (hr : Region.ready md ops listed = [i]) (ho : ops[i]? = some o)
    (h : ∀ K' : Act → World → Prop, (∀ a w, (C a w ∧ wpAnyC P md ops Q C fuel (listed.setIfInBounds i true) a w) → K' a w) → if Region.wanted o (yielded ops a.tmps) = true then Oper.wp P o a w K' Q else K' (a.put o.dst undef) w) :
    wpAnyC P md ops Q C (fuel + 1) listed a w := by
  refine ⟨fun h0 => (by rw [hr] at h0; cases h0), fun j hj => ?_⟩
  rw [hr] at hj
  obtain rfl : j = i := by simpa using hj
  exact wpOp_step ho h

theorem wpAnyC_done {listed : Array Bool} {a : Act} {w : World} (hr : Region.ready md ops listed = []) (h : Q .normal a w) : ∀ fuel, wpAnyC P md ops Q C fuel listed a w
  | 0 => ⟨hr, h⟩
  | _ + 1 => ⟨fun _ => h, by rw [hr]; simp⟩
/-- Two operations may come up. -/
theorem wpAnyC_two {i j : Nat} {oi oj : Oper} {fuel : Nat} {listed : Array Bool} {a : Act} {w : World} (hr : Region.ready md ops listed = [i, j]) (hi : ops[i]? = some oi) (hj : ops[j]? = some oj)
    (h1 : ∀ K' : Act → World → Prop, (∀ a w, (C a w ∧ wpAnyC P md ops Q C fuel (listed.setIfInBounds i true) a w) → K' a w) → if Region.wanted oi (yielded ops a.tmps) = true then Oper.wp P oi a w K' Q else K' (a.put oi.dst undef) w)
    (h2 : ∀ K' : Act → World → Prop, (∀ a w, (C a w ∧ wpAnyC P md ops Q C fuel (listed.setIfInBounds j true) a w) → K' a w) → if Region.wanted oj (yielded ops a.tmps) = true then Oper.wp P oj a w K' Q else K' (a.put oj.dst undef) w) :
    wpAnyC P md ops Q C (fuel + 1) listed a w := by
  refine ⟨fun h0 => (by rw [hr] at h0; cases h0), fun k hk => ?_⟩
  rw [hr] at hk
  rcases List.mem_cons.1 hk with rfl | hk
  · exact wpOp_step hi h1
  · obtain rfl : k = j := by simpa using hk
    exact wpOp_step hj h2
end

section
variable {P : Program} {ops : Array Oper} {Q : Exit → Act → World → Prop} {md : Region.Mode}
theorem wpAnyC_mono {C C' : Act → World → Prop} (hC : ∀ a w, C' a w → C a w) : ∀ (fuel : Nat) (listed : Array Bool) (a : Act) (w : World), wpAnyC P md ops Q C' fuel listed a w → wpAnyC P md ops Q C fuel listed a w
  | 0, _, _, _, h => h
  | fuel + 1, _, _, _, h => ⟨h.1, fun i hi => wpOp_mono (fun a' w' h' => ⟨hC _ _ h'.1, wpAnyC_mono hC fuel _ a' w' h'.2⟩) (h.2 i hi)⟩
end

/-- The class: these slots hold these values, these cells hold these. -/
def SlotsCells (ps : List (Nat × Value)) (qs : List (Addr × Value)) (a : Act) (u : World) : Prop := (∀ p ∈ ps, a.eval (.tmp p.1) = p.2) ∧ ∀ q ∈ qs, u.cell? q.1 = some q.2
theorem SlotsCells.put {ps : List (Nat × Value)} {qs : List (Addr × Value)} {a : Act} {u : World} (s : Nat) (v : Value) (hs : (ps.all fun p => p.1 != s) = true) :
    SlotsCells ps qs (a.put (some s) v) u ↔ SlotsCells ps qs a u := by
  have e : ∀ p ∈ ps, (a.put (some s) v).eval (.tmp p.1) = a.eval (.tmp p.1) := fun p hp => Act.eval_put (fun d hd => by
    have h1 := (List.all_eq_true.1 hs) p hp
    simp at h1 hd
    subst hd
    intro h
    injection h with h
    exact h1 h)
  constructor
  · rintro ⟨h, hb⟩
    exact ⟨fun p hp => (e p hp).symm.trans (h p hp), hb⟩
  · rintro ⟨h, hb⟩
    exact ⟨fun p hp => (e p hp).trans (h p hp), hb⟩
theorem SlotsCells.load {ps : List (Nat × Value)} {qs : List (Addr × Value)} {a : Act} {u : World} (h : SlotsCells ps qs a u) {s : Nat} {p : Addr} {v : Value} (hp : (s, Value.pointer (some p)) ∈ ps) (hq : (p, v) ∈ qs) :
    a.tmps[s]?.getD undef = .pointer (some p) ∧ u.cell? p = some v := ⟨by have := h.1 _ hp; simpa [Act.eval] using this, h.2 _ hq⟩

/-- a value of the class -/
theorem SlotsCells.val {ps : List (Nat × Value)} {qs : List (Addr × Value)} {a : Act} {u : World} (h : SlotsCells ps qs a u) {s : Nat} {v : Value} (hp : (s, v) ∈ ps) : a.tmps[s]?.getD undef = v := by have := h.1 _ hp; simpa [Act.eval] using this
end Go.Proofs.Ytghcmlkgpedkkaa
