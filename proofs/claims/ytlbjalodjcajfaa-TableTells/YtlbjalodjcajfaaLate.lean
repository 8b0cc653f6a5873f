/-
  Regions that draw: loads are taken first, though later operations, which wait for them, write into the cells that were loaded.
-/
import Derived.WalkKit
import Derived.Orders
import Derived.RegionTactic
import Derived.Test.YtlbjalodjcajfaaRows
namespace Go.Proofs.Ytlbjalodjcajfaa

section
variable {P : Program} {ops : Array Oper} {Q : Exit → Act → World → Prop} {md : Region.Mode} {C : Act → World → Prop}

/-- Whatever order the draw gives: it ends in Q, and every step stays in the class. -/
def wpAnyC (P : Program) (md : Region.Mode) (ops : Array Oper) (Q : Exit → Act → World → Prop) (C : Act → World → Prop) : Nat → Array Bool → Act → World → Prop
  | 0, listed, a, w => Region.ready md ops listed = [] ∧ Q .normal a w
  | fuel + 1, listed, a, w => (Region.ready md ops listed = [] → Q .normal a w) ∧
    ∀ i ∈ Region.ready md ops listed, wpOp P ops Q i (fun a' w' => C a' w' ∧ wpAnyC P md ops Q C fuel (listed.setIfInBounds i true) a' w') a w

theorem wpAny_of_class : ∀ (fuel : Nat) (listed : Array Bool) (a : Act) (w : World), wpAnyC P md ops Q C fuel listed a w → wpAny P md ops Q fuel listed a w
  | 0, _, _, _, h => h
  | fuel + 1, _, _, _, h => ⟨h.1, fun i hi => wpOp_mono (fun a' w' h' => wpAny_of_class fuel _ a' w' h'.2) (h.2 i hi)⟩

/-- In all of the class the operation yields this one value, and leaves the world. -/
def Gives (P : Program) (ops : Array Oper) (C : Act → World → Prop) (o : Oper) (v : Value) : Prop :=
  ∀ a w, C a w → Region.wanted o (yielded ops a.tmps) = true ∧ (execOp a.eval o).run P w = .ok (.value v) w

theorem Gives.wpOp {i : Nat} {o : Oper} {v : Value} {a : Act} {w : World} (hi : ops[i]? = some o) (hg : Gives P ops C o v) (hc : C a w) {K : Act → World → Prop} (h : K (a.put o.dst v) w) : wpOp P ops Q i K a w := by
  obtain ⟨h1, h2⟩ := hg a w hc
  unfold Go.wpOp
  simp only [hi, h1, if_true, Oper.wp, h2, Oper.upon]
  exact .inl h

/-- the stand-in: the same slot, a constant -/
def standIn (o : Oper) (v : Value) : Oper := { o with op := .move (.const v), guard := none }
theorem standIn_yields (o : Oper) (v : Value) (a : Act) : Yields P ops (standIn o v) v a := by
  refine .inl ⟨rfl, fun w => ?_⟩
  rfl
theorem standIn_apart {o y : Oper} {v : Value} (h : o.apart ops y = true) : (standIn o v).apart ops y = true := by
  unfold Oper.apart at h ⊢
  simp only [Bool.and_eq_true] at h ⊢
  refine ⟨h.1, ?_⟩
  have e : (standIn o v).looksAt ops = [] := rfl
  rw [e]
  cases y.dst <;> rfl

theorem wpAnyC_first {i : Nat} {oi : Oper} {v : Value} (hi : ops[i]? = some oi) (hs : Region.noSelect ops = true)
    (hQ : ∀ c a w, Q (.panic c) (a.put oi.dst v) w → Q (.panic c) a w) (hg : Gives P ops C oi v) (hdn : ∀ a w, C (a.put oi.dst v) w → C a w) (hup : ∀ a w, C a w → C (a.put oi.dst v) w) :
    ∀ (fuel : Nat) (listed : Array Bool) (a : Act) (w : World),
      (∀ j oj, ops[j]? = some oj → j ≠ i → listed.getD j true = false → (∀ e ∈ oj.after, Region.binds md e = true → e.on ≠ i) → oi.apart ops oj = true) →
      i ∈ Region.ready md ops listed → C a w →
      wpAnyC P md ops Q C fuel (listed.setIfInBounds i true) (a.put oi.dst v) w → wpAnyC P md ops Q C (fuel + 1) listed a w
  | fuel, listed, a, w, hfree, hr, hc, H => by
    refine ⟨fun h => (by rw [h] at hr; cases hr), fun j hj => ?_⟩
    by_cases hji : j = i
    · subst hji
      exact hg.wpOp hi hc ⟨hup a w hc, H⟩
    · have hm := ready_mono hj hji
      cases fuel with
      | zero =>
        rw [H.1] at hm
        cases hm
      | succ fuel =>
        obtain ⟨hjun, oj, hoj, hall⟩ := mem_ready.1 hj
        have hnot : ∀ e ∈ oj.after, Region.binds md e = true → e.on ≠ i := fun e he hb heq => by
          have h1 := hall e he hb
          have h0 := (mem_ready.1 hr).1
          rw [heq] at h1
          rcases Nat.lt_or_ge i listed.size with h' | h'
          · simp [h'] at h0 h1; rw [h0] at h1; cases h1
          · simp [Array.getElem?_eq_none h'] at h1
        have h2 := wpOp_put (oi := standIn oi v) (v := v) hoj (standIn_apart (hfree j oj hoj hji hjun hnot)) (fun cs b h => by cases h) (fun cs b => Region.noSelect_spec hs j oj cs b hoj) hQ (standIn_yields oi v a) (H.2 j hm)
        have hfree' : ∀ k ok, ops[k]? = some ok → k ≠ i → (listed.setIfInBounds j true).getD k true = false →
            (∀ e ∈ ok.after, Region.binds md e = true → e.on ≠ i) → oi.apart ops ok = true := fun k ok hk hki hun hno => by
          refine hfree k ok hk hki ?_ hno
          by_cases hjk : j = k
          · subst hjk; exact hjun
          · rw [getD_set_ne true hjk] at hun; exact hun
        refine wpOp_mono (fun a' w' h3 => ?_) h2
        have hc' := hdn a' w' h3.2.1
        refine ⟨hc', wpAnyC_first hi hs hQ hg hdn hup fuel (listed.setIfInBounds j true) a' w' hfree' (ready_mono hr (Ne.symm hji)) hc' ?_⟩
        rw [Array.setIfInBounds_comm _ _ hji]
        exact h3.2.2

/-- A load is taken first. -/
theorem wpAnyC_take {i : Nat} {oi : Oper} {v : Value} {fuel : Nat} {listed : Array Bool} {a : Act} {w : World} (hi : ops[i]? = some oi) (hs : Region.noSelect ops = true)
    (hf : Region.free md ops listed i = true) (hr : (Region.ready md ops listed).contains i = true)
    (hQ : ∀ c a w, Q (.panic c) (a.put oi.dst v) w → Q (.panic c) a w) (hg : Gives P ops C oi v) (hdn : ∀ a w, C (a.put oi.dst v) w → C a w) (hup : ∀ a w, C a w → C (a.put oi.dst v) w)
    (hc : C a w) (h : wpAnyC P md ops Q C fuel (listed.setIfInBounds i true) (a.put oi.dst v) w) : wpAnyC P md ops Q C (fuel + 1) listed a w :=
  wpAnyC_first hi hs hQ hg hdn hup fuel listed a w (Region.free_spec hi hf) (by simpa using hr) hc h

/-- One operation alone may come up. -/
theorem wpAnyC_one {i : Nat} {o : Oper} {fuel : Nat} {listed : Array Bool} {a : Act} {w : World} (hr : Region.ready md ops listed = [i]) (ho : ops[i]? = some o)
    (h : ∀ K' : Act → World → Prop, (∀ a w, (C a w ∧ wpAnyC P md ops Q C fuel (listed.setIfInBounds i true) a w) → K' a w) → if Region.wanted o (yielded ops a.tmps) = true then Oper.wp P o a w K' Q else K' (a.put o.dst undef) w) :
    wpAnyC P md ops Q C (fuel + 1) listed a w := by
  refine ⟨fun h0 => (by rw [hr] at h0; cases h0), fun j hj => ?_⟩
  rw [hr] at hj
  obtain rfl : j = i := by simpa using hj
  exact wpOp_step ho h

theorem wpAnyC_done {listed : Array Bool} {a : Act} {w : World} (hr : Region.ready md ops listed = []) (h : Q .normal a w) : ∀ fuel, wpAnyC P md ops Q C fuel listed a w
  | 0 => ⟨hr, h⟩
  | _ + 1 => ⟨fun _ => h, by rw [hr]; simp⟩
/-- Two operations may come up. -/
theorem wpAnyC_two {i j : Nat} {oi oj : Oper} {fuel : Nat} {listed : Array Bool} {a : Act} {w : World} (hr : Region.ready md ops listed = [i, j]) (hi : ops[i]? = some oi) (hj : ops[j]? = some oj)
    (h1 : ∀ K' : Act → World → Prop, (∀ a w, (C a w ∧ wpAnyC P md ops Q C fuel (listed.setIfInBounds i true) a w) → K' a w) → if Region.wanted oi (yielded ops a.tmps) = true then Oper.wp P oi a w K' Q else K' (a.put oi.dst undef) w)
    (h2 : ∀ K' : Act → World → Prop, (∀ a w, (C a w ∧ wpAnyC P md ops Q C fuel (listed.setIfInBounds j true) a w) → K' a w) → if Region.wanted oj (yielded ops a.tmps) = true then Oper.wp P oj a w K' Q else K' (a.put oj.dst undef) w) :
    wpAnyC P md ops Q C (fuel + 1) listed a w := by
  refine ⟨fun h0 => (by rw [hr] at h0; cases h0), fun k hk => ?_⟩
  rw [hr] at hk
  rcases List.mem_cons.1 hk with rfl | hk
  · exact wpOp_step hi h1
  · obtain rfl : k = j := by simpa using hk
    exact wpOp_step hj h2
end

section
variable {P : Program} {ops : Array Oper} {Q : Exit → Act → World → Prop} {md : Region.Mode}
theorem wpAnyC_mono {C C' : Act → World → Prop} (hC : ∀ a w, C' a w → C a w) : ∀ (fuel : Nat) (listed : Array Bool) (a : Act) (w : World), wpAnyC P md ops Q C' fuel listed a w → wpAnyC P md ops Q C fuel listed a w
  | 0, _, _, _, h => h
  | fuel + 1, _, _, _, h => ⟨h.1, fun i hi => wpOp_mono (fun a' w' h' => ⟨hC _ _ h'.1, wpAnyC_mono hC fuel _ a' w' h'.2⟩) (h.2 i hi)⟩
end

/-- The class: these slots hold these values, these cells hold these. -/
def SlotsCells (ps : List (Nat × Value)) (qs : List (Addr × Value)) (a : Act) (u : World) : Prop := (∀ p ∈ ps, a.eval (.tmp p.1) = p.2) ∧ ∀ q ∈ qs, u.cell? q.1 = some q.2
theorem SlotsCells.put {ps : List (Nat × Value)} {qs : List (Addr × Value)} {a : Act} {u : World} (s : Nat) (v : Value) (hs : (ps.all fun p => p.1 != s) = true) :
    SlotsCells ps qs (a.put (some s) v) u ↔ SlotsCells ps qs a u := by
  have e : ∀ p ∈ ps, (a.put (some s) v).eval (.tmp p.1) = a.eval (.tmp p.1) := fun p hp => Act.eval_put (fun d hd => by
    have h1 := (List.all_eq_true.1 hs) p hp
    simp at h1 hd
    subst hd
    intro h
    injection h with h
    exact h1 h)
  constructor
  · rintro ⟨h, hb⟩
    exact ⟨fun p hp => (e p hp).symm.trans (h p hp), hb⟩
  · rintro ⟨h, hb⟩
    exact ⟨fun p hp => (e p hp).trans (h p hp), hb⟩
theorem SlotsCells.load {ps : List (Nat × Value)} {qs : List (Addr × Value)} {a : Act} {u : World} (h : SlotsCells ps qs a u) {s : Nat} {p : Addr} {v : Value} (hp : (s, Value.pointer (some p)) ∈ ps) (hq : (p, v) ∈ qs) :
    a.tmps[s]?.getD undef = .pointer (some p) ∧ u.cell? p = some v := ⟨by have := h.1 _ hp; simpa [Act.eval] using this, h.2 _ hq⟩

/-- a value of the class -/
theorem SlotsCells.val {ps : List (Nat × Value)} {qs : List (Addr × Value)} {a : Act} {u : World} (h : SlotsCells ps qs a u) {s : Nat} {v : Value} (hp : (s, v) ∈ ps) : a.tmps[s]?.getD undef = v := by have := h.1 _ hp; simpa [Act.eval] using this

section
variable {P : Program} {ops : Array Oper} {Q : Exit → Act → World → Prop} {md : Region.Mode} {C : Act → World → Prop} {late : List Nat}

/-- Whatever order the draw gives: it ends in Q, and every step stays in the class, but for the late ones. -/
def wpAnyD (P : Program) (md : Region.Mode) (ops : Array Oper) (Q : Exit → Act → World → Prop) (C : Act → World → Prop) (late : List Nat) : Nat → Array Bool → Act → World → Prop
  | 0, listed, a, w => Region.ready md ops listed = [] ∧ Q .normal a w
  | fuel + 1, listed, a, w => (Region.ready md ops listed = [] → Q .normal a w) ∧
    ∀ i ∈ Region.ready md ops listed, wpOp P ops Q i (fun a' w' => (late.contains i = true ∨ C a' w') ∧ wpAnyD P md ops Q C late fuel (listed.setIfInBounds i true) a' w') a w

theorem wpAny_of_late : ∀ (fuel : Nat) (listed : Array Bool) (a : Act) (w : World), wpAnyD P md ops Q C late fuel listed a w → wpAny P md ops Q fuel listed a w
  | 0, _, _, _, h => h
  | fuel + 1, _, _, _, h => ⟨h.1, fun i hi => wpOp_mono (fun a' w' h' => wpAny_of_late fuel _ a' w' h'.2) (h.2 i hi)⟩

/-- Each late operation waits for operation i. -/
def waits (md : Region.Mode) (ops : Array Oper) (late : List Nat) (i : Nat) : Bool := late.all fun j => match ops[j]? with | some o => o.after.any fun e => Region.binds md e && e.on == i | none => true

theorem wpAnyD_first {i : Nat} {oi : Oper} {v : Value} (hi : ops[i]? = some oi) (hs : Region.noSelect ops = true) (hl : waits md ops late i = true)
    (hQ : ∀ c a w, Q (.panic c) (a.put oi.dst v) w → Q (.panic c) a w) (hg : Gives P ops C oi v) (hdn : ∀ a w, C (a.put oi.dst v) w → C a w) (hup : ∀ a w, C a w → C (a.put oi.dst v) w) :
    ∀ (fuel : Nat) (listed : Array Bool) (a : Act) (w : World),
      (∀ j oj, ops[j]? = some oj → j ≠ i → listed.getD j true = false → (∀ e ∈ oj.after, Region.binds md e = true → e.on ≠ i) → oi.apart ops oj = true) →
      i ∈ Region.ready md ops listed → C a w →
      wpAnyD P md ops Q C late fuel (listed.setIfInBounds i true) (a.put oi.dst v) w → wpAnyD P md ops Q C late (fuel + 1) listed a w
  | fuel, listed, a, w, hfree, hr, hc, H => by
    refine ⟨fun h => (by rw [h] at hr; cases hr), fun j hj => ?_⟩
    by_cases hji : j = i
    · subst hji
      exact hg.wpOp hi hc ⟨.inr (hup a w hc), H⟩
    · have hm := ready_mono hj hji
      cases fuel with
      | zero =>
        rw [H.1] at hm
        cases hm
      | succ fuel =>
        obtain ⟨hjun, oj, hoj, hall⟩ := mem_ready.1 hj
        have hnot : ∀ e ∈ oj.after, Region.binds md e = true → e.on ≠ i := fun e he hb heq => by
          have h1 := hall e he hb
          have h0 := (mem_ready.1 hr).1
          rw [heq] at h1
          rcases Nat.lt_or_ge i listed.size with h' | h'
          · simp [h'] at h0 h1; rw [h0] at h1; cases h1
          · simp [Array.getElem?_eq_none h'] at h1
        have hnl : ¬ late.contains j = true := fun hc => by
          have h1 := (List.all_eq_true.1 hl) j (by simpa using hc)
          rw [hoj] at h1
          simp only [Array.any_eq_true, Bool.and_eq_true, beq_iff_eq] at h1
          obtain ⟨k, hk, hb, he⟩ := h1
          exact hnot _ (Array.getElem_mem hk) hb he
        have h2 := wpOp_put (oi := standIn oi v) (v := v) hoj (standIn_apart (hfree j oj hoj hji hjun hnot)) (fun cs b h => by cases h) (fun cs b => Region.noSelect_spec hs j oj cs b hoj) hQ (standIn_yields oi v a) (H.2 j hm)
        have hfree' : ∀ k ok, ops[k]? = some ok → k ≠ i → (listed.setIfInBounds j true).getD k true = false →
            (∀ e ∈ ok.after, Region.binds md e = true → e.on ≠ i) → oi.apart ops ok = true := fun k ok hk hki hun hno => by
          refine hfree k ok hk hki ?_ hno
          by_cases hjk : j = k
          · subst hjk; exact hjun
          · rw [getD_set_ne true hjk] at hun; exact hun
        refine wpOp_mono (fun a' w' h3 => ?_) h2
        have hc' := hdn a' w' (h3.2.1.resolve_left hnl)
        refine ⟨.inr hc', wpAnyD_first hi hs hl hQ hg hdn hup fuel (listed.setIfInBounds j true) a' w' hfree' (ready_mono hr (Ne.symm hji)) hc' ?_⟩
        rw [Array.setIfInBounds_comm _ _ hji]
        exact h3.2.2

/-- A load is taken first. -/
theorem wpAnyD_take {i : Nat} {oi : Oper} {v : Value} {fuel : Nat} {listed : Array Bool} {a : Act} {w : World} (hi : ops[i]? = some oi) (hs : Region.noSelect ops = true) (hl : waits md ops late i = true)
    (hf : Region.free md ops listed i = true) (hr : (Region.ready md ops listed).contains i = true)
    (hQ : ∀ c a w, Q (.panic c) (a.put oi.dst v) w → Q (.panic c) a w) (hg : Gives P ops C oi v) (hdn : ∀ a w, C (a.put oi.dst v) w → C a w) (hup : ∀ a w, C a w → C (a.put oi.dst v) w)
    (hc : C a w) (h : wpAnyD P md ops Q C late fuel (listed.setIfInBounds i true) (a.put oi.dst v) w) : wpAnyD P md ops Q C late (fuel + 1) listed a w :=
  wpAnyD_first hi hs hl hQ hg hdn hup fuel listed a w (Region.free_spec hi hf) (by simpa using hr) hc h

/-- One operation alone may come up. -/
theorem wpAnyD_one {i : Nat} {o : Oper} {fuel : Nat} {listed : Array Bool} {a : Act} {w : World} (hr : Region.ready md ops listed = [i]) (ho : ops[i]? = some o)
    (h : ∀ K' : Act → World → Prop, (∀ a w, ((late.contains i = true ∨ C a w) ∧ wpAnyD P md ops Q C late fuel (listed.setIfInBounds i true) a w) → K' a w) → if Region.wanted o (yielded ops a.tmps) = true then Oper.wp P o a w K' Q else K' (a.put o.dst undef) w) :
    wpAnyD P md ops Q C late (fuel + 1) listed a w := by
  refine ⟨fun h0 => (by rw [hr] at h0; cases h0), fun j hj => ?_⟩
  rw [hr] at hj
  obtain rfl : j = i := by simpa using hj
  exact wpOp_step ho h

theorem wpAnyD_done {listed : Array Bool} {a : Act} {w : World} (hr : Region.ready md ops listed = []) (h : Q .normal a w) : ∀ fuel, wpAnyD P md ops Q C late fuel listed a w
  | 0 => ⟨hr, h⟩
  | _ + 1 => ⟨fun _ => h, by rw [hr]; simp⟩
end

section
variable {P : Program} {ops : Array Oper} {Q : Exit → Act → World → Prop} {md : Region.Mode} {C : Act → World → Prop} {late : List Nat}

/-- one of the late ones has come up -/
def anyLate (late : List Nat) (listed : Array Bool) : Bool := late.any fun j => listed.getD j false
/-- Whatever order the draw gives: it ends in Q, and every step stays in the class as long as no late one has come up. -/
def wpAnyE (P : Program) (md : Region.Mode) (ops : Array Oper) (Q : Exit → Act → World → Prop) (C : Act → World → Prop) (late : List Nat) : Nat → Array Bool → Act → World → Prop
  | 0, listed, a, w => Region.ready md ops listed = [] ∧ Q .normal a w
  | fuel + 1, listed, a, w => (Region.ready md ops listed = [] → Q .normal a w) ∧
    ∀ i ∈ Region.ready md ops listed, wpOp P ops Q i (fun a' w' => (anyLate late listed = true ∨ late.contains i = true ∨ C a' w') ∧ wpAnyE P md ops Q C late fuel (listed.setIfInBounds i true) a' w') a w

theorem wpAny_of_E : ∀ (fuel : Nat) (listed : Array Bool) (a : Act) (w : World), wpAnyE P md ops Q C late fuel listed a w → wpAny P md ops Q fuel listed a w
  | 0, _, _, _, h => h
  | fuel + 1, _, _, _, h => ⟨h.1, fun i hi => wpOp_mono (fun a' w' h' => wpAny_of_E fuel _ a' w' h'.2) (h.2 i hi)⟩

theorem anyLate_set {listed : Array Bool} {j : Nat} (h : anyLate late listed = false) (hj : late.contains j = false) : anyLate late (listed.setIfInBounds j true) = false := by
  unfold anyLate at h ⊢
  rw [List.any_eq_false] at h ⊢
  intro k hk
  have hkj : j ≠ k := fun e => by
    subst e
    rw [List.contains_eq_mem, decide_eq_false_iff_not] at hj
    exact hj hk
  rw [getD_set_ne false hkj]
  exact h k hk

theorem wpAnyE_first {i : Nat} {oi : Oper} {v : Value} (hi : ops[i]? = some oi) (hs : Region.noSelect ops = true) (hl : waits md ops late i = true) (hli : late.contains i = false)
    (hQ : ∀ c a w, Q (.panic c) (a.put oi.dst v) w → Q (.panic c) a w) (hg : Gives P ops C oi v) (hdn : ∀ a w, C (a.put oi.dst v) w → C a w) (hup : ∀ a w, C a w → C (a.put oi.dst v) w) :
    ∀ (fuel : Nat) (listed : Array Bool) (a : Act) (w : World), anyLate late listed = false →
      (∀ j oj, ops[j]? = some oj → j ≠ i → listed.getD j true = false → (∀ e ∈ oj.after, Region.binds md e = true → e.on ≠ i) → oi.apart ops oj = true) →
      i ∈ Region.ready md ops listed → C a w →
      wpAnyE P md ops Q C late fuel (listed.setIfInBounds i true) (a.put oi.dst v) w → wpAnyE P md ops Q C late (fuel + 1) listed a w
  | fuel, listed, a, w, hn, hfree, hr, hc, H => by
    refine ⟨fun h => (by rw [h] at hr; cases hr), fun j hj => ?_⟩
    by_cases hji : j = i
    · subst hji
      exact hg.wpOp hi hc ⟨.inr (.inr (hup a w hc)), H⟩
    · have hm := ready_mono hj hji
      cases fuel with
      | zero =>
        rw [H.1] at hm
        cases hm
      | succ fuel =>
        obtain ⟨hjun, oj, hoj, hall⟩ := mem_ready.1 hj
        have hnot : ∀ e ∈ oj.after, Region.binds md e = true → e.on ≠ i := fun e he hb heq => by
          have h1 := hall e he hb
          have h0 := (mem_ready.1 hr).1
          rw [heq] at h1
          rcases Nat.lt_or_ge i listed.size with h' | h'
          · simp [h'] at h0 h1; rw [h0] at h1; cases h1
          · simp [Array.getElem?_eq_none h'] at h1
        have hnl : ¬ late.contains j = true := fun hc => by
          have h1 := (List.all_eq_true.1 hl) j (by simpa using hc)
          rw [hoj] at h1
          simp only [Array.any_eq_true, Bool.and_eq_true, beq_iff_eq] at h1
          obtain ⟨k, hk, hb, he⟩ := h1
          exact hnot _ (Array.getElem_mem hk) hb he
        have h2 := wpOp_put (oi := standIn oi v) (v := v) hoj (standIn_apart (hfree j oj hoj hji hjun hnot)) (fun cs b h => by cases h) (fun cs b => Region.noSelect_spec hs j oj cs b hoj) hQ (standIn_yields oi v a) (H.2 j hm)
        have hfree' : ∀ k ok, ops[k]? = some ok → k ≠ i → (listed.setIfInBounds j true).getD k true = false →
            (∀ e ∈ ok.after, Region.binds md e = true → e.on ≠ i) → oi.apart ops ok = true := fun k ok hk hki hun hno => by
          refine hfree k ok hk hki ?_ hno
          by_cases hjk : j = k
          · subst hjk; exact hjun
          · rw [getD_set_ne true hjk] at hun; exact hun
        have hnj : late.contains j = false := by simpa using hnl
        refine wpOp_mono (fun a' w' h3 => ?_) h2
        have hc' := hdn a' w' ((h3.2.1.resolve_left (by rw [anyLate_set hn hli]; decide)).resolve_left hnl)
        refine ⟨.inr (.inr hc'), wpAnyE_first hi hs hl hli hQ hg hdn hup fuel (listed.setIfInBounds j true) a' w' (anyLate_set hn hnj) hfree' (ready_mono hr (Ne.symm hji)) hc' ?_⟩
        rw [Array.setIfInBounds_comm _ _ hji]
        exact h3.2.2

/-- A load is taken first. -/
theorem wpAnyE_take {i : Nat} {oi : Oper} {v : Value} {fuel : Nat} {listed : Array Bool} {a : Act} {w : World} (hi : ops[i]? = some oi) (hs : Region.noSelect ops = true) (hl : waits md ops late i = true) (hli : late.contains i = false) (hn : anyLate late listed = false)
    (hf : Region.free md ops listed i = true) (hr : (Region.ready md ops listed).contains i = true)
    (hQ : ∀ c a w, Q (.panic c) (a.put oi.dst v) w → Q (.panic c) a w) (hg : Gives P ops C oi v) (hdn : ∀ a w, C (a.put oi.dst v) w → C a w) (hup : ∀ a w, C a w → C (a.put oi.dst v) w)
    (hc : C a w) (h : wpAnyE P md ops Q C late fuel (listed.setIfInBounds i true) (a.put oi.dst v) w) : wpAnyE P md ops Q C late (fuel + 1) listed a w :=
  wpAnyE_first hi hs hl hli hQ hg hdn hup fuel listed a w hn (Region.free_spec hi hf) (by simpa using hr) hc h

theorem anyLate_eq {listed : Array Bool} {j : Nat} (hj : late.contains j = false) : anyLate late (listed.setIfInBounds j true) = anyLate late listed := by
  unfold anyLate
  rw [Bool.eq_iff_iff, List.any_eq_true, List.any_eq_true]
  have hne : ∀ k, k ∈ late → j ≠ k := fun k hk e => by
    subst e
    rw [List.contains_eq_mem, decide_eq_false_iff_not] at hj
    exact hj hk
  constructor
  · rintro ⟨k, hk, h⟩
    rw [getD_set_ne false (hne k hk)] at h
    exact ⟨k, hk, h⟩
  · rintro ⟨k, hk, h⟩
    exact ⟨k, hk, by rw [getD_set_ne false (hne k hk)]; exact h⟩
theorem anyLate_mono {listed : Array Bool} {j : Nat} (h : anyLate late listed = true) : anyLate late (listed.setIfInBounds j true) = true := by
  unfold anyLate at *
  rw [List.any_eq_true] at *
  obtain ⟨k, hk, h1⟩ := h
  exact ⟨k, hk, getD_set_true h1⟩
theorem anyLate_new {listed : Array Bool} {j : Nat} (h : late.contains j = true) (hj : listed.getD j true = false) : anyLate late (listed.setIfInBounds j true) = true := by
  unfold anyLate
  rw [List.any_eq_true]
  refine ⟨j, by simpa using h, ?_⟩
  have hlt : j < listed.size := by
    rcases Nat.lt_or_ge j listed.size with h' | h'
    · exact h'
    · simp [Array.getElem?_eq_none h'] at hj
  simp [hlt]

theorem wpAnyE_pureFirst {i : Nat} {oi : Oper} {v : Value} (hi : ops[i]? = some oi) (hs : Region.noSelect ops = true) (hli : late.contains i = false)
    (hQ : ∀ c a w, Q (.panic c) (a.put oi.dst v) w → Q (.panic c) a w) (hdn : ∀ a w, C (a.put oi.dst v) w → C a w) (hup : ∀ a w, C a w → C (a.put oi.dst v) w) :
    ∀ (fuel : Nat) (listed : Array Bool) (a : Act) (w : World), (anyLate late listed = true ∨ C a w) →
      (∀ j oj, ops[j]? = some oj → j ≠ i → listed.getD j true = false → (∀ e ∈ oj.after, Region.binds md e = true → e.on ≠ i) → oi.apart ops oj = true) →
      i ∈ Region.ready md ops listed → Yields P ops oi v a →
      wpAnyE P md ops Q C late fuel (listed.setIfInBounds i true) (a.put oi.dst v) w → wpAnyE P md ops Q C late (fuel + 1) listed a w
  | fuel, listed, a, w, hI, hfree, hr, hy, H => by
    have hsel := Region.noSelect_spec hs
    refine ⟨fun h => (by rw [h] at hr; cases hr), fun j hj => ?_⟩
    by_cases hji : j = i
    · subst hji
      refine hy.wpOp hi ⟨?_, H⟩
      rcases hI with h | h
      · exact .inl h
      · exact .inr (.inr (hup a w h))
    · have hm := ready_mono hj hji
      cases fuel with
      | zero =>
        rw [H.1] at hm
        cases hm
      | succ fuel =>
        obtain ⟨hjun, oj, hoj, hall⟩ := mem_ready.1 hj
        have hnot : ∀ e ∈ oj.after, Region.binds md e = true → e.on ≠ i := fun e he hb heq => by
          have h1 := hall e he hb
          have h0 := (mem_ready.1 hr).1
          rw [heq] at h1
          rcases Nat.lt_or_ge i listed.size with h' | h'
          · simp [h'] at h0 h1; rw [h0] at h1; cases h1
          · simp [Array.getElem?_eq_none h'] at h1
        have h2 := wpOp_put hoj (hfree j oj hoj hji hjun hnot) (fun cs b => hsel i oi cs b hi) (fun cs b => hsel j oj cs b hoj) hQ hy (H.2 j hm)
        have hfree' : ∀ k ok, ops[k]? = some ok → k ≠ i → (listed.setIfInBounds j true).getD k true = false →
            (∀ e ∈ ok.after, Region.binds md e = true → e.on ≠ i) → oi.apart ops ok = true := fun k ok hk hki hun hno => by
          refine hfree k ok hk hki ?_ hno
          by_cases hjk : j = k
          · subst hjk; exact hjun
          · rw [getD_set_ne true hjk] at hun; exact hun
        refine wpOp_mono (fun a' w' h3 => ?_) h2
        have hob : anyLate late listed = true ∨ late.contains j = true ∨ C a' w' := by
          rcases h3.2.1 with h | h | h
          · rw [anyLate_eq hli] at h; exact .inl h
          · exact .inr (.inl h)
          · exact .inr (.inr (hdn a' w' h))
        have hI' : anyLate late (listed.setIfInBounds j true) = true ∨ C a' w' := by
          rcases hob with h | h | h
          · exact .inl (anyLate_mono h)
          · exact .inl (anyLate_new h hjun)
          · exact .inr h
        refine ⟨hob, wpAnyE_pureFirst hi hs hli hQ hdn hup fuel (listed.setIfInBounds j true) a' w' hI' hfree' (ready_mono hr (Ne.symm hji)) h3.1 ?_⟩
        rw [Array.setIfInBounds_comm _ _ hji]
        exact h3.2.2
/-- An operation that asks the world nothing is taken first. -/
theorem wpAnyE_pure {i : Nat} {oi : Oper} {v : Value} {fuel : Nat} {listed : Array Bool} {a : Act} {w : World} (hi : ops[i]? = some oi) (hs : Region.noSelect ops = true) (hli : late.contains i = false)
    (hf : Region.free md ops listed i = true) (hr : (Region.ready md ops listed).contains i = true)
    (hQ : ∀ c a w, Q (.panic c) (a.put oi.dst v) w → Q (.panic c) a w) (hdn : ∀ a w, C (a.put oi.dst v) w → C a w) (hup : ∀ a w, C a w → C (a.put oi.dst v) w)
    (hI : anyLate late listed = true ∨ C a w) (hy : Yields P ops oi v a) (h : wpAnyE P md ops Q C late fuel (listed.setIfInBounds i true) (a.put oi.dst v) w) : wpAnyE P md ops Q C late (fuel + 1) listed a w :=
  wpAnyE_pureFirst hi hs hli hQ hdn hup fuel listed a w hI (Region.free_spec hi hf) (by simpa using hr) hy h

/-- These may come up. -/
theorem wpAnyE_some {rs : List Nat} {fuel : Nat} {listed : Array Bool} {a : Act} {w : World} (hr : Region.ready md ops listed = rs) (h0 : rs ≠ [])
    (h : ∀ i ∈ rs, wpOp P ops Q i (fun a' w' => (anyLate late listed = true ∨ late.contains i = true ∨ C a' w') ∧ wpAnyE P md ops Q C late fuel (listed.setIfInBounds i true) a' w') a w) :
    wpAnyE P md ops Q C late (fuel + 1) listed a w := ⟨fun e => absurd (hr.symm.trans e) h0, fun i hi => h i (hr ▸ hi)⟩
theorem wpAnyE_done {listed : Array Bool} {a : Act} {w : World} (hr : Region.ready md ops listed = []) (h : Q .normal a w) : ∀ fuel, wpAnyE P md ops Q C late fuel listed a w
  | 0 => ⟨hr, h⟩
  | _ + 1 => ⟨fun _ => h, by rw [hr]; simp⟩
end
end Go.Proofs.Ytlbjalodjcajfaa
