/-
  RcLoads, RcLate, RcBytes, RcMem, RcDraw, RcSect, RcPlain, RcOctets, RcLittle, RcStamped, RcHideM, RcZeros, RcCrc, RcSums, RcBody, RcPutHM: put together.
-/
import Derived.WalkKit
import Derived.Orders
import Derived.RegionTactic
import Derived.Test.YtnldkpckojhbhaaGreatRows
import Derived.WalkSpells
import Derived.WalkLawsBesides
import Derived.Laws.BytesArg
import Derived.Laws.AppendOwnNone
import Derived.ProofKit
import Derived.Laws.CopyOwn
import Derived.Deep.QuietTactic
import Derived.BigQuiet
import Derived.RangeFuncNested
import Derived.RangeFuncBound
import Derived.RangeFuncCalls
import Derived.RangeFuncLeaves
import Derived.Shelf.Abstract
import Derived.Shelf.RegionOpen
import Derived.OwnWalkIn
import Derived.TacticsInMore
import Derived.LoopNIn
import Derived.LoopIn
import Derived.Lib.AppendZerosOnto
import Derived.Laws.BitsLemmas
import Derived.Lib.SlBytesConst
/-
  A region that draws its order and holds loads beside calls that make memory: a load whose value is one in a whole class of frames and worlds may be taken first, if each step stays in the class.
-/
namespace Go.Proofs.YtnldkpckojhbhaaGreat.Rc

section
variable {P : Program} {ops : Array Oper} {Q : Exit → Act → World → Prop} {md : Region.Mode} {C : Act → World → Prop}

def wpAnyC (P : Program) (md : Region.Mode) (ops : Array Oper) (Q : Exit → Act → World → Prop) (C : Act → World → Prop) : Nat → Array Bool → Act → World → Prop
  | 0, listed, a, w => Region.ready md ops listed = [] ∧ Q .normal a w
  | fuel + 1, listed, a, w => (Region.ready md ops listed = [] → Q .normal a w) ∧
    ∀ i ∈ Region.ready md ops listed, wpOp P ops Q i (fun a' w' => C a' w' ∧ wpAnyC P md ops Q C fuel (listed.setIfInBounds i true) a' w') a w

theorem wpAny_of_class : ∀ (fuel : Nat) (listed : Array Bool) (a : Act) (w : World), wpAnyC P md ops Q C fuel listed a w → wpAny P md ops Q fuel listed a w
  | 0, _, _, _, h => h
  | fuel + 1, _, _, _, h => ⟨h.1, fun i hi => wpOp_mono (fun a' w' h' => wpAny_of_class fuel _ a' w' h'.2) (h.2 i hi)⟩

def Gives (P : Program) (ops : Array Oper) (C : Act → World → Prop) (o : Oper) (v : Value) : Prop :=
  ∀ a w, C a w → Region.wanted o (yielded ops a.tmps) = true ∧ (execOp a.eval o).run P w = .ok (.value v) w

theorem Gives.wpOp {i : Nat} {o : Oper} {v : Value} {a : Act} {w : World} (hi : ops[i]? = some o) (hg : Gives P ops C o v) (hc : C a w) {K : Act → World → Prop} (h : K (a.put o.dst v) w) : wpOp P ops Q i K a w := by
  obtain ⟨h1, h2⟩ := hg a w hc
  unfold Go.wpOp
  simp only [hi, h1, if_true, Oper.wp, h2, Oper.upon]
  exact .inl h

def standIn (o : Oper) (v : Value) : Oper := { o with op := .move (.const v), guard := none }
theorem standIn_yields (o : Oper) (v : Value) (a : Act) : Yields P ops (standIn o v) v a := by
  refine .inl ⟨rfl, fun w => ?_⟩
  rfl
theorem standIn_apart {o y : Oper} {v : Value} (h : o.apart ops y = true) : (standIn o v).apart ops y = true := by
  unfold Oper.apart at h ⊢
  simp only [Bool.and_eq_true] at h ⊢
  refine ⟨h.1, ?_⟩
  have e : (standIn o v).looksAt ops = [] := rfl
  rw [e]
  cases y.dst <;> rfl

theorem wpAnyC_first {i : Nat} {oi : Oper} {v : Value} (hi : ops[i]? = some oi) (hs : Region.noSelect ops = true)
    (hQ : ∀ c a w, Q (.panic c) (a.put oi.dst v) w → Q (.panic c) a w) (hg : Gives P ops C oi v) (hdn : ∀ a w, C (a.put oi.dst v) w → C a w) (hup : ∀ a w, C a w → C (a.put oi.dst v) w) :
    ∀ (fuel : Nat) (listed : Array Bool) (a : Act) (w : World),
      (∀ j oj, ops[j]? = some oj → j ≠ i → listed.getD j true = false → (∀ e ∈ oj.after, Region.binds md e = true → e.on ≠ i) → oi.apart ops oj = true) →
      i ∈ Region.ready md ops listed → C a w →
      wpAnyC P md ops Q C fuel (listed.setIfInBounds i true) (a.put oi.dst v) w → wpAnyC P md ops Q C (fuel + 1) listed a w
  | fuel, listed, a, w, hfree, hr, hc, H => by
    refine ⟨fun h => (by rw [h] at hr; cases hr), fun j hj => ?_⟩
    by_cases hji : j = i
    · subst hji
      exact hg.wpOp hi hc ⟨hup a w hc, H⟩
    · have hm := ready_mono hj hji
      cases fuel with
      | zero =>
        rw [H.1] at hm
        cases hm
      | succ fuel =>
        obtain ⟨hjun, oj, hoj, hall⟩ := mem_ready.1 hj
        have hnot : ∀ e ∈ oj.after, Region.binds md e = true → e.on ≠ i := fun e he hb heq => by
          have h1 := hall e he hb
          have h0 := (mem_ready.1 hr).1
          rw [heq] at h1
          rcases Nat.lt_or_ge i listed.size with h' | h'
          · simp [h'] at h0 h1; rw [h0] at h1; cases h1
          · simp [Array.getElem?_eq_none h'] at h1
        have h2 := wpOp_put (oi := standIn oi v) (v := v) hoj (standIn_apart (hfree j oj hoj hji hjun hnot)) (fun cs b h => by cases h) (fun cs b => Region.noSelect_spec hs j oj cs b hoj) hQ (standIn_yields oi v a) (H.2 j hm)
        have hfree' : ∀ k ok, ops[k]? = some ok → k ≠ i → (listed.setIfInBounds j true).getD k true = false →
            (∀ e ∈ ok.after, Region.binds md e = true → e.on ≠ i) → oi.apart ops ok = true := fun k ok hk hki hun hno => by
          refine hfree k ok hk hki ?_ hno
          by_cases hjk : j = k
          · subst hjk; exact hjun
          · rw [getD_set_ne true hjk] at hun; exact hun
        refine wpOp_mono (fun a' w' h3 => ?_) h2
        have hc' := hdn a' w' h3.2.1
        refine ⟨hc', wpAnyC_first hi hs hQ hg hdn hup fuel (listed.setIfInBounds j true) a' w' hfree' (ready_mono hr (Ne.symm hji)) hc' ?_⟩
        rw [Array.setIfInBounds_comm _ _ hji]
        exact h3.2.2

theorem wpAnyC_take {i : Nat} {oi : Oper} {v : Value} {fuel : Nat} {listed : Array Bool} {a : Act} {w : World} (hi : ops[i]? = some oi) (hs : Region.noSelect ops = true)
    (hf : Region.free md ops listed i = true) (hr : (Region.ready md ops listed).contains i = true)
    (hQ : ∀ c a w, Q (.panic c) (a.put oi.dst v) w → Q (.panic c) a w) (hg : Gives P ops C oi v) (hdn : ∀ a w, C (a.put oi.dst v) w → C a w) (hup : ∀ a w, C a w → C (a.put oi.dst v) w)
    (hc : C a w) (h : wpAnyC P md ops Q C fuel (listed.setIfInBounds i true) (a.put oi.dst v) w) : wpAnyC P md ops Q C (fuel + 1) listed a w :=
  wpAnyC_first hi hs hQ hg hdn hup fuel listed a w (Region.free_spec hi hf) (by simpa using hr) hc h

theorem wpAnyC_one {i : Nat} {o : Oper} {fuel : Nat} {listed : Array Bool} {a : Act} {w : World} (hr : Region.ready md ops listed = [i]) (ho : ops[i]? = some o)
    (h : ∀ K' : Act → World → Prop, (∀ a w, (C a w ∧ wpAnyC P md ops Q C fuel (listed.setIfInBounds i true) a w) → K' a w) → if Region.wanted o (yielded ops a.tmps) = true then Oper.wp P o a w K' Q else K' (a.put o.dst undef) w) :
    wpAnyC P md ops Q C (fuel + 1) listed a w := by
  refine ⟨fun h0 => (by rw [hr] at h0; cases h0), fun j hj => ?_⟩
  rw [hr] at hj
  obtain rfl : j = i := by simpa using hj
  exact wpOp_step ho h

theorem wpAnyC_done {listed : Array Bool} {a : Act} {w : World} (hr : Region.ready md ops listed = []) (h : Q .normal a w) : ∀ fuel, wpAnyC P md ops Q C fuel listed a w
  | 0 => ⟨hr, h⟩
  | _ + 1 => ⟨fun _ => h, by rw [hr]; simp⟩
theorem wpAnyC_two {i j : Nat} {oi oj : Oper} {fuel : Nat} {listed : Array Bool} {a : Act} {w : World} (hr : Region.ready md ops listed = [i, j]) (hi : ops[i]? = some oi) (hj : ops[j]? = some oj)
    (h1 : ∀ K' : Act → World → Prop, (∀ a w, (C a w ∧ wpAnyC P md ops Q C fuel (listed.setIfInBounds i true) a w) → K' a w) → if Region.wanted oi (yielded ops a.tmps) = true then Oper.wp P oi a w K' Q else K' (a.put oi.dst undef) w)
    (h2 : ∀ K' : Act → World → Prop, (∀ a w, (C a w ∧ wpAnyC P md ops Q C fuel (listed.setIfInBounds j true) a w) → K' a w) → if Region.wanted oj (yielded ops a.tmps) = true then Oper.wp P oj a w K' Q else K' (a.put oj.dst undef) w) :
    wpAnyC P md ops Q C (fuel + 1) listed a w := by
  refine ⟨fun h0 => (by rw [hr] at h0; cases h0), fun k hk => ?_⟩
  rw [hr] at hk
  rcases List.mem_cons.1 hk with rfl | hk
  · exact wpOp_step hi h1
  · obtain rfl : k = j := by simpa using hk
    exact wpOp_step hj h2
end

section
variable {P : Program} {ops : Array Oper} {Q : Exit → Act → World → Prop} {md : Region.Mode}
theorem wpAnyC_mono {C C' : Act → World → Prop} (hC : ∀ a w, C' a w → C a w) : ∀ (fuel : Nat) (listed : Array Bool) (a : Act) (w : World), wpAnyC P md ops Q C' fuel listed a w → wpAnyC P md ops Q C fuel listed a w
  | 0, _, _, _, h => h
  | fuel + 1, _, _, _, h => ⟨h.1, fun i hi => wpOp_mono (fun a' w' h' => ⟨hC _ _ h'.1, wpAnyC_mono hC fuel _ a' w' h'.2⟩) (h.2 i hi)⟩
end

def SlotsCells (ps : List (Nat × Value)) (qs : List (Addr × Value)) (a : Act) (u : World) : Prop := (∀ p ∈ ps, a.eval (.tmp p.1) = p.2) ∧ ∀ q ∈ qs, u.cell? q.1 = some q.2
theorem SlotsCells.put {ps : List (Nat × Value)} {qs : List (Addr × Value)} {a : Act} {u : World} (s : Nat) (v : Value) (hs : (ps.all fun p => p.1 != s) = true) :
    SlotsCells ps qs (a.put (some s) v) u ↔ SlotsCells ps qs a u := by
  have e : ∀ p ∈ ps, (a.put (some s) v).eval (.tmp p.1) = a.eval (.tmp p.1) := fun p hp => Act.eval_put (fun d hd => by
    have h1 := (List.all_eq_true.1 hs) p hp
    simp at h1 hd
    subst hd
    intro h
    injection h with h
    exact h1 h)
  constructor
  · rintro ⟨h, hb⟩
    exact ⟨fun p hp => (e p hp).symm.trans (h p hp), hb⟩
  · rintro ⟨h, hb⟩
    exact ⟨fun p hp => (e p hp).trans (h p hp), hb⟩
theorem SlotsCells.load {ps : List (Nat × Value)} {qs : List (Addr × Value)} {a : Act} {u : World} (h : SlotsCells ps qs a u) {s : Nat} {p : Addr} {v : Value} (hp : (s, Value.pointer (some p)) ∈ ps) (hq : (p, v) ∈ qs) :
    a.tmps[s]?.getD undef = .pointer (some p) ∧ u.cell? p = some v := ⟨by have := h.1 _ hp; simpa [Act.eval] using this, h.2 _ hq⟩

theorem SlotsCells.val {ps : List (Nat × Value)} {qs : List (Addr × Value)} {a : Act} {u : World} (h : SlotsCells ps qs a u) {s : Nat} {v : Value} (hp : (s, v) ∈ ps) : a.tmps[s]?.getD undef = v := by have := h.1 _ hp; simpa [Act.eval] using this
end Go.Proofs.YtnldkpckojhbhaaGreat.Rc

/-
  As Loads: but operations that wait for the taken one (late) may leave the class.
-/
namespace Go.Proofs.YtnldkpckojhbhaaGreat.Rc

section
variable {P : Program} {ops : Array Oper} {Q : Exit → Act → World → Prop} {md : Region.Mode} {C : Act → World → Prop} {late : List Nat}

def wpAnyD (P : Program) (md : Region.Mode) (ops : Array Oper) (Q : Exit → Act → World → Prop) (C : Act → World → Prop) (late : List Nat) : Nat → Array Bool → Act → World → Prop
  | 0, listed, a, w => Region.ready md ops listed = [] ∧ Q .normal a w
  | fuel + 1, listed, a, w => (Region.ready md ops listed = [] → Q .normal a w) ∧
    ∀ i ∈ Region.ready md ops listed, wpOp P ops Q i (fun a' w' => (late.contains i = true ∨ C a' w') ∧ wpAnyD P md ops Q C late fuel (listed.setIfInBounds i true) a' w') a w

theorem wpAny_of_late : ∀ (fuel : Nat) (listed : Array Bool) (a : Act) (w : World), wpAnyD P md ops Q C late fuel listed a w → wpAny P md ops Q fuel listed a w
  | 0, _, _, _, h => h
  | fuel + 1, _, _, _, h => ⟨h.1, fun i hi => wpOp_mono (fun a' w' h' => wpAny_of_late fuel _ a' w' h'.2) (h.2 i hi)⟩

def waits (md : Region.Mode) (ops : Array Oper) (late : List Nat) (i : Nat) : Bool := late.all fun j => match ops[j]? with | some o => o.after.any fun e => Region.binds md e && e.on == i | none => true

theorem wpAnyD_first {i : Nat} {oi : Oper} {v : Value} (hi : ops[i]? = some oi) (hs : Region.noSelect ops = true) (hl : waits md ops late i = true)
    (hQ : ∀ c a w, Q (.panic c) (a.put oi.dst v) w → Q (.panic c) a w) (hg : Gives P ops C oi v) (hdn : ∀ a w, C (a.put oi.dst v) w → C a w) (hup : ∀ a w, C a w → C (a.put oi.dst v) w) :
    ∀ (fuel : Nat) (listed : Array Bool) (a : Act) (w : World),
      (∀ j oj, ops[j]? = some oj → j ≠ i → listed.getD j true = false → (∀ e ∈ oj.after, Region.binds md e = true → e.on ≠ i) → oi.apart ops oj = true) →
      i ∈ Region.ready md ops listed → C a w →
      wpAnyD P md ops Q C late fuel (listed.setIfInBounds i true) (a.put oi.dst v) w → wpAnyD P md ops Q C late (fuel + 1) listed a w
  | fuel, listed, a, w, hfree, hr, hc, H => by
    refine ⟨fun h => (by rw [h] at hr; cases hr), fun j hj => ?_⟩
    by_cases hji : j = i
    · subst hji
      exact hg.wpOp hi hc ⟨.inr (hup a w hc), H⟩
    · have hm := ready_mono hj hji
      cases fuel with
      | zero =>
        rw [H.1] at hm
        cases hm
      | succ fuel =>
        obtain ⟨hjun, oj, hoj, hall⟩ := mem_ready.1 hj
        have hnot : ∀ e ∈ oj.after, Region.binds md e = true → e.on ≠ i := fun e he hb heq => by
          have h1 := hall e he hb
          have h0 := (mem_ready.1 hr).1
          rw [heq] at h1
          rcases Nat.lt_or_ge i listed.size with h' | h'
          · simp [h'] at h0 h1; rw [h0] at h1; cases h1
          · simp [Array.getElem?_eq_none h'] at h1
        have hnl : ¬ late.contains j = true := fun hc => by
          have h1 := (List.all_eq_true.1 hl) j (by simpa using hc)
          rw [hoj] at h1
          simp only [Array.any_eq_true, Bool.and_eq_true, beq_iff_eq] at h1
          obtain ⟨k, hk, hb, he⟩ := h1
          exact hnot _ (Array.getElem_mem hk) hb he
        have h2 := wpOp_put (oi := standIn oi v) (v := v) hoj (standIn_apart (hfree j oj hoj hji hjun hnot)) (fun cs b h => by cases h) (fun cs b => Region.noSelect_spec hs j oj cs b hoj) hQ (standIn_yields oi v a) (H.2 j hm)
        have hfree' : ∀ k ok, ops[k]? = some ok → k ≠ i → (listed.setIfInBounds j true).getD k true = false →
            (∀ e ∈ ok.after, Region.binds md e = true → e.on ≠ i) → oi.apart ops ok = true := fun k ok hk hki hun hno => by
          refine hfree k ok hk hki ?_ hno
          by_cases hjk : j = k
          · subst hjk; exact hjun
          · rw [getD_set_ne true hjk] at hun; exact hun
        refine wpOp_mono (fun a' w' h3 => ?_) h2
        have hc' := hdn a' w' (h3.2.1.resolve_left hnl)
        refine ⟨.inr hc', wpAnyD_first hi hs hl hQ hg hdn hup fuel (listed.setIfInBounds j true) a' w' hfree' (ready_mono hr (Ne.symm hji)) hc' ?_⟩
        rw [Array.setIfInBounds_comm _ _ hji]
        exact h3.2.2

theorem wpAnyD_take {i : Nat} {oi : Oper} {v : Value} {fuel : Nat} {listed : Array Bool} {a : Act} {w : World} (hi : ops[i]? = some oi) (hs : Region.noSelect ops = true) (hl : waits md ops late i = true)
    (hf : Region.free md ops listed i = true) (hr : (Region.ready md ops listed).contains i = true)
    (hQ : ∀ c a w, Q (.panic c) (a.put oi.dst v) w → Q (.panic c) a w) (hg : Gives P ops C oi v) (hdn : ∀ a w, C (a.put oi.dst v) w → C a w) (hup : ∀ a w, C a w → C (a.put oi.dst v) w)
    (hc : C a w) (h : wpAnyD P md ops Q C late fuel (listed.setIfInBounds i true) (a.put oi.dst v) w) : wpAnyD P md ops Q C late (fuel + 1) listed a w :=
  wpAnyD_first hi hs hl hQ hg hdn hup fuel listed a w (Region.free_spec hi hf) (by simpa using hr) hc h

theorem wpAnyD_one {i : Nat} {o : Oper} {fuel : Nat} {listed : Array Bool} {a : Act} {w : World} (hr : Region.ready md ops listed = [i]) (ho : ops[i]? = some o)
    (h : ∀ K' : Act → World → Prop, (∀ a w, ((late.contains i = true ∨ C a w) ∧ wpAnyD P md ops Q C late fuel (listed.setIfInBounds i true) a w) → K' a w) → if Region.wanted o (yielded ops a.tmps) = true then Oper.wp P o a w K' Q else K' (a.put o.dst undef) w) :
    wpAnyD P md ops Q C late (fuel + 1) listed a w := by
  refine ⟨fun h0 => (by rw [hr] at h0; cases h0), fun j hj => ?_⟩
  rw [hr] at hj
  obtain rfl : j = i := by simpa using hj
  exact wpOp_step ho h

theorem wpAnyD_done {listed : Array Bool} {a : Act} {w : World} (hr : Region.ready md ops listed = []) (h : Q .normal a w) : ∀ fuel, wpAnyD P md ops Q C late fuel listed a w
  | 0 => ⟨hr, h⟩
  | _ + 1 => ⟨fun _ => h, by rw [hr]; simp⟩
end
end Go.Proofs.YtnldkpckojhbhaaGreat.Rc

/-
  Bytes in memory, whatever the program: rows that are read, rows of one's own, copies; told over this seat's tables.
-/
namespace Go.Proofs.YtnldkpckojhbhaaGreat.Rc
open Go.RowKit

theorem u8_lt (c : UInt8) : c.toNat < 256 := c.toNat_lt
theorem ofNat_toNat (v : Nat) : (UInt8.ofNat v).toNat = v % 256 := by simp
def bc (c : UInt8) : Value := .int .u8 (c.toNat : Int)
def bcs (l : List UInt8) : List Value := l.map bc
theorem bcs_length (l : List UInt8) : (bcs l).length = l.length := by simp [bcs]
theorem bcs_append (l r : List UInt8) : bcs (l ++ r) = bcs l ++ bcs r := by simp [bcs]
theorem bcs_getElem? (l : List UInt8) (j : Nat) (h : j < l.length) : (bcs l)[j]? = some (.int .u8 (l[j].toNat : Int)) := by simp [bcs, bc, List.getElem?_eq_getElem h]
theorem bcs_oneCell (l : List UInt8) : ∀ v ∈ bcs l, v.oneCell' = true := by
  intro v hv
  obtain ⟨_, _, rfl⟩ := List.mem_map.1 hv
  rfl

def Own (w : World) (g : Nat) (ys : List UInt8) : Prop := w.heap[g]? = some (.cells (bcs ys).toArray 5 (0, 0))

theorem Own.cell {w : World} {g : Nat} {ys : List UInt8} (h : Own w g ys) (j : Nat) (hj : j < ys.length) : w.cell? ⟨g, j, none⟩ = some (.int .u8 (ys[j].toNat : Int)) := by
  rw [cell_of_row w g j _ 5 (0, 0) h]
  simpa using bcs_getElem? ys j hj
theorem Own.frozen {w : World} {g : Nat} {ys : List UInt8} (h : Own w g ys) (j : Nat) : w.frozen? ⟨g, j, none⟩ = false := frozen_of_row w g j _ 5 h
theorem Own.lt {w : World} {g : Nat} {ys : List UInt8} (h : Own w g ys) : g < w.heap.size := (Array.getElem?_eq_some_iff.1 h).1
theorem Own.store {w : World} {g : Nat} {ys : List UInt8} (h : Own w g ys) (j : Nat) (c : UInt8) : Own (w.setCell ⟨g, j, none⟩ (.int .u8 (c.toNat : Int))) g (ys.set j c) := by
  unfold Own
  rw [heap_setCell_same w g j _ 5 _ h]
  congr 2
  apply Array.toList_inj.1
  simp [bcs, bc]
theorem Own.below {B : Nat} {w w' : World} {g : Nat} {ys : List UInt8} (h : Own w g ys) (hb : Below B w w') (hg : g < B) : Own w' g ys := (hb.block g hg).trans h

theorem grown_trans {a b c : World} {row : Option Nat} (h : a.grownBy b row) (k : b.grownBy c row) : a.grownBy c row :=
  ⟨k.os.trans h.os, k.tape.trans h.tape, k.output.trans h.output, Nat.le_trans h.size k.size, fun i hi hr => (k.block i (Nat.lt_of_lt_of_le hi h.size) hr).trans (h.block i hi hr)⟩
theorem grown_store (w : World) (g j : Nat) (u : Value) : w.grownBy (w.setCell ⟨g, j, none⟩ u) (some g) :=
  ⟨rfl, rfl, rfl, by simp, fun k _ hk => heap_setCell_other w ⟨g, j, none⟩ k u (fun e => hk (by simp [e]))⟩
theorem grown_setRow (w : World) (g : Nat) (cs : Array Value) : w.grownBy (w.setRow g cs) (some g) :=
  ⟨rfl, rfl, rfl, by simp [World.setRow], fun k _ hk => setRow_other w g k cs (fun e => hk (by simp [e]))⟩

def Rd (w : World) (a : Option Addr) (xs : List UInt8) : Prop :=
  0 < xs.length → ∃ b o, a = some ⟨b, o, none⟩ ∧ ∀ j (h : j < xs.length), w.cell? ⟨b, o + j, none⟩ = some (.int .u8 (xs[j].toNat : Int))
theorem Rd.nil (w : World) (a : Option Addr) : Rd w a [] := fun h => absurd h (by simp)
theorem Own.rd {w : World} {g : Nat} {ys : List UInt8} (h : Own w g ys) : Rd w (some ⟨g, 0, none⟩) ys := fun _ => ⟨g, 0, rfl, fun j hj => by rw [Nat.zero_add]; exact h.cell j hj⟩
theorem Rd.below {B : Nat} {w w' : World} {a : Option Addr} {xs : List UInt8} (h : Rd w a xs) (hb : Below B w w') (hB : w.heap.size ≤ B) : Rd w' a xs := fun hp => by
  obtain ⟨b, o, ha, hc⟩ := h hp
  refine ⟨b, o, ha, fun j hj => ?_⟩
  have hlt : b < w.heap.size := block_lt_of_cell (hc j hj)
  rw [hb.cell (p := ⟨b, o + j, none⟩) (Nat.lt_of_lt_of_le hlt hB)]
  exact hc j hj

theorem info5 : (Tryz.prog.info? 5).map (fun i => (i.zero, i.size, i.bytes)) = some (some (.int .u8 0), 1, 1) := by kernel_rfl
theorem size5 : (Tryz.prog.info? 5).map (·.size) = some 1 := by kernel_rfl

theorem made_zero (n : Nat) : (madeCells #[Value.int .u8 0] n) = (bcs (List.replicate n 0)).toArray := by
  apply Array.toList_inj.1
  apply List.ext_getElem
  · simp [madeCells, bcs]
  · intro i h1 h2
    simp [madeCells, bcs, bc, Nat.mod_one]

theorem conv_run (u : World) (a : Option Addr) (cap : Nat) (xs : List UInt8) (hr : Rd u a xs) : (convert 37 9 (.slice a xs.length cap)).run Tryz.prog u = .ok (.string ⟨xs.toArray⟩) u := by
  cases a with
  | none =>
    by_cases h0 : 0 < xs.length
    · obtain ⟨b, o, h, _⟩ := hr h0
      simp at h
    · obtain rfl : xs = [] := List.eq_nil_of_length_eq_zero (by omega)
      exact run_convert_bytes_nil u 37 5 Tryz.underlying37 Tryz.underlying5 0 cap 9 Tryz.underlying9
  | some a =>
    exact run_convert_bytes_back u 37 9 5 a cap xs Tryz.underlying37 Tryz.underlying5 Tryz.underlying9 (fun j hj => by
      obtain ⟨b, o, h, hc⟩ := hr (by omega)
      obtain rfl := Option.some.inj h
      rw [Addr.add_lit]
      exact hc j hj)

theorem same_any (a b : Option Addr) (ca cb : Nat) (xs ys : List UInt8) (w : World) (ha : Rd w a xs) (hb : Rd w b ys) :
    Calls Tryz.prog 29 #[.slice a xs.length ca, .slice b ys.length cb] w fun e w' => e = .returned (.bool (xs == ys)) ∧ w = w' := by
  have h1 := conv_run w a ca xs ha
  have h2 := conv_run w b cb ys hb
  go_enter Tryz.func29, Tryz.ntmps29
  go_wp2
  go_ret
  exact ⟨rfl, rfl⟩

theorem own_lit (w : World) (xs : List UInt8) : Own (w.alloc (.cells (bcs xs).toArray 5)) w.heap.size xs := heap_alloc_new w _

theorem same_at (ca cb n m : Nat) (a b : Option Addr) (xs ys : List UInt8) (w : World) (hn : xs.length = n) (hm : ys.length = m) (ha : Rd w a xs) (hb : Rd w b ys) :
    Calls Tryz.prog 29 #[.slice a n ca, .slice b m cb] w fun e w' => e = .returned (.bool (xs == ys)) ∧ w = w' := by
  subst hn hm; exact same_any a b ca cb xs ys w ha hb

theorem owns_rd {w : World} {B n : Nat} {v : Value} {ys : List UInt8} (h : w.ownsRow B 5 1 v n (bcs ys)) :
    ∃ a cap, v = .slice a n cap ∧ ys.length = n ∧ n ≤ cap ∧ cap ≤ maxLen ∧ Rd w a ys ∧ (0 < n → ∃ g, a = some ⟨g, 0, none⟩ ∧ B ≤ g ∧ g < w.heap.size) := by
  have hl : ys.length = n := by have := h.1; rw [bcs_length] at this; omega
  rcases h.2 with ⟨rfl, rfl⟩ | ⟨g, cap, cur, rfl, hb, hg, hnc, hcm, hcs, htake⟩
  · have h0 : ys = [] := List.eq_nil_of_length_eq_zero hl
    subst h0
    exact ⟨none, 0, rfl, rfl, Nat.le_refl _, by simp [maxLen], Rd.nil _ _, fun h => by omega⟩
  · refine ⟨some ⟨g, 0, none⟩, cap, rfl, hl, hnc, hcm, fun _ => ⟨g, 0, rfl, fun j hj => ?_⟩, fun _ => ⟨g, rfl, hb, (Array.getElem?_eq_some_iff.1 hg).1⟩⟩
    have := h.cells (g := g) rfl j _ (bcs_getElem? ys j hj)
    rw [Addr.add_lit] at this
    exact this

theorem wpList_append_bytes {w : World} {ops : Array Oper} {rest : List Oper} {o : Oper} {a : Act} {Q : Exit → Act → World → Prop} (hgd : o.guard = none) (s x : Operand)
    (ho : o.op = .call { callee := .builtin .append, args := #[s, x], argTypes := #[37, 37] })
    (base : Nat) (v : Value) (n : Nat) (xs : List Value) (hs : a.eval s = v) (hown : w.ownsRow base 5 1 v n xs)
    (ao : Option Addr) (m c : Nat) (ys : List UInt8) (hx : a.eval x = .slice ao m c) (hl : ys.length = m) (hr : Rd w ao ys) (hnil : ao = none → c = 0) (hb : n + m ≤ 140737488355328) (hbase : base ≤ w.heap.size)
    (h : ∀ v' w', w'.ownsRow base 5 1 v' (n + m) (xs ++ bcs ys) → w.grownBy w' v.ownBlock → wpList Tryz.prog ops Q rest (a.put o.dst v') w') : wpList Tryz.prog ops Q (o :: rest) a w := by
  obtain ⟨i0, hi, hz0, hz1, hz2⟩ := info_parts info5
  cases ao with
  | none =>
    obtain rfl := hnil rfl
    have h0 : ys.length = 0 := by
      apply Decidable.byContradiction
      intro h'
      obtain ⟨_, _, h', _⟩ := hr (by omega)
      simp at h'
    obtain rfl : ys = [] := List.eq_nil_of_length_eq_zero h0
    obtain rfl : m = 0 := hl.symm
    exact wpList_append_own_none hgd s x 37 ho base 5 i0 1 Tryz.underlying37 hi v n xs hs hown hx (h v w (by simpa [bcs] using hown) (World.grownBy.refl _ _))
  | some ad =>
    refine wpList_append_own w hgd s x 37 ho base 5 i0 (.int .u8 0) 1 1 Tryz.underlying37 hi hz0 hz1 hz2 rfl (by decide) v n xs hs hown ad m c (bcs ys) hx (by rw [bcs_length]; omega) ?_ (bcs_oneCell ys) (by unfold maxLen; omega) (by omega) hbase (fun v' w' h1 h2 _ => h v' w' h1 h2)
    intro j u hj
    have hj' : j < ys.length := by have := (List.getElem?_eq_some_iff.1 hj).1; simpa [bcs_length] using this
    rw [bcs_getElem? ys j hj'] at hj
    obtain ⟨b, o', he, hc⟩ := hr (by omega)
    obtain rfl := Option.some.inj he
    rw [Addr.add_lit, hc j hj']
    exact hj

theorem Rd.head {w : World} {a : Option Addr} {xs ys : List UInt8} (h : Rd w a (xs ++ ys)) : Rd w a xs := fun hp => by
  obtain ⟨b, o, ha, hc⟩ := h (by simp; omega)
  refine ⟨b, o, ha, fun j hj => ?_⟩
  rw [hc j (by simp; omega), List.getElem_append_left hj]

end Go.Proofs.YtnldkpckojhbhaaGreat.Rc

/-
  Blocks of memory: boxes, rows of bytes with room behind them, what a call may turn; sectors of a block's bytes.
-/
namespace Go.Proofs.YtnldkpckojhbhaaGreat.Rc
open Go.RowKit

def over {α : Type} (l : List α) (off : Nat) (xs : List α) : List α := l.take off ++ (xs ++ l.drop (off + xs.length))
theorem over_length {α : Type} (l : List α) (off : Nat) (xs : List α) (h : off + xs.length ≤ l.length) : (over l off xs).length = l.length := by
  simp [over]; omega
def sec (data : List UInt8) (s : Nat) : List UInt8 := (data.drop (s * 512)).take 512
theorem sec_length (data : List UInt8) (s : Nat) (hd : data.length = 4096) (hs : s < 8) : (sec data s).length = 512 := by simp [sec]; omega

def Box (w : World) (g : Nat) (cs : Array Value) (t : TypeId) : Prop := w.heap[g]? = some (.cells cs t (0, 0))
theorem Box.cell {w : World} {g : Nat} {cs : Array Value} {t : TypeId} (h : Box w g cs t) (j : Nat) : w.cell? ⟨g, j, none⟩ = cs[j]? := cell_of_row w g j cs t (0, 0) h
theorem Box.frozen {w : World} {g : Nat} {cs : Array Value} {t : TypeId} (h : Box w g cs t) (j : Nat) : w.frozen? ⟨g, j, none⟩ = false := frozen_of_row w g j cs t h
theorem Box.lt {w : World} {g : Nat} {cs : Array Value} {t : TypeId} (h : Box w g cs t) : g < w.heap.size := (Array.getElem?_eq_some_iff.1 h).1
theorem Box.below {w w' : World} {g : Nat} {cs : Array Value} {t : TypeId} (h : Box w g cs t) (hb : Below w.heap.size w w') : Box w' g cs t := (hb.block g h.lt).trans h
theorem Box.new (w : World) (cs : Array Value) (t : TypeId) : Box (w.alloc (.cells cs t)) w.heap.size cs t := heap_alloc_new w _
theorem Box.alloc {w : World} {g : Nat} {cs : Array Value} {t : TypeId} (h : Box w g cs t) (o : Obj) : Box (w.alloc o) g cs t := (Below.heap_alloc w o g h.lt).trans h
theorem Box.store {w : World} {g : Nat} {cs : Array Value} {t : TypeId} (h : Box w g cs t) (j : Nat) (v : Value) : Box (w.setCell ⟨g, j, none⟩ v) g (cs.setIfInBounds j v) t := heap_setCell_same w g j cs t v h
theorem Box.ne {w : World} {g g' : Nat} {cs cs' : Array Value} {t t' : TypeId} (h : Box w g cs t) (h' : Box w g' cs' t') (ht : t ≠ t') : g ≠ g' := by
  intro e
  subst e
  unfold Box at h h'
  rw [h] at h'
  simp at h'
  exact ht h'.2

def RowB (w : World) (g cap : Nat) (ys : List UInt8) : Prop := ∃ cur : Array Value, Box w g cur 5 ∧ ys.length ≤ cap ∧ cap ≤ maxLen ∧ cur.size = cap ∧ cur.toList.take ys.length = bcs ys
theorem RowB.lt {w : World} {g cap : Nat} {ys : List UInt8} (h : RowB w g cap ys) : g < w.heap.size := by obtain ⟨cur, h, _⟩ := h; exact h.lt
theorem RowB.rd {w : World} {g cap : Nat} {ys : List UInt8} (h : RowB w g cap ys) : Rd w (some ⟨g, 0, none⟩) ys := by
  obtain ⟨cur, h, _, _, _, ht⟩ := h
  intro _
  refine ⟨g, 0, rfl, fun j hj => ?_⟩
  rw [Nat.zero_add, h.cell j]
  have h1 := bcs_getElem? ys j hj
  rw [← ht, List.getElem?_take] at h1
  rw [if_pos hj] at h1
  simpa using h1
theorem RowB.same {w w' : World} {g cap : Nat} {ys : List UInt8} (h : RowB w g cap ys) (hb : w'.heap[g]? = w.heap[g]?) : RowB w' g cap ys := by
  obtain ⟨cur, h, r⟩ := h
  exact ⟨cur, hb.trans h, r⟩
theorem RowB.own {w : World} {g : Nat} {ys : List UInt8} (h : Own w g ys) (hm : ys.length ≤ maxLen) : RowB w g ys.length ys :=
  ⟨(bcs ys).toArray, h, Nat.le_refl _, hm, by simp [bcs_length], by rw [List.take_of_length_le (by simp [bcs_length])]⟩
theorem RowB.owns {w : World} {B n : Nat} {v : Value} {ys : List UInt8} (h : w.ownsRow B 5 1 v n (bcs ys)) (h0 : 0 < n) : ∃ g cap, v = .slice (some ⟨g, 0, none⟩) n cap ∧ B ≤ g ∧ RowB w g cap ys := by
  have hl : ys.length = n := by have := h.1; rw [bcs_length] at this; omega
  rcases h.2 with ⟨rfl, rfl⟩ | ⟨g, cap, cur, rfl, hb, hg, hnc, hcm, hcs, ht⟩
  · omega
  · exact ⟨g, cap, rfl, hb, cur, hg, by omega, hcm, by omega, by rw [hl]; simpa using ht⟩

theorem copy_row (g cap off dLen dCap : Nat) (a : Option Addr) (sCap : Nat) (xs ys : List UInt8) (u : World) (hg : RowB u g cap ys) (hr : Rd u a xs) (hl : xs.length ≤ dLen) (hfit : off + xs.length ≤ ys.length) (h0 : 0 < xs.length) :
    ∃ W, (∀ ty, (Builtin.copy_ #[37, 37] ty #[.slice (some ⟨g, off, none⟩) dLen dCap, .slice a xs.length sCap]).run Tryz.prog u = .ok (goInt xs.length) W) ∧ RowB W g cap (over ys off xs) ∧ u.grownBy W (some g) := by
  obtain ⟨b, o, rfl, hc⟩ := hr h0
  obtain ⟨cur, hb, hlc, hm, hs, ht⟩ := hg
  refine ⟨u.setRow g (cur.toList.take off ++ bcs xs ++ cur.toList.drop (off + (bcs xs).length)).toArray, fun ty => ?_, ?_, grown_setRow _ _ _⟩
  · have h := run_copy_row (P := Tryz.prog) u 37 37 ty 5 g off dLen dCap ⟨b, o, none⟩ xs.length sCap cur 5 (bcs xs) Tryz.underlying37 size5 hb (by rw [bcs_length]; exact (Nat.min_eq_left hl).symm) (fun j v hj => by
        have hj' : j < xs.length := by have := (List.getElem?_eq_some_iff.1 hj).1; simpa [bcs_length] using this
        rw [bcs_getElem? xs j hj'] at hj
        rw [Addr.add_lit, hc j hj']
        exact hj) (by rw [bcs_length]; omega) (bcs_oneCell xs)
    rw [h, bcs_length]
  · have hpl := over_length ys off xs hfit
    refine ⟨_, setRow_heap u g _ _ 5 _ hb, by omega, hm, ?_, ?_⟩
    · simp [bcs_length]; omega
    · rw [hpl]
      have e1 : cur.toList.take off = bcs (ys.take off) := by
        have := congrArg (List.take off) ht
        rw [List.take_take, Nat.min_eq_left (by omega)] at this
        rw [this]; simp [bcs]
      have e2 : (cur.toList.drop (off + xs.length)).take (ys.length - (off + xs.length)) = bcs (ys.drop (off + xs.length)) := by
        have := congrArg (List.drop (off + xs.length)) ht
        rw [List.drop_take] at this
        rw [this]; simp [bcs]
      have hlt : (cur.toList.take off).length = off := by simp; omega
      have e3 : bcs (over ys off xs) = bcs (ys.take off) ++ (bcs xs ++ bcs (ys.drop (off + xs.length))) := by simp [over, bcs]
      show (cur.toList.take off ++ bcs xs ++ cur.toList.drop (off + (bcs xs).length)).take ys.length = _
      have e4 : (bcs xs).take (ys.length - off) = bcs xs := List.take_of_length_le (by rw [bcs_length]; omega)
      rw [e3, ← e1, ← e2]
      generalize hA : cur.toList.take off = A at hlt
      have e5 : A.take ys.length = A := List.take_of_length_le (by omega)
      rw [List.append_assoc, List.take_append, List.take_append, e5, hlt, e4, bcs_length, Nat.sub_sub]

structure Upd (F : Nat → Prop) (w w' : World) : Prop where
  os : w'.os = w.os
  tape : w'.tape = w.tape
  output : w'.output = w.output
  size : w.heap.size ≤ w'.heap.size
  block : ∀ k, k < w.heap.size → ¬ F k → w'.heap[k]? = w.heap[k]?
theorem Upd.refl (F : Nat → Prop) (w : World) : Upd F w w := ⟨rfl, rfl, rfl, Nat.le_refl _, fun _ _ _ => rfl⟩
theorem Upd.trans {F F' : Nat → Prop} {a b c : World} (h : Upd F a b) (k : Upd F' b c) (hF : ∀ i, F' i → F i ∨ a.heap.size ≤ i) : Upd F a c :=
  ⟨k.os.trans h.os, k.tape.trans h.tape, k.output.trans h.output, Nat.le_trans h.size k.size, fun i hi hn => (k.block i (Nat.lt_of_lt_of_le hi h.size) (fun hf => by rcases hF i hf with h1 | h1; exact hn h1; omega)).trans (h.block i hi hn)⟩
theorem Upd.of_below {F : Nat → Prop} {w w' : World} (h : Below w.heap.size w w') : Upd F w w' := ⟨h.os, h.tape, h.output, h.size, fun k hk _ => h.block k hk⟩
theorem Upd.grown {F : Nat → Prop} {a w w' : World} {row : Option Nat} (h : Upd F a w) (hg : w.grownBy w' row) (hr : ∀ k, row = some k → F k ∨ a.heap.size ≤ k) : Upd F a w' :=
  ⟨hg.os.trans h.os, hg.tape.trans h.tape, hg.output.trans h.output, Nat.le_trans h.size hg.size, fun i hi hn => (hg.block i (Nat.lt_of_lt_of_le hi h.size) (fun e => by rcases hr i e.symm with h1 | h1; exact hn h1; omega)).trans (h.block i hi hn)⟩
theorem Upd.below {F : Nat → Prop} {w w' : World} {B : Nat} (h : Upd F w w') (hF : ∀ i, F i → B ≤ i) (hB : B ≤ w.heap.size) : Below B w w' :=
  ⟨h.os, h.tape, h.output, h.size, fun k hk => h.block k (by omega) (fun hf => by have := hF k hf; omega)⟩
theorem Upd.alloc {F : Nat → Prop} {a w : World} (h : Upd F a w) (o : Obj) : Upd F a (w.alloc o) := h.grown (World.grownBy_alloc w o none) (fun k e => by cases e)
theorem Upd.setCell {F : Nat → Prop} {a w : World} (h : Upd F a w) {g j : Nat} (hg : F g ∨ a.heap.size ≤ g) (u : Value) : Upd F a (w.setCell ⟨g, j, none⟩ u) := h.grown (grown_store w g j u) (fun k e => by cases e; exact hg)
theorem Upd.drew {F : Nat → Prop} {a w : World} (h : Upd F a w) : Upd F a w.drew := ⟨h.os, h.tape, h.output, h.size, h.block⟩
theorem Upd.thenB {F : Nat → Prop} {a w w' : World} (h : Upd F a w) (k : Below w.heap.size w w') : Upd F a w' := ⟨k.os.trans h.os, k.tape.trans h.tape, k.output.trans h.output, Nat.le_trans h.size k.size, fun i hi hn => (k.block i (Nat.lt_of_lt_of_le hi h.size)).trans (h.block i hi hn)⟩
theorem Rd.upd {F : Nat → Prop} {w w' : World} {g o : Nat} {xs : List UInt8} (h : Rd w (some ⟨g, o, none⟩) xs) (hu : Upd F w w') (hg : ¬ F g) : Rd w' (some ⟨g, o, none⟩) xs := fun hp => by
  obtain ⟨b, o', ha, hc⟩ := h hp
  simp only [Option.some.injEq, Addr.mk.injEq, and_true] at ha
  obtain ⟨rfl, rfl⟩ := ha
  refine ⟨g, o, rfl, fun j hj => ?_⟩
  have hlt : g < w.heap.size := block_lt_of_cell (hc j hj)
  rw [World.cell?_of_block (a := ⟨g, o + j, none⟩) (hu.block g hlt hg)]
  exact hc j hj

theorem Upd.box {F : Nat → Prop} {w w' : World} {g : Nat} {cs : Array Value} {t : TypeId} (h : Upd F w w') (hb : Box w g cs t) (hg : ¬ F g) : Box w' g cs t := (h.block g hb.lt hg).trans hb
theorem Upd.rowB {F : Nat → Prop} {w w' : World} {g cap : Nat} {ys : List UInt8} (h : Upd F w w') (hb : RowB w g cap ys) (hg : ¬ F g) : RowB w' g cap ys := hb.same (h.block g hb.lt hg)
theorem Rd.part {w : World} {g o : Nat} {xs : List UInt8} (h : Rd w (some ⟨g, o, none⟩) xs) (k n : Nat) : Rd w (some ⟨g, o + k, none⟩) ((xs.drop k).take n) := fun hp => by
  have hk : k < xs.length := by simp at hp; omega
  obtain ⟨b', o', he, hc⟩ := h (by omega)
  simp only [Option.some.injEq, Addr.mk.injEq, and_true] at he
  obtain ⟨rfl, rfl⟩ := he
  refine ⟨g, o + k, rfl, fun j hj => ?_⟩
  have hj' : k + j < xs.length := by simp at hj; omega
  rw [Nat.add_assoc, hc (k + j) hj']
  simp

end Go.Proofs.YtnldkpckojhbhaaGreat.Rc

/-
  Regions that draw: loads first, then every order of what is left.
-/
namespace Go.Proofs.YtnldkpckojhbhaaGreat.Rc
open Go.RowKit

section
variable {P : Program} {ops : Array Oper} {Q : Exit → Act → World → Prop} {md : Region.Mode} {C : Act → World → Prop} {late : List Nat}
def AllD (P : Program) (md : Region.Mode) (ops : Array Oper) (Q : Exit → Act → World → Prop) (C : Act → World → Prop) (late : List Nat) (fuel : Nat) (listed : Array Bool) (a : Act) (w : World) (rs : List Nat) : Prop :=
  ∀ i ∈ rs, wpOp P ops Q i (fun a' w' => (late.contains i = true ∨ C a' w') ∧ wpAnyD P md ops Q C late fuel (listed.setIfInBounds i true) a' w') a w
theorem AllD.nil {fuel : Nat} {listed : Array Bool} {a : Act} {w : World} : AllD P md ops Q C late fuel listed a w [] := fun _ h => by cases h
theorem AllD.cons {fuel : Nat} {listed : Array Bool} {a : Act} {w : World} {i : Nat} {o : Oper} {rs : List Nat} (ho : ops[i]? = some o)
    (h : ∀ K' : Act → World → Prop, (∀ a w, ((late.contains i = true ∨ C a w) ∧ wpAnyD P md ops Q C late fuel (listed.setIfInBounds i true) a w) → K' a w) → if Region.wanted o (yielded ops a.tmps) = true then Oper.wp P o a w K' Q else K' (a.put o.dst undef) w)
    (hs : AllD P md ops Q C late fuel listed a w rs) : AllD P md ops Q C late fuel listed a w (i :: rs) := fun j hj => by
  rcases List.mem_cons.1 hj with rfl | hj
  · exact wpOp_step ho h
  · exact hs j hj
theorem wpAnyD_ready {rs : List Nat} {fuel : Nat} {listed : Array Bool} {a : Act} {w : World} (hr : Region.ready md ops listed = rs) (hne : rs ≠ [])
    (h : AllD P md ops Q C late fuel listed a w rs) : wpAnyD P md ops Q C late (fuel + 1) listed a w := by
  refine ⟨fun h0 => absurd (hr ▸ h0) hne, fun j hj => ?_⟩
  rw [hr] at hj
  exact h j hj
end

def SB (ps : List (Nat × Value)) (bs : List (Nat × Array Value × TypeId)) (a : Act) (u : World) : Prop := (∀ p ∈ ps, a.eval (.tmp p.1) = p.2) ∧ ∀ q ∈ bs, Box u q.1 q.2.1 q.2.2
theorem SB.put {ps : List (Nat × Value)} {bs : List (Nat × Array Value × TypeId)} {a : Act} {u : World} (s : Nat) (v : Value) (hs : (ps.all fun p => p.1 != s) = true) : SB ps bs (a.put (some s) v) u ↔ SB ps bs a u := by
  have e : ∀ p ∈ ps, (a.put (some s) v).eval (.tmp p.1) = a.eval (.tmp p.1) := fun p hp => Act.eval_put (fun d hd => by
    have h1 := (List.all_eq_true.1 hs) p hp
    simp at h1 hd
    subst hd
    intro h
    injection h with h
    exact h1 h)
  constructor
  · rintro ⟨h, hb⟩
    exact ⟨fun p hp => (e p hp).symm.trans (h p hp), hb⟩
  · rintro ⟨h, hb⟩
    exact ⟨fun p hp => (e p hp).trans (h p hp), hb⟩
theorem SB.load {ps : List (Nat × Value)} {bs : List (Nat × Array Value × TypeId)} {a : Act} {u : World} (h : SB ps bs a u) {s b j : Nat} {cs : Array Value} {t : TypeId} {v : Value} (hp : (s, Value.pointer (some ⟨b, j, none⟩)) ∈ ps) (hq : (b, cs, t) ∈ bs) (hv : cs[j]? = some v) :
    a.tmps[s]?.getD undef = .pointer (some ⟨b, j, none⟩) ∧ u.cell? ⟨b, j, none⟩ = some v := ⟨by have := h.1 _ hp; simpa [Act.eval] using this, ((h.2 _ hq).cell j).trans hv⟩
end Go.Proofs.YtnldkpckojhbhaaGreat.Rc

/-
  The sectors of a block, handed on one by one.
-/
namespace Go.Proofs.YtnldkpckojhbhaaGreat.Rc
open Go.RowKit Go.Shelf
attribute [local go_sem] Oper.semAt_some

def encS (g o : Nat) (x : Fin 8) : Array Value := #[.slice (some ⟨g, o + x.val * 512, none⟩) 512 512]
def firsts (k : Nat) : List (Fin 8) := (List.finRange 8).take k
theorem firsts_succ (k : Nat) (h : k < 8) : firsts (k + 1) = firsts k ++ [⟨k, h⟩] := by
  unfold firsts
  rw [List.take_add_one, List.getElem?_eq_getElem (by simpa using h)]
  simp
theorem firsts_length (k : Nat) (h : k ≤ 8) : (firsts k).length = k := by simp [firsts]; omega
theorem firsts_all : firsts 8 = List.finRange 8 := by unfold firsts; exact List.take_of_length_le (by simp)

def CellK (B : Nat) (A C : World) : Prop := C.cell? ⟨B, 0, none⟩ = A.cell? ⟨B, 0, none⟩
theorem cellK_t {B : Nat} {X Y Z : World} (h : CellK B X Y) (k : CellK B Y Z) : CellK B X Z := k.trans h
theorem cellK_b {B : Nat} {w : World} (hB : B < w.heap.size) (W : World) (l : Nat) (o o' : Obj) (hl : w.heap.size ≤ l) (_ : W.heap[l]? = some o) (_ : o.isCells = false) (_ : o.isWalk = false) : CellK B W (W.putObj l o') :=
  World.cell?_of_block (a := ⟨B, 0, none⟩) (World.putObj_heap_other (by show B ≠ l; omega))

set_option maxRecDepth 100000 in
set_option maxHeartbeats 2000000 in
theorem sect1_in (n : Nat) (hn : 1 ≤ n) (l Bs g o cap : Nat) (hcap : 4096 ≤ cap) (hmax : cap ≤ 9223372036854775807) (J Jx : List (Fin 8) → World → Prop)
    (hY : ∀ pre x W, J pre W → pre.length < 8 → YieldAt Fence.wide (n - 1) Tryz.prog l (encS g o x) W fun e W' =>
      (e = .returned (.bool true) ∧ J (pre ++ [x]) W' ∧ CellK Bs W W') ∨ (e = .returned (.bool false) ∧ Jx (pre ++ [x]) W'))
    (W : World) (hBs : W.cell? ⟨Bs, 0, none⟩ = some (.slice (some ⟨g, o, none⟩) 4096 cap)) (h0 : J [] W) :
    CallsIn Fence.wide n Tryz.prog 268 #[.func (.yield l) #[] #[], .pointer (some ⟨Bs, 0, none⟩)] W fun e W' => (∃ v, e = .returned v) ∧
      ((∃ ys, ys = List.finRange 8 ∧ J ys W') ∨ (∃ pre, (∃ k, k ≤ 8 ∧ pre = firsts k) ∧ Jx pre W')) := by
  refine callsIn_of_wp Tryz.func268 rfl trivial ?_ rfl
  simp only [Tryz.ntmps268, List.size_toArray, List.length_cons, List.length_nil, Nat.reduceAdd, Nat.reduceSub, Array.replicate_succ, Array.replicate_zero, List.push_toArray, List.append_toArray, List.nil_append, List.cons_append]
  gi_wp2
  gi_loopw [3] (fun i wr => ∃ k : Nat, k ≤ 8 ∧ i = .int .i64 (((k * 512 : Nat) : Int)) ∧ J (firsts k) wr ∧ wr.cell? ⟨Bs, 0, none⟩ = some (.slice (some ⟨g, o, none⟩) 4096 cap))
    (fun i _ => (4096 - intOf i).toNat)
  case atStart => exact ⟨0, Nat.zero_le _, by simp, h0, hBs⟩
  case round =>
    obtain ⟨k, hk, rfl, hJs, hc⟩ := hrel
    by_cases hlt : k < 8
    · obtain ⟨fn, tmps, assign, body, hy, hR⟩ := hY _ ⟨k, hlt⟩ wr hJs (by rw [firsts_length k hk]; exact hlt)
      dsimp only [encS] at hy
      obtain ⟨m, hm⟩ : ∃ m, m = k * 512 := ⟨_, rfl⟩
      have hm2 : m < 4096 := by omega
      have hm3 : (m : Int) < 4096 := by omega
      have hm4 : 0 ≤ (m : Int) + 512 ∧ (m : Int) + 512 ≤ (cap : Int) := by omega
      have hm5 : ¬ (m + 512 = m) := by omega
      have Hm : Hid _ := hm
      rw [← hm] at hy ⊢
      clear hm
      gi_wp2
      refine hR.mono ?_
      rintro e W3 (⟨rfl, hJ3, hk3⟩ | ⟨rfl, hJx3⟩)
      · gi_wp2
        go_roundw
        case rel => exact ⟨k + 1, by omega, by congr 1; have := Hm.out; omega, by rw [firsts_succ k hlt]; exact hJ3, hk3.trans hc⟩
        case measure => simp [intOf]; omega
      · gi_wp2
        refine bodyPost_ret (results_none rfl _ _ _) rfl ?_
        exact ⟨⟨_, rfl⟩, .inr ⟨_, ⟨k + 1, by omega, (firsts_succ _ hlt).symm⟩, hJx3⟩⟩
    · obtain rfl : k = 8 := by omega
      have e8 : (((8 * 512 : Nat)) : Int) = 4096 := by decide
      rw [e8]
      gi_wp2
      go_end0
      exact ⟨⟨_, rfl⟩, .inl ⟨_, rfl, by rw [← firsts_all]; exact hJs⟩⟩

set_option maxHeartbeats 1000000 in
/-- sectors: the list is boxed; the function captures the box. -/
theorem sectors_in (n : Nat) (a : Option Addr) (len cap : Nat) (w : World) :
    CallsIn Fence.wide n Tryz.prog 235 #[.slice a len cap] w fun e w' => e = .returned (.func (.func 268) #[] #[.pointer (some ⟨w.heap.size, 0, none⟩)]) ∧ w' = w.alloc (.cells #[.slice a len cap] 37) := by
  refine callsIn_of_wp Tryz.func235 rfl trivial ?_ rfl
  simp only [Tryz.ntmps235, List.size_toArray, List.length_cons, List.length_nil, Nat.reduceAdd, Nat.reduceSub, Array.replicate_succ, Array.replicate_zero, List.push_toArray, List.append_toArray, List.nil_append, List.cons_append]
  gi_wp2
  go_ret
  exact ⟨rfl, rfl⟩

theorem sect_stops (n : Nat) (hn : 1 ≤ n) (Bs g o cap : Nat) (hcap : 4096 ≤ cap) (hmax : cap ≤ 9223372036854775807) (w : World) (hBs : Bs < w.heap.size) (hc : w.cell? ⟨Bs, 0, none⟩ = some (.slice (some ⟨g, o, none⟩) 4096 cap)) :
    SeqStopsK Fence.wide n Tryz.prog 268 #[.pointer (some ⟨Bs, 0, none⟩)] (encS g o) (CellK Bs) (fun ys => ys = List.finRange 8) (fun pre => ∃ k, k ≤ 8 ∧ pre = firsts k) 8 w := fun l J Jx W hW _ _ hY h0 =>
  sect1_in n hn l Bs g o cap hcap hmax J Jx hY W ((hW.cell (p := ⟨Bs, 0, none⟩) hBs).trans hc) h0
end Go.Proofs.YtnldkpckojhbhaaGreat.Rc

/-
  Plain facts on bytes: a number in bytes, the highest first, and back; nothing of the program is named here.
-/
namespace Go.Proofs.YtnldkpckojhbhaaGreat.Rc
open Go.RowKit

def beNat (l : List UInt8) : Nat := l.foldl (fun v c => v * 256 + c.toNat) 0

def toBE : Nat → Nat → List UInt8
  | 0, _ => []
  | n + 1, v => toBE n (v / 256) ++ [UInt8.ofNat v]

theorem beNat_snoc (l : List UInt8) (c : UInt8) : beNat (l ++ [c]) = beNat l * 256 + c.toNat := by
  simp [beNat, List.foldl_append]

theorem beNat_lt_aux : ∀ (n : Nat) (l : List UInt8), l.length = n → beNat l < 256 ^ n
  | 0, l, h => by
    obtain rfl : l = [] := List.eq_nil_of_length_eq_zero h
    simp [beNat]
  | n + 1, l, h => by
    have hne : l ≠ [] := by intro e; simp [e] at h
    obtain ⟨l', c, rfl⟩ : ∃ l' c, l = l' ++ [c] := ⟨l.dropLast, l.getLast hne, (List.dropLast_concat_getLast hne).symm⟩
    have hl : l'.length = n := by simpa using h
    have ih := beNat_lt_aux n l' hl
    have hc := u8_lt c
    rw [beNat_snoc, Nat.pow_succ]
    omega

theorem beNat_lt (l : List UInt8) : beNat l < 256 ^ l.length := beNat_lt_aux _ l rfl

theorem beNat_take_lt (l : List UInt8) (j : Nat) (hj : j ≤ 8) : beNat (l.take j) < 18446744073709551616 := by
  have h := beNat_lt (l.take j)
  have h2 : 256 ^ (l.take j).length ≤ 256 ^ 8 := Nat.pow_le_pow_right (by omega) (by have := List.length_take_le j l; omega)
  have h3 : 256 ^ 8 = 18446744073709551616 := by decide
  omega

theorem beNat_take_lt7 (l : List UInt8) (j : Nat) (hj : j ≤ 7) : beNat (l.take j) < 72057594037927936 := by
  have h := beNat_lt (l.take j)
  have h2 : 256 ^ (l.take j).length ≤ 256 ^ 7 := Nat.pow_le_pow_right (by omega) (by have := List.length_take_le j l; omega)
  have h3 : 256 ^ 7 = 72057594037927936 := by decide
  omega

theorem toBE_length : ∀ (n v : Nat), (toBE n v).length = n
  | 0, _ => rfl
  | n + 1, v => by simp [toBE, toBE_length n]

theorem beNat_toBE : ∀ (n v : Nat), beNat (toBE n v) = v % 256 ^ n
  | 0, v => by simp [toBE, beNat, Nat.mod_one]
  | n + 1, v => by
    rw [toBE, beNat_snoc, beNat_toBE n, ofNat_toNat, Nat.pow_succ, Nat.mul_comm (256 ^ n) 256, Nat.mod_mul]
    omega

theorem toBE_cons : ∀ (n v : Nat), toBE (n + 1) v = UInt8.ofNat (v / 256 ^ n) :: toBE n v
  | 0, v => by simp [toBE]
  | n + 1, v => by
    rw [toBE, toBE_cons n]
    have e : v / 256 / 256 ^ n = v / 256 ^ (n + 1) := by rw [Nat.div_div_eq_div_mul, Nat.pow_succ, Nat.mul_comm]
    rw [e]
    rfl

theorem window_succ (xs : List UInt8) (k j : Nat) (h : k + j < xs.length) : (xs.drop k).take (j + 1) = (xs.drop k).take j ++ [xs[k + j]] := by
  rw [List.take_succ_eq_append_getElem (by simp; omega)]
  simp

theorem be_window_succ (xs : List UInt8) (k j : Nat) (h : k + j < xs.length) : beNat ((xs.drop k).take (j + 1)) = beNat ((xs.drop k).take j) * 256 + xs[k + j].toNat := by
  rw [window_succ xs k j h, beNat_snoc]

theorem or_step (a c : Nat) (ha : a < 72057594037927936) (hc : c < 256) : bits .or .u64 (IntKind.u64.wrap ((a : Int) * 256)) (IntKind.u64.wrap (c : Int)) = ((a * 256 + c : Nat) : Int) := by
  have e1 : IntKind.u64.wrap ((a : Int) * 256) = (a : Int) * 256 := by rw [IntKind.wrap_u64]; omega
  have e2 : IntKind.u64.wrap (c : Int) = (c : Int) := by rw [IntKind.wrap_u64]; omega
  rw [e1, e2, bits_join .u64 64 (by decide) (fun n h0 h1 => by rw [IntKind.wrap_u64]; omega) 8 ((a : Int) * 256) (c : Int) (by omega) (by omega) (by omega) (by omega) (by omega) (by omega)]
  omega

def putAt (ys : List UInt8) (off n j v : Nat) : List UInt8 := ys.take (off + n - j) ++ (toBE j v ++ ys.drop (off + n))

theorem putAt_zero (ys : List UInt8) (off n v : Nat) : putAt ys off n 0 v = ys := by simp [putAt, toBE]
theorem putAt_length (ys : List UInt8) (off n j v : Nat) (h : off + n ≤ ys.length) (hj : j ≤ n) : (putAt ys off n j v).length = ys.length := by
  simp [putAt, toBE_length]; omega
theorem putAt_succ (ys : List UInt8) (off n j v : Nat) (h : off + n ≤ ys.length) (hj : j < n) :
    (putAt ys off n j v).set (off + (n - 1 - j)) (UInt8.ofNat (v / 256 ^ j)) = putAt ys off n (j + 1) v := by
  unfold putAt
  rw [toBE_cons, show off + n - j = (off + (n - 1 - j)) + 1 by omega, show off + n - (j + 1) = off + (n - 1 - j) by omega]
  rw [List.take_succ_eq_append_getElem (by omega), List.append_assoc]
  rw [List.set_append_right _ _ (by simp; omega)]
  simp [List.length_take]
  rw [show min (off + (n - 1 - j)) ys.length = off + (n - 1 - j) by omega]
  simp

theorem shr_byte (v j : Nat) : IntKind.u8.wrap ((v : Int) / 2 ^ (8 * j)) = ((UInt8.ofNat (v / 256 ^ j)).toNat : Int) := by
  rw [IntKind.wrap_u8, ofNat_toNat]
  have e : ((2 : Int) ^ (8 * j)) = ((256 ^ j : Nat) : Int) := by
    rw [Int.pow_mul]; simp
  rw [e]
  omega

end Go.Proofs.YtnldkpckojhbhaaGreat.Rc

/-
  What the calls of octets do: numbers that are read and that are put.
-/
namespace Go.Proofs.YtnldkpckojhbhaaGreat.Rc
open Go.RowKit

theorem copy_run (g off dLen dCap : Nat) (d a : Option Addr) (cap : Nat) (xs ys : List UInt8) (u : World) (hg : Own u g ys) (hr : Rd u a xs) (hd : 0 < xs.length → d = some ⟨g, off, none⟩) (hl : xs.length ≤ dLen) (hfit : off + xs.length ≤ ys.length) :
    ∃ W, (∀ ty, (Builtin.copy_ #[37, 37] ty #[.slice d dLen dCap, .slice a xs.length cap]).run Tryz.prog u = .ok (goInt xs.length) W) ∧ Own W g (ys.take off ++ (xs ++ ys.drop (off + xs.length))) ∧ u.grownBy W (some g) := by
  by_cases h0 : xs.length = 0
  · obtain rfl : xs = [] := List.eq_nil_of_length_eq_zero h0
    refine ⟨u, fun ty => ?_, by simpa using hg, World.grownBy.refl _ _⟩
    have h := run_copy_none (P := Tryz.prog) u 37 37 ty 5 d a dLen dCap 0 cap Tryz.underlying37 size5 (by simp)
    exact h
  · obtain ⟨b, o, rfl, hc⟩ := hr (by omega)
    obtain rfl := hd (by omega)
    refine ⟨u.setRow g ((bcs ys).take off ++ bcs xs ++ (bcs ys).drop (off + (bcs xs).length)).toArray, fun ty => ?_, ?_, grown_setRow _ _ _⟩
    · have h := run_copy_row (P := Tryz.prog) u 37 37 ty 5 g off dLen dCap ⟨b, o, none⟩ xs.length cap (bcs ys).toArray 5 (bcs xs) Tryz.underlying37 size5 hg (by rw [bcs_length]; exact (Nat.min_eq_left hl).symm) (fun j v hj => by
          have hj' : j < xs.length := by have := (List.getElem?_eq_some_iff.1 hj).1; simpa [bcs_length] using this
          rw [bcs_getElem? xs j hj'] at hj
          rw [Addr.add_lit, hc j hj']
          exact hj) (by simpa [bcs_length] using hfit) (bcs_oneCell xs)
      rw [h, bcs_length]
    · unfold Own
      rw [setRow_heap u g _ _ 5 _ hg]
      simp [bcs]

set_option maxHeartbeats 400000 in
theorem longer_any (a : Option Addr) (cap more : Nat) (xs : List UInt8) (w : World) (hr : Rd w a xs) (hm : xs.length + more ≤ 281474976710656) :
    Calls Tryz.prog 275 #[.slice a xs.length cap, .int .i64 more] w fun e w' => e = .returned (.slice (some ⟨w.heap.size, 0, none⟩) (xs.length + more) (xs.length + more)) ∧ Own w' w.heap.size (xs ++ List.replicate more 0) ∧ Below w.heap.size w w' := by
  obtain ⟨i0, hi, hz0, hz1, hz2⟩ := info_parts info5
  have hmk : ∀ u : World, (Instr.makeSlice 37 (.int .i64 ((xs.length : Int) + (more : Int))) (.int .i64 ((xs.length : Int) + (more : Int)))).run Tryz.prog u =
      .ok (.slice (some ⟨u.heap.size, 0, none⟩) (xs.length + more) (xs.length + more)) (u.alloc (.cells (madeCells #[.int .u8 0] (xs.length + more)) 5)) := fun u => by
    have h := run_make (P := Tryz.prog) u 37 5 i0 (.int .u8 0) Tryz.underlying37 hi hz0 .i64 .i64 ((xs.length : Int) + (more : Int)) ((xs.length : Int) + (more : Int)) (by omega) (Int.le_refl _) (by rw [hz2]; omega) (by omega)
    have e : ((xs.length : Int) + (more : Int)).toNat = xs.length + more := by omega
    rw [e] at h
    simpa [hz1, Value.cells] using h
  have hb0 : Below w.heap.size w (w.alloc (.cells (madeCells #[.int .u8 0] (xs.length + more)) 5)) := (Below.refl _ _).alloc (Nat.le_refl _) _
  have ho : Own (w.alloc (.cells (madeCells #[.int .u8 0] (xs.length + more)) 5)) w.heap.size (List.replicate (xs.length + more) 0) := by
    rw [made_zero]; exact heap_alloc_new w _
  obtain ⟨W, hcp, hoW, hgW⟩ := copy_run w.heap.size 0 (xs.length + more) (xs.length + more) (some ⟨w.heap.size, 0, none⟩) a cap xs _ _ ho (hr.below hb0 (Nat.le_refl _)) (fun _ => rfl) (by omega) (by simp)
  have hbW : Below w.heap.size w W := hb0.grown hgW (by simp) (fun k hk => by simp at hk; omega)
  have hres : Own W w.heap.size (xs ++ List.replicate more 0) := by
    have e : (List.replicate (xs.length + more) (0 : UInt8)).drop (0 + xs.length) = List.replicate more 0 := by simp
    rw [e] at hoW
    simpa using hoW
  clear hb0 ho hoW hgW hr
  go_enter Tryz.func275, Tryz.ntmps275
  go_wp2
  go_ret
  exact ⟨rfl, hres, hbW⟩

def numAt (xs : List UInt8) (i : Int) (size : Nat) : Option Nat := if 0 ≤ i ∧ i + size ≤ xs.length then some (beNat ((xs.drop i.toNat).take size)) else none

theorem numAt_none {xs : List UInt8} {i : Int} {size : Nat} (h : ¬ (0 ≤ i ∧ i + size ≤ xs.length)) : numAt xs i size = none := by unfold numAt; rw [if_neg h]
theorem numAt_some {xs : List UInt8} {k size : Nat} (h : k + size ≤ xs.length) : numAt xs k size = some (beNat ((xs.drop k).take size)) := by unfold numAt; rw [if_pos (by omega)]; simp
theorem numAt_lt (xs : List UInt8) (i : Int) (size : Nat) : (numAt xs i size).getD 0 < 256 ^ size := by
  unfold numAt
  split
  · have h := beNat_lt ((xs.drop i.toNat).take size)
    have h2 : 256 ^ ((xs.drop i.toNat).take size).length ≤ 256 ^ size := Nat.pow_le_pow_right (by omega) (List.length_take_le _ _)
    simp only [Option.getD_some]
    omega
  · simpa using Nat.pow_pos (by omega)

theorem number_out (a : Option Addr) (n cap : Nat) (i : Int) (size : Nat) (w : World) (hs : size ≤ 8) (hn : n ≤ 9223372036854775807) (h : i < 0 ∨ (n : Int) - size < i) :
    Calls Tryz.prog 262 #[.slice a n cap, .int .i64 i, .int .i64 size] w fun e w' => e = .returned (.tuple #[.int .u64 0, .bool false]) ∧ w = w' := by
  by_cases h1 : i < 0
  · go_enter Tryz.func262, Tryz.ntmps262
    go_wp2
    go_ret2
    exact ⟨rfl, rfl⟩
  · have h2 : (n : Int) - size < i := by omega
    go_enter Tryz.func262, Tryz.ntmps262
    go_wp2
    go_ret2
    exact ⟨rfl, rfl⟩

theorem number_in (b off cap : Nat) (xs : List UInt8) (k size : Nat) (w : World) (hs : size ≤ 8) (hn : xs.length ≤ 9223372036854775807)
    (hc : ∀ j (h : j < xs.length), w.cell? ⟨b, off + j, none⟩ = some (.int .u8 (xs[j].toNat : Int))) (h : k + size ≤ xs.length) :
    Calls Tryz.prog 262 #[.slice (some ⟨b, off, none⟩) xs.length cap, .int .i64 k, .int .i64 size] w fun e w' => e = .returned (.tuple #[.int .u64 (beNat ((xs.drop k).take size)), .bool true]) ∧ w = w' := by
  go_enter Tryz.func262, Tryz.ntmps262
  go_wp2
  go_loop [8, 21] (fun v i => ∃ j : Nat, j ≤ size ∧ i = .int .i64 j ∧ v = .int .u64 (beNat ((xs.drop k).take j))) (fun _ i => size - (intOf i).toNat)
  case atStart => exact ⟨0, Nat.zero_le _, rfl, rfl⟩
  case round =>
    obtain ⟨j, hj, rfl, rfl⟩ := hrel
    by_cases hlt : j < size
    · have hcc := hc (k + j) (by omega)
      go_wp2
      go_round
      case rel => exact ⟨j + 1, by omega, by go_num, by rw [or_step _ _ (beNat_take_lt7 _ _ (by omega)) (u8_lt _), be_window_succ xs k j (by omega)]⟩
      case measure => simp [intOf]; omega
    · obtain rfl : j = size := by omega
      go_wp2
      go_ret2
      exact ⟨rfl, rfl⟩

theorem number_any (a : Option Addr) (cap : Nat) (xs : List UInt8) (i : Int) (size : Nat) (w : World) (hs0 : 0 < size) (hs : size ≤ 8) (hn : xs.length ≤ 9223372036854775807) (hr : Rd w a xs) :
    Calls Tryz.prog 262 #[.slice a xs.length cap, .int .i64 i, .int .i64 size] w fun e w' => e = .returned (.tuple #[.int .u64 ((numAt xs i size).getD 0 : Nat), .bool (numAt xs i size).isSome]) ∧ w = w' := by
  by_cases h : 0 ≤ i ∧ i + size ≤ xs.length
  · obtain ⟨k, rfl⟩ := Int.eq_ofNat_of_zero_le h.1
    have hk : k + size ≤ xs.length := by omega
    obtain ⟨b, o, rfl, hc⟩ := hr (by omega)
    rw [numAt_some hk]
    exact number_in b o cap xs k size w hs hn hc hk
  · rw [numAt_none h]
    exact number_out a xs.length cap i size w hs hn (by omega)

theorem wrap_u16_in (n : Nat) (h : n < 65536) : IntKind.u16.wrap (n : Int) = n := by simp [IntKind.wrap, IntKind.bits, IntKind.signed]; omega
theorem u16_any (a : Option Addr) (cap : Nat) (xs : List UInt8) (i : Int) (w : World) (hn : xs.length ≤ 9223372036854775807) (hr : Rd w a xs) :
    Calls Tryz.prog 297 #[.slice a xs.length cap, .int .i64 i] w fun e w' => e = .returned (.tuple #[.int .u16 ((numAt xs i 2).getD 0 : Nat), .bool (numAt xs i 2).isSome]) ∧ w = w' := by
  have hb := numAt_lt xs i 2
  go_enter Tryz.func297, Tryz.ntmps297
  go_wp2_with (go_at_call 262; refine (number_any a cap xs i 2 _ (by omega) (by omega) hn hr).mono ?_; rintro e w' ⟨rfl, rfl⟩)
  go_ret2
  exact ⟨rfl, rfl⟩

theorem u64_any (a : Option Addr) (cap : Nat) (xs : List UInt8) (i : Int) (w : World) (hn : xs.length ≤ 9223372036854775807) (hr : Rd w a xs) :
    Calls Tryz.prog 227 #[.slice a xs.length cap, .int .i64 i] w fun e w' => e = .returned (.tuple #[.int .u64 ((numAt xs i 8).getD 0 : Nat), .bool (numAt xs i 8).isSome]) ∧ w = w' := by
  go_enter Tryz.func227, Tryz.ntmps227
  go_wp2_with (go_at_call 262; refine (number_any a cap xs i 8 _ (by omega) (by omega) hn hr).mono ?_; rintro e w' ⟨rfl, rfl⟩)
  go_ret2
  exact ⟨rfl, rfl⟩

set_option maxHeartbeats 400000 in
theorem put_any (g off n cap : Nat) (ys : List UInt8) (v : Nat) (w : World) (_hv : v < 18446744073709551616) (h : off + n ≤ ys.length) (hn : n ≤ 8) (hg : Own w g ys) :
    Calls Tryz.prog 276 #[.slice (some ⟨g, off, none⟩) n cap, .int .u64 v] w fun e w' => e = .returned (.tuple #[]) ∧ Own w' g (putAt ys off n n v) ∧ w.grownBy w' (some g) := by
  go_enter Tryz.func276, Tryz.ntmps276
  go_wp2
  go_loopw [7] (fun i wr => ∃ j : Nat, j ≤ n ∧ i = .int .i64 j ∧ Own wr g (putAt ys off n j v) ∧ w.grownBy wr (some g)) (fun i _ => n - (intOf i).toNat)
  case atStart => exact ⟨0, Nat.zero_le _, rfl, by rw [putAt_zero]; exact hg, World.grownBy.refl _ _⟩
  case round =>
    obtain ⟨j, hj, rfl, ho, hb⟩ := hrel
    by_cases hlt : j < n
    · have hf := ho.frozen (off + (n - 1 - j))
      have hcl := ho.cell (off + (n - 1 - j)) (by rw [putAt_length _ _ _ _ _ h hj]; omega)
      have hst := ho.store (off + (n - 1 - j)) (UInt8.ofNat (v / 256 ^ j))
      rw [putAt_succ ys off n j v h hlt, ← shr_byte, IntKind.wrap_u8] at hst
      have hgr := grown_trans hb (grown_store wr g (off + (n - 1 - j)) (.int .u8 ((v : Int) / 2 ^ (8 * j) % 256)))
      go_wp2
      go_roundw
      case rel => exact ⟨j + 1, by omega, by go_num, hst, hgr⟩
      case measure => simp [intOf]; omega
    · obtain rfl : j = n := by omega
      go_wp2
      go_end0
      exact ⟨rfl, ho, hb⟩

theorem putAt_behind (xs zs : List UInt8) (n v : Nat) (hz : zs.length = n) : putAt (xs ++ zs) xs.length n n v = xs ++ toBE n v := by
  unfold putAt
  rw [show xs.length + n - n = xs.length by omega, List.take_left, List.drop_eq_nil_of_le (by simp; omega), List.append_nil]

set_option maxHeartbeats 400000 in
theorem addNumber_any (a : Option Addr) (cap : Nat) (xs : List UInt8) (v n : Nat) (w : World) (hv : v < 18446744073709551616) (hn0 : 0 < n) (hn : n ≤ 8) (hm : xs.length + n ≤ 281474976710656) (hr : Rd w a xs) :
    Calls Tryz.prog 246 #[.slice a xs.length cap, .int .u64 v, .int .i64 n] w fun e w' => e = .returned (.slice (some ⟨w.heap.size, 0, none⟩) (xs.length + n) (xs.length + n)) ∧ Own w' w.heap.size (xs ++ toBE n v) ∧ Below w.heap.size w w' := by
  have hsz : ¬ xs.length + n = xs.length := by omega
  go_enter Tryz.func246, Tryz.ntmps246
  go_wp2_with (go_at_call 275; refine (longer_any a cap n xs _ hr hm).mono ?_; rintro e w1 ⟨rfl, ho, hb⟩)
  refine (put_any w.heap.size xs.length n n (xs ++ List.replicate n 0) v w1 hv (by simp) hn ho).mono ?_
  rintro e w2 ⟨rfl, ho2, hg2⟩
  have hb2 : Below w.heap.size w w2 := hb.grown hg2 hb.size (fun k hk => by simp at hk; omega)
  rw [putAt_behind xs _ n v (by simp)] at ho2
  clear ho hb hg2 hr
  go_wp2
  go_ret
  exact ⟨rfl, ho2, hb2⟩

theorem add16_any (a : Option Addr) (cap : Nat) (xs : List UInt8) (v : Nat) (w : World) (hv : v < 65536) (hm : xs.length + 2 ≤ 281474976710656) (hr : Rd w a xs) :
    Calls Tryz.prog 269 #[.slice a xs.length cap, .int .u16 v] w fun e w' => e = .returned (.slice (some ⟨w.heap.size, 0, none⟩) (xs.length + 2) (xs.length + 2)) ∧ Own w' w.heap.size (xs ++ toBE 2 v) ∧ Below w.heap.size w w' := by
  go_enter Tryz.func269, Tryz.ntmps269
  go_wp2_with (go_at_call 246; refine (addNumber_any a cap xs v 2 _ (by omega) (by omega) (by omega) hm hr).mono ?_; rintro e w1 ⟨rfl, ho, hb⟩)
  go_ret
  exact ⟨rfl, ho, hb⟩

theorem add32_any (a : Option Addr) (cap : Nat) (xs : List UInt8) (v : Nat) (w : World) (hv : v < 4294967296) (hm : xs.length + 4 ≤ 281474976710656) (hr : Rd w a xs) :
    Calls Tryz.prog 216 #[.slice a xs.length cap, .int .u32 v] w fun e w' => e = .returned (.slice (some ⟨w.heap.size, 0, none⟩) (xs.length + 4) (xs.length + 4)) ∧ Own w' w.heap.size (xs ++ toBE 4 v) ∧ Below w.heap.size w w' := by
  go_enter Tryz.func216, Tryz.ntmps216
  go_wp2_with (go_at_call 246; refine (addNumber_any a cap xs v 4 _ (by omega) (by omega) (by omega) hm hr).mono ?_; rintro e w1 ⟨rfl, ho, hb⟩)
  go_ret
  exact ⟨rfl, ho, hb⟩

theorem add64_any (a : Option Addr) (cap : Nat) (xs : List UInt8) (v : Nat) (w : World) (hv : v < 18446744073709551616) (hm : xs.length + 8 ≤ 281474976710656) (hr : Rd w a xs) :
    Calls Tryz.prog 215 #[.slice a xs.length cap, .int .u64 v] w fun e w' => e = .returned (.slice (some ⟨w.heap.size, 0, none⟩) (xs.length + 8) (xs.length + 8)) ∧ Own w' w.heap.size (xs ++ toBE 8 v) ∧ Below w.heap.size w w' := by
  go_enter Tryz.func215, Tryz.ntmps215
  go_wp2_with (go_at_call 246; refine (addNumber_any a cap xs v 8 _ (by omega) (by omega) (by omega) hm hr).mono ?_; rintro e w1 ⟨rfl, ho, hb⟩)
  go_ret
  exact ⟨rfl, ho, hb⟩

theorem add16_at (g cap n : Nat) (a : Option Addr) (xs : List UInt8) (v : Nat) (V : Int) (w : World) (hV : V = (v : Int)) (hg : w.heap.size = g) (hn : xs.length = n) (hv : v < 65536) (hm : n + 2 ≤ 281474976710656) (hr : Rd w a xs) :
    Calls Tryz.prog 269 #[.slice a n cap, .int .u16 V] w fun e w' => e = .returned (.slice (some ⟨g, 0, none⟩) (n + 2) (n + 2)) ∧ Own w' g (xs ++ toBE 2 v) ∧ Below g w w' := by
  subst hn hg hV; exact add16_any a cap xs v w hv hm hr
theorem add32_at (g cap n : Nat) (a : Option Addr) (xs : List UInt8) (v : Nat) (V : Int) (w : World) (hV : V = (v : Int)) (hg : w.heap.size = g) (hn : xs.length = n) (hv : v < 4294967296) (hm : n + 4 ≤ 281474976710656) (hr : Rd w a xs) :
    Calls Tryz.prog 216 #[.slice a n cap, .int .u32 V] w fun e w' => e = .returned (.slice (some ⟨g, 0, none⟩) (n + 4) (n + 4)) ∧ Own w' g (xs ++ toBE 4 v) ∧ Below g w w' := by
  subst hn hg hV; exact add32_any a cap xs v w hv hm hr
theorem add64_at (g cap n : Nat) (a : Option Addr) (xs : List UInt8) (v : Nat) (V : Int) (w : World) (hV : V = (v : Int)) (hg : w.heap.size = g) (hn : xs.length = n) (hv : v < 18446744073709551616) (hm : n + 8 ≤ 281474976710656) (hr : Rd w a xs) :
    Calls Tryz.prog 215 #[.slice a n cap, .int .u64 V] w fun e w' => e = .returned (.slice (some ⟨g, 0, none⟩) (n + 8) (n + 8)) ∧ Own w' g (xs ++ toBE 8 v) ∧ Below g w w' := by
  subst hn hg hV; exact add64_any a cap xs v w hv hm hr
theorem u16_at (cap n : Nat) (a : Option Addr) (xs : List UInt8) (i : Int) (v : Nat) (V : Int) (w : World) (hV : (v : Int) = V) (hn : xs.length = n) (hm : n ≤ 9223372036854775807) (hr : Rd w a xs) (hv : numAt xs i 2 = some v) :
    Calls Tryz.prog 297 #[.slice a n cap, .int .i64 i] w fun e w' => e = .returned (.tuple #[.int .u16 V, .bool true]) ∧ w = w' := by
  subst hn hV; have h := u16_any a cap xs i w hm hr; rw [hv] at h; exact h
theorem u64_at (cap n : Nat) (a : Option Addr) (xs : List UInt8) (i : Int) (v : Nat) (V : Int) (w : World) (hV : (v : Int) = V) (hn : xs.length = n) (hm : n ≤ 9223372036854775807) (hr : Rd w a xs) (hv : numAt xs i 8 = some v) :
    Calls Tryz.prog 227 #[.slice a n cap, .int .i64 i] w fun e w' => e = .returned (.tuple #[.int .u64 V, .bool true]) ∧ w = w' := by
  subst hn hV; have h := u64_any a cap xs i w hm hr; rw [hv] at h; exact h
theorem numAt_put (pre post : List UInt8) (k v : Nat) (i : Int) (hi : i = (pre.length : Int)) : numAt (pre ++ (toBE k v ++ post)) i k = some (v % 256 ^ k) := by
  subst hi
  rw [numAt_some (by simp [toBE_length])]
  rw [List.drop_left, List.take_append_of_le_length (by simp [toBE_length]), List.take_of_length_le (by simp [toBE_length]), beNat_toBE]

end Go.Proofs.YtnldkpckojhbhaaGreat.Rc

/-
  record's little calls: within, rightStamp, Blocks, stamp, unstamp; bytes.Clone, Equal, HasPrefix.
-/
namespace Go.Proofs.YtnldkpckojhbhaaGreat.Rc
open Go.RowKit

theorem within_at (x a b : Int) (w : World) : Calls Tryz.prog 234 #[.int .i64 x, .int .i64 a, .int .i64 b] w fun e w' => e = .returned (.bool (decide (a ≤ x) && decide (x ≤ b))) ∧ w = w' := by
  by_cases h : a ≤ x
  · go_enter Tryz.func234, Tryz.ntmps234
    go_wp2
    go_ret
    simp [h]
  · go_enter Tryz.func234, Tryz.ntmps234
    go_wp2
    go_ret
    simp
    omega

def okStamp (e s : Int) : Bool := (decide (1 ≤ e) && decide (e ≤ 8388608)) && (decide (1 ≤ s) && decide (s ≤ 549755813888))
theorem okStamp_iff (e s : Int) : okStamp e s = true ↔ (1 ≤ e ∧ e ≤ 8388608) ∧ 1 ≤ s ∧ s ≤ 549755813888 := by simp [okStamp]

theorem rightStamp_at (e s : Int) (w : World) : Calls Tryz.prog 267 #[.int .i64 e, .int .i64 s] w fun x w' => x = .returned (.bool (okStamp e s)) ∧ w = w' := by
  unfold okStamp
  generalize hb : (decide (1 ≤ e) && decide (e ≤ 8388608)) = b
  generalize hc : (decide (1 ≤ s) && decide (s ≤ 549755813888)) = c
  have c1 := within_at e 1 8388608 w
  have c2 := within_at s 1 549755813888 w
  rw [hb] at c1
  rw [hc] at c2
  clear hb hc
  cases b
  all_goals
    go_enter Tryz.func267, Tryz.ntmps267
    go_wp2_with fail
    refine c1.mono ?_
    rintro x w' ⟨rfl, rfl⟩
    clear c1
    go_wp2_with fail
  · go_ret
    exact ⟨by simp, rfl⟩
  · refine c2.mono ?_
    rintro x w' ⟨rfl, rfl⟩
    clear c2
    go_wp2
    go_ret
    exact ⟨by simp, rfl⟩

def blocksN (n : Int) : Int := if 1 ≤ n ∧ n ≤ 32 then n + 1 else 0
theorem blocks_at (n : Int) (w : World) : Calls Tryz.prog 195 #[.int .i64 n] w fun x w' => x = .returned (.int .i64 (blocksN n)) ∧ w = w' := by
  have c1 := within_at n 1 32 w
  unfold blocksN
  by_cases h : 1 ≤ n ∧ n ≤ 32
  · have hb : (decide (1 ≤ n) && decide (n ≤ 32)) = true := by simpa using h
    rw [hb] at c1
    rw [if_pos h]
    obtain ⟨h1, h2⟩ := h
    go_enter Tryz.func195, Tryz.ntmps195
    go_wp2_with fail
    refine c1.mono ?_
    rintro x w' ⟨rfl, rfl⟩
    go_wp2
    go_ret
    exact ⟨rfl, rfl⟩
  · have hb : (decide (1 ≤ n) && decide (n ≤ 32)) = false := by simpa using h
    rw [hb] at c1
    rw [if_neg h]
    clear h
    go_enter Tryz.func195, Tryz.ntmps195
    go_wp2_with fail
    refine c1.mono ?_
    rintro x w' ⟨rfl, rfl⟩
    go_wp2
    go_ret
    exact ⟨rfl, rfl⟩

def stampN (e s : Nat) : Nat := 1099511627776 * e + s
def mark (e s : Nat) : List UInt8 := toBE 8 (stampN e s)
theorem mark_length (e s : Nat) : (mark e s).length = 8 := toBE_length _ _

theorem stamp_or (e s : Nat) (he : e ≤ 8388608) (hs : s < 1099511627776) : bits .or .u64 ((e : Int) * 1099511627776) (s : Int) = ((stampN e s : Nat) : Int) := by
  rw [bits_join .u64 64 (by decide) (fun n h0 h1 => by rw [IntKind.wrap_u64]; omega) 40 ((e : Int) * 1099511627776) (s : Int) (by omega) (by omega) (by omega) (by omega) (by omega) (by omega)]
  unfold stampN
  omega

theorem stamp_at (e s : Nat) (E S : Int) (w : World) (hE : E = (e : Int)) (hS : S = (s : Int)) (he : e ≤ 8388608) (hs : s ≤ 549755813888) :
    Calls Tryz.prog 197 #[.int .i64 E, .int .i64 S] w fun x w' => x = .returned (.slice (some ⟨w.heap.size, 0, none⟩) 8 8) ∧ Own w' w.heap.size (mark e s) ∧ Below w.heap.size w w' := by
  subst hE hS
  have hor := stamp_or e s he (by omega)
  have h1 : IntKind.u64.wrap (e : Int) = (e : Int) := by rw [IntKind.wrap_u64]; omega
  have h2 : IntKind.u64.wrap (s : Int) = (s : Int) := by rw [IntKind.wrap_u64]; omega
  have c := add64_at w.heap.size 0 0 none [] (stampN e s) _ w rfl rfl rfl (by unfold stampN; omega) (by omega) (Rd.nil _ _)
  unfold mark
  generalize stampN e s = V at hor c ⊢
  go_enter Tryz.func197, Tryz.ntmps197
  go_wp2_with fail
  refine c.mono ?_
  rintro x w' ⟨rfl, ho, hb⟩
  go_wp2
  go_ret
  exact ⟨rfl, ho, hb⟩

theorem unstamp_at (v : Nat) (V : Int) (w : World) (hV : V = (v : Int)) (hv : v < 18446744073709551616) :
    Calls Tryz.prog 296 #[.int .u64 V] w fun x w' => x = .returned (.tuple #[.int .i64 ((v / 1099511627776 : Nat) : Int), .int .i64 ((v % 1099511627776 : Nat) : Int)]) ∧ w = w' := by
  subst hV
  have h1 : bits .and .u64 (v : Int) 1099511627775 = ((v % 1099511627776 : Nat) : Int) := by
    have h := bits_mask .u64 64 (by decide) (fun n h0 h1 => by rw [IntKind.wrap_u64]; omega) 40 (by decide) (v : Int) (by omega) (by omega)
    simpa using h
  have h2 : IntKind.i64.wrap ((v : Int) / 1099511627776) = ((v / 1099511627776 : Nat) : Int) := by rw [IntKind.wrap_i64]; omega
  have h3 : IntKind.i64.wrap ((v % 1099511627776 : Nat) : Int) = ((v % 1099511627776 : Nat) : Int) := by rw [IntKind.wrap_i64]; omega
  generalize ((v % 1099511627776 : Nat) : Int) = X at h1 h3 ⊢
  go_enter Tryz.func296, Tryz.ntmps296
  go_wp2
  go_ret2
  exact ⟨by simp, rfl⟩

theorem equal_at (ca cb n m : Nat) (a b : Option Addr) (xs ys : List UInt8) (w : World) (hn : xs.length = n) (hm : ys.length = m) (ha : Rd w a xs) (hb : Rd w b ys) :
    Calls Tryz.prog 288 #[.slice a n ca, .slice b m cb] w fun e w' => e = .returned (.bool (xs == ys)) ∧ w = w' := by
  subst hn hm
  have h1 := conv_run w a ca xs ha
  have h2 := conv_run w b cb ys hb
  go_enter Tryz.func288, Tryz.ntmps288
  go_wp2
  go_ret
  exact ⟨rfl, rfl⟩

theorem prefix_at (ca cb g o : Nat) (b : Option Addr) (xs ys : List UInt8) (w : World) (hn : xs.length = 512) (hm : ys.length = 8) (hca : 512 ≤ ca) (ha : Rd w (some ⟨g, o, none⟩) xs) (hb : Rd w b ys) :
    Calls Tryz.prog 264 #[.slice (some ⟨g, o, none⟩) 512 ca, .slice b 8 cb] w fun e w' => e = .returned (.bool (xs.take 8 == ys)) ∧ w = w' := by
  have hr : Rd w (some ⟨g, o, none⟩) (xs.take 8) := by
    have := ha.part 0 8
    simpa using this
  have c := equal_at ca cb 8 8 _ _ (xs.take 8) ys w (by simp; omega) hm hr hb
  have hca2 : 8 ≤ ca := by omega
  generalize (xs.take 8 == ys) = q at c ⊢
  go_enter Tryz.func264, Tryz.ntmps264
  go_wp2_with fail
  refine c.mono ?_
  rintro e w' ⟨rfl, rfl⟩
  go_wp2
  go_ret
  exact ⟨by simp, rfl⟩

set_option maxRecDepth 100000 in
/-- bytes.Clone of some bytes -/
theorem clone_at (cap n g o : Nat) (xs : List UInt8) (w : World) (hl : xs.length = n) (h0 : 0 < n) (hn : n ≤ 140737488355328) (hr : Rd w (some ⟨g, o, none⟩) xs) :
    Calls Tryz.prog 83 #[.slice (some ⟨g, o, none⟩) n cap] w fun e w' => ∃ h c, e = .returned (.slice (some ⟨h, 0, none⟩) n c) ∧ w.heap.size ≤ h ∧ RowB w' h c xs ∧ Below w.heap.size w w' := by
  obtain ⟨i0, hi, hz0, hz1, hz2⟩ := info_parts info5
  have hm : n ≤ maxLen := by unfold maxLen; omega
  have hq : ∀ u : World, (binOp .eql 37 (.slice (some ⟨g, o, none⟩) n cap) (.slice none 0 0)).run Tryz.prog u = .ok (.bool false) u := fun u => Lib.run_eql_slice_nil u 37 5 (some ⟨g, o, none⟩) n cap 0 0 Tryz.underlying37
  have o1 : (w.alloc (.cells #[] 5)).ownsRow w.heap.size 5 1 (.slice (some ⟨w.heap.size, 0, none⟩) 0 0) 0 [] := ⟨rfl, .inr ⟨w.heap.size, 0, #[], rfl, Nat.le_refl _, heap_alloc_new w _, Nat.le_refl _, by simp [maxLen], rfl, rfl⟩⟩
  have hr1 := hr.below ((Below.refl w.heap.size w).alloc (Nat.le_refl _) (.cells #[] 5)) (Nat.le_refl _)
  have B1 := (Below.refl w.heap.size w).alloc (Nat.le_refl _) (.cells #[] 5)
  go_enter Tryz.func83, Tryz.ntmps83
  go_wp2_with (at_builtin; refine wpList_append_bytes rfl _ _ rfl w.heap.size _ 0 [] rfl o1 (some ⟨g, o, none⟩) n cap xs rfl hl hr1 (fun h => by cases h) (by omega) (by simp) ?_)
  intro v' w1 hown hgrow
  have hown1 : w1.ownsRow w.heap.size 5 1 v' n (bcs xs) := by simpa using hown
  have hb : Below w.heap.size w w1 := B1.grown hgrow (by simp) (fun k hk => by simp [Value.ownBlock] at hk; omega)
  obtain ⟨h, c, rfl, hh, hrow⟩ := RowB.owns hown1 h0
  clear hgrow hown hown1 o1 B1 hr1
  go_wp2
  go_ret
  exact ⟨h, c, rfl, hh, hrow, hb⟩

end Go.Proofs.YtnldkpckojhbhaaGreat.Rc

/-
  Stamped.
-/
namespace Go.Proofs.YtnldkpckojhbhaaGreat.Rc
open Go.RowKit Go.Shelf
attribute [local go_sem] Oper.semAt_some

theorem Box.kept {A B : World} {row : Option Nat} {g : Nat} {cs : Array Value} {t : TypeId} (h : Box A g cs t) (hg : A.grownBy B row) (hr : ∀ r, row = some r → ∃ o : Obj, A.heap[r]? = some o ∧ o.isCells = false) : Box B g cs t := (grownBy_keeps_cells hg hr h rfl).trans h
theorem RowB.kept {A B : World} {row : Option Nat} {g cap : Nat} {ys : List UInt8} (h : RowB A g cap ys) (hg : A.grownBy B row) (hr : ∀ r, row = some r → ∃ o : Obj, A.heap[r]? = some o ∧ o.isCells = false) : RowB B g cap ys := by
  obtain ⟨cur, h, r⟩ := h
  exact ⟨cur, h.kept hg hr, r⟩
theorem owns_kept {A B : World} {row : Option Nat} {base e size : Nat} {v : Value} {n : Nat} {xs : List Value} (h : A.ownsRow base e size v n xs) (hg : A.grownBy B row) (hr : ∀ r, row = some r → ∃ o : Obj, A.heap[r]? = some o ∧ o.isCells = false) : B.ownsRow base e size v n xs := by
  refine ⟨h.1, ?_⟩
  rcases h.2 with h | ⟨g, cap, cur, e1, e2, e3, e4⟩
  · exact .inl h
  · exact .inr ⟨g, cap, cur, e1, e2, (grownBy_keeps_cells hg hr e3 rfl).trans e3, e4⟩
theorem keeps_grown {A B : World} {g : Nat} {cs : Array Value} {t : TypeId} (h : Box A g cs t) (hg : A.grownBy B (some g)) : KeepsOthers A B :=
  ⟨hg.size, fun k o hk ho => (hg.block k (Array.getElem?_eq_some_iff.1 hk).1 (fun e => by
    cases e
    rw [show A.heap[g]? = _ from h] at hk
    cases hk
    cases ho)).trans hk⟩

theorem sec_part {w : World} {g o : Nat} {xs : List UInt8} (h : Rd w (some ⟨g, o, none⟩) xs) (x : Fin 8) : Rd w (some ⟨g, o + x.val * 512, none⟩) (sec xs x.val) := h.part (x.val * 512) 512

def allMarked (xs m : List UInt8) : Bool := (List.finRange 8).all fun x => (sec xs x.val).take 8 == m
def stampedB (xs : List UInt8) (e s : Int) : Bool := decide (xs.length = 4096) && (okStamp e s && allMarked xs (mark e.toNat s.toNat))

set_option maxRecDepth 100000 in
set_option maxHeartbeats 2000000 in
theorem stamped_in (g o cap : Nat) (xs : List UInt8) (e s : Int) (w : World) (hl : xs.length = 4096) (hcap : 4096 ≤ cap) (hmax : cap ≤ 9223372036854775807) (hr : Rd w (some ⟨g, o, none⟩) xs) (hok : okStamp e s = true) :
    Calls Tryz.prog 291 #[.slice (some ⟨g, o, none⟩) 4096 cap, .int .i64 e, .int .i64 s] w fun r w' => r = .returned (.bool (allMarked xs (mark e.toNat s.toNat))) ∧ Below w.heap.size w w' := by
  refine (callsIn_wide (n := 3)).1 ?_
  obtain ⟨⟨he1, he2⟩, hs1, hs2⟩ := (okStamp_iff e s).1 hok
  have c1 : ∀ u, Calls Tryz.prog 267 #[.int .i64 e, .int .i64 s] u fun x w' => x = .returned (.bool true) ∧ u = w' := fun u => by have := rightStamp_at e s u; rw [hok] at this; exact this
  have c2 : ∀ u, _ := fun u => stamp_at e.toNat s.toNat e s u (by omega) (by omega) (by omega) (by omega)
  have hml := mark_length e.toNat s.toNat
  generalize mark e.toNat s.toNat = M at c2 hml ⊢
  refine callsIn_of_wp_marks Tryz.func291 rfl trivial ?_ rfl
  simp only [Tryz.ntmps291, List.size_toArray, List.length_cons, List.length_nil, Nat.reduceAdd, Nat.reduceSub, Array.replicate_succ, Array.replicate_zero, List.push_toArray, List.append_toArray, List.nil_append, List.cons_append]
  gi_wp2_with fail
  refine ⟨trivial, ?_⟩
  refine ((callsIn_wide (n := 2)).2 (c1 _)).mono ?_
  rintro r w' ⟨rfl, rfl⟩
  gi_wp2_with fail
  refine ⟨trivial, ?_⟩
  refine ((callsIn_wide (n := 2)).2 (c2 _)).mono ?_
  rintro r w1 ⟨rfl, ho1, hb1⟩
  gi_wp2_with fail
  refine ⟨trivial, ?_⟩
  refine (sectors_in 2 _ _ _ _).mono ?_
  rintro r w' ⟨rfl, rfl⟩
  gi_wp2_with fail
  have s0 : (w.alloc (.cells #[.bool false] 4)).heap.size = w.heap.size + 1 := by simp
  rw [s0] at ho1 hb1
  have b0 : Box w1 w.heap.size #[.bool false] 4 := (hb1.block w.heap.size (by omega)).trans (Box.new w #[.bool false] 4)
  have B1 : Below w.heap.size w w1 := ((Below.refl _ w).alloc (Nat.le_refl _) (.cells #[.bool false] 4)).trans (hb1.mono (by omega))
  have o1 := ho1.lt
  have b1 := Box.new w1 #[.slice (some ⟨w.heap.size + 1, 0, none⟩) 8 8] 37
  have b2 := Box.new (w1.alloc (.cells #[.slice (some ⟨w.heap.size + 1, 0, none⟩) 8 8] 37)) #[.slice (some ⟨g, o, none⟩) 4096 cap] 37
  have s1 : (w1.alloc (.cells #[.slice (some ⟨w.heap.size + 1, 0, none⟩) 8 8] 37)).heap.size = w1.heap.size + 1 := by simp
  rw [s1] at b2
  have b0' := (b0.alloc (.cells #[.slice (some ⟨w.heap.size + 1, 0, none⟩) 8 8] 37)).alloc (.cells #[.slice (some ⟨g, o, none⟩) 4096 cap] 37)
  have b1' := b1.alloc (.cells #[.slice (some ⟨g, o, none⟩) 4096 cap] 37)
  have ow' : Own ((w1.alloc (.cells #[.slice (some ⟨w.heap.size + 1, 0, none⟩) 8 8] 37)).alloc (.cells #[.slice (some ⟨g, o, none⟩) 4096 cap] 37)) (w.heap.size + 1) M := Box.alloc (Box.alloc ho1 _) _
  have B2 := (B1.alloc B1.size (.cells #[.slice (some ⟨w.heap.size + 1, 0, none⟩) 8 8] 37)).alloc (by simp; omega) (.cells #[.slice (some ⟨g, o, none⟩) 4096 cap] 37)
  obtain ⟨W0, hW0⟩ : ∃ W, W = (w1.alloc (.cells #[.slice (some ⟨w.heap.size + 1, 0, none⟩) 8 8] 37)).alloc (.cells #[.slice (some ⟨g, o, none⟩) 4096 cap] 37) := ⟨_, rfl⟩
  have s2 : W0.heap.size = w1.heap.size + 2 := by rw [hW0]; simp
  have hs2 : w1.heap.size + 2 ≤ W0.heap.size := by omega
  have hs3 : w.heap.size < W0.heap.size := by omega
  rw [← hW0] at b0' b1' b2 ow' B2 ⊢
  clear hW0 b0 b1 s1 s0 hb1 B1
  have HML : Hid _ := hml
  have HL : Hid _ := hl
  clear hml hl
  obtain ⟨k1, hk1⟩ : ∃ k, k = w1.heap.size := ⟨_, rfl⟩
  rw [← hk1] at b1' b2 s2 hs2 o1 ⊢
  clear hk1
  have S2 : Hid _ := s2
  clear s2
  refine wpIn_rangeFunc_ownH (α := Fin 8) rfl (by omega) (gf := 268) (lb := #[.pointer (some ⟨k1 + 1, 0, none⟩)]) rfl trivial (enters_of Tryz.func268 (by kernel_rfl) rfl)
    (sect_stops (3 - 1) (by omega) (k1 + 1) g o cap hcap hmax W0 (by omega) (b2.cell 0)) cellK_t (cellK_b (by omega)) (Below.refl _ _) (fun _ => rfl)
    (fun pre W => ((∀ p ∈ pre, (sec xs p.val).take 8 = M) ∧ Box W w.heap.size #[.bool false] 4 ∧ Box W k1 #[.slice (some ⟨w.heap.size + 1, 0, none⟩) 8 8] 37 ∧ Own W (w.heap.size + 1) M) ∧ Below w.heap.size w W)
    (fun c pre W => (c = .ret ∧ (∃ p ∈ pre, (sec xs p.val).take 8 ≠ M) ∧ Box W w.heap.size #[.bool false] 4) ∧ Below w.heap.size w W)
    (OwnFrom.and (Own.from (fun s A B row hs hg hr => ⟨hs.1, hs.2.1.kept hg hr, hs.2.2.1.kept hg hr, Box.kept hs.2.2.2 hg hr⟩) _) (ownFrom_below (Nat.le_refl _) (by omega)))
    (fun c => OwnFrom.and (Own.from (fun s A B row hs hg hr => ⟨hs.1, hs.2.1, hs.2.2.kept hg hr⟩) _) (ownFrom_below (Nat.le_refl _) (by omega)))
    ⟨⟨by simp, b0', b1', ow'⟩, B2⟩
    (fun x a' _ => a' = { tmps := #[.slice (some ⟨g, o, none⟩) 4096 cap, .int .i64 e, .int .i64 s, undef, undef, undef, .pointer (some ⟨w.heap.size, 0, none⟩), .pointer (some ⟨k1, 0, none⟩), .slice (some ⟨g, o + x.val * 512, none⟩) 512 512,
          .slice (some ⟨g, o, none⟩) 4096 cap, .int .i64 4096, .bool false, .bool false, .int .i64 e, .int .i64 s, .bool true, .bool false, .bool false, .int .i64 e, .int .i64 s,
          .slice (some ⟨w.heap.size + 1, 0, none⟩) 8 8, .slice (some ⟨g, o, none⟩) 4096 cap, .func (.func 268) #[] #[.pointer (some ⟨k1 + 1, 0, none⟩)], .slice (some ⟨g, o + x.val * 512, none⟩) 512 512, undef, undef, undef, undef], defers := [] })
    (fun x a' => ownFrom_pure _ _) ?assign ?body ?done ?stop
  case assign =>
    rintro l pre x W K hI hK
    dsimp only [encS]
    gi_wp2
    exact hK _ _ (KeepsFrom.refl _ _) rfl hI rfl
  case body =>
    rintro l pre x a' W hlw ⟨r, hr1⟩ ⟨⟨hp, q0, q1, qo⟩, hB⟩ rfl hlt
    have d1 := q1.cell 0
    have hsx := sec_part (hr.below hB (Nat.le_refl _)) x
    have c3 := prefix_at 512 8 g (o + x.val * 512) (some ⟨w.heap.size + 1, 0, none⟩) (sec xs x.val) M W (sec_length xs x.val HL.out x.isLt) HML.out (Nat.le_refl _) hsx qo.rd
    by_cases hx : (sec xs x.val).take 8 = M
    · have hq : ((sec xs x.val).take 8 == M) = true := by simpa using hx
      rw [hq] at c3
      gi_wp2_with fail
      refine ⟨trivial, ?_⟩
      refine (CallsIn.inRound l ((callsIn_wide (n := 0)).2 c3)).mono ?_
      rintro e' w' ⟨rfl, rfl⟩
      gi_wp2
      exact ⟨KeepsFrom.refl _ _, rfl, ⟨fun p hp' => (List.mem_append.1 hp').elim (hp p) (fun e => by simp at e; subst e; exact hx), q0, q1, qo⟩, hB⟩
    · have hq : ((sec xs x.val).take 8 == M) = false := by simpa using hx
      rw [hq] at c3
      have f0 := q0.frozen 0
      have d0 := q0.cell 0
      gi_wp2_with fail
      refine ⟨trivial, ?_⟩
      refine (CallsIn.inRound l ((callsIn_wide (n := 0)).2 c3)).mono ?_
      rintro e' w' ⟨rfl, rfl⟩
      gi_wp2
      exact ⟨(KeepsOthers.setCell _ _ _).from _, ⟨rfl, ⟨x, by simp, hx⟩, q0.store 0 _⟩, hB.setCell (p := ⟨w.heap.size, 0, none⟩) (by simp) _⟩
  case done =>
    rintro D' ys W hD rfl ⟨⟨hp, q0, q1, qo⟩, hB⟩ hK
    have hall : allMarked xs M = true := by
      unfold allMarked
      rw [List.all_eq_true]
      intro x hx
      simpa using hp x hx
    have f0 := q0.frozen 0
    have d0 := q0.cell 0
    have q2 := q0.store 0 (.bool true)
    have B3 := hB.setCell (p := ⟨w.heap.size, 0, none⟩) (by simp) (.bool true)
    have hK' : (W.setCell ⟨w.heap.size, 0, none⟩ (.bool true)).heap[D']? = some (.deferred (some [])) := (KeepsOthers.setCell W ⟨w.heap.size, 0, none⟩ (.bool true)).same D' _ hK rfl
    gi_wp2
    have q3 := (Box.kept q2 (grownBy_putObj' _ D' (.deferred none)) (fun r e => by cases e; exact ⟨_, hK', rfl⟩)).cell 0
    refine ⟨by simp, .inl ⟨_, _, rfl, run_takeDeferred hK', ?_⟩⟩
    refine ⟨.bool true, ?_, by rw [hall], B3.trans (belowK_b (w := w) (Nat.le_refl _) _ D' _ _ (by omega) hK' rfl rfl)⟩
    simp [results, Tryz.f291, go_sem, q3]
  case stop =>
    rintro D' c pre W hD ⟨k, hk, rfl⟩ ⟨⟨rfl, ⟨x, hx, hne⟩, q0⟩, hB⟩ hK
    have hall : allMarked xs M = false := by
      unfold allMarked
      rw [List.all_eq_false]
      exact ⟨x, List.mem_of_mem_take hx, by simpa using hne⟩
    gi_wp2
    have q3 := (Box.kept q0 (grownBy_putObj' _ D' (.deferred none)) (fun r e => by cases e; exact ⟨_, hK, rfl⟩)).cell 0
    refine ⟨by simp, .inl ⟨_, _, rfl, run_takeDeferred hK, ?_⟩⟩
    refine ⟨.bool false, ?_, by rw [hall], hB.trans (belowK_b (w := w) (Nat.le_refl _) _ D' _ _ (by omega) hK rfl rfl)⟩
    simp [results, Tryz.f291, go_sem, q3]

theorem stamped_at (a : Option Addr) (n cap : Nat) (xs : List UInt8) (e s : Int) (w : World) (hl : xs.length = n) (hcap : n ≤ cap) (hmax : cap ≤ 9223372036854775807) (hr : Rd w a xs) :
    Calls Tryz.prog 291 #[.slice a n cap, .int .i64 e, .int .i64 s] w fun r w' => r = .returned (.bool (stampedB xs e s)) ∧ Below w.heap.size w w' := by
  by_cases h : n = 4096
  · subst h
    obtain ⟨g, o, rfl, _⟩ := hr (by omega)
    cases hok : okStamp e s with
    | true =>
      refine (stamped_in g o cap xs e s w hl hcap hmax hr hok).mono ?_
      rintro r w' ⟨rfl, hb⟩
      exact ⟨by simp [stampedB, hl, hok], hb⟩
    | false =>
      have c1 : ∀ u, Calls Tryz.prog 267 #[.int .i64 e, .int .i64 s] u fun x w' => x = .returned (.bool false) ∧ u = w' := fun u => by have := rightStamp_at e s u; rw [hok] at this; exact this
      have hf : Hid (stampedB xs e s = false) := by show _ = _; simp [stampedB, hok]
      generalize stampedB xs e s = q at hf ⊢
      have b0 := Box.new w #[.bool false] 4
      have f0 := b0.frozen 0
      have d0 := b0.cell 0
      have B0 := (Below.refl _ w).alloc (Nat.le_refl _) (.cells #[.bool false] 4)
      go_enter Tryz.func291, Tryz.ntmps291
      go_wp2_with fail
      refine (c1 _).mono ?_
      rintro r w' ⟨rfl, rfl⟩
      go_wp2
      refine bodyPost_ret (v := .bool false) (by simp [results, Tryz.results291, go_sem]) rfl ?_
      exact ⟨by rw [hf.out], B0⟩
  · have hf : Hid (stampedB xs e s = false) := by show _ = _; simp [stampedB, hl, h]
    generalize stampedB xs e s = q at hf ⊢
    have hne : ((n : Int) != 4096) = true := by simp; omega
    have b0 := Box.new w #[.bool false] 4
    have f0 := b0.frozen 0
    have d0 := b0.cell 0
    have B0 := (Below.refl _ w).alloc (Nat.le_refl _) (.cells #[.bool false] 4)
    go_enter Tryz.func291, Tryz.ntmps291
    go_wp2
    refine bodyPost_ret (v := .bool false) (by simp [results, Tryz.results291, go_sem]) rfl ?_
    exact ⟨by rw [hf.out], B0⟩
end Go.Proofs.YtnldkpckojhbhaaGreat.Rc

/-
  hide: what it does to memory.
-/
namespace Go.Proofs.YtnldkpckojhbhaaGreat.Rc
open Go.RowKit Go.Shelf
attribute [local go_sem] Oper.semAt_some

theorem wpIn_append_bytes {F : Fence} {n : Nat} {o : Oper} {a : Act} {w : World} {K : Act → World → Prop} {Q : Exit → Act → World → Prop} {ys : Nat → Option Bool} {Z : Prop} (hw : Region.wanted o ys = true) (s x : Operand)
    (ho : o.op = .call { callee := .builtin .append, args := #[s, x], argTypes := #[37, 37] })
    (base : Nat) (v : Value) (m : Nat) (xs : List Value) (hs : a.eval s = v) (hown : w.ownsRow base 5 1 v m xs)
    (g off k c : Nat) (zs : List UInt8) (hx : a.eval x = .slice (some ⟨g, off, none⟩) k c) (hl : zs.length = k) (hr : Rd w (some ⟨g, off, none⟩) zs) (hb : m + k ≤ 140737488355328) (hbase : base ≤ w.heap.size)
    (h : ∀ v' w', w'.ownsRow base 5 1 v' (m + k) (xs ++ bcs zs) → w.grownBy w' v.ownBlock → K (a.put o.dst v') w') : if Region.wanted o ys = true then Oper.wpIn F n Tryz.prog o a w K Q else Z := by
  obtain ⟨i0, hi, hz0, hz1, hz2⟩ := info_parts info5
  rw [if_pos hw]
  obtain ⟨v', w', hrun, r1, r2, r3⟩ := run_append_own (P := Tryz.prog) w base 37 o.type 5 i0 (.int .u8 0) 1 1 Tryz.underlying37 hi hz0 hz1 hz2 rfl (by decide) v m xs hown ⟨g, off, none⟩ k c (bcs zs) (by rw [bcs_length]; omega) (fun j u hj => by
      have hj' : j < zs.length := by have := (List.getElem?_eq_some_iff.1 hj).1; simpa [bcs_length] using this
      rw [bcs_getElem? zs j hj'] at hj
      obtain ⟨b, o', he, hc⟩ := hr (by omega)
      obtain ⟨rfl, rfl, _⟩ := Addr.mk.inj (Option.some.inj he)
      rw [Addr.add_lit, hc j hj']
      exact hj) (bcs_oneCell zs) (by unfold maxLen; omega) (by omega) hbase
  unfold Oper.wpIn
  refine ⟨?_, ?_⟩
  · simp [Oper.about, ho, resolve, Target.leads, Sem.run_pure]
  · rw [Oper.semAt_plain F _ _ (by rw [ho]; intro c hc'; cases hc')]
    simp [execOp, ho, resolve, invoke, builtin, hs, hx, hrun, Result.andThen]
    exact h _ _ r1 r2

def hideStep (M : List UInt8) (st : List UInt8 × List UInt8) (x : Fin 8) : List UInt8 × List UInt8 := (over st.1 (x.val * 512) M, st.2 ++ (sec st.1 x.val).take 8)
def hideTo (xs M : List UInt8) (pre : List (Fin 8)) : List UInt8 × List UInt8 := pre.foldl (hideStep M) (xs, [])
theorem hideTo_snoc (xs M : List UInt8) (pre : List (Fin 8)) (x : Fin 8) : hideTo xs M (pre ++ [x]) = hideStep M (hideTo xs M pre) x := by simp [hideTo]
theorem hideTo_length (xs M : List UInt8) (hl : xs.length = 4096) (hm : M.length = 8) (pre : List (Fin 8)) : (hideTo xs M pre).1.length = 4096 ∧ (hideTo xs M pre).2.length = pre.length * 8 := by
  unfold hideTo
  have : ∀ (pre : List (Fin 8)) (st : List UInt8 × List UInt8), st.1.length = 4096 → (pre.foldl (hideStep M) st).1.length = 4096 ∧ (pre.foldl (hideStep M) st).2.length = st.2.length + pre.length * 8 := by
    intro pre
    induction pre with
    | nil => intro st h; exact ⟨h, by simp⟩
    | cons x pre ih =>
      intro st h
      have hx := x.isLt
      rw [List.foldl_cons]
      have h1 : (hideStep M st x).1.length = 4096 := by unfold hideStep; rw [over_length _ _ _ (by rw [h, hm]; omega)]; exact h
      obtain ⟨q1, q2⟩ := ih _ h1
      refine ⟨q1, ?_⟩
      rw [q2]
      have h2 : (hideStep M st x).2.length = st.2.length + 8 := by unfold hideStep; simp [sec, h]; omega
      rw [h2, List.length_cons]
      omega
  obtain ⟨q1, q2⟩ := this pre (xs, []) hl
  exact ⟨q1, by rw [q2]; simp⟩

theorem rowB_store {w : World} {g cap b j : Nat} {ys : List UInt8} {cs : Array Value} {t : TypeId} (h : RowB w g cap ys) (hb : Box w b cs t) (ht : 5 ≠ t) (u : Value) : RowB (w.setCell ⟨b, j, none⟩ u) g cap ys := by
  obtain ⟨cur, hc, r⟩ := h
  exact ⟨cur, (heap_setCell_other w ⟨b, j, none⟩ g u (hc.ne hb ht)).trans hc, r⟩
theorem Box.grown {w w' : World} {g : Nat} {cs : Array Value} {t : TypeId} {row : Option Nat} (h : Box w g cs t) (hg : w.grownBy w' row) (hr : row ≠ some g) : Box w' g cs t := (hg.block g h.lt (fun e => hr e.symm)).trans h
theorem RowB.grown {w w' : World} {g cap : Nat} {ys : List UInt8} {row : Option Nat} (h : RowB w g cap ys) (hg : w.grownBy w' row) (hr : row ≠ some g) : RowB w' g cap ys := by
  obtain ⟨cur, h, r⟩ := h
  exact ⟨cur, h.grown hg hr, r⟩
theorem owns_grown {w w' : World} {base e size n : Nat} {v : Value} {xs : List Value} {row : Option Nat} (h : w.ownsRow base e size v n xs) (hg : w.grownBy w' row) (hr : ∀ g, v.ownBlock = some g → row ≠ some g) : w'.ownsRow base e size v n xs := by
  refine ⟨h.1, ?_⟩
  rcases h.2 with h | ⟨g, cap, cur, rfl, e2, e3, e4⟩
  · exact .inl h
  · exact .inr ⟨g, cap, cur, rfl, e2, (hg.block g (Array.getElem?_eq_some_iff.1 e3).1 (fun e => hr g rfl e.symm)).trans e3, e4⟩
theorem owns_block {w : World} {base e size n : Nat} {v : Value} {xs : List Value} (h : w.ownsRow base e size v n xs) (g : Nat) (hg : v.ownBlock = some g) : base ≤ g ∧ ∃ cur, Box w g cur e := by
  rcases h.2 with ⟨rfl, _⟩ | ⟨g', cap, cur, rfl, e2, e3, e4⟩
  · simp [Value.ownBlock] at hg
  · simp [Value.ownBlock] at hg
    subst hg
    exact ⟨e2, cur, e3⟩
theorem keeps_owns {w w' : World} {base e size n : Nat} {v : Value} {xs : List Value} (h : w.ownsRow base e size v n xs) (hg : w.grownBy w' v.ownBlock) : KeepsOthers w w' := by
  cases hb : v.ownBlock with
  | none =>
    rw [hb] at hg
    exact ⟨hg.size, fun k o hk _ => (hg.block k (Array.getElem?_eq_some_iff.1 hk).1 (by simp)).trans hk⟩
  | some g =>
    rw [hb] at hg
    obtain ⟨_, cur, hc⟩ := owns_block h g hb
    exact keeps_grown hc hg

theorem owns_shape {w : World} {base e size n : Nat} {v : Value} {xs : List Value} (h : w.ownsRow base e size v n xs) : ∃ a cap, v = .slice a n cap := by
  rcases h.2 with ⟨rfl, rfl⟩ | ⟨g, cap, cur, rfl, _⟩
  · exact ⟨none, 0, rfl⟩
  · exact ⟨_, cap, rfl⟩

def HideI (w : World) (h c gm k1 : Nat) (st : List UInt8 × List UInt8) (W : World) : Prop :=
  RowB W h c st.1 ∧ (∃ v, Box W (w.heap.size + 1) #[v] 37 ∧ W.ownsRow (k1 + 1) 5 1 v st.2.length (bcs st.2)) ∧ Box W w.heap.size #[.slice (some ⟨gm, 0, none⟩) 8 8] 37 ∧ k1 + 1 ≤ W.heap.size

theorem hide_round (w W : World) (h c gm k1 : Nat) (xs M hd : List UInt8) (v : Value) (x : Fin 8) (hh : w.heap.size + 1 < h) (hk : h < k1) (hl : xs.length = 4096) (hm : M.length = 8) (hM : Rd w (some ⟨gm, 0, none⟩) M) (hB : Below w.heap.size w W)
    (hx : RowB W h c xs) (hv : Box W (w.heap.size + 1) #[v] 37) (hown : W.ownsRow (k1 + 1) 5 1 v hd.length (bcs hd)) (hmk : Box W w.heap.size #[.slice (some ⟨gm, 0, none⟩) 8 8] 37) (hsz : k1 + 1 ≤ W.heap.size)
    (v' : Value) (w2 : World) (hown2 : w2.ownsRow (k1 + 1) 5 1 v' (hd.length + 8) (bcs hd ++ bcs ((sec xs x.val).take 8))) (hg2 : W.drew.grownBy w2 v.ownBlock) :
    w2.cell? ⟨w.heap.size + 1, 0, none⟩ = some v ∧ w2.frozen? ⟨w.heap.size + 1, 0, none⟩ = false ∧ (w2.setCell ⟨w.heap.size + 1, 0, none⟩ v').cell? ⟨w.heap.size, 0, none⟩ = some (.slice (some ⟨gm, 0, none⟩) 8 8) ∧
    ∃ W5, (∀ ty, (Builtin.copy_ #[37, 37] ty #[.slice (some ⟨h, x.val * 512, none⟩) 512 512, .slice (some ⟨gm, 0, none⟩) 8 8]).run Tryz.prog (w2.setCell ⟨w.heap.size + 1, 0, none⟩ v') = .ok (goInt 8) W5) ∧
      HideI w h c gm k1 (hideStep M (xs, hd) x) W5 ∧ Below w.heap.size w W5 ∧ KeepsOthers W W5 ∧ (W5.heap[k1]? = W.heap[k1]?) := by
  have hx8 := x.isLt
  have hne : ∀ g', v.ownBlock = some g' → k1 + 1 ≤ g' := fun g' e => (owns_block hown g' e).1
  have hx2 : RowB w2 h c xs := RowB.grown (w := W.drew) hx hg2 (fun e => by have := hne h e; omega)
  have hv2 : Box w2 (w.heap.size + 1) #[v] 37 := Box.grown (w := W.drew) hv hg2 (fun e => by have := hne _ e; omega)
  have hmk2 : Box w2 w.heap.size #[.slice (some ⟨gm, 0, none⟩) 8 8] 37 := Box.grown (w := W.drew) hmk hg2 (fun e => by have := hne _ e; omega)
  have hB2 : Below w.heap.size w w2 := (hB.drew).grown hg2 hB.size (fun k e => by have := hne _ e; omega)
  have hB3 := hB2.setCell (p := ⟨w.heap.size + 1, 0, none⟩) (by simp) v'
  have hv3 : Box (w2.setCell ⟨w.heap.size + 1, 0, none⟩ v') (w.heap.size + 1) #[v'] 37 := by have := hv2.store 0 v'; simpa using this
  have hmk3 : Box (w2.setCell ⟨w.heap.size + 1, 0, none⟩ v') w.heap.size #[.slice (some ⟨gm, 0, none⟩) 8 8] 37 := (heap_setCell_other w2 ⟨w.heap.size + 1, 0, none⟩ w.heap.size v' (by show w.heap.size ≠ w.heap.size + 1; omega)).trans hmk2
  have hx3 := rowB_store (j := 0) hx2 hv2 (by decide) v'
  have hown3 : (w2.setCell ⟨w.heap.size + 1, 0, none⟩ v').ownsRow (k1 + 1) 5 1 v' (hd.length + 8) (bcs hd ++ bcs ((sec xs x.val).take 8)) := owns_grown hown2 (grown_store w2 (w.heap.size + 1) 0 v') (fun g' e => by
    obtain ⟨q, _⟩ := owns_block hown2 g' e
    intro e2
    cases e2
    omega)
  have hM3 := hM.below hB3 (Nat.le_refl _)
  obtain ⟨W5, hrun, hrow5, hg5⟩ := copy_row h c (x.val * 512) 512 512 (some ⟨gm, 0, none⟩) 8 M xs _ hx3 hM3 (by omega) (by omega) (by omega)
  rw [hm] at hrun
  refine ⟨hv2.cell 0, hv2.frozen 0, hmk3.cell 0, W5, hrun, ⟨hrow5, ⟨v', hv3.grown hg5 (fun e => by cases e; omega), ?_⟩, hmk3.grown hg5 (fun e => by cases e; omega), ?_⟩, hB3.grown hg5 hB3.size (fun k e => by cases e; omega), ?_, ?_⟩
  · have e1 : (hideStep M (xs, hd) x).2 = hd ++ (sec xs x.val).take 8 := rfl
    have e2 : (hideStep M (xs, hd) x).2.length = hd.length + 8 := by rw [e1]; simp [sec, hl]; omega
    rw [e2, e1, bcs_append]
    refine owns_grown hown3 hg5 (fun g' e => ?_)
    obtain ⟨q, _⟩ := owns_block hown3 g' e
    intro e2
    cases e2
    omega
  · have h1 := hg2.size
    have h2 := hg5.size
    have h3 : (w2.setCell ⟨w.heap.size + 1, 0, none⟩ v').heap.size = w2.heap.size := by simp
    rw [h3] at h2
    have h4 : W.drew.heap.size = W.heap.size := rfl
    omega
  · obtain ⟨cur, hc, _⟩ := hx3
    exact ((KeepsOthers.drew W).trans (keeps_owns (w := W.drew) hown hg2)).trans ((KeepsOthers.setCell w2 _ _).trans (keeps_grown hc hg5))
  · have k0 : k1 < W.heap.size := by omega
    have a1 : w2.heap[k1]? = W.heap[k1]? := hg2.block k1 k0 (fun e => by have := hne k1 e.symm; omega)
    have a2 : (w2.setCell ⟨w.heap.size + 1, 0, none⟩ v').heap[k1]? = w2.heap[k1]? := heap_setCell_other w2 ⟨w.heap.size + 1, 0, none⟩ k1 v' (by show k1 ≠ w.heap.size + 1; omega)
    have k2 : k1 < (w2.setCell ⟨w.heap.size + 1, 0, none⟩ v').heap.size := by
      have h1 := hg2.size
      have h4 : W.drew.heap.size = W.heap.size := rfl
      simp
      omega
    exact (hg5.block k1 k2 (fun e => by cases e; omega)).trans (a2.trans a1)

end Go.Proofs.YtnldkpckojhbhaaGreat.Rc

/-
  append(s, make([]byte, k)...), upon a row of one's own; entries in memory.
-/
namespace Go.Proofs.YtnldkpckojhbhaaGreat.Rc
open Go.RowKit

def nought (n : Nat) : List UInt8 := List.replicate n 0
theorem nought_length (n : Nat) : (nought n).length = n := by simp [nought]
theorem zeroCells_bytes (k : Nat) : Builtin.zeroCells (Value.cells (.int .u8 0)) k = (bcs (nought k)).toArray := by
  apply Array.toList_inj.1
  apply List.ext_getElem
  · simp [Builtin.zeroCells, bcs, nought, Value.cells]
  · intro i h1 h2
    simp [Builtin.zeroCells, bcs, bc, nought, Value.cells, Nat.mod_one]

theorem info3 : Tryz.prog.underlying 3 = some (.int .i64) := by kernel_rfl

theorem run_append_zeros (w : World) (base ty : Nat) (v : Value) (n k : Nat) (xs : List UInt8) (h0 : 0 < n) (hk : 0 < k) (hown : w.ownsRow base 5 1 v n (bcs xs)) (hb : n + k ≤ 140737488355328) (hbase : base ≤ w.heap.size) :
    ∃ v' w', (Builtin.append_ #[37, 3] ty #[v, .int .i64 (k : Int)]).run Tryz.prog w = .ok v' w' ∧ w'.ownsRow base 5 1 v' (n + k) (bcs (xs ++ nought k)) ∧ w.grownBy w' v.ownBlock := by
  obtain ⟨i0, hi, hz0, hz1, hz2⟩ := info_parts info5
  have hx : xs.length = n := by have := hown.1; rw [bcs_length] at this; omega
  have hlen : (bcs (xs ++ nought k)).length = (n + k) * 1 := by rw [bcs_length]; simp [nought_length, hx]
  rcases hown.2 with ⟨rfl, rfl⟩ | ⟨g, cap, cur, rfl, hbg, hg, hnc, hcm, hcs, htake⟩
  · omega
  · have hw : IntKind.i64.wrap (k : Int) = k := by rw [IntKind.wrap_i64]; omega
    have hneg : ¬ ((k : Int) < 0) := by omega
    have h48 : ¬ (281474976710656 < (k : Int)) := by omega
    have hk0 : ¬ k = 0 := by omega
    by_cases hroom : n + k ≤ cap
    · have hfit : n * 1 + (bcs (nought k)).length ≤ cur.size := by rw [bcs_length, nought_length]; omega
      have hst := run_storeCells_at Tryz.prog g (n * 1) 5 (bcs (nought k)) 0 cur w hg (by simpa using hfit) (bcs_oneCell _)
      simp only [Nat.add_zero, Nat.mul_one] at hst
      refine ⟨.slice (some ⟨g, 0, none⟩) (n + k) cap, w.setRow g (cur.toList.take n ++ bcs (nought k) ++ cur.toList.drop (n + (bcs (nought k)).length)).toArray, ?_, ⟨hlen, .inr ⟨g, cap, _, rfl, hbg, setRow_heap w g cur _ 5 _ hg, hroom, hcm, ?_, ?_⟩⟩, ⟨rfl, rfl, rfl, by simp, fun j _ hj => setRow_other w g j _ (fun e => hj (by simp [Value.ownBlock, e]))⟩⟩
      · simp [Builtin.append_, run_underlying Tryz.underlying37, run_underlying info3, sizeOf, typeInfo, zeroValue, hi, hz0, hz1, hz2, asInt, asIntOf, hw, hneg, hk0, h48, hroom, zeroCells_bytes, Addr.add_lit, hst]
      · simp [bcs_length, nought_length]; omega
      · rw [Nat.mul_one] at htake
        have e : cur.toList.take n ++ bcs (nought k) ++ cur.toList.drop (n + (bcs (nought k)).length) = bcs (xs ++ nought k) ++ cur.toList.drop (n + (bcs (nought k)).length) := by rw [htake, bcs_append]
        rw [← hlen]
        show List.take _ (cur.toList.take n ++ bcs (nought k) ++ cur.toList.drop (n + (bcs (nought k)).length)) = _
        rw [e]
        exact List.take_left
    · have holds : ∀ j u, (bcs xs)[j]? = some u → w.drew.cell? ((⟨g, 0, none⟩ : Addr).add j) = some u := hown.cells (g := g) rfl
      have hold := run_firstCells_some (P := Tryz.prog) w.drew i0.size n ⟨g, 0, none⟩ n cap (bcs xs) (by rw [hz1]; exact hown.1) holds
      have hr := Lib.run_append_grow_zeros (P := Tryz.prog) w 37 3 ty 5 i0 (.int .u8 0) .i64 .i64 Tryz.underlying37 info3 hi hz0 (some ⟨g, 0, none⟩) n cap (bcs xs) hold k hk (by omega) (by omega) (by omega) (by rw [hz2]; omega) (growslice_fits (by omega) (by rw [hz2]; omega))
      have hge := grownCap_ge w (n + k) cap 5
      have hcm2 : grownCap w (n + k) cap 5 ≤ maxLen := grownCap_le_maxLen w (n + k) cap 5 (by unfold maxLen; omega)
      refine ⟨_, _, hr, ⟨hlen, .inr ⟨w.heap.size, _, _, rfl, hbase, heap_alloc_new w.drew _, hge, hcm2, ?_, ?_⟩⟩, ⟨rfl, rfl, rfl, by simp, fun j hj _ => Below.heap_alloc w.drew _ j hj⟩⟩
      · rw [zeroCells_bytes, zeroCells_bytes]
        simp [bcs_length, nought_length, hx]
        omega
      · rw [zeroCells_bytes, zeroCells_bytes, ← hlen]
        have e : ((bcs xs).toArray ++ (bcs (nought k)).toArray ++ (bcs (nought (grownCap w (n + k) cap 5 - (n + k)))).toArray).toList = bcs (xs ++ nought k) ++ bcs (nought (grownCap w (n + k) cap 5 - (n + k))) := by simp [bcs_append]
        rw [e]
        exact List.take_left

def EntAt (w : World) (b o : Nat) (e : Nat × List UInt8) : Prop :=
  w.cell? ⟨b, o, none⟩ = some (.int .i64 (e.1 : Int)) ∧ ∃ g q c, w.cell? ⟨b, o + 1, none⟩ = some (.slice (some ⟨g, q, none⟩) 64 c) ∧ 64 ≤ c ∧ c ≤ 9223372036854775807 ∧ e.2.length = 64 ∧ Rd w (some ⟨g, q, none⟩) e.2
def Ents (w : World) (a : Option Addr) (es : List (Nat × List UInt8)) : Prop :=
  0 < es.length → ∃ b o, a = some ⟨b, o, none⟩ ∧ ∀ j (h : j < es.length), EntAt w b (o + j * 2) es[j]
theorem EntAt.below {w w' : World} {b o : Nat} {e : Nat × List UInt8} (h : EntAt w b o e) (hb : Below w.heap.size w w') : EntAt w' b o e := by
  obtain ⟨h1, g, q, c, h2, h3, h4, h5, h6⟩ := h
  have hlt : b < w.heap.size := block_lt_of_cell h1
  exact ⟨(hb.cell (p := ⟨b, o, none⟩) hlt).trans h1, g, q, c, (hb.cell (p := ⟨b, o + 1, none⟩) hlt).trans h2, h3, h4, h5, h6.below hb (Nat.le_refl _)⟩
theorem Ents.below {w w' : World} {a : Option Addr} {es : List (Nat × List UInt8)} (h : Ents w a es) (hb : Below w.heap.size w w') : Ents w' a es := fun hp => by
  obtain ⟨b, o, ha, hc⟩ := h hp
  exact ⟨b, o, ha, fun j hj => (hc j hj).below hb⟩
theorem Own.owns {w : World} {g B : Nat} {ys : List UInt8} (h : Own w g ys) (hB : B ≤ g) (hm : ys.length ≤ maxLen) : w.ownsRow B 5 1 (.slice (some ⟨g, 0, none⟩) ys.length ys.length) ys.length (bcs ys) :=
  ⟨by rw [bcs_length]; omega, .inr ⟨g, ys.length, (bcs ys).toArray, rfl, hB, h, Nat.le_refl _, hm, by simp [bcs_length], List.take_of_length_le (by simp [bcs_length])⟩⟩

def entsB (es : List (Nat × List UInt8)) : List UInt8 := es.flatMap fun e => toBE 2 e.1 ++ e.2
theorem entsB_length (es : List (Nat × List UInt8)) (h : ∀ e ∈ es, e.2.length = 64) : (entsB es).length = es.length * 66 := by
  induction es with
  | nil => rfl
  | cons e es ih =>
    have h1 := ih (fun x hx => h x (List.mem_cons_of_mem _ hx))
    have h2 := h e (List.mem_cons_self)
    simp only [entsB, List.flatMap_cons, List.length_append, toBE_length, List.length_cons] at h1 ⊢
    omega
theorem entsB_take (es : List (Nat × List UInt8)) (k : Nat) (h : k < es.length) : entsB (es.take (k + 1)) = entsB (es.take k) ++ toBE 2 es[k].1 ++ es[k].2 := by
  unfold entsB
  rw [List.take_succ_eq_append_getElem h, List.flatMap_append]
  simp only [List.flatMap_cons, List.flatMap_nil, List.append_nil, List.append_assoc]
def restB (es : List (Nat × List UInt8)) : List UInt8 := entsB es ++ nought (4026 - es.length * 66)
end Go.Proofs.YtnldkpckojhbhaaGreat.Rc

/-
  Plain facts on the register of a check sum: it is linear over bits, and forgets nothing; nothing of the program is named here.
-/
namespace Go.Proofs.YtnldkpckojhbhaaGreat.Rc

def taps : Nat := 2197175160

def turn (x : Nat) : Nat := if x % 2 = 1 then (x / 2) ^^^ taps else x / 2

def step (r b : Nat) : Nat := if r % 2 = b then r / 2 else (r / 2) ^^^ taps

def steps (r c : Nat) : Nat → Nat
  | 0 => r
  | i + 1 => step (steps r c i) (c / 2 ^ i % 2)

def reg (r : Nat) (xs : List UInt8) : Nat := xs.foldl (fun r c => steps r c.toNat 8) r

def crc (s : Nat) (xs : List UInt8) : Nat := 4294967295 - reg (4294967295 - s) xs

theorem xor_lt {a b : Nat} (ha : a < 4294967296) (hb : b < 4294967296) : a ^^^ b < 4294967296 := Nat.xor_lt_two_pow (n := 32) ha hb

theorem step_lt {r : Nat} (b : Nat) (h : r < 4294967296) : step r b < 4294967296 := by
  unfold step
  split
  · omega
  · exact xor_lt (by omega) (by decide)

theorem steps_lt {r : Nat} (c : Nat) (h : r < 4294967296) (i : Nat) : steps r c i < 4294967296 := by
  induction i with
  | zero => exact h
  | succ i ih => exact step_lt _ ih

theorem reg_nil (r : Nat) : reg r [] = r := rfl
theorem reg_cons (r : Nat) (c : UInt8) (xs : List UInt8) : reg r (c :: xs) = reg (steps r c.toNat 8) xs := by unfold reg; rw [List.foldl_cons]
theorem reg_append (r : Nat) (xs ys : List UInt8) : reg r (xs ++ ys) = reg (reg r xs) ys := by simp [reg, List.foldl_append]
theorem reg_lt (xs : List UInt8) {r : Nat} (h : r < 4294967296) : reg r xs < 4294967296 := by
  induction xs generalizing r with
  | nil => rw [reg_nil]; exact h
  | cons c xs ih => rw [reg_cons]; exact ih (steps_lt _ h 8)

theorem reg_succ (r : Nat) (xs : List UInt8) (k : Nat) (h : k < xs.length) : reg r (xs.take (k + 1)) = steps (reg r (xs.take k)) xs[k].toNat 8 := by
  rw [List.take_succ_eq_append_getElem h, reg_append, reg_cons, reg_nil]

theorem crc_lt (s : Nat) (xs : List UInt8) : crc s xs < 4294967296 := by unfold crc; omega

theorem flip_xor {s : Nat} (h : s < 4294967296) : 4294967295 - s = s ^^^ 4294967295 := by
  apply Nat.eq_of_testBit_eq
  intro i
  have e : 4294967295 - s = 2 ^ 32 - (s + 1) := by omega
  rw [e, Nat.testBit_two_pow_sub_succ h, Nat.testBit_xor, show (4294967295 : Nat) = 2 ^ 32 - 1 by rfl, Nat.testBit_two_pow_sub_one]
  by_cases hi : i < 32
  · simp [hi]
  · have : s.testBit i = false := Nat.testBit_lt_two_pow (Nat.lt_of_lt_of_le h (Nat.pow_le_pow_right (n := 2) (i := 32) (by omega) (by omega)))
    simp [hi, this]

end Go.Proofs.YtnldkpckojhbhaaGreat.Rc

/-
  What the layer's calls do: the closure's turn, More, Crc; each told by the register of the plain text.
-/
namespace Go.Proofs.YtnldkpckojhbhaaGreat.Rc
open Go.RowKit

def One (w : World) (g r : Nat) : Prop := w.heap[g]? = some (.cells #[.int .u32 (r : Int)] 216 (0, 0))

theorem One.cell {w : World} {g r : Nat} (h : One w g r) : w.cell? ⟨g, 0, none⟩ = some (.int .u32 (r : Int)) := cell_of_one h
theorem One.frozen {w : World} {g r : Nat} (h : One w g r) : w.frozen? ⟨g, 0, none⟩ = false := free_of_one h
theorem One.store {w : World} {g r : Nat} (h : One w g r) (s : Nat) : One (w.setCell ⟨g, 0, none⟩ (.int .u32 (s : Int))) g s := one_setCell h

theorem xor_u32 (a b : Nat) (ha : a < 4294967296) (hb : b < 4294967296) : bits .xor .u32 (a : Int) (b : Int) = ((a ^^^ b : Nat) : Int) := by
  have hx : a ^^^ b < 2 ^ 32 := Nat.xor_lt_two_pow (by omega) (by omega)
  have h1 : (BitVec.ofInt 32 (a : Int)).toNat = a := by
    rw [BitVec.ofInt_natCast, BitVec.toNat_ofNat]; exact Nat.mod_eq_of_lt (by omega)
  have h2 : (BitVec.ofInt 32 (b : Int)).toNat = b := by
    rw [BitVec.ofInt_natCast, BitVec.toNat_ofNat]; exact Nat.mod_eq_of_lt (by omega)
  show IntKind.u32.wrap ((BitVec.ofInt 32 (a : Int) ^^^ BitVec.ofInt 32 (b : Int)).toNat : Int) = _
  rw [BitVec.toNat_xor, h1, h2, IntKind.wrap_u32]
  omega

theorem and_one (a : Nat) (ha : a < 4294967296) : bits .and .u32 (a : Int) 1 = ((a % 2 : Nat) : Int) := by
  have h := bits_mask .u32 32 (by decide) (fun n h0 h1 => by rw [IntKind.wrap_u32]; omega) 1 (by decide) (a : Int) (by omega) (by omega)
  simpa using h

theorem of_not_bne {a b : Int} (h : (a != b) = false) : a = b := by simpa using h

theorem not_u32 (s : Nat) (hs : s < 4294967296) : bits .xor .u32 IntKind.u32.max (s : Int) = ((4294967295 - s : Nat) : Int) := by
  have e : IntKind.u32.max = ((4294967295 : Nat) : Int) := by decide
  rw [e, xor_u32 _ _ (by decide) hs, Nat.xor_comm, ← flip_xor hs]

theorem turn_any (g r b : Nat) (w : World) (hr : r < 4294967296) (h : One w g r) :
    Calls Tryz.prog 277 #[.int .u32 b, .pointer (some ⟨g, 0, none⟩)] w fun e w' => e = .returned (.tuple #[]) ∧ One w' g (step r b) ∧ w.grownBy w' (some g) := by
  have hc := h.cell
  have hf := h.frozen
  have ha := and_one r hr
  have hx : bits .xor .u32 ((r : Int) / 2) 2197175160 = ((r / 2 ^^^ taps : Nat) : Int) := xor_u32 (r / 2) taps (by omega) (by decide)
  have Ha : Hid _ := ha
  have Hx : Hid _ := hx
  clear ha hx
  go_enter Tryz.func277, Tryz.ntmps277
  go_wp2
  · go_end0
    rename_i ht
    rw [Ha.out] at ht
    have hne : r % 2 ≠ b := by
      intro e
      rw [e] at ht
      simp at ht
    rw [Hx.out]
    unfold step
    rw [if_neg hne]
    exact ⟨rfl, (h.store (r / 2)).store _, grown_trans (grown_store _ _ _ _) (grown_store _ _ _ _)⟩
  · go_end0
    rename_i ht
    rw [Ha.out] at ht
    have heq : r % 2 = b := by
      have := of_not_bne ht
      omega
    unfold step
    rw [if_pos heq]
    exact ⟨rfl, h.store (r / 2), grown_store _ _ _ _⟩

theorem turn_at (g r b : Nat) (V : Int) (w : World) (hV : V = (b : Int)) (hr : r < 4294967296) (h : One w g r) :
    Calls Tryz.prog 277 #[.int .u32 V, .pointer (some ⟨g, 0, none⟩)] w fun e w' => e = .returned (.tuple #[]) ∧ One w' g (step r b) ∧ w.grownBy w' (some g) := by
  subst hV
  exact turn_any g r b w hr h

theorem byte_bit (c : UInt8) (i : Nat) : bits .and .u32 ((c.toNat : Int) % 4294967296 / 2 ^ i) 1 = ((c.toNat / 2 ^ i % 2 : Nat) : Int) := by
  have e : (c.toNat : Int) % 4294967296 = c.toNat := by have := u8_lt c; omega
  rw [e]
  have h := and_one (c.toNat / 2 ^ i) (by have := u8_lt c; have := Nat.div_le_self c.toNat (2 ^ i); omega)
  rw [← h]
  congr 1

theorem more_in (b o cap n : Nat) (xs : List UInt8) (s : Nat) (w : World) (hl : xs.length = n) (hn : n ≤ 9223372036854775807) (hs : s < 4294967296)
    (hc : ∀ j, j < n → w.cell? ⟨b, o + j, none⟩ = some (.int .u8 ((xs.getD j 0).toNat : Int))) (hb : b < w.heap.size) :
    Calls Tryz.prog 247 #[.int .u32 s, .slice (some ⟨b, o, none⟩) n cap] w fun e w' => e = .returned (.int .u32 (crc s xs : Nat)) ∧ Below w.heap.size w w' := by
  have Hl : Hid (xs.length = n) := hl
  clear hl
  have Hs : Hid _ := not_u32 s hs
  go_enter Tryz.func247, Tryz.ntmps247
  go_wp2_with fail
  rw [Hs.out]
  go_loopw [15] (fun i wr => ∃ k : Nat, k ≤ n ∧ i = .int .i64 k ∧ One wr w.heap.size (reg (4294967295 - s) (xs.take k)) ∧ Below w.heap.size w wr) (fun i _ => n - (intOf i).toNat)
  case atStart => exact ⟨0, Nat.zero_le _, rfl, heap_alloc_new w _, (Below.refl _ _).alloc (Nat.le_refl _) _⟩
  case round =>
    obtain ⟨k, hk, rfl, hone, hbel⟩ := hrel
    by_cases hlt : k < n
    · obtain ⟨c, hcc⟩ : ∃ c, xs.getD k 0 = c := ⟨_, rfl⟩
      have hcx : wr.cell? ⟨b, o + k, none⟩ = some (.int .u8 (c.toNat : Int)) := by rw [← hcc]; exact (hbel.cell (by exact hb)).trans (hc k hlt)
      obtain ⟨R, hR⟩ : ∃ R, reg (4294967295 - s) (xs.take k) = R := ⟨_, rfl⟩
      rw [hR] at hone
      have HR : Hid _ := hR
      have Hcc : Hid _ := hcc
      clear hR hcc
      have hRl : R < 4294967296 := by rw [← HR.out]; exact reg_lt _ (by omega)
      go_wp2_with fail
      go_loopw [19] (fun i wq => ∃ j : Nat, j ≤ 8 ∧ i = .int .i64 j ∧ One wq w.heap.size (steps R c.toNat j) ∧ Below w.heap.size w wq) (fun i _ => 8 - (intOf i).toNat)
      case atStart => exact ⟨0, Nat.zero_le _, rfl, hone, hbel⟩
      case round =>
        obtain ⟨j, hj, rfl, hone2, hbel2⟩ := hrel
        by_cases hlt2 : j < 8
        · go_wp2_with fail
          refine (turn_at w.heap.size (steps R c.toNat j) (c.toNat / 2 ^ j % 2) _ wr (byte_bit c j) (steps_lt _ hRl j) hone2).mono ?_
          rintro e w1 ⟨rfl, hone3, hgr⟩
          have hbel3 : Below w.heap.size w w1 := hbel2.grown hgr hbel2.size (fun k hk => by simp at hk; omega)
          clear hgr hone2 hbel2
          go_wp2
          go_roundw
          case rel => exact ⟨j + 1, by omega, by go_num, hone3, hbel3⟩
          case measure => simp [intOf]; omega
        · obtain rfl : j = 8 := by omega
          go_wp2
          go_roundw
          case rel =>
            refine ⟨k + 1, by omega, by go_num, ?_, hbel2⟩
            have hk' : k < xs.length := by rw [Hl.out]; exact hlt
            have hcc := Hcc.out
            rw [reg_succ _ _ _ hk', HR.out]
            simp only [List.getD, List.getElem?_eq_getElem hk', Option.getD_some] at hcc
            rw [hcc]
            exact hone2
          case measure => simp [intOf]; omega
    · obtain rfl : k = n := by omega
      have hce := hone.cell
      go_wp2
      go_ret
      refine ⟨?_, hbel⟩
      rw [List.take_of_length_le (by rw [Hl.out]; exact Nat.le_refl _), not_u32 _ (reg_lt _ (by omega))]
      rfl

theorem more_none (a : Option Addr) (cap : Nat) (s : Nat) (w : World) (hs : s < 4294967296) :
    Calls Tryz.prog 247 #[.int .u32 s, .slice a 0 cap] w fun e w' => e = .returned (.int .u32 (crc s [] : Nat)) ∧ Below w.heap.size w w' := by
  have Hs : Hid _ := not_u32 s hs
  have Ht : Hid _ := not_u32 (4294967295 - s) (by omega)
  go_enter Tryz.func247, Tryz.ntmps247
  go_wp2_with fail
  rw [Hs.out]
  refine wp_loop_rounds 1 ?_
  rw [rounds_succ]
  go_wp2
  go_ret
  rw [Ht.out]
  exact ⟨rfl, (Below.refl _ _).alloc (Nat.le_refl _) _⟩

theorem more_at (cap n : Nat) (a : Option Addr) (xs : List UInt8) (s : Nat) (S : Int) (w : World) (hS : S = (s : Int)) (hl : xs.length = n) (hn : n ≤ 9223372036854775807) (hs : s < 4294967296) (hr : Rd w a xs) :
    Calls Tryz.prog 247 #[.int .u32 S, .slice a n cap] w fun e w' => e = .returned (.int .u32 (crc s xs : Nat)) ∧ Below w.heap.size w w' := by
  subst hS
  by_cases h0 : 0 < n
  · obtain ⟨b, o, rfl, hc⟩ := hr (by omega)
    refine more_in b o cap n xs s w hl hn hs (fun j hj => ?_) (block_lt_of_cell (hc 0 (by omega)))
    rw [hc j (by omega)]
    simp [List.getD, List.getElem?_eq_getElem (show j < xs.length by omega)]
  · obtain rfl : n = 0 := by omega
    obtain rfl : xs = [] := List.eq_nil_of_length_eq_zero hl
    exact more_none a cap s w hs

theorem crc_at (cap n : Nat) (a : Option Addr) (xs : List UInt8) (w : World) (hl : xs.length = n) (hn : n ≤ 9223372036854775807) (hr : Rd w a xs) :
    Calls Tryz.prog 217 #[.slice a n cap] w fun e w' => e = .returned (.int .u32 (crc 0 xs : Nat)) ∧ Below w.heap.size w w' := by
  have Hl : Hid _ := hl
  clear hl
  go_enter Tryz.func217, Tryz.ntmps217
  go_wp2_with (go_at_call 247; refine (more_at cap n a xs 0 0 w rfl Hl.out hn (by omega) hr).mono ?_; rintro e w1 ⟨rfl, hb⟩)
  go_ret
  exact ⟨rfl, hb⟩

theorem rd_marked (w : World) (fr : Nat × Nat) (xs : List UInt8) : Rd (w.alloc (.cells (bcs xs).toArray 5 fr)) (some ⟨w.heap.size, 0, none⟩) xs := fun _ => ⟨w.heap.size, 0, rfl, fun j hj => by
  rw [Nat.zero_add, cell_of_row _ w.heap.size j _ 5 fr (heap_alloc_new w _)]
  simpa using bcs_getElem? xs j hj⟩

end Go.Proofs.YtnldkpckojhbhaaGreat.Rc

/-
  body: what stands behind the stamps of a head.
-/
namespace Go.Proofs.YtnldkpckojhbhaaGreat.Rc
open Go.RowKit

theorem restB_length (es : List (Nat × List UInt8)) (h : ∀ e ∈ es, e.2.length = 64) (hn : es.length ≤ 32) : (restB es).length = 4026 := by
  unfold restB
  rw [List.length_append, entsB_length es h, nought_length]
  omega
theorem wpList_append_ran {w : World} {ops : Array Oper} {rest : List Oper} {o : Oper} {a : Act} {Q : Exit → Act → World → Prop} (hgd : o.guard = none) (sl x : Operand) (t u : TypeId)
    (ho : o.op = .call { callee := .builtin .append, args := #[sl, x], argTypes := #[t, u] }) (v s v' : Value) (W : World) (hs : a.eval sl = v) (hx : a.eval x = s)
    (hrun : ∀ ty, (Builtin.append_ #[t, u] ty #[v, s]).run Tryz.prog w = .ok v' W) (h : wpList Tryz.prog ops Q rest (a.put o.dst v') W) : wpList Tryz.prog ops Q (o :: rest) a w := by
  refine wpList_plain hgd fun K hK => ?_
  unfold Oper.wp execOp
  simp only [ho, resolve, invoke, builtin, Sem.run_bind, Sem.run_pure, Result.andThen_ok, List.map_toArray, List.map_cons, List.map_nil, hs, hx, hrun]
  exact hK _ _ h

def bodyB (es : List (Nat × List UInt8)) : List UInt8 := toBE 2 es.length ++ toBE 4 (crc 0 (restB es)) ++ restB es
theorem bodyB_length (es : List (Nat × List UInt8)) (h : ∀ e ∈ es, e.2.length = 64) (hn : es.length ≤ 32) : (bodyB es).length = 4032 := by
  unfold bodyB
  simp [toBE_length, restB_length es h hn]

set_option maxRecDepth 100000 in
set_option maxHeartbeats 4000000 in
theorem body_at (a : Option Addr) (n cap : Nat) (es : List (Nat × List UInt8)) (w : World) (hl : es.length = n) (h0 : 0 < n) (hn : n ≤ 32) (hE : Ents w a es) (hb : ∀ e ∈ es, e.1 ≤ 511) :
    Calls Tryz.prog 236 #[.slice a n cap] w fun r w' => ∃ v, r = .returned v ∧ w'.ownsRow w.heap.size 5 1 v 4032 (bcs (bodyB es)) ∧ Below w.heap.size w w' := by
  have h64 : ∀ e ∈ es, e.2.length = 64 := fun e he => by
    obtain ⟨j, hj, rfl⟩ := List.getElem_of_mem he
    obtain ⟨b, o, _, hc⟩ := hE (by omega)
    obtain ⟨_, _, _, _, _, _, _, q, _⟩ := hc j hj
    exact q
  have hlen : ∀ k, k ≤ n → (entsB (es.take k)).length = k * 66 := fun k hk => by
    rw [entsB_length _ (fun e he => h64 e (List.mem_of_mem_take he)), List.length_take, hl, Nat.min_eq_left hk]
  obtain ⟨b, o, rfl, hc⟩ := hE (by omega)
  have HE : Hid (∀ j (h : j < es.length), EntAt w b (o + j * 2) es[j]) := hc
  have HB : Hid (∀ e ∈ es, e.1 ≤ 511) := hb
  have HL : Hid _ := hl
  have H64 : Hid (∀ e ∈ es, e.2.length = 64) := h64
  have HLen : Hid _ := hlen
  clear hE hc hb hl h64 hlen
  go_enter Tryz.func236, Tryz.ntmps236
  go_wp2_with fail
  go_loopw [3, 9] (fun v i wr => ∃ k : Nat, k ≤ n ∧ i = .int .i64 k ∧ wr.ownsRow w.heap.size 5 1 v (k * 66) (bcs (entsB (es.take k))) ∧ Below w.heap.size w wr) (fun _ i _ => n - (intOf i).toNat)
  case atStart => exact ⟨0, Nat.zero_le _, rfl, World.ownsRow_nil _ _ _ _, Below.refl _ _⟩
  case round =>
    obtain ⟨k, hk, rfl, hown, hB⟩ := hrel
    by_cases hlt : k < n
    · have hlt' : k < es.length := by rw [HL.out]; exact hlt
      obtain ⟨q1, g, q, c, q2, q3, q4, q5, q6⟩ := (HE.out k hlt').below hB
      have hbk : es[k].1 ≤ 511 := HB.out _ (List.getElem_mem hlt')
      have ht := entsB_take es k hlt'
      have hlk := HLen.out k hk
      obtain ⟨av, cv, rfl, hlv, hcv1, hcv2, hrd, _⟩ := owns_rd hown
      generalize es[k] = p at q1 q2 q5 q6 hbk ht
      obtain ⟨pb, ph⟩ := p
      dsimp only at q1 q2 q5 q6 hbk ht
      have bx := Box.new wr #[.int .i64 (pb : Int), .slice (some ⟨g, q, none⟩) 64 c] 254
      have x0 := bx.cell 0
      have x1 := bx.cell 1
      have B1 := hB.alloc hB.size (.cells #[.int .i64 (pb : Int), .slice (some ⟨g, q, none⟩) 64 c] 254)
      have hrd1 := hrd.below ((Below.refl wr.heap.size wr).alloc (Nat.le_refl _) (.cells #[.int .i64 (pb : Int), .slice (some ⟨g, q, none⟩) 64 c] 254)) (Nat.le_refl _)
      have q61 := q6.below ((Below.refl wr.heap.size wr).alloc (Nat.le_refl _) (.cells #[.int .i64 (pb : Int), .slice (some ⟨g, q, none⟩) 64 c] 254)) (Nat.le_refl _)
      have hwr : IntKind.u16.wrap (pb : Int) = (pb : Int) := wrap_u16_in pb (by omega)
      have hki : (k : Int) < n := by omega
      obtain ⟨U, hU⟩ : ∃ U, U = wr.alloc (.cells #[.int .i64 (pb : Int), .slice (some ⟨g, q, none⟩) 64 c] 254) := ⟨_, rfl⟩
      have sU : wr.heap.size ≤ U.heap.size := by rw [hU]; simp
      have c1 := add16_at U.heap.size cv (k * 66) av (entsB (es.take k)) pb (pb : Int) U rfl rfl hlk (by omega) (by omega) (by rw [hU]; exact hrd1)
      have y0 : U.cell? ⟨wr.heap.size, 1, none⟩ = some (.slice (some ⟨g, q, none⟩) 64 c) := by rw [hU]; exact x1
      have hsz : wr.heap.size < U.heap.size := by rw [hU]; simp
      have HU : Hid _ := hU
      rw [← hU] at B1 q61
      clear hU hrd1 hrd q6
      go_wp2_with fail
      rw [← HU.out]
      refine c1.mono ?_
      rintro e w1 ⟨rfl, ho1, hb1⟩
      have hl1 : (entsB (es.take k) ++ toBE 2 pb).length = k * 66 + 2 := by rw [List.length_append, hlk, toBE_length]
      have hown1 := Own.owns (B := w.heap.size) ho1 (by have := hB.size; omega) (by rw [hl1]; unfold maxLen; omega)
      rw [hl1] at hown1
      have z0 := (hb1.cell (p := ⟨wr.heap.size, 1, none⟩) hsz).trans y0
      have q62 := q61.below hb1 (Nat.le_refl _)
      have B2 := B1.trans (hb1.mono B1.size)
      have hsw : w.heap.size ≤ w1.heap.size := B2.size
      clear c1 x0 x1 y0 bx q61 q1 q2
      go_wp2_with (at_builtin; refine wpList_append_bytes rfl _ _ rfl w.heap.size _ (k * 66 + 2) _ rfl hown1 (some ⟨g, q, none⟩) 64 c ph rfl q5 q62 (fun h => by cases h) (by omega) hsw ?_)
      intro v' w2 hown2 hg2
      have B3 := B2.grown hg2 hsw (fun j e => by cases e; show w.heap.size ≤ U.heap.size; have := hB.size; omega)
      rw [← bcs_append, ← ht] at hown2
      have e66 : k * 66 + 2 + 64 = (k + 1) * 66 := by omega
      rw [e66] at hown2
      have HT : Hid _ := ht
      have HLK : Hid _ := hlk
      clear ht hlk hl1 hown1 hg2 hown B2 B1 hB
      go_wp2
      go_roundw
      case rel => exact ⟨k + 1, by omega, by go_num, hown2, B3⟩
      case measure => simp [intOf]; omega
    · obtain rfl : k = n := by omega
      have hall : es.take k = es := List.take_of_length_le (by rw [HL.out]; omega)
      rw [hall] at hown
      have hll := HLen.out k (Nat.le_refl _)
      rw [hall] at hll
      have hrl := restB_length es H64.out (by rw [HL.out]; exact hn)
      have hrest : restB es = entsB es ++ nought (4026 - k * 66) := by unfold restB; rw [HL.out]
      obtain ⟨m, hm⟩ : ∃ m, m = 4026 - k * 66 := ⟨_, rfl⟩
      rw [← hm] at hrest
      have hmk : k * 66 + m = 4026 := by omega
      have hmi : (4026 : Int) - ((k * 66 : Nat) : Int) = (m : Int) := by omega
      obtain ⟨av, cv, rfl⟩ := owns_shape hown
      obtain ⟨v1, w1, hrun, hown1, hg1⟩ := run_append_zeros wr w.heap.size 37 _ (k * 66) m (entsB es) (by omega) (by omega) hown (by omega) hB.size
      have hrun' : ∀ ty, (Builtin.append_ #[37, 3] ty #[.slice av (k * 66) cv, .int .i64 (m : Int)]).run Tryz.prog wr = .ok v1 w1 := fun ty => hrun
      have B1 := hB.grown hg1 hB.size (fun j e => (owns_block hown j e).1)
      rw [hmk, ← hrest] at hown1
      have hbody : Hid (bodyB es = toBE 2 k ++ toBE 4 (crc 0 (restB es)) ++ restB es) := by show _ = _; unfold bodyB; rw [HL.out]
      obtain ⟨K66, hK66⟩ : ∃ x, x = k * 66 := ⟨_, rfl⟩
      rw [← hK66] at hmi hrun'
      have hK2 : K66 ≤ 4026 := by omega
      clear hown hll hmk hrest hm hrun hg1 hall hB HLen
      generalize restB es = R at hown1 hrl hbody
      rw [← hK66]
      clear hK66
      obtain ⟨av1, cv1, rfl, hlv1, hcv1, hcv2, hrd1, _⟩ := owns_rd hown1
      have hw16 : IntKind.u16.wrap (k : Int) = (k : Int) := wrap_u16_in k (by omega)
      go_wp2_with (at_builtin; refine wpList_append_ran rfl _ _ 37 3 rfl _ _ _ w1 rfl rfl hrun' ?_)
      refine (add16_at w1.heap.size 0 0 none [] k (k : Int) w1 rfl rfl rfl (by omega) (by omega) (Rd.nil _ _)).mono ?_
      rintro e w2 ⟨rfl, ho2, hb2⟩
      have hrd2 := hrd1.below hb2 (Nat.le_refl _)
      have B2 := B1.trans (hb2.mono B1.size)
      go_wp2_with fail
      refine (crc_at cv1 4026 av1 R w2 hrl (by omega) hrd2).mono ?_
      rintro e w3 ⟨rfl, hb3⟩
      have ho3 := ho2.below hb3 ho2.lt
      have hrd3 := hrd2.below hb3 (Nat.le_refl _)
      have B3 := B2.trans (hb3.mono B2.size)
      obtain ⟨CR, hCR⟩ : ∃ c, c = crc 0 R := ⟨_, rfl⟩
      have hCR4 : CR < 4294967296 := by rw [hCR]; exact crc_lt 0 R
      rw [← hCR] at hbody ⊢
      clear hCR
      go_wp2_with fail
      refine (add32_at w3.heap.size 2 2 (some ⟨w1.heap.size, 0, none⟩) ([] ++ toBE 2 k) CR (CR : Int) w3 rfl rfl (by simp [toBE_length]) hCR4 (by omega) ho3.rd).mono ?_
      rintro e w4 ⟨rfl, ho4, hb4⟩
      have B4 := B3.trans (hb4.mono B3.size)
      have hrd4 := hrd3.below hb4 (Nat.le_refl _)
      have hl4 : ([] ++ toBE 2 k ++ toBE 4 CR).length = 6 := by simp [toBE_length]
      have hown4 := Own.owns (B := w.heap.size) ho4 B3.size (by rw [hl4]; unfold maxLen; omega)
      rw [hl4] at hown4
      have hbk : Hid (0 < 4026 → av1 = none → False) := fun _ hnone => by
        obtain ⟨_, _, q, _⟩ := hrd1 (by omega)
        rw [hnone] at q
        cases q
      go_wp2_with (at_builtin; refine wpList_append_bytes rfl _ _ rfl w.heap.size _ 6 _ rfl hown4 av1 4026 cv1 R rfl hrl hrd4 (fun h => (hbk.out (by omega) h).elim) (by omega) B4.size ?_)
      intro v' w5 hown5 hg5
      have B5 := B4.grown hg5 B4.size (fun j e => by cases e; exact B3.size)
      rw [← bcs_append] at hown5
      clear hown4 hg5
      go_wp2
      go_ret
      exact ⟨v', rfl, by rw [hbody.out]; simpa using hown5, B5⟩
end Go.Proofs.YtnldkpckojhbhaaGreat.Rc

/-
  putHeading: what it does to memory.
-/
namespace Go.Proofs.YtnldkpckojhbhaaGreat.Rc
open Go.RowKit Go.Shelf
attribute [local go_sem] Oper.semAt_some

theorem make_run (n : Nat) (hn : n ≤ 281474976710656) (u : World) : (Instr.makeSlice 37 (.int .i64 (n : Int)) (.int .i64 (n : Int))).run Tryz.prog u =
    .ok (.slice (some ⟨u.heap.size, 0, none⟩) n n) (u.alloc (.cells (bcs (nought n)).toArray 5)) := by
  obtain ⟨i0, hi, hz0, hz1, hz2⟩ := info_parts info5
  have h := run_make (P := Tryz.prog) u 37 5 i0 (.int .u8 0) Tryz.underlying37 hi hz0 .i64 .i64 (n : Int) (n : Int) (by omega) (Int.le_refl _) (by rw [hz2]; omega) (by omega)
  have e : ((n : Int)).toNat = n := by omega
  rw [e, hz1, Nat.mul_one] at h
  have e2 : madeCells #[.int .u8 0] n = (bcs (nought n)).toArray := made_zero n
  rw [← e2]
  exact h

theorem copy_row2 (g cap off dLen dCap : Nat) (a : Option Addr) (sLen sCap : Nat) (xs ys : List UInt8) (u : World) (hg : RowB u g cap ys) (hr : Rd u a xs) (hl : xs.length = Nat.min sLen dLen) (hfit : off + xs.length ≤ ys.length) (h0 : 0 < xs.length) :
    ∃ W, (∀ ty, (Builtin.copy_ #[37, 37] ty #[.slice (some ⟨g, off, none⟩) dLen dCap, .slice a sLen sCap]).run Tryz.prog u = .ok (goInt xs.length) W) ∧ RowB W g cap (over ys off xs) ∧ u.grownBy W (some g) := by
  obtain ⟨b, o, rfl, hc⟩ := hr h0
  obtain ⟨W, h1, h2, h3⟩ := copy_row g cap off xs.length dCap (some ⟨b, o, none⟩) sCap xs ys u hg hr (Nat.le_refl _) hfit h0
  obtain ⟨cur, hb, hlc, hm, hs, ht⟩ := hg
  have hsrc : ∀ j v, (bcs xs)[j]? = some v → u.cell? ((⟨b, o, none⟩ : Addr).add j) = some v := fun j v hj => by
    have hj' : j < xs.length := by have := (List.getElem?_eq_some_iff.1 hj).1; simpa [bcs_length] using this
    rw [bcs_getElem? xs j hj'] at hj
    rw [Addr.add_lit, hc j hj']
    exact hj
  have k1 := fun ty => run_copy_row (P := Tryz.prog) u 37 37 ty 5 g off dLen dCap ⟨b, o, none⟩ sLen sCap cur 5 (bcs xs) Tryz.underlying37 size5 hb (by rw [bcs_length]; exact hl) hsrc (by rw [bcs_length]; omega) (bcs_oneCell xs)
  have k2 := run_copy_row (P := Tryz.prog) u 37 37 0 5 g off xs.length dCap ⟨b, o, none⟩ xs.length sCap cur 5 (bcs xs) Tryz.underlying37 size5 hb (by rw [bcs_length]; exact (Nat.min_self _).symm) hsrc (by rw [bcs_length]; omega) (bcs_oneCell xs)
  refine ⟨W, fun ty => ?_, h2, h3⟩
  rw [k1 ty]
  rw [h1 0] at k2
  rw [bcs_length] at k2 ⊢
  exact k2.symm

def putStep (M BB : List UInt8) (st : List UInt8 × Nat) (x : Fin 8) : List UInt8 × Nat := (over (over st.1 (x.val * 512) M) (x.val * 512 + 8) ((BB.drop (st.2 * 504)).take 504), st.2 + 1)
def putTo (Z M BB : List UInt8) (pre : List (Fin 8)) : List UInt8 × Nat := pre.foldl (putStep M BB) (Z, 0)
theorem putTo_snoc (Z M BB : List UInt8) (pre : List (Fin 8)) (x : Fin 8) : putTo Z M BB (pre ++ [x]) = putStep M BB (putTo Z M BB pre) x := by simp [putTo]
theorem putTo_two (Z M BB : List UInt8) (pre : List (Fin 8)) : (putTo Z M BB pre).2 = pre.length := by
  unfold putTo
  have : ∀ (pre : List (Fin 8)) (st : List UInt8 × Nat), (pre.foldl (putStep M BB) st).2 = st.2 + pre.length := by
    intro pre
    induction pre with
    | nil => intro st; rfl
    | cons x pre ih =>
      intro st
      rw [List.foldl_cons, ih]
      simp [putStep]
      omega
  rw [this]
  simp
theorem putTo_length (Z M BB : List UInt8) (hl : Z.length = 4096) (hm : M.length = 8) (hb : BB.length = 4032) (pre : List (Fin 8)) (_ : pre.length ≤ 8) : (putTo Z M BB pre).1.length = 4096 := by
  unfold putTo
  have : ∀ (pre : List (Fin 8)) (st : List UInt8 × Nat), st.1.length = 4096 → (pre.foldl (putStep M BB) st).1.length = 4096 := by
    intro pre
    induction pre with
    | nil => intro st h; exact h
    | cons x pre ih =>
      intro st h
      have hx := x.isLt
      rw [List.foldl_cons]
      refine ih _ ?_
      unfold putStep
      have h1 : (over st.1 (x.val * 512) M).length = 4096 := by rw [over_length _ _ _ (by rw [h, hm]; omega)]; exact h
      rw [over_length _ _ _ (by rw [h1]; simp [hb]; omega)]
      exact h1
  exact this pre _ hl

def PutI (h g4 gr cv b8 b9 k1 : Nat) (M BB d : List UInt8) (k : Nat) (W : World) : Prop :=
  RowB W h 4096 d ∧ Box W b8 #[.slice (some ⟨g4, 0, none⟩) 8 8] 37 ∧ (∃ o', Box W b9 #[.slice (some ⟨gr, o', none⟩) (4032 - k * 504) (cv - k * 504)] 37 ∧ (k < 8 → o' = k * 504)) ∧ Own W g4 M ∧ RowB W gr cv BB ∧ ∃ cs, Box W k1 cs 37
theorem PutI.kept {h g4 gr cv b8 b9 k1 : Nat} {M BB d : List UInt8} {k : Nat} {A B : World} {row : Option Nat} (hI : PutI h g4 gr cv b8 b9 k1 M BB d k A) (hg : A.grownBy B row) (hr : ∀ r, row = some r → ∃ o : Obj, A.heap[r]? = some o ∧ o.isCells = false) : PutI h g4 gr cv b8 b9 k1 M BB d k B := by
  obtain ⟨a1, a2, ⟨o', a3, a4⟩, a5, a6, cs, a7⟩ := hI
  exact ⟨a1.kept hg hr, a2.kept hg hr, ⟨o', a3.kept hg hr, a4⟩, Box.kept a5 hg hr, a6.kept hg hr, cs, a7.kept hg hr⟩

theorem puth_round (w W : World) (h g4 gr cv b8 b9 k1 k : Nat) (M BB d : List UInt8) (x : Fin 8) (z8 : w.heap.size + 2 ≤ b8) (z9 : w.heap.size + 2 ≤ b9) (zk : b9 ≠ k1) (hne : b9 ≠ b8) (hk : k < 8) (hd : d.length = 4096) (hm : M.length = 8) (hb : BB.length = 4032) (hc1 : 4032 ≤ cv) (hc2 : cv ≤ 9223372036854775807)
    (hh : h = w.heap.size + 1) (zg : g4 ≠ h) (zr : gr ≠ h)
    (hI : PutI h g4 gr cv b8 b9 k1 M BB d k W) (hB : Below w.heap.size w W) :
    ∃ W5 W6 L C, (∀ ty, (Builtin.copy_ #[37, 37] ty #[.slice (some ⟨h, x.val * 512, none⟩) 512 512, .slice (some ⟨g4, 0, none⟩) 8 8]).run Tryz.prog W = .ok (goInt 8) W5) ∧
      (∀ ty, (Builtin.copy_ #[37, 37] ty #[.slice (some ⟨h, x.val * 512 + 8, none⟩) 504 504, .slice (some ⟨gr, k * 504, none⟩) L C]).run Tryz.prog W5.drew = .ok (goInt 504) W6) ∧
      W.cell? ⟨b8, 0, none⟩ = some (.slice (some ⟨g4, 0, none⟩) 8 8) ∧ W5.cell? ⟨b9, 0, none⟩ = some (.slice (some ⟨gr, k * 504, none⟩) L C) ∧ W6.cell? ⟨b9, 0, none⟩ = some (.slice (some ⟨gr, k * 504, none⟩) L C) ∧ W6.frozen? ⟨b9, 0, none⟩ = false ∧
      (504 ≤ L ∧ 504 ≤ C ∧ L ≤ C ∧ C ≤ 9223372036854775807 ∧ (k + 1 < 8 → C ≠ 504)) ∧
      ∀ v', (∃ o', v' = .slice (some ⟨gr, o', none⟩) (L - 504) (C - 504) ∧ (k + 1 < 8 → o' = (k + 1) * 504)) →
        KeepsOthers W (W6.setCell ⟨b9, 0, none⟩ v') ∧ CellK k1 W (W6.setCell ⟨b9, 0, none⟩ v') ∧ PutI h g4 gr cv b8 b9 k1 M BB (over (over d (x.val * 512) M) (x.val * 512 + 8) ((BB.drop (k * 504)).take 504)) (k + 1) (W6.setCell ⟨b9, 0, none⟩ v') ∧ Below w.heap.size w (W6.setCell ⟨b9, 0, none⟩ v') := by
  obtain ⟨a1, a2, ⟨o', a3, a4⟩, a5, a6, cs, a7⟩ := hI
  obtain rfl := a4 hk
  have hx8 := x.isLt
  have n8 : b8 ≠ h := by omega
  have n9 : b9 ≠ h := by omega
  have nk : k1 ≠ h := by
    obtain ⟨cur, q, _⟩ := a1
    exact fun e => q.ne a7 (by decide) e.symm
  obtain ⟨W5, r5, row5, g5⟩ := copy_row h 4096 (x.val * 512) 512 512 (some ⟨g4, 0, none⟩) 8 M d W a1 a5.rd (by omega) (by omega) (by omega)
  rw [hm] at r5
  have b5 : Box W5 b9 _ 37 := a3.grown g5 (fun e => n9 (by cases e; rfl))
  have t5 : ((BB.drop (k * 504)).take 504).length = 504 := by simp; omega
  have rd5 : Rd W5.drew (some ⟨gr, k * 504, none⟩) ((BB.drop (k * 504)).take 504) := by
    have := ((a6.grown g5 (fun e => zr (by cases e; rfl))).rd).part (k * 504) 504
    rw [Nat.zero_add] at this
    exact this
  have hl5 : (over d (x.val * 512) M).length = 4096 := by rw [over_length _ _ _ (by omega)]; exact hd
  obtain ⟨W6, r6, row6, g6⟩ := copy_row2 h 4096 (x.val * 512 + 8) 504 504 (some ⟨gr, k * 504, none⟩) (4032 - k * 504) (cv - k * 504) _ _ W5.drew (show RowB W5.drew h 4096 _ from row5) rd5 (by rw [t5]; exact (Nat.min_eq_right (by omega)).symm) (by omega) (by omega)
  rw [t5] at r6
  have b6 : Box W6 b9 _ 37 := Box.grown (w := W5.drew) b5 g6 (fun e => n9 (by cases e; rfl))
  have B5 := hB.grown g5 hB.size (fun j e => by cases e; omega)
  have B6 : Below w.heap.size w W6 := B5.drew.grown g6 B5.size (fun j e => by cases e; omega)
  have k5 : KeepsOthers W W5 := by obtain ⟨cur, q, _⟩ := a1; exact keeps_grown q g5
  have k6 : KeepsOthers W5.drew W6 := by obtain ⟨cur, q, _⟩ := row5; exact keeps_grown (A := W5.drew) q g6
  refine ⟨W5, W6, 4032 - k * 504, cv - k * 504, r5, r6, a2.cell 0, b5.cell 0, b6.cell 0, b6.frozen 0, ⟨by omega, by omega, by omega, by omega, by omega⟩, ?_⟩
  rintro v' ⟨o', rfl, ho⟩
  have st : ∀ {g : Nat} {cs : Array Value} {t : TypeId}, Box W g cs t → g ≠ h → g ≠ b9 → Box (W6.setCell ⟨b9, 0, none⟩ (.slice (some ⟨gr, o', none⟩) (4032 - k * 504 - 504) (cv - k * 504 - 504))) g cs t := fun hb h1 h2 =>
    (heap_setCell_other W6 ⟨b9, 0, none⟩ _ _ h2).trans (Box.grown (w := W5.drew) (show Box W5 _ _ _ from hb.grown g5 (fun e => h1 (Option.some.inj e).symm)) g6 (fun e => h1 (Option.some.inj e).symm))
  refine ⟨((k5.trans (KeepsOthers.drew W5)).trans k6).trans (KeepsOthers.setCell _ _ _), ?_, ⟨rowB_store row6 b6 (by decide) _, st a2 n8 (fun e => hne e.symm), ⟨o', ?_, ho⟩, st a5 zg (fun e => ?_), ?_, cs, st a7 nk (fun e => zk e.symm)⟩, B6.setCell (p := ⟨b9, 0, none⟩) (by show w.heap.size ≤ b9; omega) _⟩
  · exact ((st a7 nk (fun e => zk e.symm)).cell 0).trans (a7.cell 0).symm
  · have := b6.store 0 (.slice (some ⟨gr, o', none⟩) (4032 - k * 504 - 504) (cv - k * 504 - 504))
    have e1 : 4032 - (k + 1) * 504 = 4032 - k * 504 - 504 := by omega
    have e2 : cv - (k + 1) * 504 = cv - k * 504 - 504 := by omega
    rw [e1, e2]
    simpa using this
  · exact Box.ne (t := 5) (t' := 37) a5 a3 (by decide) e
  · obtain ⟨cur, q, rest⟩ := a6
    exact ⟨cur, st q zr (q.ne a3 (by decide)), rest⟩

theorem owns_below {w w' : World} {base e size n : Nat} {v : Value} {xs : List Value} (h : w.ownsRow base e size v n xs) (hb : Below w.heap.size w w') : w'.ownsRow base e size v n xs := by
  refine ⟨h.1, ?_⟩
  rcases h.2 with h | ⟨g, cap, cur, e1, e2, e3, e4⟩
  · exact .inl h
  · exact .inr ⟨g, cap, cur, e1, e2, (hb.block g (Array.getElem?_eq_some_iff.1 e3).1).trans e3, e4⟩
theorem owns_base {w : World} {base base' e size n : Nat} {v : Value} {xs : List Value} (h : w.ownsRow base e size v n xs) (hb : base' ≤ base) : w.ownsRow base' e size v n xs := by
  refine ⟨h.1, ?_⟩
  rcases h.2 with h | ⟨g, cap, cur, e1, e2, e3⟩
  · exact .inl h
  · exact .inr ⟨g, cap, cur, e1, Nat.le_trans hb e2, e3⟩
theorem Own.other {w : World} {g b : Nat} {ys : List UInt8} {j : Nat} {u : Value} (h : Own w g ys) (hne : g ≠ b) : Own (w.setCell ⟨b, j, none⟩ u) g ys := (heap_setCell_other w ⟨b, j, none⟩ g u hne).trans h

def PutHI (k0 g4 b8 b9 : Nat) (av : Option Addr) (cv : Nat) (M BB : List UInt8) (W : World) : Prop :=
  (k0 ≤ b8 ∧ k0 ≤ b9 ∧ b9 ≠ b8) ∧ Box W b8 #[.slice (some ⟨g4, 0, none⟩) 8 8] 37 ∧ Box W b9 #[.slice av 4032 cv] 37 ∧ (k0 ≤ g4 ∧ Own W g4 M) ∧ W.ownsRow k0 5 1 (.slice av 4032 cv) 4032 (bcs BB)

theorem putHI_end {V : World} {k0 g4 b8 b9 : Nat} {av : Option Addr} {cv : Nat} {M BB : List UInt8} (hne : b9 ≠ b8) (z8 : k0 ≤ b8) (z9 : k0 ≤ b9) (z4 : k0 ≤ g4) (m4 : Own V g4 M) (r7 : V.ownsRow k0 5 1 (.slice av 4032 cv) 4032 (bcs BB))
    (p8 : Box V b8 #[.slice none 0 0] 37) (p9 : Box V b9 #[.slice none 0 0] 37) : PutHI k0 g4 b8 b9 av cv M BB ((V.setCell ⟨b8, 0, none⟩ (.slice (some ⟨g4, 0, none⟩) 8 8)).setCell ⟨b9, 0, none⟩ (.slice av 4032 cv)) := by
  have q8 : Box (V.setCell ⟨b8, 0, none⟩ (.slice (some ⟨g4, 0, none⟩) 8 8)) b8 #[.slice (some ⟨g4, 0, none⟩) 8 8] 37 := by have := p8.store 0 (.slice (some ⟨g4, 0, none⟩) 8 8); simpa using this
  have q9 : Box (V.setCell ⟨b8, 0, none⟩ (.slice (some ⟨g4, 0, none⟩) 8 8)) b9 #[.slice none 0 0] 37 := (heap_setCell_other V ⟨b8, 0, none⟩ b9 _ hne).trans p9
  have n8 : g4 ≠ b8 := Box.ne (t := 5) (t' := 37) m4 p8 (by decide)
  have n9 : g4 ≠ b9 := Box.ne (t := 5) (t' := 37) m4 p9 (by decide)
  have nr : ∀ g, (Value.slice av 4032 cv).ownBlock = some g → g ≠ b8 ∧ g ≠ b9 := fun g hg => by
    obtain ⟨_, cur, q⟩ := owns_block r7 g hg
    exact ⟨q.ne p8 (by decide), q.ne p9 (by decide)⟩
  refine ⟨⟨z8, z9, hne⟩, (heap_setCell_other _ ⟨b9, 0, none⟩ b8 _ (fun h => hne h.symm)).trans q8, ?_, ⟨z4, Own.other (Own.other m4 n8) n9⟩, ?_⟩
  · have := q9.store 0 (.slice av 4032 cv); simpa using this
  · exact owns_grown (owns_grown r7 (grown_store V b8 0 _) (fun g hg e => (nr g hg).1 (by cases e; rfl))) (grown_store _ b9 0 _) (fun g hg e => (nr g hg).2 (by cases e; rfl))

end Go.Proofs.YtnldkpckojhbhaaGreat.Rc
