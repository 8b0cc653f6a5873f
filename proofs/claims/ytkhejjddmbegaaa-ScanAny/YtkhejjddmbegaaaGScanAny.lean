/-
  SLate, SAny: put together.
-/
import Derived.Test.YtkhejjddmbegaaaG10
import Derived.Deep.RegionHeld3
import Derived.BigQuiet
import Derived.Deep.CutBlock
/-
  Loads are taken first in a region that draws, though later operations, which wait for them, write into the cells that were loaded.
-/
namespace Go.Proofs.Ytkhejjddmbegaaa.S
open Go.Proofs.Ytkhejjddmbegaaa.Dk (Gives waits standIn standIn_apart standIn_yields)

section
variable {P : Program} {ops : Array Oper} {Q : Exit → Act → World → Prop} {md : Region.Mode} {C : Act → World → Prop} {late : List Nat}

/-- one of the late ones has come up -/
def anyLate (late : List Nat) (listed : Array Bool) : Bool := late.any fun j => listed.getD j false
/-- Whatever order the draw gives: it ends in Q, and every step stays in the class as long as no late one has come up. -/
def wpAnyE (P : Program) (md : Region.Mode) (ops : Array Oper) (Q : Exit → Act → World → Prop) (C : Act → World → Prop) (late : List Nat) : Nat → Array Bool → Act → World → Prop
  | 0, listed, a, w => Region.ready md ops listed = [] ∧ Q .normal a w
  | fuel + 1, listed, a, w => (Region.ready md ops listed = [] → Q .normal a w) ∧
    ∀ i ∈ Region.ready md ops listed, wpOp P ops Q i (fun a' w' => (anyLate late listed = true ∨ late.contains i = true ∨ C a' w') ∧ wpAnyE P md ops Q C late fuel (listed.setIfInBounds i true) a' w') a w

theorem wpAny_of_E : ∀ (fuel : Nat) (listed : Array Bool) (a : Act) (w : World), wpAnyE P md ops Q C late fuel listed a w → wpAny P md ops Q fuel listed a w
  | 0, _, _, _, h => h
  | fuel + 1, _, _, _, h => ⟨h.1, fun i hi => wpOp_mono (fun a' w' h' => wpAny_of_E fuel _ a' w' h'.2) (h.2 i hi)⟩

theorem anyLate_set {listed : Array Bool} {j : Nat} (h : anyLate late listed = false) (hj : late.contains j = false) : anyLate late (listed.setIfInBounds j true) = false := by
  unfold anyLate at h ⊢
  rw [List.any_eq_false] at h ⊢
  intro k hk
  have hkj : j ≠ k := fun e => by
    subst e
    rw [List.contains_eq_mem, decide_eq_false_iff_not] at hj
    exact hj hk
  rw [getD_set_ne false hkj]
  exact h k hk

theorem wpAnyE_first {i : Nat} {oi : Oper} {v : Value} (hi : ops[i]? = some oi) (hs : Region.noSelect ops = true) (hl : waits md ops late i = true) (hli : late.contains i = false)
    (hQ : ∀ c a w, Q (.panic c) (a.put oi.dst v) w → Q (.panic c) a w) (hg : Gives P ops C oi v) (hdn : ∀ a w, C (a.put oi.dst v) w → C a w) (hup : ∀ a w, C a w → C (a.put oi.dst v) w) :
    ∀ (fuel : Nat) (listed : Array Bool) (a : Act) (w : World), anyLate late listed = false →
      (∀ j oj, ops[j]? = some oj → j ≠ i → listed.getD j true = false → (∀ e ∈ oj.after, Region.binds md e = true → e.on ≠ i) → oi.apart ops oj = true) →
      i ∈ Region.ready md ops listed → C a w →
      wpAnyE P md ops Q C late fuel (listed.setIfInBounds i true) (a.put oi.dst v) w → wpAnyE P md ops Q C late (fuel + 1) listed a w
  | fuel, listed, a, w, hn, hfree, hr, hc, H => by
    refine ⟨fun h => (by rw [h] at hr; cases hr), fun j hj => ?_⟩
    by_cases hji : j = i
    · subst hji
      exact hg.wpOp hi hc ⟨.inr (.inr (hup a w hc)), H⟩
    · have hm := ready_mono hj hji
      cases fuel with
      | zero =>
        rw [H.1] at hm
        cases hm
      | succ fuel =>
        obtain ⟨hjun, oj, hoj, hall⟩ := mem_ready.1 hj
        have hnot : ∀ e ∈ oj.after, Region.binds md e = true → e.on ≠ i := fun e he hb heq => by
          have h1 := hall e he hb
          have h0 := (mem_ready.1 hr).1
          rw [heq] at h1
          rcases Nat.lt_or_ge i listed.size with h' | h'
          · simp [h'] at h0 h1; rw [h0] at h1; cases h1
          · simp [Array.getElem?_eq_none h'] at h1
        have hnl : ¬ late.contains j = true := fun hc => by
          have h1 := (List.all_eq_true.1 hl) j (by simpa using hc)
          rw [hoj] at h1
          simp only [Array.any_eq_true, Bool.and_eq_true, beq_iff_eq] at h1
          obtain ⟨k, hk, hb, he⟩ := h1
          exact hnot _ (Array.getElem_mem hk) hb he
        have h2 := wpOp_put (oi := standIn oi v) (v := v) hoj (standIn_apart (hfree j oj hoj hji hjun hnot)) (fun cs b h => by cases h) (fun cs b => Region.noSelect_spec hs j oj cs b hoj) hQ (standIn_yields oi v a) (H.2 j hm)
        have hfree' : ∀ k ok, ops[k]? = some ok → k ≠ i → (listed.setIfInBounds j true).getD k true = false →
            (∀ e ∈ ok.after, Region.binds md e = true → e.on ≠ i) → oi.apart ops ok = true := fun k ok hk hki hun hno => by
          refine hfree k ok hk hki ?_ hno
          by_cases hjk : j = k
          · subst hjk; exact hjun
          · rw [getD_set_ne true hjk] at hun; exact hun
        have hnj : late.contains j = false := by simpa using hnl
        refine wpOp_mono (fun a' w' h3 => ?_) h2
        have hc' := hdn a' w' ((h3.2.1.resolve_left (by rw [anyLate_set hn hli]; decide)).resolve_left hnl)
        refine ⟨.inr (.inr hc'), wpAnyE_first hi hs hl hli hQ hg hdn hup fuel (listed.setIfInBounds j true) a' w' (anyLate_set hn hnj) hfree' (ready_mono hr (Ne.symm hji)) hc' ?_⟩
        rw [Array.setIfInBounds_comm _ _ hji]
        exact h3.2.2

/-- A load is taken first. -/
theorem wpAnyE_take {i : Nat} {oi : Oper} {v : Value} {fuel : Nat} {listed : Array Bool} {a : Act} {w : World} (hi : ops[i]? = some oi) (hs : Region.noSelect ops = true) (hl : waits md ops late i = true) (hli : late.contains i = false) (hn : anyLate late listed = false)
    (hf : Region.free md ops listed i = true) (hr : (Region.ready md ops listed).contains i = true)
    (hQ : ∀ c a w, Q (.panic c) (a.put oi.dst v) w → Q (.panic c) a w) (hg : Gives P ops C oi v) (hdn : ∀ a w, C (a.put oi.dst v) w → C a w) (hup : ∀ a w, C a w → C (a.put oi.dst v) w)
    (hc : C a w) (h : wpAnyE P md ops Q C late fuel (listed.setIfInBounds i true) (a.put oi.dst v) w) : wpAnyE P md ops Q C late (fuel + 1) listed a w :=
  wpAnyE_first hi hs hl hli hQ hg hdn hup fuel listed a w hn (Region.free_spec hi hf) (by simpa using hr) hc h

theorem anyLate_eq {listed : Array Bool} {j : Nat} (hj : late.contains j = false) : anyLate late (listed.setIfInBounds j true) = anyLate late listed := by
  unfold anyLate
  rw [Bool.eq_iff_iff, List.any_eq_true, List.any_eq_true]
  have hne : ∀ k, k ∈ late → j ≠ k := fun k hk e => by
    subst e
    rw [List.contains_eq_mem, decide_eq_false_iff_not] at hj
    exact hj hk
  constructor
  · rintro ⟨k, hk, h⟩
    rw [getD_set_ne false (hne k hk)] at h
    exact ⟨k, hk, h⟩
  · rintro ⟨k, hk, h⟩
    exact ⟨k, hk, by rw [getD_set_ne false (hne k hk)]; exact h⟩
theorem anyLate_mono {listed : Array Bool} {j : Nat} (h : anyLate late listed = true) : anyLate late (listed.setIfInBounds j true) = true := by
  unfold anyLate at *
  rw [List.any_eq_true] at *
  obtain ⟨k, hk, h1⟩ := h
  exact ⟨k, hk, getD_set_true h1⟩
theorem anyLate_new {listed : Array Bool} {j : Nat} (h : late.contains j = true) (hj : listed.getD j true = false) : anyLate late (listed.setIfInBounds j true) = true := by
  unfold anyLate
  rw [List.any_eq_true]
  refine ⟨j, by simpa using h, ?_⟩
  have hlt : j < listed.size := by
    rcases Nat.lt_or_ge j listed.size with h' | h'
    · exact h'
    · simp [Array.getElem?_eq_none h'] at hj
  simp [hlt]

theorem wpAnyE_pureFirst {i : Nat} {oi : Oper} {v : Value} (hi : ops[i]? = some oi) (hs : Region.noSelect ops = true) (hli : late.contains i = false)
    (hQ : ∀ c a w, Q (.panic c) (a.put oi.dst v) w → Q (.panic c) a w) (hdn : ∀ a w, C (a.put oi.dst v) w → C a w) (hup : ∀ a w, C a w → C (a.put oi.dst v) w) :
    ∀ (fuel : Nat) (listed : Array Bool) (a : Act) (w : World), (anyLate late listed = true ∨ C a w) →
      (∀ j oj, ops[j]? = some oj → j ≠ i → listed.getD j true = false → (∀ e ∈ oj.after, Region.binds md e = true → e.on ≠ i) → oi.apart ops oj = true) →
      i ∈ Region.ready md ops listed → Yields P ops oi v a →
      wpAnyE P md ops Q C late fuel (listed.setIfInBounds i true) (a.put oi.dst v) w → wpAnyE P md ops Q C late (fuel + 1) listed a w
  | fuel, listed, a, w, hI, hfree, hr, hy, H => by
    have hsel := Region.noSelect_spec hs
    refine ⟨fun h => (by rw [h] at hr; cases hr), fun j hj => ?_⟩
    by_cases hji : j = i
    · subst hji
      refine hy.wpOp hi ⟨?_, H⟩
      rcases hI with h | h
      · exact .inl h
      · exact .inr (.inr (hup a w h))
    · have hm := ready_mono hj hji
      cases fuel with
      | zero =>
        rw [H.1] at hm
        cases hm
      | succ fuel =>
        obtain ⟨hjun, oj, hoj, hall⟩ := mem_ready.1 hj
        have hnot : ∀ e ∈ oj.after, Region.binds md e = true → e.on ≠ i := fun e he hb heq => by
          have h1 := hall e he hb
          have h0 := (mem_ready.1 hr).1
          rw [heq] at h1
          rcases Nat.lt_or_ge i listed.size with h' | h'
          · simp [h'] at h0 h1; rw [h0] at h1; cases h1
          · simp [Array.getElem?_eq_none h'] at h1
        have h2 := wpOp_put hoj (hfree j oj hoj hji hjun hnot) (fun cs b => hsel i oi cs b hi) (fun cs b => hsel j oj cs b hoj) hQ hy (H.2 j hm)
        have hfree' : ∀ k ok, ops[k]? = some ok → k ≠ i → (listed.setIfInBounds j true).getD k true = false →
            (∀ e ∈ ok.after, Region.binds md e = true → e.on ≠ i) → oi.apart ops ok = true := fun k ok hk hki hun hno => by
          refine hfree k ok hk hki ?_ hno
          by_cases hjk : j = k
          · subst hjk; exact hjun
          · rw [getD_set_ne true hjk] at hun; exact hun
        refine wpOp_mono (fun a' w' h3 => ?_) h2
        have hob : anyLate late listed = true ∨ late.contains j = true ∨ C a' w' := by
          rcases h3.2.1 with h | h | h
          · rw [anyLate_eq hli] at h; exact .inl h
          · exact .inr (.inl h)
          · exact .inr (.inr (hdn a' w' h))
        have hI' : anyLate late (listed.setIfInBounds j true) = true ∨ C a' w' := by
          rcases hob with h | h | h
          · exact .inl (anyLate_mono h)
          · exact .inl (anyLate_new h hjun)
          · exact .inr h
        refine ⟨hob, wpAnyE_pureFirst hi hs hli hQ hdn hup fuel (listed.setIfInBounds j true) a' w' hI' hfree' (ready_mono hr (Ne.symm hji)) h3.1 ?_⟩
        rw [Array.setIfInBounds_comm _ _ hji]
        exact h3.2.2
/-- An operation that asks the world nothing is taken first. -/
theorem wpAnyE_pure {i : Nat} {oi : Oper} {v : Value} {fuel : Nat} {listed : Array Bool} {a : Act} {w : World} (hi : ops[i]? = some oi) (hs : Region.noSelect ops = true) (hli : late.contains i = false)
    (hf : Region.free md ops listed i = true) (hr : (Region.ready md ops listed).contains i = true)
    (hQ : ∀ c a w, Q (.panic c) (a.put oi.dst v) w → Q (.panic c) a w) (hdn : ∀ a w, C (a.put oi.dst v) w → C a w) (hup : ∀ a w, C a w → C (a.put oi.dst v) w)
    (hI : anyLate late listed = true ∨ C a w) (hy : Yields P ops oi v a) (h : wpAnyE P md ops Q C late fuel (listed.setIfInBounds i true) (a.put oi.dst v) w) : wpAnyE P md ops Q C late (fuel + 1) listed a w :=
  wpAnyE_pureFirst hi hs hli hQ hdn hup fuel listed a w hI (Region.free_spec hi hf) (by simpa using hr) hy h

/-- These may come up. -/
theorem wpAnyE_some {rs : List Nat} {fuel : Nat} {listed : Array Bool} {a : Act} {w : World} (hr : Region.ready md ops listed = rs) (h0 : rs ≠ [])
    (h : ∀ i ∈ rs, wpOp P ops Q i (fun a' w' => (anyLate late listed = true ∨ late.contains i = true ∨ C a' w') ∧ wpAnyE P md ops Q C late fuel (listed.setIfInBounds i true) a' w') a w) :
    wpAnyE P md ops Q C late (fuel + 1) listed a w := ⟨fun e => absurd (hr.symm.trans e) h0, fun i hi => h i (hr ▸ hi)⟩
theorem wpAnyE_done {listed : Array Bool} {a : Act} {w : World} (hr : Region.ready md ops listed = []) (h : Q .normal a w) : ∀ fuel, wpAnyE P md ops Q C late fuel listed a w
  | 0 => ⟨hr, h⟩
  | _ + 1 => ⟨fun _ => h, by rw [hr]; simp⟩
end
end Go.Proofs.Ytkhejjddmbegaaa.S

/-
  Whatever bytes a disk has, its groups are told: the law's walk.
-/
namespace Go.Proofs.Ytkhejjddmbegaaa.S
open Go.RowKit
open Go.Proofs.Ytkhejjddmbegaaa.Dk (Box)
open Go.Proofs.Ytkhejjddmbegaaa.J (pk pk_in pick_eq)
open Go.Proofs.Ytkhejjddmbegaaa.Rc (bcs bcs_length nought nought_length zeroCells_bytes bcs_oneCell bcs_append info3)

/-- noughts behind what may be nothing -/
theorem zeros_none (w : World) (base ty k : Nat) (hk : 0 < k) (hb : k ≤ 140737488355328) (hbase : base ≤ w.heap.size) :
    ∃ v' w', (Builtin.append_ #[32, 3] ty #[.slice none 0 0, .int .i64 (k : Int)]).run Try.prog w = .ok v' w' ∧ w'.ownsRow base 5 1 v' k (bcs (nought k)) ∧ w.grownBy w' none := by
  obtain ⟨i0, hi, hz0, hz1, hz2⟩ := info_parts Rc.info5
  have hold := run_firstCells_none (P := Try.prog) (w := w.drew) i0.size 0 0 0
  have hr := Lib.run_append_grow_zeros (P := Try.prog) w 32 3 ty 5 i0 (.int .u8 0) .i64 .i64 Try.underlying32 info3 hi hz0 none 0 0 [] hold k hk (by omega) (by omega) (by omega) (by rw [hz2]; omega) (growslice_fits (by omega) (by rw [hz2]; omega))
  have hge := grownCap_ge w (0 + k) 0 5
  have hcm2 : grownCap w (0 + k) 0 5 ≤ maxLen := grownCap_le_maxLen w (0 + k) 0 5 (by unfold maxLen; omega)
  rw [Nat.zero_add] at hr hge hcm2
  refine ⟨_, _, hr, ⟨by rw [bcs_length, nought_length, Nat.mul_one], .inr ⟨w.heap.size, _, _, rfl, hbase, heap_alloc_new w.drew _, hge, hcm2, ?_, ?_⟩⟩, ⟨rfl, rfl, rfl, by simp, fun j hj _ => Below.heap_alloc w.drew _ j hj⟩⟩
  · rw [zeroCells_bytes, zeroCells_bytes]
    simp [bcs_length, nought_length]
    omega
  · rw [zeroCells_bytes, zeroCells_bytes]
    have e : (([] : List Value).toArray ++ (bcs (nought k)).toArray ++ (bcs (nought (grownCap w k 0 5 - k))).toArray).toList = bcs (nought k) ++ bcs (nought (grownCap w k 0 5 - k)) := by simp
    rw [e, Nat.mul_one]
    exact List.take_left' (by rw [bcs_length, nought_length])
/-- noughts behind bytes of one's own, be they none -/
theorem zeros_any (w : World) (base ty : Nat) (v : Value) (n k : Nat) (xs : List UInt8) (hk : 0 < k) (hown : w.ownsRow base 5 1 v n (bcs xs)) (hb : n + k ≤ 140737488355328) (hbase : base ≤ w.heap.size) :
    ∃ v' w', (Builtin.append_ #[32, 3] ty #[v, .int .i64 (k : Int)]).run Try.prog w = .ok v' w' ∧ w'.ownsRow base 5 1 v' (n + k) (bcs (xs ++ nought k)) ∧ w.grownBy w' v.ownBlock := by
  obtain ⟨i0, hi, hz0, hz1, hz2⟩ := info_parts Rc.info5
  have hx : xs.length = n := by have := hown.1; rw [bcs_length] at this; omega
  have hlen : (bcs (xs ++ nought k)).length = (n + k) * 1 := by rw [bcs_length]; simp [nought_length, hx]
  rcases hown.2 with ⟨rfl, rfl⟩ | ⟨g, cap, cur, rfl, hbg, hg, hnc, hcm, hcs, htake⟩
  · have hx : xs = [] := List.eq_nil_of_length_eq_zero hx
    subst hx
    rw [Nat.zero_add, List.nil_append]
    exact zeros_none w base ty k hk (by omega) hbase
  · have hw : IntKind.i64.wrap (k : Int) = k := by rw [IntKind.wrap_i64]; omega
    have hneg : ¬ ((k : Int) < 0) := by omega
    have h48 : ¬ (281474976710656 < (k : Int)) := by omega
    have hk0 : ¬ k = 0 := by omega
    by_cases hroom : n + k ≤ cap
    · have hfit : n * 1 + (bcs (nought k)).length ≤ cur.size := by rw [bcs_length, nought_length]; omega
      have hst := run_storeCells_at Try.prog g (n * 1) 5 (bcs (nought k)) 0 cur w hg (by simpa using hfit) (bcs_oneCell _)
      simp only [Nat.add_zero, Nat.mul_one] at hst
      refine ⟨.slice (some ⟨g, 0, none⟩) (n + k) cap, w.setRow g (cur.toList.take n ++ bcs (nought k) ++ cur.toList.drop (n + (bcs (nought k)).length)).toArray, ?_, ⟨hlen, .inr ⟨g, cap, _, rfl, hbg, setRow_heap w g cur _ 5 _ hg, hroom, hcm, ?_, ?_⟩⟩, ⟨rfl, rfl, rfl, by simp, fun j _ hj => setRow_other w g j _ (fun e => hj (by simp [Value.ownBlock, e]))⟩⟩
      · simp [Builtin.append_, run_underlying Try.underlying32, run_underlying info3, sizeOf, typeInfo, zeroValue, hi, hz0, hz1, hz2, asInt, asIntOf, hw, hneg, hk0, h48, hroom, zeroCells_bytes, Addr.add_lit, hst]
      · simp [bcs_length, nought_length]; omega
      · rw [Nat.mul_one] at htake
        have e : cur.toList.take n ++ bcs (nought k) ++ cur.toList.drop (n + (bcs (nought k)).length) = bcs (xs ++ nought k) ++ cur.toList.drop (n + (bcs (nought k)).length) := by rw [htake, bcs_append]
        rw [← hlen]
        show List.take _ (cur.toList.take n ++ bcs (nought k) ++ cur.toList.drop (n + (bcs (nought k)).length)) = _
        rw [e]
        exact List.take_left
    · have holds : ∀ j u, (bcs xs)[j]? = some u → w.drew.cell? ((⟨g, 0, none⟩ : Addr).add j) = some u := hown.cells (g := g) rfl
      have hold := run_firstCells_some (P := Try.prog) w.drew i0.size n ⟨g, 0, none⟩ n cap (bcs xs) (by rw [hz1]; exact hown.1) holds
      have hr := Lib.run_append_grow_zeros (P := Try.prog) w 32 3 ty 5 i0 (.int .u8 0) .i64 .i64 Try.underlying32 info3 hi hz0 (some ⟨g, 0, none⟩) n cap (bcs xs) hold k hk (by omega) (by omega) (by omega) (by rw [hz2]; omega) (growslice_fits (by omega) (by rw [hz2]; omega))
      have hge := grownCap_ge w (n + k) cap 5
      have hcm2 : grownCap w (n + k) cap 5 ≤ maxLen := grownCap_le_maxLen w (n + k) cap 5 (by unfold maxLen; omega)
      refine ⟨_, _, hr, ⟨hlen, .inr ⟨w.heap.size, _, _, rfl, hbase, heap_alloc_new w.drew _, hge, hcm2, ?_, ?_⟩⟩, ⟨rfl, rfl, rfl, by simp, fun j hj _ => Below.heap_alloc w.drew _ j hj⟩⟩
      · rw [zeroCells_bytes, zeroCells_bytes]
        simp [bcs_length, nought_length, hx]
        omega
      · rw [zeroCells_bytes, zeroCells_bytes, ← hlen]
        have e : ((bcs xs).toArray ++ (bcs (nought k)).toArray ++ (bcs (nought (grownCap w (n + k) cap 5 - (n + k)))).toArray).toList = bcs (xs ++ nought k) ++ bcs (nought (grownCap w (n + k) cap 5 - (n + k))) := by simp [bcs_append]
        rw [e]
        exact List.take_left

/-- the law's disk while it is written -/
def DA (w1 : World) (dg k : Nat) (u : World) : Prop := ∃ D F, Dk.IsDisk u dg D F ∧ (∀ i, F i → w1.heap.size ≤ i) ∧ D.nb = 64 ∧ J.Calm D ∧ D.uf.length ≤ k ∧ D.n ≤ k ∧ Below w1.heap.size w1 u
theorem DA.below {w1 u u' : World} {dg k : Nat} (h : DA w1 dg k u) (b : Below u.heap.size u u') : DA w1 dg k u' := by
  obtain ⟨D, F, hd, h1, h2, h3, h4, h5, h6⟩ := h
  obtain ⟨gd, cd, vu, ps, hl⟩ := hd
  exact ⟨D, F, ⟨gd, cd, vu, ps, hl.kept (fun i hi => b.block i (hl.flt i hi)) b.size⟩, h1, h2, h3, h4, h5, h6.trans (b.mono h6.size)⟩
/-- the law's disk when all is written -/
def DB (w : World) (dg : Nat) (u : World) : Prop := ∃ D F, Dk.IsDisk u dg D F ∧ D.nb = 64 ∧ D.gone = false ∧ D.uf.length ≤ 1000000 ∧ Below w.heap.size w u
theorem DA.bel {w1 u : World} {dg k : Nat} (h : DA w1 dg k u) : Below w1.heap.size w1 u := by
  obtain ⟨_, _, _, _, _, _, _, _, h6⟩ := h
  exact h6
theorem write_calm {D : Dk.DS} (hc : J.Calm D) (n : Nat) (hn : n < D.nb) (b : List UInt8) (hb : b.length = 4096) : D.write (n : Int) b = { D with uf := D.uf ++ [(n, b)], n := D.n + 1 } ∧ D.writeE (n : Int) b = 0 := by
  have hh : D.has (n : Int) = true := by simp [Dk.DS.has]; omega
  unfold Dk.DS.write Dk.DS.writeE
  rw [hh, hc.operE, hc.oper]
  simp [hb]
/-- one more block is written, from memory that is new -/
theorem DA.write {w1 u0 u : World} {dg k : Nat} (h : DA w1 dg k u0) (b : Below u0.heap.size u0 u) (hk : k ≤ 1000) (n g cap : Nat) (hn : n < 64) (xs : List UInt8) (hb : xs.length = 4096) (hr : Dk.Rd u (some ⟨g, 0, none⟩) xs) (hB : u0.heap.size ≤ g) :
    Calls Try.prog 10 #[.pointer (some ⟨dg, 0, none⟩), .int .i64 (n : Int), .slice (some ⟨g, 0, none⟩) 4096 cap] u fun e u' => e = .returned (.int .i64 0) ∧ DA w1 dg (k + 1) u' := by
  obtain ⟨D, F, ⟨gd, cd, vu, ps, hl⟩, h1, h2, h3, h4, h5, h6⟩ := h
  have hd : Dk.IsDisk u dg D F := ⟨gd, cd, vu, ps, hl.kept (fun i hi => b.block i (hl.flt i hi)) b.size⟩
  have B := h6.trans (b.mono h6.size)
  obtain ⟨e1, e2⟩ := write_calm h3 n (by omega) xs hb
  refine (Dk.write_at hd (n : Int) (some ⟨g, 0, none⟩) 4096 cap xs hb ⟨by omega, by omega⟩ hr (fun ad e => ?_)).mono ?_
  · cases e
    exact fun hf => by have h7 := hl.flt g hf; omega
  rintro r u' ⟨rfl, ⟨F', hd', hF'⟩, hu⟩
  rw [e1] at hd'
  rw [e2]
  refine ⟨rfl, _, F', hd', fun i hi => ?_, h2, h3, by simp; omega, by show D.n + 1 ≤ k + 1; omega, B.trans (hu.below h1 B.size)⟩
  rcases hF' i hi with h | h
  · exact h1 i h
  · have := B.size
    omega

/-- what is told of such a disk -/
def AnyR (u : World) (T E Q : Nat) (r : Ending) (u' : World) : Prop :=
  ∃ (xs : List Gx) (a : Option Addr) (c : Nat), r = .returned (.tuple #[.slice a xs.length c, .int .i64 (((T + tot xs) % 16 : Nat) : Int), .int .i64 0]) ∧ tot xs ≤ 16 ∧ xs.length ≤ 16 ∧ (∀ j (h : j < xs.length), xs[j].s = 1 + Q + j ∧ xs[j].m ≤ 32) ∧ u'.ownsRow u.heap.size 52 3 (.slice a xs.length c) xs.length (gsC (1 + E) xs) ∧ Below u.heap.size u u'
theorem tot_len : ∀ xs : List Gx, xs.length ≤ tot xs
  | [] => Nat.zero_le _
  | x :: r => by
    have := tot_len r
    simp only [tot, List.map_cons, List.sum_cons, List.length_cons] at this ⊢
    omega
theorem DB.groups {w u : World} {dg : Nat} (h : DB w dg u) (T E Q : Nat) (hT : T < 16) (hE : E < 9) (hQ : Q < 9) :
    Calls Try.prog 12 #[.pointer (some ⟨dg, 0, none⟩), .agg lay, .agg #[.int .i64 64, .int .i64 (1 + (E : Int)), .int .i64 (1 + (Q : Int)), .int .i64 (T : Int)]] u (AnyR u T E Q) := by
  obtain ⟨D, F, hd, h1, h2, h3, h4⟩ := h
  have c := groups_at hd h1 h2 h3 T (1 + E) (1 + Q) hT (by omega) (by omega)
  push_cast at c
  refine c.mono ?_
  rintro r u' ⟨xs, a, c, rfl, hr, ho, _, b⟩
  have hf := hr.fits (by decide)
  have hl := tot_len xs
  refine ⟨xs, a, c, by push_cast; rfl, by omega, by omega, fun j hj => ⟨hr.seq j hj, (hr.cnt _ (List.getElem_mem hj)).2.2⟩, ho, b⟩
theorem DB.below {w u u' : World} {dg : Nat} (h : DB w dg u) (b : Below u.heap.size u u') : DB w dg u' := by
  obtain ⟨D, F, ⟨gd, cd, vu, ps, hl⟩, h2, h3, h4, h6⟩ := h
  exact ⟨D, F, ⟨gd, cd, vu, ps, hl.kept (fun i hi => b.block i (hl.flt i hi)) b.size⟩, h2, h3, h4, h6.trans (b.mono h6.size)⟩
theorem tot_take (xs : List Gx) (k : Nat) (h : k < xs.length) : tot (xs.take (k + 1)) = tot (xs.take k) + xs[k].m + 1 := by
  rw [List.take_succ_eq_append_getElem h, tot_snoc]
  rfl
theorem tot_take_le (xs : List Gx) (k : Nat) : tot (xs.take k) ≤ tot xs := by
  have e : tot xs = tot (xs.take k) + tot (xs.drop k) := by
    unfold tot
    rw [← List.sum_append, ← List.map_append, List.take_append_drop]
  omega
set_option maxRecDepth 100000 in
set_option maxHeartbeats 4000000 in
theorem any_walk (w : World) (a0 : Option Addr) (n0 c0 : Nat) (x0 : List (List UInt8)) (b1 e1 q1 t1 : Int) (hl : x0.length = n0) (hr : Rc.Lsts w a0 x0) (hb : ∀ x ∈ x0, x.length ≤ 140737488351232) :
    Calls Try.prog 4 #[.slice a0 n0 c0, .agg #[.int .i64 b1, .int .i64 e1, .int .i64 q1, .int .i64 t1]] w fun r w' => r = .returned (.bool true) ∧ Below w.heap.size w w' := by
  have HL : Hid (x0.length = n0) := hl
  have HR : Hid (Rc.Lsts w a0 x0) := hr
  have HB : Hid (∀ x ∈ x0, x.length ≤ 140737488351232) := hb
  clear hl hr hb
  have al := (Below.refl w.heap.size w).alloc (Nat.le_refl _) (.cells #[.int .i64 b1, .int .i64 e1, .int .i64 q1, .int .i64 t1] 44)
  have bx := Dk.Box.new w #[.int .i64 b1, .int .i64 e1, .int .i64 q1, .int .i64 t1] 44
  have hz1 : Hid ((w.alloc (.cells #[.int .i64 b1, .int .i64 e1, .int .i64 q1, .int .i64 t1] 44)).heap.size = w.heap.size + 1) := by show _ = _; simp
  obtain ⟨w1, hw1⟩ : ∃ w1, w1 = w.alloc (.cells #[.int .i64 b1, .int .i64 e1, .int .i64 q1, .int .i64 t1] 44) := ⟨_, rfl⟩
  rw [← hw1] at al bx hz1
  have cW := written_at w1 1 0 none 0 0 [] rfl (fun h => by simp at h) (by decide) (by decide)
  rw [show min 0 12 = 0 from rfl] at cW
  go_enter Try.func4, Try.ntmps4
  go_wp2_with fail
  rw [← hw1]
  have HBx : Hid (Box w1 w.heap.size #[.int .i64 b1, .int .i64 e1, .int .i64 q1, .int .i64 t1] 44) := bx
  have HAl : Hid (Below w.heap.size w w1) := al
  clear al bx hw1
  refine Calls.mono cW ?_
  rintro r u0 ⟨g, dg, v, qs, rfl, hS⟩
  have hD0 : DA w1 dg 0 u0 := by
    obtain ⟨F, hd, hF⟩ := hS.disk
    obtain ⟨h1, h2, h3, h4, _⟩ := ok9 1 0 [] 0 (Nat.le_refl _)
    exact ⟨_, F, hd, hF, h2, h1, by omega, by omega, hS.bel⟩
  obtain ⟨av, cv, rfl⟩ := Rc.owns_shape hS.row
  clear cW hS
  go_upto_block 0 with fail
  go_cut [] from 22 to 43 (fun u => ∃ k, k ≤ 18 ∧ DA w1 dg k u)
  case first =>
   as_aux_lemma =>
   go_wp2_with fail
   go_loopw [8] (fun i u => ∃ (k : Nat), k ≤ n0 ∧ k ≤ 18 ∧ i = .int .i64 (k : Int) ∧ DA w1 dg k u) (fun i _ => 18 - (intOf i).toNat)
   case atStart => exact ⟨0, Nat.zero_le _, by decide, rfl, hD0⟩
   case round =>
    obtain ⟨k, hk, hk18, rfl, hD⟩ := hrel
    by_cases hlt : k < n0 ∧ k < 18
    · obtain ⟨hkn, hk2⟩ := hlt
      have hkl : k < x0.length := by rw [HL.out]; exact hkn
      obtain ⟨b, o, rfl, hc⟩ := HR.out (by omega)
      obtain ⟨xa, xc, hck, hx1, hx2, hx3, hx4⟩ := hc k hkl
      have hxb := HB.out _ (List.getElem_mem hkl)
      generalize (x0[k]'hkl) = X at hck hx1 hx2 hx4 hxb
      obtain ⟨m, hm⟩ : ∃ m, m = X.length := ⟨_, rfl⟩
      rw [← hm] at hck hx1 hxb
      have Bw : Below w.heap.size w wr := by
        obtain ⟨_, _, _, _, _, _, _, _, h6⟩ := hD
        exact HAl.out.trans (h6.mono HAl.out.size)
      have hcw : wr.cell? ⟨b, o + k, none⟩ = some (.slice xa m xc) := (Bw.cell (p := ⟨b, o + k, none⟩) (block_lt_of_cell hck)).trans hck
      have cC := Rc.copyBytes_at xc m xa X wr hm.symm (by omega) (hx4.below Bw (Nat.le_refl _)) hx3
      have HD : Hid (DA w1 dg k wr) := hD
      have HM : Hid (m = X.length) := hm
      clear hc hck hx1 hx2 hx3 hx4 hkl Bw hm
      go_wp2_with fail
      refine Calls.mono cC ?_
      rintro r u1 ⟨v1, rfl, own1, bb1⟩
      obtain ⟨v2, u2, hrun, own2, hg2⟩ := zeros_any u1 wr.heap.size 32 v1 m 4096 X (by decide) own1 (by omega) bb1.size
      have hrun' : ∀ ty, (Builtin.append_ #[32, 3] ty #[v1, .int .i64 4096]).run Try.prog u1 = .ok v2 u2 := fun ty => hrun
      have bb2 : Below wr.heap.size wr u2 := bb1.grown hg2 bb1.size (fun j e => (Rc.owns_block own1 j e).1)
      obtain ⟨av1, cv1, rfl, hlv1, hcv1, hcv2, hrd1, hex⟩ := Rc.owns_rd own2
      obtain ⟨g1, rfl, hg1, _⟩ := hex (by omega)
      have hrd2 : Rc.Rd u2 (some ⟨g1, 0, none⟩) ((X ++ nought 4096).take 4096) := hrd1.part 0 4096
      have hcut : ((X ++ nought 4096).take 4096).length = 4096 := by rw [List.length_take, hlv1]; omega
      have cD := HD.out.write bb2 (by omega) k g1 cv1 (by omega) _ hcut hrd2 hg1
      have hc4 : 4096 ≤ cv1 := by omega
      clear hrun hg2 own1 own2 bb1 hlv1 hrd1 hrd2 hcut hex bb2 hg1
      unfold maxLen at hcv2
      go_wp2_with (at_builtin; refine Rc.wpList_append_ran rfl _ _ 32 3 rfl _ _ _ u2 rfl rfl hrun' ?_)
      refine Calls.mono cD ?_
      rintro r u3 ⟨rfl, hD3⟩
      go_wp2_with fail
      go_roundw
      case rel => exact ⟨k + 1, by omega, by omega, by push_cast; rfl, hD3⟩
      case measure => simp [intOf]; omega
    · have hor : (k < n0 ∧ ¬ k < 18) ∨ ¬ k < n0 := by omega
      rcases hor with ⟨hkn, hk2⟩ | hkn
      · go_wp2_with fail
        go_meet
        case rel => exact ⟨k, hk18, hD⟩
      · go_wp2_with fail
        go_meet
        case rel => exact ⟨k, hk18, hD⟩
  case rest =>
   obtain ⟨k, hk18, hD⟩ := hcut
   clear hD0
   have HD : Hid (DA w1 dg k wc) := hD
   clear hD
   have y := (HBx.out.below HD.out.bel)
   have y0 := y.cell 0
   have y1 := y.cell 1
   have y2 := y.cell 2
   have y3 := y.cell 3
   have f0 := y.frozen 0
   have f1 := y.frozen 1
   have f2 := y.frozen 2
   have f3 := y.frozen 3
   simp at y0 y1 y2 y3
   have HY : Hid (Box wc w.heap.size #[.int .i64 b1, .int .i64 e1, .int .i64 q1, .int .i64 t1] 44) := y
   clear y
   have HCS : Hid (∀ q ∈ [((⟨w.heap.size, 3, none⟩ : Addr), Value.int .i64 t1), (⟨w.heap.size, 1, none⟩, .int .i64 e1), (⟨w.heap.size, 2, none⟩, .int .i64 q1)], wc.drew.cell? q.1 = some q.2) := fun q hq => by
     simp at hq
     rcases hq with rfl | rfl | rfl
     · exact y3
     · exact y1
     · exact y2
   have p1 := fun u => pick_eq t1 16 16 u rfl (by decide) (by decide)
   have p2 := fun u => pick_eq e1 9 9 u rfl (by decide) (by decide)
   have p3 := fun u => pick_eq q1 9 9 u rfl (by decide) (by decide)
   have i1 := pk_in t1 16 (by decide)
   have i2 := pk_in e1 9 (by decide)
   have i3 := pk_in q1 9 (by decide)
   obtain ⟨T, hT⟩ : ∃ T : Nat, (T : Int) = pk t1 16 := ⟨(pk t1 16).toNat, by omega⟩
   obtain ⟨E, hE⟩ : ∃ E : Nat, (E : Int) = pk e1 9 := ⟨(pk e1 9).toNat, by omega⟩
   obtain ⟨Q, hQ⟩ : ∃ Q : Nat, (Q : Int) = pk q1 9 := ⟨(pk q1 9).toNat, by omega⟩
   rw [← hT] at p1 i1
   rw [← hE] at p2 i2
   rw [← hQ] at p3 i3
   clear hT hE hQ
   have iT : T < 16 := by omega
   have iE : E < 9 := by omega
   have iQ : Q < 9 := by omega
   clear i1 i2 i3
   go_upto_region 10 with fail
   go_cut [] from 44 to 58 (fun u => DB w dg u ∧ Box u w.heap.size #[.int .i64 64, .int .i64 (1 + (E : Int)), .int .i64 (1 + (Q : Int)), .int .i64 (T : Int)] 44)
   case first =>
    as_aux_lemma =>
     have HEnd : Hid (DB w dg (((((wc.setCell ⟨w.heap.size, 0, none⟩ (.int .i64 64)).setCell ⟨w.heap.size, 3, none⟩ (.int .i64 (T : Int))).setCell ⟨w.heap.size, 1, none⟩ (.int .i64 (1 + (E : Int)))).setCell ⟨w.heap.size, 2, none⟩ (.int .i64 (1 + (Q : Int)))).drew) ∧ Box (((((wc.setCell ⟨w.heap.size, 0, none⟩ (.int .i64 64)).setCell ⟨w.heap.size, 3, none⟩ (.int .i64 (T : Int))).setCell ⟨w.heap.size, 1, none⟩ (.int .i64 (1 + (E : Int)))).setCell ⟨w.heap.size, 2, none⟩ (.int .i64 (1 + (Q : Int)))).drew) w.heap.size #[.int .i64 64, .int .i64 (1 + (E : Int)), .int .i64 (1 + (Q : Int)), .int .i64 (T : Int)] 44) := by
       have q2 := (((HY.out.store 0 (.int .i64 64)).store 3 (.int .i64 (T : Int))).store 1 (.int .i64 (1 + (E : Int)))).store 2 (.int .i64 (1 + (Q : Int)))
       simp at q2
       refine ⟨?_, q2⟩
       have hb : Below w.heap.size w wc := HAl.out.trans (HD.out.bel.mono HAl.out.size)
       have hB := (((((hb).setCell (p := ⟨w.heap.size, 0, none⟩) (Nat.le_refl _) (.int .i64 64)).setCell (p := ⟨w.heap.size, 3, none⟩) (Nat.le_refl _) (.int .i64 (T : Int))).setCell (p := ⟨w.heap.size, 1, none⟩) (Nat.le_refl _) (.int .i64 (1 + (E : Int)))).setCell (p := ⟨w.heap.size, 2, none⟩) (Nat.le_refl _) (.int .i64 (1 + (Q : Int)))).drew
       obtain ⟨D, F, ⟨gd, cd, vu, ps, hl⟩, h1, h2, h3, h4, h5, h6⟩ := HD.out
       have hz := hz1.out
       refine ⟨D, F, ⟨gd, cd, vu, ps, hl.kept (fun i hi => ?_) (by simp)⟩, h2, h3.1, by omega, hB⟩
       have hne : i ≠ w.heap.size := by have := h1 i hi; omega
       show ((((wc.setCell ⟨w.heap.size, 0, none⟩ (.int .i64 64)).setCell ⟨w.heap.size, 3, none⟩ (.int .i64 (T : Int))).setCell ⟨w.heap.size, 1, none⟩ (.int .i64 (1 + (E : Int)))).setCell ⟨w.heap.size, 2, none⟩ (.int .i64 (1 + (Q : Int)))).heap[i]? = _
       rw [heap_setCell_other _ ⟨w.heap.size, 2, none⟩ i _ hne, heap_setCell_other _ ⟨w.heap.size, 1, none⟩ i _ hne, heap_setCell_other _ ⟨w.heap.size, 3, none⟩ i _ hne, heap_setCell_other _ ⟨w.heap.size, 0, none⟩ i _ hne]
     have eE : IntKind.i64.wrap (1 + (E : Int)) = 1 + (E : Int) := by rw [IntKind.wrap_i64]; omega
     have eQ : IntKind.i64.wrap (1 + (Q : Int)) = 1 + (Q : Int) := by rw [IntKind.wrap_i64]; omega
     have HeE : Hid (IntKind.i64.wrap (1 + (E : Int)) = 1 + (E : Int)) := eE
     have HeQ : Hid (IntKind.i64.wrap (1 + (Q : Int)) = 1 + (Q : Int)) := eQ
     clear eE eQ
     clear HD HY HBx HAl hz1
     refine wp_region_any (by kernel_rfl) ?_
     change wpAny _ _ _ _ _ _ _ (World.drew _)
     refine wpAny_take (i := 0) (v := ?_) rfl (by kernel_rfl) (by kernel_rfl) (by kernel_rfl) (fun _ _ _ h => h) (Or.inl ⟨by rfl, ?_⟩) ?_
     rotate_left
     · intro w
       go_simp
       with_reducible rfl
     simp only [Act.put, List.setIfInBounds_toArray, List.set_cons_zero, List.set_cons_succ, List.getElem_toArray, List.getElem_cons_zero]
     refine wpAny_take (i := 3) (v := ?_) rfl (by kernel_rfl) (by kernel_rfl) (by kernel_rfl) (fun _ _ _ h => h) (Or.inl ⟨by rfl, ?_⟩) ?_
     rotate_left
     · intro w
       go_simp
       with_reducible rfl
     simp only [Act.put, List.setIfInBounds_toArray, List.set_cons_zero, List.set_cons_succ, List.getElem_toArray, List.getElem_cons_zero, List.getElem_cons_succ]
     refine wpAny_take (i := 7) (v := ?_) rfl (by kernel_rfl) (by kernel_rfl) (by kernel_rfl) (fun _ _ _ h => h) (Or.inl ⟨by rfl, ?_⟩) ?_
     rotate_left
     · intro w
       go_simp
       with_reducible rfl
     simp only [Act.put, List.setIfInBounds_toArray, List.set_cons_zero, List.set_cons_succ, List.getElem_toArray, List.getElem_cons_zero, List.getElem_cons_succ]
     refine wpAny_of_E (C := Dk.SlotsCells [(3, .pointer (some ⟨w.heap.size, 0, none⟩)), (44, .pointer (some ⟨w.heap.size, 3, none⟩)), (47, .pointer (some ⟨w.heap.size, 1, none⟩)), (51, .pointer (some ⟨w.heap.size, 2, none⟩))] [(⟨w.heap.size, 3, none⟩, .int .i64 t1), (⟨w.heap.size, 1, none⟩, .int .i64 e1), (⟨w.heap.size, 2, none⟩, .int .i64 q1)]) (late := [12, 14, 16, 18]) _ _ _ _ ?_
     refine wpAnyE_take (i := 1) (v := .int .i64 t1) rfl (by kernel_rfl) (by kernel_rfl) (by kernel_rfl) (by kernel_rfl) (by kernel_rfl) (by kernel_rfl) (fun _ _ _ h => h) ?_ (fun fr u h => (Dk.SlotsCells.put 45 _ (by rfl)).1 h) (fun fr u h => (Dk.SlotsCells.put 45 _ (by rfl)).2 h) ?_ ?_
     · intro fr u hh
       obtain ⟨e1, e2⟩ := hh.load (s := 44) (p := ⟨w.heap.size, 3, none⟩) (v := .int .i64 t1) (by simp) (by simp)
       exact ⟨rfl, by simp [execOp, e1, go_sem, e2]⟩
     · exact ⟨fun p hp => by simp at hp; rcases hp with rfl | rfl | rfl | rfl <;> rfl, HCS.out⟩
     simp only [Act.put, List.setIfInBounds_toArray, List.set_cons_zero, List.set_cons_succ, List.getElem_toArray, List.getElem_cons_zero, List.getElem_cons_succ]
     refine wpAnyE_take (i := 4) (v := .int .i64 e1) rfl (by kernel_rfl) (by kernel_rfl) (by kernel_rfl) (by kernel_rfl) (by kernel_rfl) (by kernel_rfl) (fun _ _ _ h => h) ?_ (fun fr u h => (Dk.SlotsCells.put 48 _ (by rfl)).1 h) (fun fr u h => (Dk.SlotsCells.put 48 _ (by rfl)).2 h) ?_ ?_
     · intro fr u hh
       obtain ⟨e1, e2⟩ := hh.load (s := 47) (p := ⟨w.heap.size, 1, none⟩) (v := .int .i64 e1) (by simp) (by simp)
       exact ⟨rfl, by simp [execOp, e1, go_sem, e2]⟩
     · exact ⟨fun p hp => by simp at hp; rcases hp with rfl | rfl | rfl | rfl <;> rfl, HCS.out⟩
     simp only [Act.put, List.setIfInBounds_toArray, List.set_cons_zero, List.set_cons_succ, List.getElem_toArray, List.getElem_cons_zero, List.getElem_cons_succ]
     refine wpAnyE_take (i := 8) (v := .int .i64 q1) rfl (by kernel_rfl) (by kernel_rfl) (by kernel_rfl) (by kernel_rfl) (by kernel_rfl) (by kernel_rfl) (fun _ _ _ h => h) ?_ (fun fr u h => (Dk.SlotsCells.put 52 _ (by rfl)).1 h) (fun fr u h => (Dk.SlotsCells.put 52 _ (by rfl)).2 h) ?_ ?_
     · intro fr u hh
       obtain ⟨e1, e2⟩ := hh.load (s := 51) (p := ⟨w.heap.size, 2, none⟩) (v := .int .i64 q1) (by simp) (by simp)
       exact ⟨rfl, by simp [execOp, e1, go_sem, e2]⟩
     · exact ⟨fun p hp => by simp at hp; rcases hp with rfl | rfl | rfl | rfl <;> rfl, HCS.out⟩
     simp only [Act.put, List.setIfInBounds_toArray, List.set_cons_zero, List.set_cons_succ, List.getElem_toArray, List.getElem_cons_zero, List.getElem_cons_succ]
     refine wpAnyE_pure (i := 11) (v := ?_) rfl (by kernel_rfl) (by kernel_rfl) (by kernel_rfl) (by kernel_rfl) (fun _ _ _ h => h) (fun fr u h => (Dk.SlotsCells.put 55 _ (by rfl)).1 h) (fun fr u h => (Dk.SlotsCells.put 55 _ (by rfl)).2 h) (.inr ⟨fun p hp => by simp at hp; rcases hp with rfl | rfl | rfl | rfl <;> rfl, HCS.out⟩) (Or.inl ⟨by rfl, ?_⟩) ?_
     rotate_left
     · intro w
       go_simp
       with_reducible rfl
     simp only [Act.put, List.setIfInBounds_toArray, List.set_cons_zero, List.set_cons_succ, List.getElem_toArray, List.getElem_cons_zero, List.getElem_cons_succ]
     refine wpAnyE_some (rs := [2]) (by kernel_rfl) (by simp) (fun i hi => ?_)
     simp only [List.mem_cons, List.not_mem_nil, or_false] at hi
     subst hi
     refine wpOp_step rfl (fun K hK => ?_)
     go_simp
     refine Calls.mono (p1 _) ?_
     rintro r W0 ⟨rfl, rfl⟩
     refine hK _ _ ⟨.inr (.inr ⟨fun p hp => by simp at hp; rcases hp with rfl | rfl | rfl | rfl <;> rfl, HCS.out⟩), ?_⟩
     clear hK K
     refine wpAnyE_some (rs := [5]) (by kernel_rfl) (by simp) (fun i hi => ?_)
     simp only [List.mem_cons, List.not_mem_nil, or_false] at hi
     subst hi
     refine wpOp_step rfl (fun K hK => ?_)
     go_simp
     refine Calls.mono (p2 _) ?_
     rintro r W0 ⟨rfl, rfl⟩
     refine hK _ _ ⟨.inr (.inr ⟨fun p hp => by simp at hp; rcases hp with rfl | rfl | rfl | rfl <;> rfl, HCS.out⟩), ?_⟩
     clear hK K
     refine wpAnyE_pure (i := 6) (v := ?_) rfl (by kernel_rfl) (by kernel_rfl) (by kernel_rfl) (by kernel_rfl) (fun _ _ _ h => h) (fun fr u h => (Dk.SlotsCells.put 50 _ (by rfl)).1 h) (fun fr u h => (Dk.SlotsCells.put 50 _ (by rfl)).2 h) (.inr ⟨fun p hp => by simp at hp; rcases hp with rfl | rfl | rfl | rfl <;> rfl, HCS.out⟩) (Or.inl ⟨by rfl, ?_⟩) ?_
     rotate_left
     · intro w
       go_simp
       with_reducible rfl
     simp only [Act.put, List.setIfInBounds_toArray, List.set_cons_zero, List.set_cons_succ, List.getElem_toArray, List.getElem_cons_zero, List.getElem_cons_succ]
     refine wpAnyE_some (rs := [9]) (by kernel_rfl) (by simp) (fun i hi => ?_)
     simp only [List.mem_cons, List.not_mem_nil, or_false] at hi
     subst hi
     refine wpOp_step rfl (fun K hK => ?_)
     go_simp
     refine Calls.mono (p3 _) ?_
     rintro r W0 ⟨rfl, rfl⟩
     refine hK _ _ ⟨.inr (.inr ⟨fun p hp => by simp at hp; rcases hp with rfl | rfl | rfl | rfl <;> rfl, HCS.out⟩), ?_⟩
     clear hK K
     refine wpAnyE_pure (i := 10) (v := ?_) rfl (by kernel_rfl) (by kernel_rfl) (by kernel_rfl) (by kernel_rfl) (fun _ _ _ h => h) (fun fr u h => (Dk.SlotsCells.put 54 _ (by rfl)).1 h) (fun fr u h => (Dk.SlotsCells.put 54 _ (by rfl)).2 h) (.inr ⟨fun p hp => by simp at hp; rcases hp with rfl | rfl | rfl | rfl <;> rfl, HCS.out⟩) (Or.inl ⟨by rfl, ?_⟩) ?_
     rotate_left
     · intro w
       go_simp
       with_reducible rfl
     simp only [Act.put, List.setIfInBounds_toArray, List.set_cons_zero, List.set_cons_succ, List.getElem_toArray, List.getElem_cons_zero, List.getElem_cons_succ]
     refine wpAnyE_some (rs := [12]) (by kernel_rfl) (by simp) (fun i hi => ?_)
     simp only [List.mem_cons, List.not_mem_nil, or_false] at hi
     subst hi
     refine wpOp_step rfl (fun K hK => ?_)
     go_simp
     refine hK _ _ ⟨.inr (.inl (by rfl)), ?_⟩
     clear hK K
     refine wpAnyE_pure (i := 13) (v := ?_) rfl (by kernel_rfl) (by kernel_rfl) (by kernel_rfl) (by kernel_rfl) (fun _ _ _ h => h) (fun fr u h => (Dk.SlotsCells.put 56 _ (by rfl)).1 h) (fun fr u h => (Dk.SlotsCells.put 56 _ (by rfl)).2 h) (.inl (by rfl)) (Or.inl ⟨by rfl, ?_⟩) ?_
     rotate_left
     · intro w
       go_simp
       with_reducible rfl
     simp only [Act.put, List.setIfInBounds_toArray, List.set_cons_zero, List.set_cons_succ, List.getElem_toArray, List.getElem_cons_zero, List.getElem_cons_succ]
     refine wpAnyE_some (rs := [14]) (by kernel_rfl) (by simp) (fun i hi => ?_)
     simp only [List.mem_cons, List.not_mem_nil, or_false] at hi
     subst hi
     refine wpOp_step rfl (fun K hK => ?_)
     go_simp
     refine hK _ _ ⟨.inl (by rfl), ?_⟩
     clear hK K
     refine wpAnyE_pure (i := 15) (v := ?_) rfl (by kernel_rfl) (by kernel_rfl) (by kernel_rfl) (by kernel_rfl) (fun _ _ _ h => h) (fun fr u h => (Dk.SlotsCells.put 57 _ (by rfl)).1 h) (fun fr u h => (Dk.SlotsCells.put 57 _ (by rfl)).2 h) (.inl (by rfl)) (Or.inl ⟨by rfl, ?_⟩) ?_
     rotate_left
     · intro w
       go_simp
       with_reducible rfl
     simp only [Act.put, List.setIfInBounds_toArray, List.set_cons_zero, List.set_cons_succ, List.getElem_toArray, List.getElem_cons_zero, List.getElem_cons_succ]
     refine wpAnyE_some (rs := [16]) (by kernel_rfl) (by simp) (fun i hi => ?_)
     simp only [List.mem_cons, List.not_mem_nil, or_false] at hi
     subst hi
     refine wpOp_step rfl (fun K hK => ?_)
     go_simp
     refine hK _ _ ⟨.inl (by rfl), ?_⟩
     clear hK K
     refine wpAnyE_pure (i := 17) (v := ?_) rfl (by kernel_rfl) (by kernel_rfl) (by kernel_rfl) (by kernel_rfl) (fun _ _ _ h => h) (fun fr u h => (Dk.SlotsCells.put 58 _ (by rfl)).1 h) (fun fr u h => (Dk.SlotsCells.put 58 _ (by rfl)).2 h) (.inl (by rfl)) (Or.inl ⟨by rfl, ?_⟩) ?_
     rotate_left
     · intro w
       go_simp
       with_reducible rfl
     simp only [Act.put, List.setIfInBounds_toArray, List.set_cons_zero, List.set_cons_succ, List.getElem_toArray, List.getElem_cons_zero, List.getElem_cons_succ]
     refine wpAnyE_some (rs := [18]) (by kernel_rfl) (by simp) (fun i hi => ?_)
     simp only [List.mem_cons, List.not_mem_nil, or_false] at hi
     subst hi
     refine wpOp_step rfl (fun K hK => ?_)
     go_simp
     refine hK _ _ ⟨.inl (by rfl), ?_⟩
     clear hK K
     refine wpAnyE_done (by kernel_rfl) ?_ _
     go_wp2_with fail
     go_meet
     case rel =>
       rw [HeE.out, HeQ.out]
       exact HEnd.out
   case rest =>
     obtain ⟨hDB, hBx2⟩ := hcut
     clear y0 y1 y2 y3 f0 f1 f2 f3 HY HCS p1 p2 p3 HD HBx HAl hz1 HL HR HB hk18
     have HDB : Hid (DB w dg wc) := hDB
     have HBx : Hid (Box wc w.heap.size #[.int .i64 64, .int .i64 (1 + (E : Int)), .int .i64 (1 + (Q : Int)), .int .i64 (T : Int)] 44) := hBx2
     have HS : Hid (∀ u, Below wc.heap.size wc u → u.cell? ⟨w.heap.size, 0, none⟩ = some (.int .i64 64) ∧ u.cell? ⟨w.heap.size, 1, none⟩ = some (.int .i64 (1 + (E : Int))) ∧ u.cell? ⟨w.heap.size, 2, none⟩ = some (.int .i64 (1 + (Q : Int))) ∧ u.cell? ⟨w.heap.size, 3, none⟩ = some (.int .i64 (T : Int))) := fun u bu => by
       have y := HBx.out.below bu
       have y0 := y.cell 0
       have y1 := y.cell 1
       have y2 := y.cell 2
       have y3 := y.cell 3
       simp at y0 y1 y2 y3
       exact ⟨y0, y1, y2, y3⟩
     clear hDB hBx2
     have B0 : Below wc.heap.size wc wc.drew := (Below.refl _ _).drew
     have cL := layout64_at wc.drew
     have cG : Hid (∀ u, Below wc.heap.size wc u → Calls Try.prog 12 #[.pointer (some ⟨dg, 0, none⟩), .agg lay, .agg #[.int .i64 64, .int .i64 (1 + (E : Int)), .int .i64 (1 + (Q : Int)), .int .i64 (T : Int)]] u (AnyR u T E Q)) := fun u bu => (HDB.out.below bu).groups T E Q iT iE iQ
     unfold lay at cL cG
     go_upto_region 11 with fail
     go_region_held3 (fun u => u.cell? ⟨w.heap.size, 0, none⟩ = some (.int .i64 64) ∧ u.cell? ⟨w.heap.size, 1, none⟩ = some (.int .i64 (1 + (E : Int))) ∧ u.cell? ⟨w.heap.size, 2, none⟩ = some (.int .i64 (1 + (Q : Int))) ∧ u.cell? ⟨w.heap.size, 3, none⟩ = some (.int .i64 (T : Int)))
       (first | with_reducible exact HS.out _ B0 | with_reducible exact HS.out _ B1 | with_reducible exact HS.out _ B2)
       (first
         | (go_at_call 13; refine Calls.mono cL ?_; rintro r W1 ⟨rfl, hw1⟩; have B1 : Below wc.heap.size wc W1 := B0.trans (hw1.mono B0.size))
         | (go_at_call 12; refine Calls.mono (cG.out _ B1) ?_; rintro r W2 ⟨xs, a, c, rfl, ht, hl, hj, ho, hw2⟩; have B2 : Below wc.heap.size wc W2 := B1.trans (hw2.mono B1.size)))
     clear cL cG hw1 B1 hw2 B0
     have HO : Hid (W2.ownsRow W1.heap.size 52 3 (.slice a xs.length c) xs.length (gsC (1 + E) xs)) := ho
     have HJ : Hid (∀ j (h : j < xs.length), xs[j].s = 1 + Q + j ∧ xs[j].m ≤ 32) := hj
     have HTk : Hid (∀ k, tot (xs.take k) ≤ tot xs) := tot_take_le xs
     obtain ⟨n, hn⟩ : ∃ n, n = xs.length := ⟨_, rfl⟩
     rw [← hn] at hl ⊢
     have HN : Hid (n = xs.length) := hn
     obtain ⟨tt, htt⟩ : ∃ tt, tt = tot xs := ⟨_, rfl⟩
     rw [← htt] at ht ⊢
     have HTT : Hid (tt = tot xs) := htt
     clear hn ho hj htt
     go_wp2_with fail
     go_loopw [13, 14] (fun v i u => ∃ (k s : Nat), k ≤ n ∧ s = tot (xs.take k) ∧ v = .int .i64 (s : Int) ∧ i = .int .i64 (k : Int) ∧ Below W2.heap.size W2 u) (fun _ i _ => n - (intOf i).toNat)
     case atStart => exact ⟨0, 0, Nat.zero_le _, rfl, rfl, rfl, Below.refl _ _⟩
     case round =>
       obtain ⟨i, s, hk, hs, rfl, rfl, Bu⟩ := hrel
       have hs2 : s ≤ 16 := by have := HTk.out i; have := HTT.out; omega
       have HSS : Hid (s = tot (xs.take i)) := hs
       clear hs
       have B3 : Below wc.heap.size wc wr := B2.trans (Bu.mono B2.size)
       obtain ⟨y0, y1, y2, y3⟩ := HS.out _ B3
       by_cases hlt : i < n
       · have hkx : i < xs.length := by rw [← HN.out]; exact hlt
         obtain ⟨g2, rfl, _, _, hc⟩ := Rc.owns_cells HO.out (by omega)
         obtain ⟨k0, k1, k2⟩ := gsC_at (1 + E) xs i hkx
         obtain ⟨j1, j2⟩ := HJ.out i hkx
         have hst := tot_take xs i hkx
         rw [← hc _ (by omega)] at k0 k1 k2
         rw [j1] at k1
         generalize (xs[i]'hkx) = X at k2 j2 hst
         obtain ⟨xb, xs', m, xa, xc, xps⟩ := X
         dsimp only at k2 j2 hst
         rw [← HSS.out] at hst
         have l1 : g2 < W2.heap.size := block_lt_of_cell k0
         rw [← Bu.cell (p := ⟨g2, i * 3, none⟩) l1] at k0
         rw [← Bu.cell (p := ⟨g2, i * 3 + 1, none⟩) l1] at k1
         rw [← Bu.cell (p := ⟨g2, i * 3 + 2, none⟩) l1] at k2
         push_cast at k0 k1
         have HST : Hid (tot (xs.take (i + 1)) = s + m + 1) := hst
         clear hst hc j1 hkx
         go_upto_region 17 with fail
         go_quiet (fail)
         rename_i nq
         have B4 : Below W2.heap.size W2 (wr.drewN nq) := J.below_drewN Bu nq
         go_wp2_with fail
         go_roundw
         case rel => exact ⟨i + 1, s + m + 1, by omega, HST.out.symm, by push_cast; rfl, by push_cast; rfl, B4⟩
         case measure => simp [intOf]; omega
       · have hin : i = n := by omega
         have htk : xs.take i = xs := List.take_of_length_le (by rw [← HN.out]; omega)
         have hst : s = tt := by rw [HSS.out, htk, HTT.out]
         have cA := awake_at wr
         clear htk
         have B5 : Below w.heap.size w wr := by
           obtain ⟨_, _, _, _, _, _, h6⟩ := HDB.out
           exact h6.trans (B3.mono h6.size)
         subst hst hin
         have hmod : Int.tmod ((T : Int) + (s : Int)) 16 = ((T : Int) + (s : Int)) % 16 := Int.tmod_eq_emod_of_nonneg (by omega)
         go_wp2_with fail
         refine Calls.mono cA ?_
         rintro r u9 ⟨rfl, b9⟩
         go_wp2_with fail
         go_ret
         exact ⟨rfl, B5.trans (b9.mono B5.size)⟩
end Go.Proofs.Ytkhejjddmbegaaa.S
