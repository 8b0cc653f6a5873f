/-
  SLate, STw, SArgs: put together.
-/
import Derived.Test.YtkhejjddmbegaaaGreatG12
import Derived.Deep.RegionHeld3
import Derived.Deep.CutBlock
import Derived.BigQuiet
import Derived.ProofKit
import Derived.OpenShut
import Derived.ChangeOld
import Derived.Below
import Derived.Deep.Slices
import Derived.Deep.Strs
import Derived.Deep.Grids
/-
  Loads are taken first in a region that draws, though later operations, which wait for them, write into the cells that were loaded.
-/
namespace Go.Proofs.YtkhejjddmbegaaaGreat.S
open Go.Proofs.YtkhejjddmbegaaaGreat.Dk (Gives waits standIn standIn_apart standIn_yields)

section
variable {P : Program} {ops : Array Oper} {Q : Exit → Act → World → Prop} {md : Region.Mode} {C : Act → World → Prop} {late : List Nat}

/-- one of the late ones has come up -/
def anyLate (late : List Nat) (listed : Array Bool) : Bool := late.any fun j => listed.getD j false
/-- Whatever order the draw gives: it ends in Q, and every step stays in the class as long as no late one has come up. -/
def wpAnyE (P : Program) (md : Region.Mode) (ops : Array Oper) (Q : Exit → Act → World → Prop) (C : Act → World → Prop) (late : List Nat) : Nat → Array Bool → Act → World → Prop
  | 0, listed, a, w => Region.ready md ops listed = [] ∧ Q .normal a w
  | fuel + 1, listed, a, w => (Region.ready md ops listed = [] → Q .normal a w) ∧
    ∀ i ∈ Region.ready md ops listed, wpOp P ops Q i (fun a' w' => (anyLate late listed = true ∨ late.contains i = true ∨ C a' w') ∧ wpAnyE P md ops Q C late fuel (listed.setIfInBounds i true) a' w') a w

theorem wpAny_of_E : ∀ (fuel : Nat) (listed : Array Bool) (a : Act) (w : World), wpAnyE P md ops Q C late fuel listed a w → wpAny P md ops Q fuel listed a w
  | 0, _, _, _, h => h
  | fuel + 1, _, _, _, h => ⟨h.1, fun i hi => wpOp_mono (fun a' w' h' => wpAny_of_E fuel _ a' w' h'.2) (h.2 i hi)⟩

theorem anyLate_set {listed : Array Bool} {j : Nat} (h : anyLate late listed = false) (hj : late.contains j = false) : anyLate late (listed.setIfInBounds j true) = false := by
  unfold anyLate at h ⊢
  rw [List.any_eq_false] at h ⊢
  intro k hk
  have hkj : j ≠ k := fun e => by
    subst e
    rw [List.contains_eq_mem, decide_eq_false_iff_not] at hj
    exact hj hk
  rw [getD_set_ne false hkj]
  exact h k hk

theorem wpAnyE_first {i : Nat} {oi : Oper} {v : Value} (hi : ops[i]? = some oi) (hs : Region.noSelect ops = true) (hl : waits md ops late i = true) (hli : late.contains i = false)
    (hQ : ∀ c a w, Q (.panic c) (a.put oi.dst v) w → Q (.panic c) a w) (hg : Gives P ops C oi v) (hdn : ∀ a w, C (a.put oi.dst v) w → C a w) (hup : ∀ a w, C a w → C (a.put oi.dst v) w) :
    ∀ (fuel : Nat) (listed : Array Bool) (a : Act) (w : World), anyLate late listed = false →
      (∀ j oj, ops[j]? = some oj → j ≠ i → listed.getD j true = false → (∀ e ∈ oj.after, Region.binds md e = true → e.on ≠ i) → oi.apart ops oj = true) →
      i ∈ Region.ready md ops listed → C a w →
      wpAnyE P md ops Q C late fuel (listed.setIfInBounds i true) (a.put oi.dst v) w → wpAnyE P md ops Q C late (fuel + 1) listed a w
  | fuel, listed, a, w, hn, hfree, hr, hc, H => by
    refine ⟨fun h => (by rw [h] at hr; cases hr), fun j hj => ?_⟩
    by_cases hji : j = i
    · subst hji
      exact hg.wpOp hi hc ⟨.inr (.inr (hup a w hc)), H⟩
    · have hm := ready_mono hj hji
      cases fuel with
      | zero =>
        rw [H.1] at hm
        cases hm
      | succ fuel =>
        obtain ⟨hjun, oj, hoj, hall⟩ := mem_ready.1 hj
        have hnot : ∀ e ∈ oj.after, Region.binds md e = true → e.on ≠ i := fun e he hb heq => by
          have h1 := hall e he hb
          have h0 := (mem_ready.1 hr).1
          rw [heq] at h1
          rcases Nat.lt_or_ge i listed.size with h' | h'
          · simp [h'] at h0 h1; rw [h0] at h1; cases h1
          · simp [Array.getElem?_eq_none h'] at h1
        have hnl : ¬ late.contains j = true := fun hc => by
          have h1 := (List.all_eq_true.1 hl) j (by simpa using hc)
          rw [hoj] at h1
          simp only [Array.any_eq_true, Bool.and_eq_true, beq_iff_eq] at h1
          obtain ⟨k, hk, hb, he⟩ := h1
          exact hnot _ (Array.getElem_mem hk) hb he
        have h2 := wpOp_put (oi := standIn oi v) (v := v) hoj (standIn_apart (hfree j oj hoj hji hjun hnot)) (fun cs b h => by cases h) (fun cs b => Region.noSelect_spec hs j oj cs b hoj) hQ (standIn_yields oi v a) (H.2 j hm)
        have hfree' : ∀ k ok, ops[k]? = some ok → k ≠ i → (listed.setIfInBounds j true).getD k true = false →
            (∀ e ∈ ok.after, Region.binds md e = true → e.on ≠ i) → oi.apart ops ok = true := fun k ok hk hki hun hno => by
          refine hfree k ok hk hki ?_ hno
          by_cases hjk : j = k
          · subst hjk; exact hjun
          · rw [getD_set_ne true hjk] at hun; exact hun
        have hnj : late.contains j = false := by simpa using hnl
        refine wpOp_mono (fun a' w' h3 => ?_) h2
        have hc' := hdn a' w' ((h3.2.1.resolve_left (by rw [anyLate_set hn hli]; decide)).resolve_left hnl)
        refine ⟨.inr (.inr hc'), wpAnyE_first hi hs hl hli hQ hg hdn hup fuel (listed.setIfInBounds j true) a' w' (anyLate_set hn hnj) hfree' (ready_mono hr (Ne.symm hji)) hc' ?_⟩
        rw [Array.setIfInBounds_comm _ _ hji]
        exact h3.2.2

/-- A load is taken first. -/
theorem wpAnyE_take {i : Nat} {oi : Oper} {v : Value} {fuel : Nat} {listed : Array Bool} {a : Act} {w : World} (hi : ops[i]? = some oi) (hs : Region.noSelect ops = true) (hl : waits md ops late i = true) (hli : late.contains i = false) (hn : anyLate late listed = false)
    (hf : Region.free md ops listed i = true) (hr : (Region.ready md ops listed).contains i = true)
    (hQ : ∀ c a w, Q (.panic c) (a.put oi.dst v) w → Q (.panic c) a w) (hg : Gives P ops C oi v) (hdn : ∀ a w, C (a.put oi.dst v) w → C a w) (hup : ∀ a w, C a w → C (a.put oi.dst v) w)
    (hc : C a w) (h : wpAnyE P md ops Q C late fuel (listed.setIfInBounds i true) (a.put oi.dst v) w) : wpAnyE P md ops Q C late (fuel + 1) listed a w :=
  wpAnyE_first hi hs hl hli hQ hg hdn hup fuel listed a w hn (Region.free_spec hi hf) (by simpa using hr) hc h

theorem anyLate_eq {listed : Array Bool} {j : Nat} (hj : late.contains j = false) : anyLate late (listed.setIfInBounds j true) = anyLate late listed := by
  unfold anyLate
  rw [Bool.eq_iff_iff, List.any_eq_true, List.any_eq_true]
  have hne : ∀ k, k ∈ late → j ≠ k := fun k hk e => by
    subst e
    rw [List.contains_eq_mem, decide_eq_false_iff_not] at hj
    exact hj hk
  constructor
  · rintro ⟨k, hk, h⟩
    rw [getD_set_ne false (hne k hk)] at h
    exact ⟨k, hk, h⟩
  · rintro ⟨k, hk, h⟩
    exact ⟨k, hk, by rw [getD_set_ne false (hne k hk)]; exact h⟩
theorem anyLate_mono {listed : Array Bool} {j : Nat} (h : anyLate late listed = true) : anyLate late (listed.setIfInBounds j true) = true := by
  unfold anyLate at *
  rw [List.any_eq_true] at *
  obtain ⟨k, hk, h1⟩ := h
  exact ⟨k, hk, getD_set_true h1⟩
theorem anyLate_new {listed : Array Bool} {j : Nat} (h : late.contains j = true) (hj : listed.getD j true = false) : anyLate late (listed.setIfInBounds j true) = true := by
  unfold anyLate
  rw [List.any_eq_true]
  refine ⟨j, by simpa using h, ?_⟩
  have hlt : j < listed.size := by
    rcases Nat.lt_or_ge j listed.size with h' | h'
    · exact h'
    · simp [Array.getElem?_eq_none h'] at hj
  simp [hlt]

theorem wpAnyE_pureFirst {i : Nat} {oi : Oper} {v : Value} (hi : ops[i]? = some oi) (hs : Region.noSelect ops = true) (hli : late.contains i = false)
    (hQ : ∀ c a w, Q (.panic c) (a.put oi.dst v) w → Q (.panic c) a w) (hdn : ∀ a w, C (a.put oi.dst v) w → C a w) (hup : ∀ a w, C a w → C (a.put oi.dst v) w) :
    ∀ (fuel : Nat) (listed : Array Bool) (a : Act) (w : World), (anyLate late listed = true ∨ C a w) →
      (∀ j oj, ops[j]? = some oj → j ≠ i → listed.getD j true = false → (∀ e ∈ oj.after, Region.binds md e = true → e.on ≠ i) → oi.apart ops oj = true) →
      i ∈ Region.ready md ops listed → Yields P ops oi v a →
      wpAnyE P md ops Q C late fuel (listed.setIfInBounds i true) (a.put oi.dst v) w → wpAnyE P md ops Q C late (fuel + 1) listed a w
  | fuel, listed, a, w, hI, hfree, hr, hy, H => by
    have hsel := Region.noSelect_spec hs
    refine ⟨fun h => (by rw [h] at hr; cases hr), fun j hj => ?_⟩
    by_cases hji : j = i
    · subst hji
      refine hy.wpOp hi ⟨?_, H⟩
      rcases hI with h | h
      · exact .inl h
      · exact .inr (.inr (hup a w h))
    · have hm := ready_mono hj hji
      cases fuel with
      | zero =>
        rw [H.1] at hm
        cases hm
      | succ fuel =>
        obtain ⟨hjun, oj, hoj, hall⟩ := mem_ready.1 hj
        have hnot : ∀ e ∈ oj.after, Region.binds md e = true → e.on ≠ i := fun e he hb heq => by
          have h1 := hall e he hb
          have h0 := (mem_ready.1 hr).1
          rw [heq] at h1
          rcases Nat.lt_or_ge i listed.size with h' | h'
          · simp [h'] at h0 h1; rw [h0] at h1; cases h1
          · simp [Array.getElem?_eq_none h'] at h1
        have h2 := wpOp_put hoj (hfree j oj hoj hji hjun hnot) (fun cs b => hsel i oi cs b hi) (fun cs b => hsel j oj cs b hoj) hQ hy (H.2 j hm)
        have hfree' : ∀ k ok, ops[k]? = some ok → k ≠ i → (listed.setIfInBounds j true).getD k true = false →
            (∀ e ∈ ok.after, Region.binds md e = true → e.on ≠ i) → oi.apart ops ok = true := fun k ok hk hki hun hno => by
          refine hfree k ok hk hki ?_ hno
          by_cases hjk : j = k
          · subst hjk; exact hjun
          · rw [getD_set_ne true hjk] at hun; exact hun
        refine wpOp_mono (fun a' w' h3 => ?_) h2
        have hob : anyLate late listed = true ∨ late.contains j = true ∨ C a' w' := by
          rcases h3.2.1 with h | h | h
          · rw [anyLate_eq hli] at h; exact .inl h
          · exact .inr (.inl h)
          · exact .inr (.inr (hdn a' w' h))
        have hI' : anyLate late (listed.setIfInBounds j true) = true ∨ C a' w' := by
          rcases hob with h | h | h
          · exact .inl (anyLate_mono h)
          · exact .inl (anyLate_new h hjun)
          · exact .inr h
        refine ⟨hob, wpAnyE_pureFirst hi hs hli hQ hdn hup fuel (listed.setIfInBounds j true) a' w' hI' hfree' (ready_mono hr (Ne.symm hji)) h3.1 ?_⟩
        rw [Array.setIfInBounds_comm _ _ hji]
        exact h3.2.2
/-- An operation that asks the world nothing is taken first. -/
theorem wpAnyE_pure {i : Nat} {oi : Oper} {v : Value} {fuel : Nat} {listed : Array Bool} {a : Act} {w : World} (hi : ops[i]? = some oi) (hs : Region.noSelect ops = true) (hli : late.contains i = false)
    (hf : Region.free md ops listed i = true) (hr : (Region.ready md ops listed).contains i = true)
    (hQ : ∀ c a w, Q (.panic c) (a.put oi.dst v) w → Q (.panic c) a w) (hdn : ∀ a w, C (a.put oi.dst v) w → C a w) (hup : ∀ a w, C a w → C (a.put oi.dst v) w)
    (hI : anyLate late listed = true ∨ C a w) (hy : Yields P ops oi v a) (h : wpAnyE P md ops Q C late fuel (listed.setIfInBounds i true) (a.put oi.dst v) w) : wpAnyE P md ops Q C late (fuel + 1) listed a w :=
  wpAnyE_pureFirst hi hs hli hQ hdn hup fuel listed a w hI (Region.free_spec hi hf) (by simpa using hr) hy h

/-- These may come up. -/
theorem wpAnyE_some {rs : List Nat} {fuel : Nat} {listed : Array Bool} {a : Act} {w : World} (hr : Region.ready md ops listed = rs) (h0 : rs ≠ [])
    (h : ∀ i ∈ rs, wpOp P ops Q i (fun a' w' => (anyLate late listed = true ∨ late.contains i = true ∨ C a' w') ∧ wpAnyE P md ops Q C late fuel (listed.setIfInBounds i true) a' w') a w) :
    wpAnyE P md ops Q C late (fuel + 1) listed a w := ⟨fun e => absurd (hr.symm.trans e) h0, fun i hi => h i (hr ▸ hi)⟩
theorem wpAnyE_done {listed : Array Bool} {a : Act} {w : World} (hr : Region.ready md ops listed = []) (h : Q .normal a w) : ∀ fuel, wpAnyE P md ops Q C late fuel listed a w
  | 0 => ⟨hr, h⟩
  | _ + 1 => ⟨fun _ => h, by rw [hr]; simp⟩
end
end Go.Proofs.YtkhejjddmbegaaaGreat.S

/-
  Whatever a disk's bytes are, its groups are told as the document defines: the law's walk.
-/
namespace Go.Proofs.YtkhejjddmbegaaaGreat.S
open Go.RowKit
open Go.Proofs.YtkhejjddmbegaaaGreat.Dk (Box RdI)
open Go.Proofs.YtkhejjddmbegaaaGreat.J (pk pk_in pick_eq)

/-- the law's disk while it is written -/
def DA (w1 : World) (dg k : Nat) (u : World) : Prop := ∃ D F, Dk.IsDisk u dg D F ∧ (∀ i, F i → w1.heap.size ≤ i) ∧ D.nb = 64 ∧ J.Calm D ∧ D.uf.length ≤ k ∧ D.n ≤ k ∧ Below w1.heap.size w1 u
theorem DA.below {w1 u u' : World} {dg k : Nat} (h : DA w1 dg k u) (b : Below u.heap.size u u') : DA w1 dg k u' := by
  obtain ⟨D, F, hd, h1, h2, h3, h4, h5, h6⟩ := h
  obtain ⟨gd, cd, vu, ps, hl⟩ := hd
  exact ⟨D, F, ⟨gd, cd, vu, ps, hl.kept (fun i hi => b.block i (hl.flt i hi)) b.size⟩, h1, h2, h3, h4, h5, h6.trans (b.mono h6.size)⟩
theorem DA.bel {w1 u : World} {dg k : Nat} (h : DA w1 dg k u) : Below w1.heap.size w1 u := by
  obtain ⟨_, _, _, _, _, _, _, _, h6⟩ := h
  exact h6
theorem write_calm {D : Dk.DS} (hc : J.Calm D) (n : Nat) (hn : n < D.nb) (b : List UInt8) (hb : b.length = 4096) : D.write (n : Int) b = { D with uf := D.uf ++ [(n, b)], n := D.n + 1 } ∧ D.writeE (n : Int) b = 0 := by
  have hh : D.has (n : Int) = true := by simp [Dk.DS.has]; omega
  unfold Dk.DS.write Dk.DS.writeE
  rw [hh, hc.operE, hc.oper]
  simp [hb]
/-- one more block is written, from memory that is new -/
theorem DA.write {w1 u0 u : World} {dg k : Nat} (h : DA w1 dg k u0) (b : Below u0.heap.size u0 u) (hk : k ≤ 1000) (n g cap : Nat) (hn : n < 64) (xs : List UInt8) (hb : xs.length = 4096) (hr : Dk.Rd u (some ⟨g, 0, none⟩) xs) (hB : u0.heap.size ≤ g) :
    Calls Tryz.prog 10 #[.pointer (some ⟨dg, 0, none⟩), .int .i64 (n : Int), .slice (some ⟨g, 0, none⟩) 4096 cap] u fun e u' => e = .returned (.int .i64 0) ∧ DA w1 dg (k + 1) u' := by
  obtain ⟨D, F, ⟨gd, cd, vu, ps, hl⟩, h1, h2, h3, h4, h5, h6⟩ := h
  have hd : Dk.IsDisk u dg D F := ⟨gd, cd, vu, ps, hl.kept (fun i hi => b.block i (hl.flt i hi)) b.size⟩
  have B := h6.trans (b.mono h6.size)
  obtain ⟨e1, e2⟩ := write_calm h3 n (by omega) xs hb
  refine (Dk.write_at hd (n : Int) (some ⟨g, 0, none⟩) 4096 cap xs hb ⟨by omega, by omega⟩ hr (fun ad e => ?_)).mono ?_
  · cases e
    exact fun hf => by have h7 := hl.flt g hf; omega
  rintro r u' ⟨rfl, ⟨F', hd', hF'⟩, hu⟩
  rw [e1] at hd'
  rw [e2]
  refine ⟨rfl, _, F', hd', fun i hi => ?_, h2, h3, by simp; omega, by show D.n + 1 ≤ k + 1; omega, B.trans (hu.below h1 B.size)⟩
  rcases hF' i hi with h | h
  · exact h1 i h
  · have := B.size
    omega


theorem xor_byte (y : UInt8) (X : Int) : ∃ v : UInt8, bits .xor .u8 (y.toNat : Int) (IntKind.u8.wrap X) = (v.toNat : Int) := by
  have h0 : 0 ≤ IntKind.u8.wrap X ∧ IntKind.u8.wrap X < 256 := by
    unfold IntKind.wrap
    simp [IntKind.bits, IntKind.signed]
    omega
  obtain ⟨m, hm⟩ : ∃ m : Nat, IntKind.u8.wrap X = (m : Int) := ⟨(IntKind.u8.wrap X).toNat, by omega⟩
  have hy : y.toNat < 256 := y.toNat_lt
  rw [hm, Rc.xor_u8 y.toNat m hy (by omega)]
  have hx : y.toNat ^^^ m < 2 ^ 8 := Nat.xor_lt_two_pow hy (by omega)
  refine ⟨UInt8.ofNat (y.toNat ^^^ m), ?_⟩
  rw [UInt8.toNat_ofNat_of_lt' (by simpa using hx)]
set_option maxRecDepth 100000 in
set_option maxHeartbeats 4000000 in
theorem tells_walk (w : World) (z0 z1 : Int) (a2 : Option Addr) (n2 c2 : Nat) (x2 : List Int) (a3 : Option Addr) (n3 c3 : Nat) (x3 : List Int) (b4 e4 q4 t4 : Int) (hl2 : x2.length = n2) (hr2 : RdI w a2 x2) (hl3 : x3.length = n3) (hr3 : RdI w a3 x3) :
    Calls Tryz.prog 4 #[.int .i64 z0, .int .i64 z1, .slice a2 n2 c2, .slice a3 n3 c3, .agg #[.int .i64 b4, .int .i64 e4, .int .i64 q4, .int .i64 t4]] w fun r w' => r = .returned (.bool true) ∧ Below w.heap.size w w' := by
  have HL3 : Hid (x3.length = n3) := hl3
  have HR3 : Hid (RdI w a3 x3) := hr3
  have i0 := pk_in z0 5 (by decide)
  have i1 := pk_in z1 16 (by decide)
  obtain ⟨E0, hE0⟩ : ∃ E0 : Nat, (E0 : Int) = pk z0 5 := ⟨(pk z0 5).toNat, by omega⟩
  obtain ⟨T0, hT0⟩ : ∃ T0 : Nat, (T0 : Int) = pk z1 16 := ⟨(pk z1 16).toNat, by omega⟩
  have p0 := fun u => pick_eq z0 5 5 u rfl (by decide) (by decide)
  have p1 := fun u => pick_eq z1 16 16 u rfl (by decide) (by decide)
  rw [← hE0] at p0 i0
  rw [← hT0] at p1 i1
  have iE : E0 < 5 := by omega
  have iT : T0 < 16 := by omega
  clear hE0 hT0 i0 i1
  have al := (Below.refl w.heap.size w).alloc (Nat.le_refl _) (.cells #[.int .i64 b4, .int .i64 e4, .int .i64 q4, .int .i64 t4] 33)
  have bx := Dk.Box.new w #[.int .i64 b4, .int .i64 e4, .int .i64 q4, .int .i64 t4] 33
  obtain ⟨w1, hw1⟩ : ∃ w1, w1 = w.alloc (.cells #[.int .i64 b4, .int .i64 e4, .int .i64 q4, .int .i64 t4] 33) := ⟨_, rfl⟩
  rw [← hw1] at al bx
  have cW := written_at w1 (1 + E0) T0 a2 n2 c2 x2 hl2 (hr2.below al (Nat.le_refl _)) (by omega) iT
  rw [show (((1 + E0 : Nat)) : Int) = 1 + (E0 : Int) by push_cast; rfl] at cW
  have HO9 : Hid (Ok9 (st9 (1 + E0) T0 x2 (min n2 12)) (min n2 12)) := ok9 _ _ _ _ (by omega)
  have HBx : Hid (Box w1 w.heap.size #[.int .i64 b4, .int .i64 e4, .int .i64 q4, .int .i64 t4] 33) := bx
  have HAl : Hid (Below w.heap.size w w1) := al
  clear hl2 hr2 hl3 hr3 al bx
  go_enter Tryz.func4, Tryz.ntmps4
  go_wp2_with fail
  rw [← hw1]
  clear hw1
  refine Calls.mono (p0 _) ?_
  rintro r u ⟨rfl, rfl⟩
  go_wp2_with fail
  refine Calls.mono (p1 _) ?_
  rintro r u ⟨rfl, rfl⟩
  go_wp2_with fail
  refine Calls.mono cW ?_
  rintro r u0 ⟨g, dg, v, qs, rfl, hS⟩
  have hD0 : DA w1 dg 100 u0 := by
    obtain ⟨F, hd, hF⟩ := hS.disk
    obtain ⟨h1, h2, h3, h4, _⟩ := HO9.out
    exact ⟨_, F, hd, hF, h2, h1, by omega, by omega, hS.bel⟩
  obtain ⟨av, cv, rfl⟩ := Rc.owns_shape hS.row
  clear cW hS p0 p1
  go_upto_block 0 with fail
  go_cut [] from 41 to 89 (fun u => DA w1 dg 110 u)
  case first =>
   as_aux_lemma =>
   go_wp2_with fail
   go_loopw [14] (fun i u => ∃ (k : Nat), k ≤ n3 ∧ k ≤ 10 ∧ i = .int .i64 (k : Int) ∧ DA w1 dg (100 + k) u) (fun i _ => 10 - (intOf i).toNat)
   case atStart => exact ⟨0, Nat.zero_le _, by decide, rfl, hD0⟩
   case round =>
    obtain ⟨k, hk, hk10, rfl, hD⟩ := hrel
    by_cases hlt : k < n3 ∧ k < 10
    · obtain ⟨hkn, hk2⟩ := hlt
      have hkl : k < x3.length := by rw [HL3.out]; exact hkn
      obtain ⟨b, o, rfl, hc⟩ := HR3.out (by omega)
      have hck := hc k hkl
      generalize (x3[k]'hkl) = z at hck
      have Bw : Below w.heap.size w wr := HAl.out.trans (hD.bel.mono HAl.out.size)
      have hlb := block_lt_of_cell hck
      have HC3 : Hid (∀ u, Below w.heap.size w u → u.cell? ⟨b, o + k, none⟩ = some (.int .i64 z)) := fun u bu => (bu.cell (p := ⟨b, o + k, none⟩) hlb).trans hck
      have hcw := HC3.out wr Bw
      have HD : Hid (DA w1 dg (100 + k) wr) := hD
      have i5 := pk_in z 65536 (by decide)
      obtain ⟨P, hP⟩ : ∃ P : Nat, (P : Int) = pk z 65536 := ⟨(pk z 65536).toNat, by omega⟩
      have p5 := fun u => pick_eq z 65536 65536 u rfl (by decide) (by decide)
      rw [← hP] at p5 i5
      have iP : P < 65536 := by omega
      obtain ⟨Q, hQ⟩ : ∃ Q, Q = P / 4096 := ⟨_, rfl⟩
      obtain ⟨J, hJ⟩ : ∃ J, J = P % 4096 := ⟨_, rfl⟩
      have iQ : Q < 16 := by omega
      have iJ : J < 4096 := by omega
      have eq1 : (P : Int).tdiv 4096 = (Q : Int) := by rw [Int.tdiv_eq_ediv_of_nonneg (by omega), hQ]; push_cast; rfl
      have eq2 : (P : Int).tmod 4096 = (J : Int) := by rw [Int.tmod_eq_emod_of_nonneg (by omega), hJ]; push_cast; rfl
      have cR : ∃ D : Dk.DS, D.nb = 64 ∧ Calls Tryz.prog 9 #[.pointer (some ⟨dg, 0, none⟩), .int .i64 (2 + (Q : Int))] wr fun e w' => ∃ gr cr, e = .returned (.tuple #[.slice (some ⟨gr, 0, none⟩) 4096 cr, .int .i64 0]) ∧ wr.heap.size ≤ gr ∧ Dk.RowB w' gr cr (D.stand (2 + Q)) ∧ (D.stand (2 + Q)).length = 4096 ∧ Below wr.heap.size wr w' := by
        obtain ⟨D, F, hd, h1, h2, h3, h4, h5, h6⟩ := HD.out
        have c := Dk.read_at hd (2 + Q) (by omega) h3.1 (by omega)
        rw [show (((2 + Q : Nat)) : Int) = 2 + (Q : Int) by push_cast; rfl] at c
        have hok : D.Ok := by obtain ⟨_, _, _, _, hl⟩ := hd; exact hl.ok
        exact ⟨D, h2, c.mono (fun e w' ⟨gr, cr, a, b, c, d⟩ => ⟨gr, cr, a, b, c, Dk.stand_length hok _ (by omega), d⟩)⟩
      obtain ⟨D, _, cR⟩ := cR
      generalize D.stand (2 + Q) = Y at cR
      clear hc hck hkl hP hQ hJ i5 hD
      go_wp2_with fail
      refine Calls.mono (p5 _) ?_
      rintro r u1 ⟨rfl, rfl⟩
      clear p5
      go_wp2_with fail
      refine Calls.mono cR ?_
      rintro r u2 ⟨gr, cr, rfl, hgr, hrow, hY, b2⟩
      have hj : J < Y.length := by omega
      have hcb : u2.cell? ⟨gr, J, none⟩ = some (.int .u8 (Y[J].toNat : Int)) ∧ u2.frozen? ⟨gr, J, none⟩ = false := Rc.RowB.cellAt hrow hj
      obtain ⟨hcb, hfb⟩ := hcb
      have hct : u2.cell? ⟨b, o + k, none⟩ = some (.int .i64 z) := HC3.out u2 (Bw.trans (b2.mono Bw.size))
      have HRow : Hid (Dk.RowB u2 gr cr Y) := hrow
      have HY : Hid (Y.length = 4096 ∧ J < Y.length) := ⟨hY, hj⟩
      have hcr : 4096 ≤ cr ∧ cr ≤ maxLen := by
        obtain ⟨cur, _, h1, h2, _⟩ := HRow.out
        omega
      obtain ⟨hcr1, hcr2⟩ := hcr
      unfold maxLen at hcr2
      generalize Y[J]'hj = y at hcb
      have HCS : Hid (∀ q ∈ [((⟨gr, J, none⟩ : Addr), Value.int .u8 (y.toNat : Int)), (⟨b, o + k, none⟩, .int .i64 z)], u2.drew.cell? q.1 = some q.2) := fun q hq => by
        simp at hq
        rcases hq with rfl | rfl
        · exact hcb
        · exact hct
      obtain ⟨v, hv⟩ := xor_byte y (IntKind.i64.wrap (1 + bits .and .i64 z 127))
      have iJ2 : (J : Int) < 4096 := by omega
      clear cR hrow hY hj
      go_upto_region 11 with fail
      · skip
        refine wp_region_any (by kernel_rfl) ?_
        change wpAny _ _ _ _ _ _ _ (World.drew _)
        refine wpAny_take (i := 0) (v := ?_) rfl (by kernel_rfl) (by kernel_rfl) (by kernel_rfl) (fun _ _ _ h => h) (Or.inl ⟨by rfl, ?_⟩) ?_
        rotate_left
        · intro w
          go_simp
          with_reducible rfl
        simp only [Act.put, List.setIfInBounds_toArray, List.set_cons_zero, List.set_cons_succ, List.getElem_toArray, List.getElem_cons_zero]
        refine wpAny_take (i := 1) (v := ?_) rfl (by kernel_rfl) (by kernel_rfl) (by kernel_rfl) (fun _ _ _ h => h) (Or.inl ⟨by rfl, ?_⟩) ?_
        rotate_left
        · intro w
          go_simp
          with_reducible rfl
        simp only [Act.put, List.setIfInBounds_toArray, List.set_cons_zero, List.set_cons_succ, List.getElem_toArray, List.getElem_cons_zero, List.getElem_cons_succ]
        refine wpAny_take (i := 2) (v := ?_) rfl (by kernel_rfl) (by kernel_rfl) (by kernel_rfl) (fun _ _ _ h => h) (Or.inl ⟨by rfl, ?_⟩) ?_
        rotate_left
        · intro w
          go_simp
          with_reducible rfl
        simp only [Act.put, List.setIfInBounds_toArray, List.set_cons_zero, List.set_cons_succ, List.getElem_toArray, List.getElem_cons_zero, List.getElem_cons_succ]
        refine wpAny_take (i := 3) (v := ?_) rfl (by kernel_rfl) (by kernel_rfl) (by kernel_rfl) (fun _ _ _ h => h) (Or.inl ⟨by rfl, ?_⟩) ?_
        rotate_left
        · intro w
          go_simp
          with_reducible rfl
        simp only [Act.put, List.setIfInBounds_toArray, List.set_cons_zero, List.set_cons_succ, List.getElem_toArray, List.getElem_cons_zero, List.getElem_cons_succ]
        refine wpAny_take (i := 4) (v := ?_) rfl (by kernel_rfl) (by kernel_rfl) (by kernel_rfl) (fun _ _ _ h => h) (Or.inl ⟨by rfl, ?_⟩) ?_
        rotate_left
        · intro w
          go_simp
          with_reducible rfl
        simp only [Act.put, List.setIfInBounds_toArray, List.set_cons_zero, List.set_cons_succ, List.getElem_toArray, List.getElem_cons_zero, List.getElem_cons_succ]
        refine wpAny_take (i := 5) (v := ?_) rfl (by kernel_rfl) (by kernel_rfl) (by kernel_rfl) (fun _ _ _ h => h) (Or.inl ⟨by rfl, ?_⟩) ?_
        rotate_left
        · intro w
          go_simp
          with_reducible rfl
        simp only [Act.put, List.setIfInBounds_toArray, List.set_cons_zero, List.set_cons_succ, List.getElem_toArray, List.getElem_cons_zero, List.getElem_cons_succ]
        refine wpAny_take (i := 6) (v := ?_) rfl (by kernel_rfl) (by kernel_rfl) (by kernel_rfl) (fun _ _ _ h => h) (Or.inl ⟨by rfl, ?_⟩) ?_
        rotate_left
        · intro w
          go_simp
          with_reducible rfl
        simp only [Act.put, List.setIfInBounds_toArray, List.set_cons_zero, List.set_cons_succ, List.getElem_toArray, List.getElem_cons_zero, List.getElem_cons_succ]
        refine wpAny_take (i := 8) (v := ?_) rfl (by kernel_rfl) (by kernel_rfl) (by kernel_rfl) (fun _ _ _ h => h) (Or.inl ⟨by rfl, ?_⟩) ?_
        rotate_left
        · intro w
          go_simp
          with_reducible rfl
        simp only [Act.put, List.setIfInBounds_toArray, List.set_cons_zero, List.set_cons_succ, List.getElem_toArray, List.getElem_cons_zero, List.getElem_cons_succ]
        refine wpAny_take (i := 9) (v := ?_) rfl (by kernel_rfl) (by kernel_rfl) (by kernel_rfl) (fun _ _ _ h => h) (Or.inl ⟨by rfl, ?_⟩) ?_
        rotate_left
        · intro w
          go_simp
          with_reducible rfl
        simp only [Act.put, List.setIfInBounds_toArray, List.set_cons_zero, List.set_cons_succ, List.getElem_toArray, List.getElem_cons_zero, List.getElem_cons_succ]
        refine wpAny_take (i := 10) (v := ?_) rfl (by kernel_rfl) (by kernel_rfl) (by kernel_rfl) (fun _ _ _ h => h) (Or.inl ⟨by rfl, ?_⟩) ?_
        rotate_left
        · intro w
          go_simp
          with_reducible rfl
        simp only [Act.put, List.setIfInBounds_toArray, List.set_cons_zero, List.set_cons_succ, List.getElem_toArray, List.getElem_cons_zero, List.getElem_cons_succ]
        refine wpAny_of_E (C := Dk.SlotsCells [(73, .pointer (some ⟨gr, J, none⟩)), (77, .pointer (some ⟨b, o + k, none⟩))] [(⟨gr, J, none⟩, .int .u8 (y.toNat : Int)), (⟨b, o + k, none⟩, .int .i64 z)]) (late := [17]) _ _ _ _ ?_
        refine wpAnyE_take (i := 7) (v := .int .u8 (y.toNat : Int)) rfl (by kernel_rfl) (by kernel_rfl) (by kernel_rfl) (by kernel_rfl) (by kernel_rfl) (by kernel_rfl) (fun _ _ _ h => h) ?_ (fun fr u h => (Dk.SlotsCells.put 74 _ (by rfl)).1 h) (fun fr u h => (Dk.SlotsCells.put 74 _ (by rfl)).2 h) ?_ ?_
        · intro fr u hh
          obtain ⟨e1, e2⟩ := hh.load (s := 73) (p := ⟨gr, J, none⟩) (v := .int .u8 (y.toNat : Int)) (by simp) (by simp)
          exact ⟨rfl, by simp [execOp, e1, go_sem, e2]⟩
        · exact ⟨fun p hp => by simp at hp; rcases hp with rfl | rfl <;> rfl, HCS.out⟩
        simp only [Act.put, List.setIfInBounds_toArray, List.set_cons_zero, List.set_cons_succ, List.getElem_toArray, List.getElem_cons_zero, List.getElem_cons_succ]
        refine wpAnyE_take (i := 11) (v := .int .i64 z) rfl (by kernel_rfl) (by kernel_rfl) (by kernel_rfl) (by kernel_rfl) (by kernel_rfl) (by kernel_rfl) (fun _ _ _ h => h) ?_ (fun fr u h => (Dk.SlotsCells.put 78 _ (by rfl)).1 h) (fun fr u h => (Dk.SlotsCells.put 78 _ (by rfl)).2 h) ?_ ?_
        · intro fr u hh
          obtain ⟨e1, e2⟩ := hh.load (s := 77) (p := ⟨b, o + k, none⟩) (v := .int .i64 z) (by simp) (by simp)
          exact ⟨rfl, by simp [execOp, e1, go_sem, e2]⟩
        · exact ⟨fun p hp => by simp at hp; rcases hp with rfl | rfl <;> rfl, HCS.out⟩
        simp only [Act.put, List.setIfInBounds_toArray, List.set_cons_zero, List.set_cons_succ, List.getElem_toArray, List.getElem_cons_zero, List.getElem_cons_succ]
        refine wpAnyE_pure (i := 12) (v := ?_) rfl (by kernel_rfl) (by kernel_rfl) (by kernel_rfl) (by kernel_rfl) (fun _ _ _ h => h) (fun fr u h => (Dk.SlotsCells.put 79 _ (by rfl)).1 h) (fun fr u h => (Dk.SlotsCells.put 79 _ (by rfl)).2 h) (.inr ⟨fun p hp => by simp at hp; rcases hp with rfl | rfl <;> rfl, HCS.out⟩) (Or.inl ⟨by rfl, ?_⟩) ?_
        rotate_left
        · intro w
          go_simp
          with_reducible rfl
        simp only [Act.put, List.setIfInBounds_toArray, List.set_cons_zero, List.set_cons_succ, List.getElem_toArray, List.getElem_cons_zero, List.getElem_cons_succ]
        refine wpAnyE_pure (i := 13) (v := ?_) rfl (by kernel_rfl) (by kernel_rfl) (by kernel_rfl) (by kernel_rfl) (fun _ _ _ h => h) (fun fr u h => (Dk.SlotsCells.put 80 _ (by rfl)).1 h) (fun fr u h => (Dk.SlotsCells.put 80 _ (by rfl)).2 h) (.inr ⟨fun p hp => by simp at hp; rcases hp with rfl | rfl <;> rfl, HCS.out⟩) (Or.inl ⟨by rfl, ?_⟩) ?_
        rotate_left
        · intro w
          go_simp
          with_reducible rfl
        simp only [Act.put, List.setIfInBounds_toArray, List.set_cons_zero, List.set_cons_succ, List.getElem_toArray, List.getElem_cons_zero, List.getElem_cons_succ]
        refine wpAnyE_pure (i := 14) (v := ?_) rfl (by kernel_rfl) (by kernel_rfl) (by kernel_rfl) (by kernel_rfl) (fun _ _ _ h => h) (fun fr u h => (Dk.SlotsCells.put 81 _ (by rfl)).1 h) (fun fr u h => (Dk.SlotsCells.put 81 _ (by rfl)).2 h) (.inr ⟨fun p hp => by simp at hp; rcases hp with rfl | rfl <;> rfl, HCS.out⟩) (Or.inl ⟨by rfl, ?_⟩) ?_
        rotate_left
        · intro w
          go_simp
          with_reducible rfl
        simp only [Act.put, List.setIfInBounds_toArray, List.set_cons_zero, List.set_cons_succ, List.getElem_toArray, List.getElem_cons_zero, List.getElem_cons_succ]
        refine wpAnyE_pure (i := 15) (v := ?_) rfl (by kernel_rfl) (by kernel_rfl) (by kernel_rfl) (by kernel_rfl) (fun _ _ _ h => h) (fun fr u h => (Dk.SlotsCells.put 82 _ (by rfl)).1 h) (fun fr u h => (Dk.SlotsCells.put 82 _ (by rfl)).2 h) (.inr ⟨fun p hp => by simp at hp; rcases hp with rfl | rfl <;> rfl, HCS.out⟩) (Or.inl ⟨by rfl, ?_⟩) ?_
        rotate_left
        · intro w
          go_simp
          with_reducible rfl
        simp only [Act.put, List.setIfInBounds_toArray, List.set_cons_zero, List.set_cons_succ, List.getElem_toArray, List.getElem_cons_zero, List.getElem_cons_succ]
        refine wpAnyE_pure (i := 16) (v := ?_) rfl (by kernel_rfl) (by kernel_rfl) (by kernel_rfl) (by kernel_rfl) (fun _ _ _ h => h) (fun fr u h => (Dk.SlotsCells.put 83 _ (by rfl)).1 h) (fun fr u h => (Dk.SlotsCells.put 83 _ (by rfl)).2 h) (.inr ⟨fun p hp => by simp at hp; rcases hp with rfl | rfl <;> rfl, HCS.out⟩) (Or.inl ⟨by rfl, ?_⟩) ?_
        rotate_left
        · intro w
          go_simp
          with_reducible rfl
        simp only [Act.put, List.setIfInBounds_toArray, List.set_cons_zero, List.set_cons_succ, List.getElem_toArray, List.getElem_cons_zero, List.getElem_cons_succ]
        refine wpAnyE_some (rs := [17]) (by kernel_rfl) (by simp) (fun i hi => ?_)
        simp only [List.mem_cons, List.not_mem_nil, or_false] at hi
        subst hi
        refine wpOp_step rfl (fun K hK => ?_)
        go_simp
        refine hK _ _ ⟨.inr (.inl (by rfl)), ?_⟩
        clear hK K
        refine wpAnyE_done (by kernel_rfl) ?_ _
        have hrow2 : Dk.RowB ((u2.setCell ⟨gr, J, none⟩ (.int .u8 (v.toNat : Int))).drew) gr cr (Y.set J v) := Rc.RowB.byte (w := u2) HRow.out J HY.out.2 v
        have b3 : Below wr.heap.size wr ((u2.setCell ⟨gr, J, none⟩ (.int .u8 (v.toNat : Int))).drew) := (b2.setCell (p := ⟨gr, J, none⟩) hgr _).drew
        have cWr := HD.out.write b3 (by omega) (2 + Q) gr cr (by omega) (Y.set J v) (by rw [List.length_set]; exact HY.out.1) hrow2.rd hgr
        rw [show (((2 + Q : Nat)) : Int) = 2 + (Q : Int) by push_cast; rfl] at cWr
        clear hrow2 hcb hct hfb
        go_wp2_with fail
        refine Calls.mono cWr ?_
        rintro r u3 ⟨rfl, hD3⟩
        have hD4 : DA w1 dg (100 + (k + 1)) u3 := hD3
        go_wp2_with fail
        go_roundw
        case rel => exact ⟨k + 1, by omega, by omega, by push_cast; rfl, hD4⟩
        case measure => simp [intOf]; omega
    · have hor : (k < n3 ∧ ¬ k < 10) ∨ ¬ k < n3 := by omega
      have hE : DA w1 dg 110 wr := by
        obtain ⟨D, F, h0, h1, h2, h3, h4, h5, h6⟩ := hD
        exact ⟨D, F, h0, h1, h2, h3, by omega, by omega, h6⟩
      rcases hor with ⟨hkn, hk2⟩ | hkn
      · go_wp2_with fail
        go_meet
        case rel => exact hE
      · go_wp2_with fail
        go_meet
        case rel => exact hE
  case rest =>
   clear hD0
   obtain ⟨D, F, hd, h1, h2, h3, h4, h5, h6⟩ := hcut
   have hok : D.Ok := by obtain ⟨_, _, _, _, hl⟩ := hd; exact hl.ok
   have HSt : Hid (∀ i, i < 16 → D.stand (2 + i) = (Dk.DS.new 64 D.image).stand (2 + i)) := fun i hi => (Dk.stand_blk D hok (2 + i) (by omega)).symm
   have hil : D.image.length = 64 * 4096 := by rw [Dk.image_len D hok, h2]
   have HokN : Hid ((Dk.DS.new 64 D.image).Ok) := Dk.DS.Ok.new hil (by decide) (by decide)
   have cI := Dk.image_at hd
   rw [h2] at cI
   have HIL : Hid (D.image.length = 64 * 4096) := hil
   have HIm : Hid (∀ u, Below wc.heap.size wc u → Dk.IsDisk u dg D F) := fun u bu => by
     obtain ⟨gd, cd, vu, ps, hl⟩ := hd
     exact ⟨gd, cd, vu, ps, hl.kept (fun i hi => bu.block i (hl.flt i hi)) bu.size⟩
   have HB : Hid (Below w.heap.size w wc) := HAl.out.trans (h6.mono HAl.out.size)
   have HSup : Hid (∀ u, Below wc.heap.size wc u → Box u w.heap.size #[.int .i64 b4, .int .i64 e4, .int .i64 q4, .int .i64 t4] 33) := fun u bu => (HBx.out.below h6).below bu
   have HD5 : Hid (D.nb = 64 ∧ D.gone = false ∧ D.uf.length ≤ 1000000) := ⟨h2, h3.1, by omega⟩
   clear hd h1 h2 h3 h4 h5 h6 hok hil HBx HAl HR3 HL3 HO9
   obtain ⟨IM, hIM⟩ : ∃ IM, IM = D.image := ⟨_, rfl⟩
   rw [← hIM] at cI HSt HokN HIL
   have HIMe : Hid (IM = D.image) := hIM
   have HILL : Hid (IM.length = 64 * 4096) := HIL.out
   clear hIM
   go_wp2_with fail
   refine Calls.mono cI ?_
   rintro r u1 ⟨gi, ci, rfl, hgi, hrow, b1⟩
   have hci : 64 * 4096 ≤ ci ∧ ci ≤ maxLen := by
     have hr := hrow
     obtain ⟨cur, _, q1, q2, _⟩ := hr
     rw [HIL.out] at q1
     exact ⟨q1, q2⟩
   have cLd := Dk.rload_at 64 (some ⟨gi, 0, none⟩) ci IM u1 (fun _ => True) (fun _ _ => trivial) (by decide) (by decide) HIL.out hci.1 hci.2 hrow.rd
   have HRow : Hid (∀ u, Below u1.heap.size u1 u → Dk.Rd u (some ⟨gi, 0, none⟩) IM) := fun u bu => hrow.rd.below bu (Nat.le_refl _)
   clear cI hrow hci
   go_wp2_with fail
   refine Calls.mono cLd ?_
   rintro r u2 ⟨gL, cL, rfl, hCR, b2⟩
   have B2 : Below wc.heap.size wc u2 := b1.trans (b2.mono b1.size)
   have hRD : Dk.RD u2 (fun _ => True) (some ⟨gL, 0, none⟩) none 64 cL 0 0 (Dk.DS.new 64 IM) := by
     refine ⟨hCR.safe (Dk.safeOf_length _) (fun j hj => Dk.safeOf_get _ j hj) (fun _ _ => trivial), ⟨rfl, Nat.le_refl _, by unfold maxLen; omega, fun _ => ⟨rfl, rfl⟩, fun h => by omega⟩, HokN.out⟩
   obtain ⟨W, hW⟩ : ∃ W, W = u2.alloc (.cells #[.slice (some ⟨gL, 0, none⟩) 64 cL, .slice none 0 0, .int .i64 0, .bool false, .int .i64 (-1), .int .i64 (-1)] 54) := ⟨_, rfl⟩
   have bW : Below u2.heap.size u2 W := by rw [hW]; exact (Below.refl _ _).alloc (Nat.le_refl _) _
   have xW : Box W u2.heap.size #[.slice (some ⟨gL, 0, none⟩) 64 cL, .slice none 0 0, .int .i64 0, .bool false, .int .i64 (-1), .int .i64 (-1)] 54 := by rw [hW]; exact Dk.Box.new u2 _ 54
   have BW : Below wc.heap.size wc W := B2.trans (bW.mono B2.size)
   have HSS : Hid (∀ u, Below W.heap.size W u → (u.cell? ⟨w.heap.size, 0, none⟩ = some (.int .i64 b4) ∧ u.cell? ⟨w.heap.size, 1, none⟩ = some (.int .i64 e4) ∧ u.cell? ⟨w.heap.size, 2, none⟩ = some (.int .i64 q4) ∧ u.cell? ⟨w.heap.size, 3, none⟩ = some (.int .i64 t4))) := fun u bu => by
     have y := HSup.out u (BW.trans (bu.mono BW.size))
     have y0 := y.cell 0
     have y1 := y.cell 1
     have y2 := y.cell 2
     have y3 := y.cell 3
     simp at y0 y1 y2 y3
     exact ⟨y0, y1, y2, y3⟩
   have HSD : Hid (∀ u, Below W.heap.size W u → (u.cell? ⟨w.heap.size, 0, none⟩ = some (.int .i64 b4) ∧ u.cell? ⟨w.heap.size, 1, none⟩ = some (.int .i64 e4) ∧ u.cell? ⟨w.heap.size, 2, none⟩ = some (.int .i64 q4) ∧ u.cell? ⟨w.heap.size, 3, none⟩ = some (.int .i64 t4)) ∧ (u.cell? ⟨u2.heap.size, 0, none⟩ = some (.slice (some ⟨gL, 0, none⟩) 64 cL) ∧ u.cell? ⟨u2.heap.size, 1, none⟩ = some (.slice none 0 0) ∧ u.cell? ⟨u2.heap.size, 2, none⟩ = some (.int .i64 0) ∧ u.cell? ⟨u2.heap.size, 3, none⟩ = some (.bool false) ∧ u.cell? ⟨u2.heap.size, 4, none⟩ = some (.int .i64 (-1)) ∧ u.cell? ⟨u2.heap.size, 5, none⟩ = some (.int .i64 (-1)))) := fun u bu => by
     obtain ⟨y0, y1, y2, y3⟩ := HSS.out u bu
     have z := xW.below bu
     have z0 := z.cell 0
     have z1 := z.cell 1
     have z2 := z.cell 2
     have z3 := z.cell 3
     have z4 := z.cell 4
     have z5 := z.cell 5
     simp at z0 z1 z2 z3 z4 z5
     exact ⟨⟨y0, y1, y2, y3⟩, z0, z1, z2, z3, z4, z5⟩
   have HcG : Hid (∀ u, Below W.heap.size W u → Calls Tryz.prog 6 #[.pointer (some ⟨dg, 0, none⟩), .agg #[.int .i64 64, .int .i64 2, .int .i64 16, .int .i64 18, .int .i64 19, .int .i64 4, .int .i64 23], .agg #[.int .i64 b4, .int .i64 e4, .int .i64 q4, .int .i64 t4]] u (Ans u D b4 e4 q4 t4)) := fun u bu => groups_any (HIm.out u (BW.trans (bu.mono BW.size))) HD5.out.1 HD5.out.2.1 HD5.out.2.2 b4 e4 q4 t4
   have HcR : Hid (∀ u, Below W.heap.size W u → Calls Tryz.prog 19 #[.agg #[.slice (some ⟨gL, 0, none⟩) 64 cL, .slice none 0 0, .int .i64 0, .bool false, .int .i64 (-1), .int .i64 (-1)], .agg #[.int .i64 64, .int .i64 2, .int .i64 16, .int .i64 18, .int .i64 19, .int .i64 4, .int .i64 23], .agg #[.int .i64 b4, .int .i64 e4, .int .i64 q4, .int .i64 t4]] u (Ans u (Dk.DS.new 64 IM) b4 e4 q4 t4)) := fun u bu => rgroups_any u _ cL _ ((hRD.below bW).below bu) rfl b4 e4 q4 t4
   have HcI : Hid (∀ u, Below W.heap.size W u → Calls Tryz.prog 17 #[.pointer (some ⟨dg, 0, none⟩)] u fun e w' => ∃ g' c', e = .returned (.slice (some ⟨g', 0, none⟩) (64 * 4096) c') ∧ u.heap.size ≤ g' ∧ Dk.RowB w' g' c' IM ∧ Below u.heap.size u w') := fun u bu => by
     have c := Dk.image_at (HIm.out u (BW.trans (bu.mono BW.size)))
     rw [HD5.out.1, ← HIMe.out] at c
     exact c
   have HRw : Hid (∀ u, Below W.heap.size W u → Dk.Rd u (some ⟨gi, 0, none⟩) IM) := fun u bu => HRow.out u (b2.trans ((bW.trans (bu.mono bW.size)).mono b2.size))
   have HBW : Hid (Below w.heap.size w W) := HB.out.trans (BW.mono HB.out.size)
   clear hCR hRD b1 b2 cLd hgi HRow HIm HB HSup
   go_upto_region 17 with fail
   rw [← hW]
   clear hW bW xW BW B2 HD5
   have L0 : Hid (∀ u, Calls Tryz.prog 7 #[] u fun r w' => r = .returned (.agg #[.int .i64 64, .int .i64 2, .int .i64 16, .int .i64 18, .int .i64 19, .int .i64 4, .int .i64 23]) ∧ Below u.heap.size u w') := fun u => layout64_at u
   have B0 : Below W.heap.size W W.drew := (Below.refl _ _).drew
   go_region_held3 (fun u => (u.cell? ⟨w.heap.size, 0, none⟩ = some (.int .i64 b4) ∧ u.cell? ⟨w.heap.size, 1, none⟩ = some (.int .i64 e4) ∧ u.cell? ⟨w.heap.size, 2, none⟩ = some (.int .i64 q4) ∧ u.cell? ⟨w.heap.size, 3, none⟩ = some (.int .i64 t4)))
     (first | with_reducible exact HSS.out _ B0 | with_reducible exact HSS.out _ B1 | with_reducible exact HSS.out _ B3)
     (first
       | (go_at_call 7; refine Calls.mono (L0.out _) ?_; rintro r V1 ⟨rfl, hv1⟩; have B1 : Below W.heap.size W V1 := B0.trans (hv1.mono B0.size))
       | (go_at_call 6; refine Calls.mono (HcG.out _ B1) ?_; rintro r V2 ⟨gs, a1, c1, at1, e1, rfl, hT1, hM1, hg16, hg32, hv2⟩; have B3 : Below W.heap.size W V2 := B1.trans (hv2.mono B1.size)))
   have HT1 : Hid (Tell D b4 e4 q4 t4 gs at1 e1) := hT1
   have HM1 : Hid (GsM V2 a1 gs) := hM1
   have H32 : Hid (∀ g ∈ gs, g.2.2.length ≤ 32) := hg32
   clear hv1 hv2 hT1 hM1 hg32 B0 B1
   obtain ⟨n, hn⟩ : ∃ n, n = gs.length := ⟨_, rfl⟩
   have HN : Hid (n = gs.length) := hn
   rw [← hn] at hg16 ⊢
   clear hn
   go_upto_region 18 with fail
   have B4 : Below W.heap.size W V2.drew := B3.drew
   go_region_held3 (fun u => (u.cell? ⟨w.heap.size, 0, none⟩ = some (.int .i64 b4) ∧ u.cell? ⟨w.heap.size, 1, none⟩ = some (.int .i64 e4) ∧ u.cell? ⟨w.heap.size, 2, none⟩ = some (.int .i64 q4) ∧ u.cell? ⟨w.heap.size, 3, none⟩ = some (.int .i64 t4)) ∧ (u.cell? ⟨u2.heap.size, 0, none⟩ = some (.slice (some ⟨gL, 0, none⟩) 64 cL) ∧ u.cell? ⟨u2.heap.size, 1, none⟩ = some (.slice none 0 0) ∧ u.cell? ⟨u2.heap.size, 2, none⟩ = some (.int .i64 0) ∧ u.cell? ⟨u2.heap.size, 3, none⟩ = some (.bool false) ∧ u.cell? ⟨u2.heap.size, 4, none⟩ = some (.int .i64 (-1)) ∧ u.cell? ⟨u2.heap.size, 5, none⟩ = some (.int .i64 (-1))))
     (first | with_reducible exact HSD.out _ B4 | with_reducible exact HSD.out _ B5 | with_reducible exact HSD.out _ B6)
     (first
       | (go_at_call 7; refine Calls.mono (L0.out _) ?_; rintro r V3 ⟨rfl, hv3⟩; have B5 : Below W.heap.size W V3 := B4.trans (hv3.mono B4.size))
       | (go_at_call 19; refine Calls.mono (HcR.out _ B5) ?_; rintro r V4 ⟨gs', a2', c2', at2, e2, rfl, hT2, hM2, _, _, hv4⟩; have B6 : Below W.heap.size W V4 := B5.trans (hv4.mono B5.size)))
   obtain ⟨q1, q2, q3⟩ := HT1.out.unique HSt.out hT2
   subst q1 q2 q3
   rw [← HN.out]
   have HM2 : Hid (GsM V4 a2' gs) := hM2
   have HM3 : Hid (GsM V4 a1 gs) := (HM1.out.below ((Below.refl _ _).drew)).below (hv3.trans (hv4.mono hv3.size))
   clear hT2 hM2 hv3 hv4 HT1 HM1 HcG HcR HSS HSD B3 B4 B5 HSt HokN HIL
   go_wp2_with fail
   go_loopw [27] (fun i u => ∃ k : Nat, k ≤ n ∧ i = .int .i64 (k : Int) ∧ Below V4.heap.size V4 u) (fun i _ => n - (intOf i).toNat)
   case atStart => exact ⟨0, Nat.zero_le _, rfl, Below.refl _ _⟩
   case round =>
     obtain ⟨k, hk, rfl, Bu⟩ := hrel
     by_cases hlt : k < n
     · have hkg : k < gs.length := by rw [← HN.out]; exact hlt
       obtain ⟨g1, o1, rfl, hc1⟩ := HM3.out (by omega)
       obtain ⟨g2, o2, rfl, hc2⟩ := HM2.out (by omega)
       obtain ⟨al, cl, x0, x1, x2', xi⟩ := hc1 k hkg
       obtain ⟨am, cm, y0, y1, y2, yi⟩ := hc2 k hkg
       have h32 := H32.out _ (List.getElem_mem hkg)
       generalize (gs[k]'hkg) = G at x0 x1 x2' xi y0 y1 y2 yi h32
       obtain ⟨Ge, Gs, Gi⟩ := G
       dsimp only at x0 x1 x2' xi y0 y1 y2 yi h32
       have l1 := block_lt_of_cell x0
       have l2 := block_lt_of_cell y0
       obtain ⟨m, hm⟩ : ∃ m, m = Gi.length := ⟨_, rfl⟩
       rw [← hm] at x2' y2 h32
       have HS : Hid (∀ u, Below V4.heap.size V4 u → u.cell? ⟨g1, o1 + k * 3, none⟩ = some (.int .i64 Ge) ∧ u.cell? ⟨g1, o1 + k * 3 + 1, none⟩ = some (.int .i64 Gs) ∧ u.cell? ⟨g1, o1 + k * 3 + 2, none⟩ = some (.slice al m cl) ∧ u.cell? ⟨g2, o2 + k * 3, none⟩ = some (.int .i64 Ge) ∧ u.cell? ⟨g2, o2 + k * 3 + 1, none⟩ = some (.int .i64 Gs) ∧ u.cell? ⟨g2, o2 + k * 3 + 2, none⟩ = some (.slice am m cm)) := fun u bu =>
         ⟨(bu.cell (p := ⟨g1, o1 + k * 3, none⟩) l1).trans x0, (bu.cell (p := ⟨g1, o1 + k * 3 + 1, none⟩) l1).trans x1, (bu.cell (p := ⟨g1, o1 + k * 3 + 2, none⟩) l1).trans x2', (bu.cell (p := ⟨g2, o2 + k * 3, none⟩) l2).trans y0, (bu.cell (p := ⟨g2, o2 + k * 3 + 1, none⟩) l2).trans y1, (bu.cell (p := ⟨g2, o2 + k * 3 + 2, none⟩) l2).trans y2⟩
       have cS := Rc.sameGroup_at Ge Gs Ge Gs al am m cl m cm Gi Gi wr.drew hm.symm hm.symm (by omega) (xi.below Bu.drew) (yi.below Bu.drew)
       rw [decide_eq_true ⟨rfl, rfl, rfl⟩] at cS
       clear x0 x1 x2' xi y0 y1 y2 yi l1 l2 hc1 hc2 hm h32 hkg
       have B7 : Below V4.heap.size V4 wr.drew := Bu.drew
       go_upto_region 24 with fail
       go_region_held3 (fun u => u.cell? ⟨g1, o1 + k * 3, none⟩ = some (.int .i64 Ge) ∧ u.cell? ⟨g1, o1 + k * 3 + 1, none⟩ = some (.int .i64 Gs) ∧ u.cell? ⟨g1, o1 + k * 3 + 2, none⟩ = some (.slice al m cl) ∧ u.cell? ⟨g2, o2 + k * 3, none⟩ = some (.int .i64 Ge) ∧ u.cell? ⟨g2, o2 + k * 3 + 1, none⟩ = some (.int .i64 Gs) ∧ u.cell? ⟨g2, o2 + k * 3 + 2, none⟩ = some (.slice am m cm))
         (first | with_reducible exact HS.out _ B7 | with_reducible exact HS.out _ B8)
         (first
           | (go_at_call 20; refine Calls.mono cS ?_; rintro r V5 ⟨rfl, hv5⟩; have B8 : Below V4.heap.size V4 V5 := B7.trans (hv5.mono B7.size)))
       clear cS HS hv5
       go_wp2_with fail
       go_roundw
       case rel => exact ⟨k + 1, by omega, by push_cast; rfl, B8⟩
       case measure => simp [intOf]; omega
     · have hkn : k = n := by omega
       have BWr : Below W.heap.size W wr := B6.trans (Bu.mono B6.size)
       have cI := HcI.out wr BWr
       have hrd := HRw.out
       have HRw2 : Hid (∀ u, Below W.heap.size W u → Dk.Rd u (some ⟨gi, 0, none⟩) IM) := HRw.out
       have HLn : Hid (IM.length = 64 * 4096) := HILL.out
       clear hrd
       subst hkn
       go_wp2_with fail
       refine Calls.mono cI ?_
       rintro r u7 ⟨g', c', rfl, hg', hr7, b7⟩
       have B9 : Below W.heap.size W u7 := BWr.trans (b7.mono BWr.size)
       have cS := Dk.same_at c' ci (64 * 4096) (64 * 4096) (some ⟨g', 0, none⟩) (some ⟨gi, 0, none⟩) IM IM u7 HLn.out HLn.out hr7.rd (HRw2.out u7 B9)
       rw [beq_self_eq_true] at cS
       clear cI hr7
       go_wp2_with fail
       refine Calls.mono cS ?_
       rintro r u8 ⟨rfl, rfl⟩
       have cA := awake_at u7
       clear cS
       go_wp2_with fail
       refine Calls.mono cA ?_
       rintro r u9 ⟨rfl, b9⟩
       have B10 := HBW.out.trans (B9.mono HBW.out.size)
       go_wp2_with fail
       go_ret
       exact ⟨rfl, B10.trans (b9.mono B10.size)⟩
end Go.Proofs.YtkhejjddmbegaaaGreat.S

/-
  What the arguments are, as they come in.
-/
namespace Go.Proofs.YtkhejjddmbegaaaGreat
open Go.ChangeShapes Go.WideShapes Go.ChangeAt Go.RowKit Go.Deep

theorem cells3 : Tryz.prog.cellsOf 3 = 1 := by kernel_rfl
theorem cells33 : Tryz.prog.cellsOf 33 = 4 := by kernel_rfl
theorem list4 {α : Type} {l : List α} (h : l.length = 4) : ∃ a b c d, l = [a, b, c, d] := by
  match l, h with
  | [a, b, c, d], _ => exact ⟨a, b, c, d, rfl⟩
section
variable {H : Type} {enc : TypeId × Value → H} {w : World} {base : Nat} {held : Bool}
theorem open_introw {fuel : Nat} {cs : List Value} {x : DataW H × List MemPlace} (h : DataW.trod enc Tryz.prog w base (fun _ => true) held fuel 37 cs = some x) :
    ∃ (a : Option Addr) (n cap : Nat) (zs : List Int), cs = [.slice a n cap] ∧ zs.length = n ∧ Dk.RdI w a zs ∧ n ≤ 9223372036854775807 := by
  rcases open_ints Tryz.underlying37 Tryz.underlying3 (by kernel_rfl) h with ⟨rfl, _⟩ | ⟨⟨b, o, sp⟩, l, c, zs, rfl, _, hl, hm, hz, _, hcell, hwz⟩
  · exact ⟨none, 0, 0, [], rfl, rfl, fun h => by simp at h, by omega⟩
  · simp only [if_true] at hz
    refine ⟨_, l, c, zs.take l, rfl, by simp; omega, fun hp => ?_, by unfold maxLen at hm; omega⟩
    have h0 := hcell 0 (by simp at hp; omega)
    have hsp : sp = none := by simpa [Addr.add] using World.cell?_spot h0
    subst hsp
    refine ⟨b, o, rfl, fun j hj => ?_⟩
    have hj' : j < zs.length := by simp at hj; omega
    have h := hcell j hj'
    rw [Addr.add_lit] at h
    rw [h]
    simp [List.getD, List.getElem?_eq_getElem hj']

theorem open_super {fuel : Nat} {cs : List Value} {x : DataW H × List MemPlace} (h : DataW.trod enc Tryz.prog w base (fun _ => true) held fuel 33 cs = some x) :
    ∃ b e q t : Int, cs = [.int .i64 b, .int .i64 e, .int .i64 q, .int .i64 t] := by
  obtain ⟨xs, n, _, _, hl, hlen, hf⟩ := DataW.trod_struct Tryz.underlying33 h
  rw [cells33] at hl
  obtain ⟨v0, v1, v2, v3, rfl⟩ := list4 hl
  obtain ⟨y0, y1, y2, y3, rfl⟩ := list4 (show xs.length = 4 from hlen)
  have g0 := hf 0 _ rfl
  have g1 := hf 1 _ rfl
  have g2 := hf 2 _ rfl
  have g3 := hf 3 _ rfl
  simp [cells3] at g0 g1 g2 g3
  obtain ⟨n0, h0, _⟩ := DataW.trod_int Tryz.underlying3 g0
  obtain ⟨n1, h1, _⟩ := DataW.trod_int Tryz.underlying3 g1
  obtain ⟨n2, h2, _⟩ := DataW.trod_int Tryz.underlying3 g2
  obtain ⟨n3, h3, _⟩ := DataW.trod_int Tryz.underlying3 g3
  simp at h0 h1 h2 h3
  subst h0 h1 h2 h3
  exact ⟨n0, n1, n2, n3, rfl⟩

end
end Go.Proofs.YtkhejjddmbegaaaGreat
