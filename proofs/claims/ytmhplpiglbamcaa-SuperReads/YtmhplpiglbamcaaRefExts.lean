/-
  The document's own extents: behind bytes.
-/
import Derived.Test.YtmhplpiglbamcaaRefRight
import Derived.Test.YtmhplpiglbamcaaRefPut
namespace Go.Proofs.Ytmhplpiglbamcaa
open Go.RowKit

/-- The class: these slots hold these values, these cells hold these. -/
def SlotsCells (ps : List (Nat × Value)) (qs : List (Addr × Value)) (a : Act) (u : World) : Prop := (∀ p ∈ ps, a.eval (.tmp p.1) = p.2) ∧ ∀ q ∈ qs, u.cell? q.1 = some q.2
theorem SlotsCells.put {ps : List (Nat × Value)} {qs : List (Addr × Value)} {a : Act} {u : World} (s : Nat) (v : Value) (hs : (ps.all fun p => p.1 != s) = true) :
    SlotsCells ps qs (a.put (some s) v) u ↔ SlotsCells ps qs a u := by
  have e : ∀ p ∈ ps, (a.put (some s) v).eval (.tmp p.1) = a.eval (.tmp p.1) := fun p hp => Act.eval_put (fun d hd => by
    have h1 := (List.all_eq_true.1 hs) p hp
    simp at h1 hd
    subst hd
    intro h
    injection h with h
    exact h1 h)
  constructor
  · rintro ⟨h, hb⟩
    exact ⟨fun p hp => (e p hp).symm.trans (h p hp), hb⟩
  · rintro ⟨h, hb⟩
    exact ⟨fun p hp => (e p hp).trans (h p hp), hb⟩
theorem SlotsCells.load {ps : List (Nat × Value)} {qs : List (Addr × Value)} {a : Act} {u : World} (h : SlotsCells ps qs a u) {s : Nat} {p : Addr} {v : Value} (hp : (s, Value.pointer (some p)) ∈ ps) (hq : (p, v) ∈ qs) :
    a.tmps[s]?.getD undef = .pointer (some p) ∧ u.cell? p = some v := ⟨by have := h.1 _ hp; simpa [Act.eval] using this, h.2 _ hq⟩

theorem owns_weaken {w : World} {B B' n : Nat} {v : Value} {xs : List Value} {e z : Nat} (h : w.ownsRow B e z v n xs) (hB : B' ≤ B) : w.ownsRow B' e z v n xs :=
  ⟨h.1, by
    rcases h.2 with h | ⟨g', cap', cur, h1, h2, h3⟩
    · exact .inl h
    · exact .inr ⟨g', cap', cur, h1, Nat.le_trans hB h2, h3⟩⟩

set_option maxRecDepth 100000 in
set_option maxHeartbeats 2000000 in
theorem refextents_in (B b o cap n m : Nat) (v : Value) (xs : List UInt8) (es : List Ext) (w : World) (hl : es.length = n) (hn : n ≤ 100000) (hm : m ≤ 100000) (hw : ∀ e ∈ es, natE e) (hb : b < w.heap.size)
    (hB : B ≤ w.heap.size) (ho : w.ownsRow B 5 1 v m (bcs xs))
    (hc : ∀ j (h : j < es.length), w.cell? ⟨b, o + j * 3, none⟩ = some (.int .i64 es[j].a) ∧ w.cell? ⟨b, o + j * 3 + 1, none⟩ = some (.int .i64 es[j].s) ∧ w.cell? ⟨b, o + j * 3 + 2, none⟩ = some (.int .i64 es[j].c)) :
    Calls Try.prog 60 #[v, .slice (some ⟨b, o, none⟩) n cap] w fun e w' => ∃ v', e = .returned v' ∧ w'.ownsRow B 5 1 v' (m + n * 6) (bcs (xs ++ extsB es)) ∧ Below w.heap.size w w' := by
  have Hl : Hid _ := hl
  have Hc : Hid _ := hc
  have Hw : Hid _ := hw
  clear hl hc hw
  obtain ⟨a0, c0, rfl, hxl, _⟩ := owns_parts ho
  have Hxl : Hid _ := hxl
  clear hxl
  go_enter Try.func60, Try.ntmps60
  go_wp2_with fail
  go_loopw [0, 5] (fun v i wr => ∃ k : Nat, k ≤ n ∧ i = .int .i64 k ∧ wr.ownsRow B 5 1 v (m + k * 6) (bcs (xs ++ extsB (es.take k))) ∧ Below w.heap.size w wr) (fun _ i _ => n - (intOf i).toNat)
  case atStart => exact ⟨0, Nat.zero_le _, rfl, by simpa [extsB] using ho, Below.refl _ _⟩
  case round =>
    obtain ⟨k, hk, rfl, hown, hbel⟩ := hrel
    clear ho
    by_cases hlt : k < n
    · have hlt' : Hid (k < es.length) := by show _ < _; rw [Hl.out]; exact hlt
      obtain ⟨e, hcc⟩ : ∃ e, e = es[k]'hlt'.out := ⟨_, rfl⟩
      obtain ⟨h0, h1, h2⟩ := Hc.out k hlt'.out
      rw [← hcc] at h0 h1 h2
      have hwe := Hw.out e (by rw [hcc]; exact List.getElem_mem _)
      replace h0 := (hbel.cell (p := ⟨b, _, none⟩) hb).trans h0
      replace h1 := (hbel.cell (p := ⟨b, _, none⟩) hb).trans h1
      replace h2 := (hbel.cell (p := ⟨b, _, none⟩) hb).trans h2
      have Hcc : Hid _ := hcc
      clear hcc
      obtain ⟨ea, eb, ec⟩ := e
      obtain ⟨⟨ha0, ha1⟩, ⟨hb0, hb1⟩, ⟨hc0, hc1⟩⟩ := hwe
      obtain ⟨ea, rfl⟩ := Int.eq_ofNat_of_zero_le ha0
      obtain ⟨eb, rfl⟩ := Int.eq_ofNat_of_zero_le hb0
      obtain ⟨ec, rfl⟩ := Int.eq_ofNat_of_zero_le hc0
      have hbr : b < wr.heap.size := Nat.lt_of_lt_of_le hb hbel.size
      obtain ⟨ak, ck, rfl, hlk, _, _, rk, nk, _⟩ := owns_parts hown
      have Hlk : Hid _ := hlk
      clear hlk hown
      obtain ⟨X0, hX0⟩ : ∃ X, X = xs ++ extsB (es.take k) := ⟨_, rfl⟩
      rw [← hX0] at rk Hlk
      have HX0 : Hid _ := hX0
      clear hX0
      go_wp2_with fail
      refine wp_region_any (by kernel_rfl) ?_
      change wpAny _ _ _ _ _ _ _ (World.drew _)
      refine wpAny_take (i := 0) (v := ?_) rfl (by kernel_rfl) (by kernel_rfl) (by kernel_rfl) (fun _ _ _ h => h) (Or.inl ⟨by rfl, ?_⟩) ?_
      rotate_left
      · intro w
        go_simp
        with_reducible rfl
      refine wpAny_take (i := 1) (v := ?_) rfl (by kernel_rfl) (by kernel_rfl) (by kernel_rfl) (fun _ _ _ h => h) (Or.inl ⟨by rfl, ?_⟩) ?_
      rotate_left
      · intro w
        go_simp
        with_reducible rfl
      refine wpAny_take (i := 2) (v := ?_) rfl (by kernel_rfl) (by kernel_rfl) (by kernel_rfl) (fun _ _ _ h => h) (Or.inl ⟨by rfl, ?_⟩) ?_
      rotate_left
      · intro w
        go_simp
        with_reducible rfl
      refine wpAny_take (i := 3) (v := ?_) rfl (by kernel_rfl) (by kernel_rfl) (by kernel_rfl) (fun _ _ _ h => h) (Or.inl ⟨by rfl, ?_⟩) ?_
      rotate_left
      · intro w
        go_simp
        with_reducible rfl
      refine wpAny_take (i := 4) (v := ?_) rfl (by kernel_rfl) (by kernel_rfl) (by kernel_rfl) (fun _ _ _ h => h) (Or.inl ⟨by rfl, ?_⟩) ?_
      rotate_left
      · intro w
        go_simp
        with_reducible rfl
      refine wpAny_take (i := 7) (v := ?_) rfl (by kernel_rfl) (by kernel_rfl) (by kernel_rfl) (fun _ _ _ h => h) (Or.inl ⟨by rfl, ?_⟩) ?_
      rotate_left
      · intro w
        go_simp
        with_reducible rfl
      refine wpAny_take (i := 8) (v := ?_) rfl (by kernel_rfl) (by kernel_rfl) (by kernel_rfl) (fun _ _ _ h => h) (Or.inl ⟨by rfl, ?_⟩) ?_
      rotate_left
      · intro w
        go_simp
        with_reducible rfl
      refine wpAny_take (i := 9) (v := ?_) rfl (by kernel_rfl) (by kernel_rfl) (by kernel_rfl) (fun _ _ _ h => h) (Or.inl ⟨by rfl, ?_⟩) ?_
      rotate_left
      · intro w
        go_simp
        with_reducible rfl
      refine wpAny_take (i := 10) (v := ?_) rfl (by kernel_rfl) (by kernel_rfl) (by kernel_rfl) (fun _ _ _ h => h) (Or.inl ⟨by rfl, ?_⟩) ?_
      rotate_left
      · intro w
        go_simp
        with_reducible rfl
      refine wpAny_take (i := 13) (v := ?_) rfl (by kernel_rfl) (by kernel_rfl) (by kernel_rfl) (fun _ _ _ h => h) (Or.inl ⟨by rfl, ?_⟩) ?_
      rotate_left
      · intro w
        go_simp
        with_reducible rfl
      refine wpAny_take (i := 14) (v := ?_) rfl (by kernel_rfl) (by kernel_rfl) (by kernel_rfl) (fun _ _ _ h => h) (Or.inl ⟨by rfl, ?_⟩) ?_
      rotate_left
      · intro w
        go_simp
        with_reducible rfl
      refine wpAny_take (i := 15) (v := ?_) rfl (by kernel_rfl) (by kernel_rfl) (by kernel_rfl) (fun _ _ _ h => h) (Or.inl ⟨by rfl, ?_⟩) ?_
      rotate_left
      · intro w
        go_simp
        with_reducible rfl
      refine wpAny_take (i := 16) (v := ?_) rfl (by kernel_rfl) (by kernel_rfl) (by kernel_rfl) (fun _ _ _ h => h) (Or.inl ⟨by rfl, ?_⟩) ?_
      rotate_left
      · intro w
        go_simp
        with_reducible rfl
      simp only [Act.put, List.setIfInBounds_toArray, List.set_cons_zero, List.set_cons_succ, List.getElem_toArray, List.getElem_cons_zero, List.getElem_cons_succ]
      refine wpAny_of_class (C := SlotsCells [(16, .pointer (some ⟨b, o + k * 3, none⟩)), (22, .pointer (some ⟨b, o + k * 3 + 1, none⟩)), (28, .pointer (some ⟨b, o + k * 3 + 2, none⟩))] [(⟨b, o + k * 3, none⟩, .int .i64 ea), (⟨b, o + k * 3 + 1, none⟩, .int .i64 eb), (⟨b, o + k * 3 + 2, none⟩, .int .i64 ec)]) _ _ _ _ ?_
      have hq : ∀ u : World, Below wr.heap.size wr u → ∀ q ∈ ([(⟨b, o + k * 3, none⟩, .int .i64 ea), (⟨b, o + k * 3 + 1, none⟩, .int .i64 eb), (⟨b, o + k * 3 + 2, none⟩, .int .i64 ec)] : List (Addr × Value)), u.cell? q.1 = some q.2 := by
        intro u hu q hq
        simp at hq
        rcases hq with rfl | rfl | rfl
        · exact (hu.cell (p := ⟨b, o + k * 3, none⟩) hbr).trans h0
        · exact (hu.cell (p := ⟨b, o + k * 3 + 1, none⟩) hbr).trans h1
        · exact (hu.cell (p := ⟨b, o + k * 3 + 2, none⟩) hbr).trans h2
      refine wpAnyC_take (i := 5) (v := .int .i64 ea) rfl (by kernel_rfl) (by kernel_rfl) (by kernel_rfl) (fun _ _ _ h => h) ?_ (fun a u h => (SlotsCells.put 17 _ (by rfl)).1 h) (fun a u h => (SlotsCells.put 17 _ (by rfl)).2 h) ?_ ?_
      · intro a u h
        obtain ⟨e1, e2⟩ := h.load (s := 16) (p := ⟨b, o + k * 3, none⟩) (v := .int .i64 ea) (by simp) (by simp)
        exact ⟨rfl, by simp [execOp, e1, go_sem, e2]⟩
      · refine ⟨fun p hp => ?_, hq _ (Below.refl _ _).drew⟩
        simp at hp
        rcases hp with rfl | rfl | rfl <;> rfl
      simp only [Act.put, List.setIfInBounds_toArray, List.set_cons_zero, List.set_cons_succ, List.getElem_toArray, List.getElem_cons_zero, List.getElem_cons_succ]
      refine wpAnyC_take (i := 11) (v := .int .i64 eb) rfl (by kernel_rfl) (by kernel_rfl) (by kernel_rfl) (fun _ _ _ h => h) ?_ (fun a u h => (SlotsCells.put 23 _ (by rfl)).1 h) (fun a u h => (SlotsCells.put 23 _ (by rfl)).2 h) ?_ ?_
      · intro a u h
        obtain ⟨e1, e2⟩ := h.load (s := 22) (p := ⟨b, o + k * 3 + 1, none⟩) (v := .int .i64 eb) (by simp) (by simp)
        exact ⟨rfl, by simp [execOp, e1, go_sem, e2]⟩
      · refine ⟨fun p hp => ?_, hq _ (Below.refl _ _).drew⟩
        simp at hp
        rcases hp with rfl | rfl | rfl <;> rfl
      simp only [Act.put, List.setIfInBounds_toArray, List.set_cons_zero, List.set_cons_succ, List.getElem_toArray, List.getElem_cons_zero, List.getElem_cons_succ]
      refine wpAnyC_take (i := 17) (v := .int .i64 ec) rfl (by kernel_rfl) (by kernel_rfl) (by kernel_rfl) (fun _ _ _ h => h) ?_ (fun a u h => (SlotsCells.put 29 _ (by rfl)).1 h) (fun a u h => (SlotsCells.put 29 _ (by rfl)).2 h) ?_ ?_
      · intro a u h
        obtain ⟨e1, e2⟩ := h.load (s := 28) (p := ⟨b, o + k * 3 + 2, none⟩) (v := .int .i64 ec) (by simp) (by simp)
        exact ⟨rfl, by simp [execOp, e1, go_sem, e2]⟩
      · refine ⟨fun p hp => ?_, hq _ (Below.refl _ _).drew⟩
        simp at hp
        rcases hp with rfl | rfl | rfl <;> rfl
      simp only [Act.put, List.setIfInBounds_toArray, List.set_cons_zero, List.set_cons_succ, List.getElem_toArray, List.getElem_cons_zero, List.getElem_cons_succ]
      obtain ⟨X1, hX1⟩ : ∃ X, X = X0 ++ toBE 2 ea := ⟨_, rfl⟩
      obtain ⟨X2, hX2⟩ : ∃ X, X = X1 ++ toBE 2 eb := ⟨_, rfl⟩
      obtain ⟨X3, hX3⟩ : ∃ X, X = X2 ++ toBE 2 ec := ⟨_, rfl⟩
      have N1 : Hid (X1.length = m + k * 6 + 2) := by rw [hX1, List.length_append, toBE_length, Hlk.out]; exact rfl
      have N2 : Hid (X2.length = m + k * 6 + 2 + 2) := by rw [hX2, List.length_append, toBE_length, N1.out]; exact rfl
      have hfin : Hid (xs ++ extsB (es.take (k + 1)) = X3) := by
        show _ = _
        rw [extsB_succ es k hlt'.out, ← Hcc.out, hX3, hX2, hX1, HX0.out]
        simp [extB]
      have U1 : Hid _ := hX1
      have U2 : Hid _ := hX2
      have U3 : Hid _ := hX3
      clear hX1 hX2 hX3 h0 h1 h2
      have rk' : Rd wr.drew ak X0 := rk
      have BV : Below wr.heap.size wr wr.drew := (Below.refl _ _).drew
      clear rk
      obtain ⟨V, hV⟩ : ∃ V, V = wr.drew := ⟨_, rfl⟩
      rw [← hV] at rk' BV ⊢
      clear hV
      refine wpAnyC_one (i := 6) (by kernel_rfl) rfl (fun K hK => ?_)
      go_simp
      refine (refadd_at ck (m + k * 6) 2 ak X0 ea _ 2 V rfl rfl Hlk.out (by omega) (by omega) (by omega) (by omega) rk' nk).mono ?_
      rintro r w1 ⟨v1, rfl, o1, b1⟩
      rw [← U1.out] at o1
      have B1 := BV.trans (b1.mono BV.size)
      have o1' : w1.ownsRow B 5 1 v1 ((m + k * 6) + 2) (bcs X1) := owns_weaken o1 (by have := hbel.size; have := BV.size; omega)
      obtain ⟨a1, c1, rfl, _, _, _, r1, n1, _⟩ := owns_parts o1
      refine hK _ _ ⟨?_, ?_⟩
      · refine ⟨fun p hp => ?_, hq _ B1⟩
        simp at hp
        rcases hp with rfl | rfl | rfl <;> rfl
      clear hK K b1 o1 rk' BV
      clear o1'
      refine wpAnyC_one (i := 12) (by kernel_rfl) rfl (fun K hK => ?_)
      go_simp
      refine (refadd_at c1 ((m + k * 6) + 2) 2 a1 X1 eb _ 2 w1 rfl rfl N1.out (by omega) (by omega) (by omega) (by omega) r1 n1).mono ?_
      rintro r w2 ⟨v2, rfl, o2, b2⟩
      rw [← U2.out] at o2
      have B2 := B1.trans (b2.mono B1.size)
      have o2' : w2.ownsRow B 5 1 v2 (((m + k * 6) + 2) + 2) (bcs X2) := owns_weaken o2 (by have := hbel.size; have := B1.size; omega)
      obtain ⟨a2, c2, rfl, _, _, _, r2, n2, _⟩ := owns_parts o2
      refine hK _ _ ⟨?_, ?_⟩
      · refine ⟨fun p hp => ?_, hq _ B2⟩
        simp at hp
        rcases hp with rfl | rfl | rfl <;> rfl
      clear hK K b2 o2 r1 B1
      clear o2'
      refine wpAnyC_one (i := 18) (by kernel_rfl) rfl (fun K hK => ?_)
      go_simp
      refine (refadd_at c2 (((m + k * 6) + 2) + 2) 2 a2 X2 ec _ 2 w2 rfl rfl N2.out (by omega) (by omega) (by omega) (by omega) r2 n2).mono ?_
      rintro r w3 ⟨v3, rfl, o3, b3⟩
      rw [← U3.out] at o3
      have B3 := B2.trans (b3.mono B2.size)
      have o3' : w3.ownsRow B 5 1 v3 ((((m + k * 6) + 2) + 2) + 2) (bcs X3) := owns_weaken o3 (by have := hbel.size; have := B2.size; omega)
      obtain ⟨a3, c3, rfl, _, _, _, r3, n3, _⟩ := owns_parts o3
      refine hK _ _ ⟨?_, ?_⟩
      · refine ⟨fun p hp => ?_, hq _ B3⟩
        simp at hp
        rcases hp with rfl | rfl | rfl <;> rfl
      clear hK K b3 o3 r2 B2
      refine wpAnyC_one (i := 19) (by kernel_rfl) rfl (fun K hK => ?_)
      go_simp
      refine hK _ _ ⟨?_, ?_⟩
      · refine ⟨fun p hp => ?_, hq _ B3⟩
        simp at hp
        rcases hp with rfl | rfl | rfl <;> rfl
      clear hK K hq
      refine wpAnyC_done (by kernel_rfl) ?_ _
      have hbel3 := hbel.trans (B3.mono hbel.size)
      clear hbel B3
      go_wp2
      go_roundw
      case rel =>
        refine ⟨k + 1, by omega, by go_num, ?_, hbel3⟩
        rw [hfin.out, show m + (k + 1) * 6 = m + k * 6 + 2 + 2 + 2 by omega]
        exact o3'
      case measure => simp [intOf]; omega
    · obtain rfl : k = n := by omega
      go_wp2
      go_ret
      rw [List.take_of_length_le (by rw [Hl.out]; exact Nat.le_refl _)] at hown
      exact ⟨_, rfl, hown, hbel⟩
theorem refextents_none (B cap m : Nat) (a : Option Addr) (v : Value) (xs : List UInt8) (w : World) (ho : w.ownsRow B 5 1 v m (bcs xs)) :
    Calls Try.prog 60 #[v, .slice a 0 cap] w fun e w' => ∃ v', e = .returned v' ∧ w'.ownsRow B 5 1 v' m (bcs xs) ∧ Below w.heap.size w w' := by
  go_enter Try.func60, Try.ntmps60
  go_wp2_with fail
  refine wp_loop_rounds 1 ?_
  rw [rounds_succ]
  go_wp2
  go_ret
  exact ⟨_, rfl, ho, Below.refl _ _⟩

/-- extents: behind a row of one's own -/
theorem refextents_at (B cap n m : Nat) (a : Option Addr) (v : Value) (xs : List UInt8) (es : List Ext) (w : World) (hl : es.length = n) (hn : n ≤ 100000) (hm : m ≤ 100000) (hw : ∀ e ∈ es, natE e) (hr : RdE w a es)
    (hB : B ≤ w.heap.size) (ho : w.ownsRow B 5 1 v m (bcs xs)) :
    Calls Try.prog 60 #[v, .slice a n cap] w fun e w' => ∃ v', e = .returned v' ∧ w'.ownsRow B 5 1 v' (m + n * 6) (bcs (xs ++ extsB es)) ∧ Below w.heap.size w w' := by
  by_cases h0 : 0 < n
  · obtain ⟨b, o, rfl, hc⟩ := hr (by omega)
    exact refextents_in B b o cap n m v xs es w hl hn hm hw (block_lt_of_cell (hc 0 (by omega)).1) hB ho hc
  · obtain rfl : n = 0 := by omega
    obtain rfl : es = [] := List.eq_nil_of_length_eq_zero hl
    have c := refextents_none B cap m a v xs w ho
    simpa [extsB] using c
end Go.Proofs.Ytmhplpiglbamcaa
