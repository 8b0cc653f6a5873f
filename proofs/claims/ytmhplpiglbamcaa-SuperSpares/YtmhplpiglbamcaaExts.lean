/-
  Extents in memory, and what Right says of them.
-/
import Derived.Test.YtmhplpiglbamcaaOctets
import Derived.Test.YtmhplpiglbamcaaSums
namespace Go.Proofs.Ytmhplpiglbamcaa
open Go.RowKit

/-- within -/
def wi (v l h : Int) : Bool := decide (l ≤ v) && decide (v ≤ h)

theorem within_at (v l h : Int) (w : World) : Calls Try.prog 55 #[.int .i64 v, .int .i64 l, .int .i64 h] w fun e w' => e = .returned (.bool (wi v l h)) ∧ w = w' := by
  unfold wi
  by_cases h1 : l ≤ v
  · go_enter Try.func55, Try.ntmps55
    go_wp2
    go_ret
    simp [h1]
  · go_enter Try.func55, Try.ntmps55
    go_wp2
    go_ret
    simp
    omega

structure Ext where
  a : Int
  s : Int
  c : Int
deriving DecidableEq, Inhabited

/-- The extents es lie where a says (of none nothing is asked). -/
def RdE (w : World) (ad : Option Addr) (es : List Ext) : Prop :=
  0 < es.length → ∃ b o, ad = some ⟨b, o, none⟩ ∧ ∀ j (h : j < es.length), w.cell? ⟨b, o + j * 3, none⟩ = some (.int .i64 es[j].a) ∧ w.cell? ⟨b, o + j * 3 + 1, none⟩ = some (.int .i64 es[j].s) ∧ w.cell? ⟨b, o + j * 3 + 2, none⟩ = some (.int .i64 es[j].c)

/-- One whole number in a block of its own. -/
def OneI (w : World) (g : Nat) (r : Int) : Prop := w.heap[g]? = some (.cells #[.int .i64 r] 3 (0, 0))
theorem OneI.cell {w : World} {g : Nat} {r : Int} (h : OneI w g r) : w.cell? ⟨g, 0, none⟩ = some (.int .i64 r) := cell_of_one h
theorem OneI.frozen {w : World} {g : Nat} {r : Int} (h : OneI w g r) : w.frozen? ⟨g, 0, none⟩ = false := free_of_one h
theorem OneI.store {w : World} {g : Nat} {r : Int} (h : OneI w g r) (s : Int) : OneI (w.setCell ⟨g, 0, none⟩ (.int .i64 s)) g s := one_setCell h

def badE (e : Ext) (d : Int) : Bool := decide (e.c < 1) || !wi e.a d (512 - e.c) || !wi e.s 1 (512 - e.c)

theorem OneI.lt {w : World} {g : Nat} {r : Int} (h : OneI w g r) : g < w.heap.size := (Array.getElem?_eq_some_iff.1 h).1
theorem OneI.alloc {w : World} {g : Nat} {r : Int} (h : OneI w g r) (o : Obj) : OneI (w.alloc o) g r := (Below.heap_alloc w o g h.lt).trans h
theorem OneI.below {B : Nat} {w w' : World} {g : Nat} {r : Int} (h : OneI w g r) (hb : Below B w w') (hg : g < B) : OneI w' g r := (hb.block g hg).trans h

theorem wi_true {v l h : Int} (k : wi v l h = true) : l ≤ v ∧ v ≤ h := by simpa [wi] using k

theorem wrong_at (g : Nat) (d a s c : Int) (w : World) (hc : -9223372036854775808 ≤ c ∧ c ≤ 9223372036854775807) (hd : 0 ≤ d) (h : OneI w g d) :
    Calls Try.prog 54 #[.agg #[.int .i64 a, .int .i64 s, .int .i64 c], .pointer (some ⟨g, 0, none⟩)] w fun e w' => e = .returned (.bool (badE ⟨a, s, c⟩ d)) ∧ OneI w' g (bif badE ⟨a, s, c⟩ d then d else a + c) ∧ w.grownBy w' (some g) := by
  have hcell := fun o => (h.alloc o).cell
  have hf := fun o => (h.alloc o).frozen
  have hg := fun o => World.grownBy_alloc w o (some g)
  by_cases h1 : c < 1
  · have hb : badE ⟨a, s, c⟩ d = true := by simp [badE, h1]
    rw [hb]
    go_enter Try.func54, Try.ntmps54
    go_wp2_with fail
    go_ret
    exact ⟨rfl, h.alloc _, hg _⟩
  · have hk : decide (c < 1) = false := by simpa using h1
    cases h2 : wi a d (512 - c)
    · have hb : badE ⟨a, s, c⟩ d = true := by simp [badE, h2]
      rw [hb]
      go_enter Try.func54, Try.ntmps54
      go_wp2_with fail
      refine (within_at a d (512 - c) _).mono ?_
      rintro e w1 ⟨rfl, rfl⟩
      rw [h2]
      go_wp2_with fail
      go_ret
      exact ⟨rfl, h.alloc _, hg _⟩
    · cases h3 : wi s 1 (512 - c)
      · have hb : badE ⟨a, s, c⟩ d = true := by simp [badE, h3]
        rw [hb]
        go_enter Try.func54, Try.ntmps54
        go_wp2_with fail
        refine (within_at a d (512 - c) _).mono ?_
        rintro e w1 ⟨rfl, rfl⟩
        rw [h2]
        go_wp2_with fail
        refine (within_at s 1 (512 - c) _).mono ?_
        rintro e w1 ⟨rfl, rfl⟩
        rw [h3]
        go_wp2_with fail
        go_ret
        exact ⟨rfl, h.alloc _, hg _⟩
      · have hb : badE ⟨a, s, c⟩ d = false := by simp [badE, hk, h2, h3]
        rw [hb]
        have hx := wi_true h2
        go_enter Try.func54, Try.ntmps54
        go_wp2_with fail
        refine (within_at a d (512 - c) _).mono ?_
        rintro e w1 ⟨rfl, rfl⟩
        rw [h2]
        go_wp2_with fail
        refine (within_at s 1 (512 - c) _).mono ?_
        rintro e w1 ⟨rfl, rfl⟩
        rw [h3]
        go_wp2_with fail
        go_ret
        exact ⟨rfl, (h.alloc _).store _, grown_trans (hg _) (grown_store _ _ _ _)⟩

/-- An extent's numbers are whole numbers of 64 bits. -/
def wfE (e : Ext) : Prop := (-9223372036854775808 ≤ e.a ∧ e.a ≤ 9223372036854775807) ∧ (-9223372036854775808 ≤ e.s ∧ e.s ≤ 9223372036854775807) ∧ (-9223372036854775808 ≤ e.c ∧ e.c ≤ 9223372036854775807)

/-- Right extents, from a place on. -/
def rightFrom : Int → List Ext → Bool
  | _, [] => true
  | d, e :: es => !badE e d && rightFrom (e.a + e.c) es

theorem rightFrom_append (d : Int) (xs : List Ext) (e : Ext) (h : rightFrom d xs = true) : rightFrom d (xs ++ [e]) = !badE e (xs.foldl (fun _ x => x.a + x.c) d) := by
  induction xs generalizing d with
  | nil => simp [rightFrom]
  | cons x l ih =>
    simp only [rightFrom, List.cons_append, Bool.and_eq_true] at h ⊢
    rw [ih _ h.2, h.1]
    simp
theorem rightFrom_head (d : Int) (xs ys : List Ext) (h : rightFrom d xs = false) : rightFrom d (xs ++ ys) = false := by
  induction xs generalizing d with
  | nil => simp [rightFrom] at h
  | cons x l ih =>
    simp only [rightFrom, List.cons_append, Bool.and_eq_false_iff] at h ⊢
    rcases h with h | h
    · exact .inl h
    · exact .inr (ih _ h)
/-- where the last extent ends -/
def endOf (xs : List Ext) : Int := xs.foldl (fun _ x => x.a + x.c) 0
theorem endOf_snoc (xs : List Ext) (e : Ext) : endOf (xs ++ [e]) = e.a + e.c := by simp [endOf]
theorem badE_false {e : Ext} {d : Int} (h : badE e d = false) : 1 ≤ e.c ∧ d ≤ e.a ∧ e.a ≤ 512 - e.c ∧ 1 ≤ e.s ∧ e.s ≤ 512 - e.c := by
  simp [badE, wi] at h
  omega
theorem endOf_nonneg (xs : List Ext) (d : Int) (hd : 0 ≤ d) (h : rightFrom d xs = true) : 0 ≤ xs.foldl (fun _ x => x.a + x.c) d := by
  induction xs generalizing d with
  | nil => simpa using hd
  | cons x l ih =>
    simp only [rightFrom, Bool.and_eq_true, Bool.not_eq_true'] at h
    have := badE_false h.1
    exact ih _ (by show 0 ≤ x.a + x.c; omega) h.2

theorem index_in (b o cap n g : Nat) (es : List Ext) (w : World) (hl : es.length = n) (hn : n ≤ 9223372036854775807) (hw : ∀ e ∈ es, wfE e) (h : OneI w g 0) (hg : b ≠ g)
    (hc : ∀ j (h : j < es.length), w.cell? ⟨b, o + j * 3, none⟩ = some (.int .i64 es[j].a) ∧ w.cell? ⟨b, o + j * 3 + 1, none⟩ = some (.int .i64 es[j].s) ∧ w.cell? ⟨b, o + j * 3 + 2, none⟩ = some (.int .i64 es[j].c)) :
    Calls Try.prog 75 #[.slice (some ⟨b, o, none⟩) n cap, .func (.func 54) #[] #[.pointer (some ⟨g, 0, none⟩)]] w fun e w' => (∃ r : Int, e = .returned (.int .i64 r) ∧ decide (0 ≤ r) = !rightFrom 0 es) ∧ w.grownBy w' (some g) := by
  have Hl : Hid _ := hl
  have Hc : Hid _ := hc
  have Hw : Hid _ := hw
  clear hl hc hw
  go_enter Try.func75, Try.ntmps75
  go_wp2_with fail
  go_loopw [8] (fun i wr => ∃ k : Nat, k ≤ n ∧ i = .int .i64 k ∧ Hid (rightFrom 0 (es.take k) = true) ∧ OneI wr g (endOf (es.take k)) ∧ w.grownBy wr (some g)) (fun i _ => n - (intOf i).toNat)
  case atStart => exact ⟨0, Nat.zero_le _, rfl, by show _ = _; simp [rightFrom], h, World.grownBy.refl _ _⟩
  case round =>
    obtain ⟨k, hk, rfl, hall, hone, hgr⟩ := hrel
    by_cases hlt : k < n
    · have hlt' : Hid (k < es.length) := by show _ < _; rw [Hl.out]; exact hlt
      obtain ⟨e, hcc⟩ : ∃ e, e = es[k]'hlt'.out := ⟨_, rfl⟩
      obtain ⟨h0, h1, h2⟩ := Hc.out k hlt'.out
      rw [← hcc] at h0 h1 h2
      have hwe := Hw.out e (by rw [hcc]; exact List.getElem_mem _)
      replace h0 := hgr.cell h0 (by simpa using hg)
      replace h1 := hgr.cell h1 (by simpa using hg)
      replace h2 := hgr.cell h2 (by simpa using hg)
      have Hcc : Hid _ := hcc
      clear hcc
      obtain ⟨ea, eb, ec⟩ := e
      obtain ⟨D, hD⟩ : ∃ D, D = endOf (es.take k) := ⟨_, rfl⟩
      have hD0 : 0 ≤ D := by rw [hD]; exact endOf_nonneg _ 0 (by omega) hall.out
      rw [← hD] at hone
      have HD : Hid _ := hD
      clear hD
      go_wp2_with fail
      refine (wrong_at g D ea eb ec wr hwe.2.2 hD0 hone).mono ?_
      rintro e w1 ⟨rfl, hone1, hgr1⟩
      have hgr2 := grown_trans hgr hgr1
      clear hgr hgr1 hone
      have hbad : Hid (rightFrom 0 (es.take (k + 1)) = !badE ⟨ea, eb, ec⟩ D) := by
        show _ = _
        rw [List.take_succ_eq_append_getElem hlt'.out, rightFrom_append _ _ _ hall.out, ← Hcc.out, HD.out]
        rfl
      cases hq : badE ⟨ea, eb, ec⟩ D
      · rw [hq] at hone1 hbad
        go_wp2
        go_roundw
        case rel =>
          refine ⟨k + 1, by omega, by go_num, hbad.out, ?_, hgr2⟩
          rw [List.take_succ_eq_append_getElem hlt'.out, endOf_snoc, ← Hcc.out]
          exact hone1
        case measure => simp [intOf]; omega
      · rw [hq] at hbad
        go_wp2
        go_ret
        refine ⟨⟨k, rfl, ?_⟩, hgr2⟩
        have h1 : rightFrom 0 es = false := by
          have := rightFrom_head 0 (es.take (k + 1)) (es.drop (k + 1)) hbad.out
          rwa [List.take_append_drop] at this
        rw [h1]
        simp
    · obtain rfl : k = n := by omega
      go_wp2
      go_ret
      refine ⟨⟨-1, rfl, ?_⟩, hgr⟩
      have h1 := hall.out
      rw [List.take_of_length_le (by rw [Hl.out]; exact Nat.le_refl _)] at h1
      rw [h1]
      rfl

theorem index_none (a : Option Addr) (cap g : Nat) (w : World) :
    Calls Try.prog 75 #[.slice a 0 cap, .func (.func 54) #[] #[.pointer (some ⟨g, 0, none⟩)]] w fun e w' => (∃ r : Int, e = .returned (.int .i64 r) ∧ decide (0 ≤ r) = !rightFrom 0 []) ∧ w.grownBy w' (some g) := by
  go_enter Try.func75, Try.ntmps75
  go_wp2_with fail
  refine wp_loop_rounds 1 ?_
  rw [rounds_succ]
  go_wp2
  go_ret
  exact ⟨⟨-1, rfl, rfl⟩, World.grownBy.refl _ _⟩

theorem contains_at (cap n g : Nat) (a : Option Addr) (es : List Ext) (w : World) (hl : es.length = n) (hn : n ≤ 9223372036854775807) (hw : ∀ e ∈ es, wfE e) (h : OneI w g 0) (hg : ∀ ad, a = some ad → 0 < n → ad.block ≠ g) (hr : RdE w a es) :
    Calls Try.prog 56 #[.slice a n cap, .func (.func 54) #[] #[.pointer (some ⟨g, 0, none⟩)]] w fun e w' => e = .returned (.bool (!rightFrom 0 es)) ∧ w.grownBy w' (some g) := by
  have c : Calls Try.prog 75 #[.slice a n cap, .func (.func 54) #[] #[.pointer (some ⟨g, 0, none⟩)]] w fun e w' => (∃ r : Int, e = .returned (.int .i64 r) ∧ decide (0 ≤ r) = !rightFrom 0 es) ∧ w.grownBy w' (some g) := by
    by_cases h0 : 0 < n
    · obtain ⟨b, o, rfl, hc⟩ := hr (by omega)
      exact index_in b o cap n g es w hl hn hw h (hg _ rfl h0) hc
    · obtain rfl : n = 0 := by omega
      obtain rfl : es = [] := List.eq_nil_of_length_eq_zero hl
      exact index_none a cap g w
  generalize (!rightFrom 0 es) = q at c ⊢
  clear hl
  go_enter Try.func56, Try.ntmps56
  go_wp2_with fail
  refine c.mono ?_
  rintro e w' ⟨⟨r, rfl, hq⟩, hgr⟩
  go_wp2
  go_ret
  exact ⟨by rw [← hq]; rfl, hgr⟩

theorem RdE.lt {w : World} {a : Option Addr} {es : List Ext} (h : RdE w a es) (hp : 0 < es.length) (ad : Addr) (ha : a = some ad) : ad.block < w.heap.size := by
  obtain ⟨b, o, h1, h2⟩ := h hp
  rw [ha] at h1
  obtain rfl := Option.some.inj h1
  exact block_lt_of_cell (h2 0 hp).1
theorem RdE.below {B : Nat} {w w' : World} {a : Option Addr} {es : List Ext} (h : RdE w a es) (hb : Below B w w') (hB : w.heap.size ≤ B) : RdE w' a es := fun hp => by
  obtain ⟨b, o, ha, hc⟩ := h hp
  have hlt : b < B := Nat.lt_of_lt_of_le (block_lt_of_cell (hc 0 hp).1) hB
  refine ⟨b, o, ha, fun j hj => ?_⟩
  obtain ⟨h0, h1, h2⟩ := hc j hj
  exact ⟨(hb.cell (p := ⟨b, _, none⟩) hlt).trans h0, (hb.cell (p := ⟨b, _, none⟩) hlt).trans h1, (hb.cell (p := ⟨b, _, none⟩) hlt).trans h2⟩
theorem RdE.nil (w : World) (a : Option Addr) : RdE w a [] := fun h => absurd h (by simp)

/-- Right: whether extents are right. -/
theorem right_at (cap n : Nat) (a : Option Addr) (es : List Ext) (w : World) (hl : es.length = n) (hn : n ≤ 9223372036854775807) (hw : ∀ e ∈ es, wfE e) (hr : RdE w a es) :
    Calls Try.prog 17 #[.slice a n cap] w fun e w' => e = .returned (.bool (rightFrom 0 es)) ∧ Below w.heap.size w w' := by
  have hb0 : Below w.heap.size w (w.alloc (.cells #[.int .i64 0] 3)) := (Below.refl _ _).alloc (Nat.le_refl _) _
  have c := contains_at cap n w.heap.size a es (w.alloc (.cells #[.int .i64 0] 3)) hl hn hw (heap_alloc_new w _) (fun ad ha h0 => Nat.ne_of_lt (hr.lt (by omega) ad ha)) (hr.below hb0 (Nat.le_refl _))
  clear hl
  go_enter Try.func17, Try.ntmps17
  go_wp2_with fail
  refine c.mono ?_
  rintro e w' ⟨rfl, hgr⟩
  have hb1 := hb0.grown hgr (by simp) (fun k hk => by simp at hk; omega)
  go_wp2
  go_ret
  exact ⟨by simp, hb1⟩
end Go.Proofs.Ytmhplpiglbamcaa
