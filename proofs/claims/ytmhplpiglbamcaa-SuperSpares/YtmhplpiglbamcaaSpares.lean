/-
  SuperSpares.
-/
import Derived.Test.YtmhplpiglbamcaaBack
import Derived.Test.YtmhplpiglbamcaaBursts
import Derived.Test.YtmhplpiglbamcaaApartWalk
namespace Go.Proofs.Ytmhplpiglbamcaa
open Go.RowKit

/-- one of three -/
def of3 {α : Type} (x y z : α) : Nat → α := fun i => if i = 0 then x else if i = 1 then y else z

theorem row_of {w : World} {B n g cap : Nat} {xs : List UInt8} (h : w.ownsRow B 5 1 (.slice (some ⟨g, 0, none⟩) n cap) n (bcs xs)) : ∃ cur : Array Value, Apart.Box w g cur 5 ∧ cur.size = cap ∧ cap ≤ maxLen ∧ n ≤ cap := by
  rcases h.2 with ⟨h1, _⟩ | ⟨g', cap', cur, hv, hb, hg, hnc, hcm, hcs, ht⟩
  · cases h1
  · simp only [Value.slice.injEq, Option.some.injEq, Addr.mk.injEq, true_and, and_true] at hv
    obtain ⟨rfl, rfl⟩ := hv
    exact ⟨cur, hg, by omega, hcm, by omega⟩

/-- ApartBytes of three rows that were made one behind the other -/
theorem apart3 {w : World} {Ba Bb Bc na nb nc ga gb gc ca cb cc : Nat} {xa xb xc : List UInt8} (gl : Nat)
    (ha : w.ownsRow Ba 5 1 (.slice (some ⟨ga, 0, none⟩) na ca) na (bcs xa)) (hb : w.ownsRow Bb 5 1 (.slice (some ⟨gb, 0, none⟩) nb cb) nb (bcs xb)) (hc : w.ownsRow Bc 5 1 (.slice (some ⟨gc, 0, none⟩) nc cc) nc (bcs xc))
    (hna : na ≤ 100000) (hnb : nb ≤ 100000) (hnc : nc ≤ 100000) (h1 : ga ≠ gb) (h2 : ga ≠ gc) (h3 : gb ≠ gc)
    (hl : Apart.Box w gl #[.slice (some ⟨ga, 0, none⟩) na ca, .slice (some ⟨gb, 0, none⟩) nb cb, .slice (some ⟨gc, 0, none⟩) nc cc] 22) :
    Calls Try.prog 36 #[.slice (some ⟨gl, 0, none⟩) 3 3] w fun e w' => e = .returned (.bool true) ∧ Apart.But 3 (of3 ga gb gc) w w' := by
  obtain ⟨ua, ba, sa, ma, la⟩ := row_of ha
  obtain ⟨ub, bb, sb, mb, lb⟩ := row_of hb
  obtain ⟨uc, bc, sc, mc, lc⟩ := row_of hc
  refine Apart.apart_at 3 gl 3 (of3 ga gb gc) (of3 na nb nc) (of3 ca cb cc) w (by omega) ⟨_, hl, fun i hi => ?_⟩ (fun i hi => ?_) (fun i hi => ?_) (fun i hi q hq hiq => ?_)
  · match i, hi with
    | 0, _ => rfl
    | 1, _ => rfl
    | 2, _ => rfl
  · match i, hi with
    | 0, _ => exact ⟨ua, ba, sa⟩
    | 1, _ => exact ⟨ub, bb, sb⟩
    | 2, _ => exact ⟨uc, bc, sc⟩
  · match i, hi with
    | 0, _ => exact ⟨la, ma, hna⟩
    | 1, _ => exact ⟨lb, mb, hnb⟩
    | 2, _ => exact ⟨lc, mc, hnc⟩
  · match i, hi, q, hq with
    | 0, _, 0, _ => exact absurd rfl hiq
    | 0, _, 1, _ => exact h1
    | 0, _, 2, _ => exact h2
    | 1, _, 0, _ => exact fun e => h1 e.symm
    | 1, _, 1, _ => exact absurd rfl hiq
    | 1, _, 2, _ => exact h3
    | 2, _, 0, _ => exact fun e => h2 e.symm
    | 2, _, 1, _ => exact fun e => h3 e.symm
    | 2, _, 2, _ => exact absurd rfl hiq

theorem but3 {w w' : World} {ga gb gc : Nat} (h : Apart.But 3 (of3 ga gb gc) w w') (k : Nat) (hk : k < w.heap.size) (h1 : k ≠ ga) (h2 : k ≠ gb) (h3 : k ≠ gc) : w'.heap[k]? = w.heap[k]? :=
  h.block k hk fun q hq => by
    match q, hq with
    | 0, _ => exact h1
    | 1, _ => exact h2
    | 2, _ => exact h3

theorem spares_awake (k : Nat) (l s d : Int) (ai : Option Addr) (m ci : Nat) (a : Option Addr) (n cap : Nat) (w : World) (hn : n ≤ 9223372036854775807) (hm : m ≤ 9223372036854775807) (h : 300 < n ∨ (n ≤ 300 ∧ 300 < m)) :
    Calls Try.prog 8 #[.agg #[.int .u8 (k : Int), .int .i64 l, .int .i64 s, .slice ai m ci, .int .i64 d], .slice a n cap] w fun r w' => r = .returned (.bool true) ∧ Below w.heap.size w w' := by
  have B0 := (Below.refl w.heap.size w).alloc (Nat.le_refl _) (.cells #[.int .u8 (k : Int), .int .i64 l, .int .i64 s, .slice ai m ci, .int .i64 d] 32)
  rcases h with h | ⟨h1, h⟩
  · go_enter Try.func8, Try.ntmps8
    go_wp2_with fail
    refine (awake_any _).mono ?_
    rintro r w1 ⟨rfl, c1⟩
    have B1 := B0.trans (c1.mono B0.size)
    go_wp2
    go_ret
    exact ⟨rfl, B1⟩
  · go_enter Try.func8, Try.ntmps8
    go_wp2_with fail
    refine (awake_any _).mono ?_
    rintro r w1 ⟨rfl, c1⟩
    have B1 := B0.trans (c1.mono B0.size)
    go_wp2
    go_ret
    exact ⟨rfl, B1⟩

set_option maxRecDepth 100000 in
set_option maxHeartbeats 2000000 in
theorem spares_none (k : Nat) (l s d : Int) (ai : Option Addr) (m ci : Nat) (is : List Ext) (a : Option Addr) (n cap : Nat) (es : List Ext) (w : World) (hn : n ≤ 300) (hm : m ≤ 300) (xi : Exts w ai m ci is) (xe : Exts w a n cap es) (h : putInode k l s is d = none ∨ putNode es = none) :
    Calls Try.prog 8 #[.agg #[.int .u8 (k : Int), .int .i64 l, .int .i64 s, .slice ai m ci, .int .i64 d], .slice a n cap] w fun r w' => r = .returned (.bool true) ∧ Below w.heap.size w w' := by
  have B0 := (Below.refl w.heap.size w).alloc (Nat.le_refl _) (.cells #[.int .u8 (k : Int), .int .i64 l, .int .i64 s, .slice ai m ci, .int .i64 d] 32)
  have n3 : ¬ 300 < (n : Int) := by omega
  have m3 : ¬ 300 < (m : Int) := by omega
  have cI := fun u (b : Below w.heap.size w u) => putInode_at k m ci l s d ai is u xi.len (by omega) xi.wf (xi.rd.below b (Nat.le_refl _))
  have cN := fun u (b : Below w.heap.size w u) => putNode_at cap n a es u xe.len (by omega) xe.wf (xe.rd.below b (Nat.le_refl _))
  have HI : Hid _ := cI
  have HN : Hid _ := cN
  clear cI cN
  have key : ∃ e1 e2 : Int, e1 + e2 ≠ 0 ∧ (e1 = 0 ∨ e1 = 2) ∧ (e2 = 0 ∨ e2 = 2) ∧
      (∀ u, Below w.heap.size w u → Calls Try.prog 11 #[.agg #[.int .u8 (k : Int), .int .i64 l, .int .i64 s, .slice ai m ci, .int .i64 d]] u fun r w' => ∃ v, r = .returned (.tuple #[v, .int .i64 e1]) ∧ Below u.heap.size u w') ∧
      (∀ u, Below w.heap.size w u → Calls Try.prog 14 #[.slice a n cap] u fun r w' => ∃ v, r = .returned (.tuple #[v, .int .i64 e2]) ∧ Below u.heap.size u w') := by
    have i0 : ∀ xs, putInode k l s is d = some xs → ∀ u, Below w.heap.size w u → Calls Try.prog 11 #[.agg #[.int .u8 (k : Int), .int .i64 l, .int .i64 s, .slice ai m ci, .int .i64 d]] u fun r w' => ∃ v, r = .returned (.tuple #[v, .int .i64 0]) ∧ Below u.heap.size u w' := fun xs e u b => (HI.out u b).mono fun r w' h => by
      obtain ⟨v, hr, _, hb⟩ := puts_some h e
      exact ⟨v, hr, hb⟩
    have i2 : putInode k l s is d = none → ∀ u, Below w.heap.size w u → Calls Try.prog 11 #[.agg #[.int .u8 (k : Int), .int .i64 l, .int .i64 s, .slice ai m ci, .int .i64 d]] u fun r w' => ∃ v, r = .returned (.tuple #[v, .int .i64 2]) ∧ Below u.heap.size u w' := fun e u b => (HI.out u b).mono fun r w' h => by
      obtain ⟨v, hr, _, hb⟩ := puts_none h e
      exact ⟨v, hr, hb⟩
    have j0 : ∀ xs, putNode es = some xs → ∀ u, Below w.heap.size w u → Calls Try.prog 14 #[.slice a n cap] u fun r w' => ∃ v, r = .returned (.tuple #[v, .int .i64 0]) ∧ Below u.heap.size u w' := fun xs e u b => (HN.out u b).mono fun r w' h => by
      obtain ⟨v, hr, _, hb⟩ := puts_some h e
      exact ⟨v, hr, hb⟩
    have j2 : putNode es = none → ∀ u, Below w.heap.size w u → Calls Try.prog 14 #[.slice a n cap] u fun r w' => ∃ v, r = .returned (.tuple #[v, .int .i64 2]) ∧ Below u.heap.size u w' := fun e u b => (HN.out u b).mono fun r w' h => by
      obtain ⟨v, hr, _, hb⟩ := puts_none h e
      exact ⟨v, hr, hb⟩
    cases e : putInode k l s is d with
    | none =>
      cases e' : putNode es with
      | none => exact ⟨2, 2, by omega, .inr rfl, .inr rfl, i2 e, j2 e'⟩
      | some y => exact ⟨2, 0, by omega, .inr rfl, .inl rfl, i2 e, j0 y e'⟩
    | some x =>
      cases e' : putNode es with
      | none => exact ⟨0, 2, by omega, .inl rfl, .inr rfl, i0 x e, j2 e'⟩
      | some y => rw [e, e'] at h; simp at h
  obtain ⟨e1, e2, hne, r1, r2, c1, c2⟩ := key
  have bx := Box.new w #[.int .u8 (k : Int), .int .i64 l, .int .i64 s, .slice ai m ci, .int .i64 d] 32
  clear HI HN h
  go_enter Try.func8, Try.ntmps8
  go_wp2_with fail
  refine (c1 _ B0).mono ?_
  rintro r w1 ⟨v1, rfl, b1⟩
  have B1 := B0.trans (b1.mono B0.size)
  clear c1 b1 bx
  go_wp2_with fail
  refine (c2 _ B1).mono ?_
  rintro r w2 ⟨v2, rfl, b2⟩
  have B2 := B1.trans (b2.mono B1.size)
  clear c2 b2
  go_wp2_with fail
  refine (awake_any _).mono ?_
  rintro r w3 ⟨rfl, b3⟩
  have B3 := B2.trans (b3.mono B2.size)
  go_wp2
  go_ret
  exact ⟨rfl, B3⟩
end Go.Proofs.Ytmhplpiglbamcaa
