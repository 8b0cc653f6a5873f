/-
  Begin; a transaction, its blocks not told.
-/
import Derived.Test.YtlbjalodjcajfaaGreatTxr
namespace Go.Proofs.YtlbjalodjcajfaaGreat
open Go.RowKit Go.Maps
theorem IsS.low {α : Type} {enc : α → Value} {tS tM : TypeId} {w : World} {B B' g : Nat} {S : SS α} {F : Nat → Prop} (h : IsS enc tS tM w B g S F) (hB : B' ≤ B) : IsS enc tS tM w B' g S F := by
  obtain ⟨rb, wb, v, X, h⟩ := h
  exact ⟨rb, wb, v, X, { h with
    row := ⟨h.row.1, h.row.2.imp id (fun ⟨g, cap, cur, e, hb, r⟩ => ⟨g, cap, cur, e, Nat.le_trans hB hb, r⟩)⟩
    fB := fun x hx => ⟨Nat.le_trans hB (h.fB x hx).1, (h.fB x hx).2⟩ }⟩
section
variable {O : List (Nat × Obj)}
variable {w0 u u' : World} {x m g s n : Nat} {k b st : Int} {C : List Cl} {S : SS En} {V : List En} {K : List Bx} {Fs : Nat → Prop}
set_option maxRecDepth 100000 in
set_option maxHeartbeats 2000000 in
theorem begin_at (hm : Box u m #[ptr m, .slice (some ⟨g, 0, none⟩) n n, .int .i64 k] 56) (hg : Box u g (cls C).toArray 119) (om : w0.heap.size ≤ m) (og : w0.heap.size ≤ g) (hl : C.length = n) (n1 : 1 ≤ n) (n2 : n ≤ 256) (k0 : 0 ≤ k) (hC : ∀ c ∈ C, c.own = 0 ∧ 0 ≤ c.ver ∧ c.ver ≤ k) (bK : AllB u K) (kn : ∀ y ∈ K, y.1 ≠ m ∧ y.1 ≠ g) (bel : Below w0.heap.size w0 u) (hO : ∀ y ∈ O, u.heap[y.1]? = some y.2 ∧ ∃ es cl, y.2 = .map es cl) :
    Calls Tryz.prog 5 #[ptr m, .int .i64 1] u fun r w' => ∃ x, r = .returned (.tuple #[ptr x, .int .i64 0]) ∧ ∃ s Fs, HT O w0 w' x m g s n k k 1 C ⟨[], [], []⟩ (C.map (·.e)) K Fs := by
  have c := size_at hm
  have ck := clock_at hm
  have cn := snew_at u
  have h0 : ¬ (n : Int) = 0 := by omega
  have h0' : ((n : Int) == 0) = false := by simpa using h0
  have HOO := hid hO
  clear hO
  have H := hid (And.intro hm (And.intro hg (And.intro bK bel)))
  clear hm hg bK bel h0
  unfold ptr at *
  go_enter Tryz.func5, Tryz.ntmps5
  go_wp2_with (first | (go_at_call 16; refine c.mono ?_; rintro e wx ⟨rfl, hwx⟩; subst wx) | (go_at_call 17; refine ck.mono ?_; rintro e wx ⟨rfl, hwx⟩; subst wx))
  refine cn.mono ?_
  rintro e w1 ⟨s, rfl, hs, hS, hb⟩
  have HSS := hid (And.intro hs (And.intro hS hb))
  clear hS hb cn c ck hs
  unfold ptr at *
  go_wp2_with fail
  go_ret2
  obtain ⟨hs, hS, hb⟩ := HSS.out
  obtain ⟨hm, hg, bK, bel⟩ := H.out
  refine ⟨w1.heap.size, by simp, s, (fun y => u.heap.size ≤ y ∧ y < w1.heap.size), ?_⟩
  obtain ⟨o', ho'⟩ : ∃ o', o' = Obj.cells #[.pointer (some ⟨w1.heap.size, 0, none⟩), .pointer (some ⟨m, 0, none⟩), .int .i64 1, .int .i64 k, .pointer (some ⟨s, 0, none⟩), .int .u8 1, .slice none 0 0, .int .i64 0, .bool false] 63 := ⟨_, rfl⟩
  rw [← ho']
  have B1 : Box (w1.alloc o') w1.heap.size (tcells w1.heap.size m s k 1) 63 := by rw [ho']; exact Box.new w1 _ 63
  have hb2 : Below w1.heap.size w1 (w1.alloc o') := (Below.refl _ w1).alloc (Nat.le_refl _) _
  have hsz := hb.size
  have hsb := bel.size
  have st : ∀ y cs t, Box u y cs t → Box (w1.alloc o') y cs t := fun y cs t h => (h.below hb h.lt).alloc _
  have hF : ∀ y, y < u.heap.size → ¬ (u.heap.size ≤ y ∧ y < w1.heap.size) := fun y hy e => by omega
  exact
    { bx := B1
      bm := st _ _ _ hm
      bg := st _ _ _ hg
      hs := (hS.below hb2).low hsb
      nx := fun e => by omega
      nm := hF _ hm.lt
      ng := hF _ hg.lt
      ox := by omega
      om := om
      og := og
      hl := hl
      n1 := n1
      n2 := n2
      b0 := k0
      hC := hC
      hR := fun i v e => by simp [gt_nil] at e
      hW := fun i e => by simp [gt_nil] at e
      vl := by simpa using hl
      hV := fun j hj => by
        have hjc : j < C.length := by omega
        simp [vw, gt_nil, List.getElem?_map, List.getElem?_eq_getElem hjc]
      bK := fun y hy => st _ _ _ (bK y hy)
      kn := fun y hy => ⟨by have := (bK y hy).lt; omega, (kn y hy).1, (kn y hy).2, hF _ (bK y hy).lt⟩
      ko := fun y hy => ⟨(hb2.block y.1 (by have := obj_lt (HOO.out y hy).1; omega)).trans ((hb.block y.1 (obj_lt (HOO.out y hy).1)).trans (HOO.out y hy).1), (HOO.out y hy).2, hF _ (obj_lt (HOO.out y hy).1)⟩
      bel := (bel.trans (hb.mono hsb)).trans (hb2.mono (by omega)) }
end
/-- a transaction, and boxes of one's own -/
abbrev MG := Nat × Nat × Int × List (Nat × Obj)
def HasT (mg : MG) (w0 u : World) (x : Nat) (st : Int) (V : List En) (K : List Bx) : Prop := ∃ s n C S Fs, HT mg.2.2.2 w0 u x mg.1 mg.2.1 s n mg.2.2.1 mg.2.2.1 st C S V K Fs
section
variable {mg : MG}
variable {w0 u u' : World} {x : Nat} {st : Int} {V : List En} {K : List Bx}
theorem HasT.below (h : HasT mg w0 u x st V K) (hb : Below u.heap.size u u') : HasT mg w0 u' x st V K := by
  obtain ⟨s, n, C, S, Fs, h⟩ := h
  exact ⟨s, n, C, S, Fs, h.below hb⟩
theorem HasT.box (h : HasT mg w0 u x st V K) (cs : Array Value) (t : TypeId) : HasT mg w0 (u.alloc (.cells cs t)) x st V ((u.heap.size, cs, t) :: K) := by
  obtain ⟨s, n, C, S, Fs, h⟩ := h
  exact ⟨s, n, C, S, Fs, h.box cs t⟩
theorem HasT.less (h : HasT mg w0 u x st V K) {K' : List Bx} (hs : ∀ y ∈ K', y ∈ K) : HasT mg w0 u x st V K' := by
  obtain ⟨s, n, C, S, Fs, h⟩ := h
  exact ⟨s, n, C, S, Fs, h.less hs⟩
theorem HasT.put {q : Nat} {cs : Array Value} {t : TypeId} (h : HasT mg w0 u x st V ((q, cs, t) :: K)) (hq : ∀ y ∈ K, y.1 ≠ q) (hB : w0.heap.size ≤ q) (j : Nat) (v : Value) : HasT mg w0 (u.setCell ⟨q, j, none⟩ v) x st V ((q, cs.setIfInBounds j v, t) :: K) := by
  obtain ⟨s, n, C, S, Fs, h⟩ := h
  exact ⟨s, n, C, S, Fs, h.put hq hB j v⟩
theorem HasT.bK (h : HasT mg w0 u x st V K) : AllB u K := by
  obtain ⟨s, n, C, S, Fs, h⟩ := h
  exact h.bK
theorem HasT.bel (h : HasT mg w0 u x st V K) : Below w0.heap.size w0 u := by
  obtain ⟨s, n, C, S, Fs, h⟩ := h
  exact h.bel
theorem HasT.len (h : HasT mg w0 u x st V K) : 1 ≤ V.length ∧ V.length ≤ 256 := by
  obtain ⟨s, n, C, S, Fs, h⟩ := h
  exact ⟨by rw [h.vl]; exact h.n1, by rw [h.vl]; exact h.n2⟩
theorem HasT.read (h : HasT mg w0 u x 1 V K) {j : Nat} {e : En} (hj : V[j]? = some e) : Calls Tryz.prog 35 #[ptr x, .int .i64 (j : Int)] u fun r w' => r = .returned (.tuple #[ag e, .int .i64 0]) ∧ HasT mg w0 w' x 1 V K := by
  obtain ⟨s, n, C, S, Fs, h⟩ := h
  exact (hread_at h hj).mono (fun r w' ⟨e1, S', Fs', h'⟩ => ⟨e1, s, n, C, S', Fs', h'⟩)
theorem HasT.over (h : HasT mg w0 u x 4 V K) (j : Int) : Calls Tryz.prog 35 #[ptr x, .int .i64 j] u fun r w' => r = .returned (.tuple #[ag E0, .int .i64 132]) ∧ HasT mg w0 w' x 4 V K := by
  obtain ⟨s, n, C, S, Fs, h⟩ := h
  exact (hread_over h j).mono (fun r w' ⟨e1, h'⟩ => ⟨e1, s, n, C, S, Fs, h'⟩)
theorem HasT.write (h : HasT mg w0 u x 1 V K) {j : Nat} (hj : j < V.length) (e : En) : Calls Tryz.prog 43 #[ptr x, .int .i64 (j : Int), ag e] u fun r w' => r = .returned (.int .i64 0) ∧ HasT mg w0 w' x 1 (V.set j e) K := by
  obtain ⟨s, n, C, S, Fs, h⟩ := h
  rw [h.vl] at hj
  exact (hwrite_at h hj e).mono (fun r w' ⟨e1, S', Fs', h'⟩ => ⟨e1, s, n, C, S', Fs', h'⟩)
theorem HasT.status (h : HasT mg w0 u x 1 V K) : Calls Tryz.prog 13 #[ptr x] u fun r w' => r = .returned (.int .u8 1) ∧ w' = u := by
  obtain ⟨s, n, C, S, Fs, h⟩ := h
  exact status_at h.bx
theorem HasT.cells (h : HasT mg w0 u x st V K) : Calls Tryz.prog 19 #[ptr x] u fun r w' => r = .returned (.int .i64 (V.length : Int)) ∧ w' = u := by
  obtain ⟨s, n, C, S, Fs, h⟩ := h
  rw [h.vl]
  exact cells_at h.bx h.bm
end
end Go.Proofs.YtlbjalodjcajfaaGreat
