/-
  A transaction that is ending, and its steps one by one.
-/
import Derived.Test.YtlbjalodjcajfaaGreatEnx
import Derived.Test.YtlbjalodjcajfaaGreatClk
import Derived.Test.YtlbjalodjcajfaaGreatTxs
import Derived.Deep.RegionHeld3
import Derived.Deep.CutRange
namespace Go.Proofs.YtlbjalodjcajfaaGreat
open Go.RowKit Go.Sort Go.Maps
/-- a transaction's nine cells at any stage -/
def tcE (x m s : Nat) (b st : Int) (lv : Value) (ver : Int) (pub : Bool) : Array Value := #[ptr x, ptr m, .int .i64 1, .int .i64 b, ptr s, .int .u8 st, lv, .int .i64 ver, .bool pub]
structure HE (O : List (Nat × Obj)) (w0 u : World) (x m g s n : Nat) (k b st : Int) (lv : Value) (ver : Int) (pub : Bool) (L : List Stp) (C : List Cl) (S : SS En) (K : List Bx) (Fs Q : Nat → Prop) : Prop where
  bx : Box u x (tcE x m s b st lv ver pub) 63
  mb : MB u m g n k C
  hs : IsS ag 93 91 u w0.heap.size s S Fs
  lf : LeftAt u Q x lv L
  nx : ¬ Fs x
  nm : ¬ Fs m
  ng : ¬ Fs g
  ox : w0.heap.size ≤ x
  om : w0.heap.size ≤ m
  og : w0.heap.size ≤ g
  n2 : n ≤ 256
  bK : AllB u K
  kn : ∀ y ∈ K, y.1 ≠ x ∧ y.1 ≠ m ∧ y.1 ≠ g ∧ ¬ Fs y.1
  bel : Below w0.heap.size w0 u
  ko : ∀ y ∈ O, u.heap[y.1]? = some y.2 ∧ (∃ es cl, y.2 = .map es cl) ∧ ¬ Fs y.1
theorem IsStp.keep {w w' : World} {Q : Nat → Prop} {x : Nat} {v : Value} {s : Stp} (h : IsStp w Q x v s) (hk : ∀ y cs t, Box w y cs t → (t = 30 ∨ t = 3 ∨ t = 80) → Box w' y cs t) : IsStp w' Q x v s := by
  obtain ⟨tb, q, b, h⟩ := h
  refine ⟨tb, q, hk _ _ _ b (.inl rfl), ?_⟩
  cases s with
  | stay => exact h
  | adv => exact h
  | lock i => obtain ⟨ib, q, b, h⟩ := h; exact ⟨ib, q, hk _ _ _ b (.inr (.inl rfl)), h⟩
  | look i => obtain ⟨ib, q, b, h⟩ := h; exact ⟨ib, q, hk _ _ _ b (.inr (.inl rfl)), h⟩
  | pub i => obtain ⟨ib, q, b, h⟩ := h; exact ⟨ib, q, hk _ _ _ b (.inr (.inl rfl)), h⟩
theorem LeftAt.keep {w w' : World} {Q : Nat → Prop} {x : Nat} {lv : Value} {L : List Stp} (h : LeftAt w Q x lv L) (hk : ∀ y cs t, Box w y cs t → (t = 30 ∨ t = 3 ∨ t = 80) → Box w' y cs t) : LeftAt w' Q x lv L := by
  obtain ⟨a, c, e, hc, h⟩ := h
  refine ⟨a, c, e, hc, fun j hj => ?_⟩
  obtain ⟨lb, off, cs, v, e, q, b, hv, hp⟩ := h j hj
  exact ⟨lb, off, cs, v, e, q, hk _ _ _ b (.inr (.inr rfl)), hv, hp.keep hk⟩
section
variable {O : List (Nat × Obj)}
variable {w0 u u' : World} {x m g s n : Nat} {k b st k' st' : Int} {lv lv' : Value} {ver ver' : Int} {pub pub' : Bool} {L L' : List Stp} {C C' : List Cl} {S : SS En} {K : List Bx} {Fs Q : Nat → Prop}
theorem HE.apart (h : HE O w0 u x m g s n k b st lv ver pub L C S K Fs Q) (hc : Chg (fun y => y = x ∨ y = m ∨ y = g) u u') : ∀ y cs t, Box u y cs t → (t = 30 ∨ t = 3 ∨ t = 80) → Box u' y cs t := fun _ _ _ hy ht => hy.chg hc (by
  rintro (e | e | e)
  · subst e; exact absurd rfl (hy.ne h.bx (by rcases ht with rfl | rfl | rfl <;> decide))
  · subst e; exact absurd rfl (hy.ne h.mb.bm (by rcases ht with rfl | rfl | rfl <;> decide))
  · subst e; exact absurd rfl (hy.ne h.mb.bg (by rcases ht with rfl | rfl | rfl <;> decide)))
theorem HE.turn (h : HE O w0 u x m g s n k b st lv ver pub L C S K Fs Q) (hc : Chg (fun y => y = x ∨ y = m ∨ y = g) u u') (bx' : Box u' x (tcE x m s b st' lv' ver' pub') 63) (mb' : MB u' m g n k' C') (lf' : LeftAt u' Q x lv' L') : HE O w0 u' x m g s n k' b st' lv' ver' pub' L' C' S K Fs Q :=
  { h with
    bx := bx'
    mb := mb'
    lf := lf'
    hs := h.hs.stay hc.size (fun y hy => hc.block y (h.hs.fB y hy).2 (by
      rintro (e | e | e)
      · exact h.nx (e ▸ hy)
      · exact h.nm (e ▸ hy)
      · exact h.ng (e ▸ hy)))
    bK := fun y hy => (h.bK y hy).chg hc (by
      obtain ⟨k1, k2, k3, _⟩ := h.kn y hy
      rintro (e | e | e)
      · exact k1 e
      · exact k2 e
      · exact k3 e)
    ko := fun y hy => ⟨(hc.block y.1 (obj_lt (h.ko y hy).1) (by
      rintro (e | e | e)
      · exact map_ne (h.ko y hy).1 (h.ko y hy).2.1 h.bx e
      · exact map_ne (h.ko y hy).1 (h.ko y hy).2.1 h.mb.bm e
      · exact map_ne (h.ko y hy).1 (h.ko y hy).2.1 h.mb.bg e)).trans (h.ko y hy).1, (h.ko y hy).2⟩
    bel := h.bel.trans (hc.below h.bel.size (by
      rintro y (e | e | e)
      · rw [e]; exact h.ox
      · rw [e]; exact h.om
      · rw [e]; exact h.og)) }
theorem HE.below (h : HE O w0 u x m g s n k b st lv ver pub L C S K Fs Q) (hb : Below u.heap.size u u') : HE O w0 u' x m g s n k b st lv ver pub L C S K Fs Q :=
  h.turn (Chg.ofBelow hb) (h.bx.below hb h.bx.lt) ⟨h.mb.bm.below hb h.mb.bm.lt, h.mb.bg.below hb h.mb.bg.lt, h.mb.hl⟩ (h.lf.keep (fun _ _ _ hy _ => hy.below hb hy.lt))
/-- a cell of the transaction is written -/
theorem HE.setX (h : HE O w0 u x m g s n k b st lv ver pub L C S K Fs Q) (j : Nat) (v : Value) (hv : (tcE x m s b st lv ver pub).setIfInBounds j v = tcE x m s b st' lv ver' pub') : HE O w0 (u.setCell ⟨x, j, none⟩ v) x m g s n k b st' lv ver' pub' L C S K Fs Q := by
  have hc : Chg (fun y => y = x ∨ y = m ∨ y = g) u (u.setCell ⟨x, j, none⟩ v) := (Chg.refl _ u).setCell x j v (fun _ => .inl rfl)
  have hb := h.bx.store j v
  rw [hv] at hb
  have n1 : m ≠ x := h.mb.bm.ne h.bx (by decide)
  have n2 : g ≠ x := h.mb.bg.ne h.bx (by decide)
  exact h.turn hc hb ⟨h.mb.bm.other x j v n1, h.mb.bg.other x j v n2, h.mb.hl⟩ (h.lf.keep (h.apart hc))
theorem HE.setM (h : HE O w0 u x m g s n k b st lv ver pub L C S K Fs Q) (hc : Chg (fun y => y = m) u u') (hb : Box u' m #[ptr m, .slice (some ⟨g, 0, none⟩) n n, .int .i64 k'] 56) : HE O w0 u' x m g s n k' b st lv ver pub L C S K Fs Q := by
  have hc' := hc.mono (S' := fun y => y = x ∨ y = m ∨ y = g) (fun _ _ e => .inr (.inl e))
  have n1 : x ≠ m := h.bx.ne h.mb.bm (by decide)
  have n2 : g ≠ m := h.mb.bg.ne h.mb.bm (by decide)
  exact h.turn hc' (h.bx.chg hc n1) ⟨hb, h.mb.bg.chg hc n2, h.mb.hl⟩ (h.lf.keep (h.apart hc'))
theorem HE.setG (h : HE O w0 u x m g s n k b st lv ver pub L C S K Fs Q) (hc : Chg (fun y => y = g) u u') (hb : Box u' g (cls C').toArray 119) (hl : C'.length = n) : HE O w0 u' x m g s n k b st lv ver pub L C' S K Fs Q := by
  have hc' := hc.mono (S' := fun y => y = x ∨ y = m ∨ y = g) (fun _ _ e => .inr (.inr e))
  have n1 : x ≠ g := h.bx.ne h.mb.bg (by decide)
  have n2 : m ≠ g := h.mb.bm.ne h.mb.bg (by decide)
  exact h.turn hc' (h.bx.chg hc n1) ⟨h.mb.bm.chg hc n2, hb, hl⟩ (h.lf.keep (h.apart hc'))
theorem eStay (h : HE O w0 u x m g s n k b st lv ver pub L C S K Fs Q) : Calls Tryz.prog 48 #[ptr x] u fun r w' => r = .returned (.int .i64 0) ∧ HE O w0 w' x m g s n k b st lv b pub L C S K Fs Q := by
  have c3 : u.cell? ⟨x, 3, none⟩ = some (.int .i64 b) := h.bx.cell 3
  have c7 : u.cell? ⟨x, 7, none⟩ = some (.int .i64 ver) := h.bx.cell 7
  have f7 := h.bx.frozen 7
  have HF : Hid (HE O w0 (u.setCell ⟨x, 7, none⟩ (.int .i64 b)) x m g s n k b st lv b pub L C S K Fs Q) := h.setX 7 _ rfl
  clear h
  unfold ptr at *
  go_enter Tryz.func48, Tryz.ntmps48
  go_wp2
  go_ret
  exact ⟨rfl, HF.out⟩
theorem eAdv (h : HE O w0 u x m g s n k b st lv ver pub L C S K Fs Q) (h0 : 0 ≤ k) (hk : k < 1099511627776) : Calls Tryz.prog 52 #[ptr x] u fun r w' => r = .returned (.int .i64 0) ∧ HE O w0 w' x m g s n (k + 1) b st lv (k + 1) pub L C S K Fs Q := by
  have c1 : u.cell? ⟨x, 1, none⟩ = some (ptr m) := h.bx.cell 1
  have ca := adv_at h.mb h0 hk
  have HH := hid h
  clear h
  unfold ptr at *
  go_enter Tryz.func52, Tryz.ntmps52
  go_wp2_with fail
  refine ca.mono ?_
  rintro e w1 ⟨rfl, hb, hc⟩
  have h1 := HH.out.setM hc hb
  have c7 : w1.cell? ⟨x, 7, none⟩ = some (.int .i64 ver) := h1.bx.cell 7
  have f7 := h1.bx.frozen 7
  have HF : Hid (HE O w0 (w1.setCell ⟨x, 7, none⟩ (.int .i64 (k + 1))) x m g s n (k + 1) b st lv (k + 1) pub L C S K Fs Q) := h1.setX 7 _ rfl
  clear ca HH h1 hb hc c1
  go_wp2
  go_ret
  exact ⟨rfl, HF.out⟩
theorem HE.drew (h : HE O w0 u x m g s n k b st lv ver pub L C S K Fs Q) : HE O w0 u.drew x m g s n k b st lv ver pub L C S K Fs Q := h.below ⟨rfl, rfl, rfl, Nat.le_refl _, fun _ _ => rfl⟩
theorem eAgrees (h : HE O w0 u x m g s n k b st lv ver pub L C S K Fs Q) {j : Nat} (hj : j < n) {v : Int} (hr : gt S.R (j : Int) = some v ∨ gt S.R (j : Int) = none) : Calls Tryz.prog 63 #[ptr x, .int .i64 (j : Int), .int .i64 v] u fun r w' => r = .returned (.bool true) ∧ w' = u := by
  have h2 := h.n2
  have hs := seen_at h.hs (j : Int) (cell_wf (by omega))
  have c4 : u.cell? ⟨x, 4, none⟩ = some (ptr s) := h.bx.cell 4
  clear h
  rcases hr with hr | hr
  · rw [hr] at hs
    simp only [Option.getD_some, Option.isSome_some] at hs
    clear hr
    unfold ptr at *
    go_enter Tryz.func63, Tryz.ntmps63
    go_wp2_with (go_at_call 77; refine hs.mono ?_; rintro e w' ⟨rfl, rfl⟩)
    go_ret
    simp
  · rw [hr] at hs
    simp only [Option.getD_none, Option.isSome_none] at hs
    clear hr
    unfold ptr at *
    go_enter Tryz.func63, Tryz.ntmps63
    go_wp2_with (go_at_call 77; refine hs.mono ?_; rintro e w' ⟨rfl, rfl⟩)
    go_ret
    simp
theorem eLook (h : HE O w0 u x m g s n k b st lv ver pub L C S K Fs Q) {j : Nat} {c : Cl} (hc : C[j]? = some c) (ho : c.own = 0 ∨ c.own = 1) (hr : gt S.R (j : Int) = some c.ver ∨ gt S.R (j : Int) = none) : Calls Tryz.prog 55 #[ptr x, .int .i64 (j : Int)] u fun r w' => r = .returned (.int .i64 0) ∧ HE O w0 w' x m g s n k b st lv ver pub L C S K Fs Q := by
  have hj : j < n := by rw [← h.mb.hl]; exact (List.getElem?_eq_some_iff.1 hc).1
  have c1 : u.cell? ⟨x, 1, none⟩ = some (ptr m) := h.bx.cell 1
  have cl := load_at h.mb.bm h.mb.bg h.mb.hl j c hc
  have HH := hid (And.intro h (And.intro hj hr))
  clear h hr hc hj
  obtain ⟨ce, cv, co⟩ := c
  simp only at ho HH cl
  unfold ptr ag at *
  go_enter Tryz.func55, Tryz.ntmps55
  go_wp2_with fail
  refine cl.mono ?_
  rintro e w1 ⟨rfl, hb⟩
  obtain ⟨h, hj, hr⟩ := HH.out
  have h1 := (h.below hb).below ((Below.refl w1.heap.size w1).alloc (Nat.le_refl _) (.cells #[.bool ce.u, .string ce.k, .string ce.v] 28))
  have ca := eAgrees h1 hj hr
  have d2 : (w1.alloc (.cells #[.bool ce.u, .string ce.k, .string ce.v] 28)).cell? ⟨x, 2, none⟩ = some (.int .i64 1) := h1.bx.cell 2
  have HF := hid h1
  clear cl hb h hj hr h1 HH c1
  unfold ptr at *
  rcases ho with rfl | rfl
  · go_wp2_with (go_at_call 63; refine ca.mono ?_; rintro e w' ⟨rfl, hw⟩; subst hw)
    go_ret
    exact ⟨rfl, HF.out⟩
  · go_wp2_with (go_at_call 63; refine ca.mono ?_; rintro e w' ⟨rfl, hw⟩; subst hw)
    go_ret
    exact ⟨rfl, HF.out⟩
set_option maxRecDepth 100000 in
set_option maxHeartbeats 4000000 in
theorem ePub (h : HE O w0 u x m g s n k b st lv ver pub L C S K Fs Q) {j : Nat} {c : Cl} {e : En} (hc : C[j]? = some c) (ho : c.own = 1) (hv : c.ver < ver) (hk : ver ≤ k) (hw : gt S.W (j : Int) = some e) : Calls Tryz.prog 57 #[ptr x, .int .i64 (j : Int)] u fun r w' => r = .returned (.int .i64 0) ∧ HE O w0 w' x m g s n k b st lv ver true L (C.set j ⟨e, ver, 0⟩) S K Fs Q := by
  have hj : j < n := by rw [← h.mb.hl]; exact (List.getElem?_eq_some_iff.1 hc).1
  have h2 := h.n2
  have c4 : u.cell? ⟨x, 4, none⟩ = some (ptr s) := h.bx.cell 4
  have cv := value_at h.hs (j : Int) (cell_wf (by omega))
  rw [hw] at cv
  simp only [Option.getD_some, Option.isSome_some] at cv
  have HH := hid (And.intro h (And.intro hc (And.intro ho (And.intro hv hk))))
  clear h hc ho hv hk hw hj h2
  obtain ⟨eu, ek, ev⟩ := e
  unfold ptr ag at *
  simp only at cv
  go_enter Tryz.func57, Tryz.ntmps57
  go_wp2_with fail
  refine cv.mono ?_
  rintro e w1 ⟨rfl, hb⟩
  obtain ⟨h, hc, ho, hv, hk⟩ := HH.out
  obtain ⟨w2, hw2⟩ : ∃ w2, w2 = w1.alloc (.cells #[.bool eu, .string ek, .string ev] 28) := ⟨_, rfl⟩
  have h1 : HE O w0 w2 x m g s n k b st lv ver pub L C S K Fs Q := by rw [hw2]; exact (h.below hb).below ((Below.refl w1.heap.size w1).alloc (Nat.le_refl _) _)
  have bq : Box w2 w1.heap.size #[.bool eu, .string ek, .string ev] 28 := by rw [hw2]; exact Box.new w1 _ 28
  have hgq : g ≠ w1.heap.size := by have := (h.below hb).mb.bg.lt; omega
  go_upto_region 2 with fail
  rw [← hw2]
  obtain ⟨q, hq⟩ : ∃ q, q = w1.heap.size := ⟨_, rfl⟩
  rw [← hq] at bq hgq ⊢
  clear hq hw2 cv hb h HH c4
  have cp := pub_at h1.drew.mb j c hc ho ⟨eu, ek, ev⟩ ver hv hk
  have HG : Hid (∀ w', Box w' g (cls (C.set j ⟨⟨eu, ek, ev⟩, ver, 0⟩)).toArray 119 → Chg (fun y => y = g) w2.drew w' → HE O w0 w' x m g s n k b st lv ver pub L (C.set j ⟨⟨eu, ek, ev⟩, ver, 0⟩) S K Fs Q ∧ Box w' q #[.bool eu, .string ek, .string ev] 28) := fun w' hb hc' => ⟨h1.drew.setG hc' hb (by rw [List.length_set]; exact h1.mb.hl), (bq.drew 1).chg hc' (Ne.symm hgq)⟩
  have x1 : w2.cell? ⟨x, 1, none⟩ = some (ptr m) := h1.bx.cell 1
  have x2 : w2.cell? ⟨x, 2, none⟩ = some (.int .i64 1) := h1.bx.cell 2
  have x7 : w2.cell? ⟨x, 7, none⟩ = some (.int .i64 ver) := h1.bx.cell 7
  have q0 : w2.cell? ⟨q, 0, none⟩ = some (.bool eu) := bq.cell 0
  have q1 : w2.cell? ⟨q, 1, none⟩ = some (.string ek) := bq.cell 1
  have q2 : w2.cell? ⟨q, 2, none⟩ = some (.string ev) := bq.cell 2
  have HK : Hid (∀ w', HE O w0 w' x m g s n k b st lv ver pub L (C.set j ⟨⟨eu, ek, ev⟩, ver, 0⟩) S K Fs Q ∧ Box w' q #[.bool eu, .string ek, .string ev] 28 → w'.cell? ⟨x, 1, none⟩ = some (.pointer (some ⟨m, 0, none⟩)) ∧ w'.cell? ⟨x, 2, none⟩ = some (.int .i64 1) ∧ w'.cell? ⟨x, 7, none⟩ = some (.int .i64 ver) ∧ w'.cell? ⟨q, 0, none⟩ = some (.bool eu) ∧ w'.cell? ⟨q, 1, none⟩ = some (.string ek) ∧ w'.cell? ⟨q, 2, none⟩ = some (.string ev)) := fun w' hh => ⟨hh.1.bx.cell 1, hh.1.bx.cell 2, hh.1.bx.cell 7, hh.2.cell 0, hh.2.cell 1, hh.2.cell 2⟩
  clear h1 bq hgq hc ho hv hk
  unfold ptr ag at *
  simp only at cp
  go_region_held3 (fun u => u.cell? ⟨x, 1, none⟩ = some (.pointer (some ⟨m, 0, none⟩)) ∧ u.cell? ⟨x, 2, none⟩ = some (.int .i64 1) ∧ u.cell? ⟨x, 7, none⟩ = some (.int .i64 ver) ∧ u.cell? ⟨q, 0, none⟩ = some (.bool eu) ∧ u.cell? ⟨q, 1, none⟩ = some (.string ek) ∧ u.cell? ⟨q, 2, none⟩ = some (.string ev)) (first | with_reducible exact HK.out _ m2 | go_keep) (first | (go_at_call 73; refine Calls.mono cp ?_; rintro e v2 ⟨rfl, mb, mc⟩; have m2 := HG.out _ mb mc; clear mb mc))
  have c8 : v2.cell? ⟨x, 8, none⟩ = some (.bool pub) := m2.1.bx.cell 8
  have f8 := m2.1.bx.frozen 8
  have HF : Hid (HE O w0 (v2.setCell ⟨x, 8, none⟩ (.bool true)) x m g s n k b st lv ver true L (C.set j ⟨⟨eu, ek, ev⟩, ver, 0⟩) S K Fs Q) := m2.1.setX 8 _ rfl
  clear m2 HK HG cp
  go_wp2_with fail
  go_ret
  exact ⟨rfl, HF.out⟩
end
end Go.Proofs.YtlbjalodjcajfaaGreat
