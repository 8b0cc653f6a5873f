/-
  A transaction over its memory, and boxes of one's own beside it.
-/
import Derived.Test.YtlbjalodjcajfaaGreatSwr
namespace Go.Proofs.YtlbjalodjcajfaaGreat
open Go.RowKit Go.Maps
abbrev Bx := Nat × Array Value × TypeId
def AllB (w : World) (K : List Bx) : Prop := ∀ x ∈ K, Box w x.1 x.2.1 x.2.2
/-- what cell j tells the transaction -/
def vw (C : List Cl) (S : SS En) (j : Nat) : En := (gt S.W (j : Int)).getD ((C[j]?.map (·.e)).getD E0)
def tcells (x m s : Nat) (b st : Int) : Array Value := #[ptr x, ptr m, .int .i64 1, .int .i64 b, ptr s, .int .u8 st, .slice none 0 0, .int .i64 0, .bool false]
theorem obj_lt {u : World} {a : Nat} {o : Obj} (h : u.heap[a]? = some o) : a < u.heap.size := (Array.getElem?_eq_some_iff.1 h).1
theorem map_ne {u : World} {a q : Nat} {o : Obj} {cs : Array Value} {t : TypeId} (h : u.heap[a]? = some o) (hm : ∃ es cl, o = .map es cl) (hb : Box u q cs t) : a ≠ q := by
  rintro rfl
  obtain ⟨es, cl, rfl⟩ := hm
  unfold Box at hb
  rw [h] at hb
  injection hb with hb
  cases hb
structure HT (O : List (Nat × Obj)) (w0 u : World) (x m g s n : Nat) (k b st : Int) (C : List Cl) (S : SS En) (V : List En) (K : List Bx) (Fs : Nat → Prop) : Prop where
  bx : Box u x (tcells x m s b st) 63
  bm : Box u m #[ptr m, .slice (some ⟨g, 0, none⟩) n n, .int .i64 k] 56
  bg : Box u g (cls C).toArray 119
  hs : IsS ag 93 91 u w0.heap.size s S Fs
  nx : ¬ Fs x
  nm : ¬ Fs m
  ng : ¬ Fs g
  ox : w0.heap.size ≤ x
  om : w0.heap.size ≤ m
  og : w0.heap.size ≤ g
  hl : C.length = n
  n1 : 1 ≤ n
  n2 : n ≤ 256
  b0 : 0 ≤ b
  hC : ∀ c ∈ C, c.own = 0 ∧ 0 ≤ c.ver ∧ c.ver ≤ b
  hR : ∀ i v, gt S.R i = some v → ∃ (j : Nat) (c : Cl), i = (j : Int) ∧ C[j]? = some c ∧ v = c.ver
  hW : ∀ i, (gt S.W i).isSome = true → ∃ j : Nat, i = (j : Int) ∧ j < n
  vl : V.length = n
  hV : ∀ j, j < n → V[j]? = some (vw C S j)
  bK : AllB u K
  kn : ∀ y ∈ K, y.1 ≠ x ∧ y.1 ≠ m ∧ y.1 ≠ g ∧ ¬ Fs y.1
  bel : Below w0.heap.size w0 u
  ko : ∀ y ∈ O, u.heap[y.1]? = some y.2 ∧ (∃ es cl, y.2 = .map es cl) ∧ ¬ Fs y.1
section
variable {O : List (Nat × Obj)}
variable {w0 u u' : World} {x m g s n : Nat} {k b st : Int} {C : List Cl} {S : SS En} {V : List En} {K : List Bx} {Fs : Nat → Prop}
theorem HT.below (h : HT O w0 u x m g s n k b st C S V K Fs) (hb : Below u.heap.size u u') : HT O w0 u' x m g s n k b st C S V K Fs :=
  { h with
    bx := h.bx.below hb h.bx.lt
    bm := h.bm.below hb h.bm.lt
    bg := h.bg.below hb h.bg.lt
    hs := h.hs.below hb
    bK := fun y hy => (h.bK y hy).below hb (h.bK y hy).lt
    ko := fun y hy => ⟨(hb.block y.1 (obj_lt (h.ko y hy).1)).trans (h.ko y hy).1, (h.ko y hy).2⟩
    bel := h.bel.trans (hb.mono h.bel.size) }
theorem HT.box (h : HT O w0 u x m g s n k b st C S V K Fs) (cs : Array Value) (t : TypeId) : HT O w0 (u.alloc (.cells cs t)) x m g s n k b st C S V ((u.heap.size, cs, t) :: K) Fs :=
  { h.below ((Below.refl u.heap.size u).alloc (Nat.le_refl _) (.cells cs t)) with
    bK := fun y hy => by
      rcases List.mem_cons.1 hy with rfl | hy
      · exact Box.new u cs t
      · exact (h.bK y hy).alloc _
    kn := fun y hy => by
      rcases List.mem_cons.1 hy with rfl | hy
      · have a1 := h.bx.lt
        have a2 := h.bm.lt
        have a3 := h.bg.lt
        exact ⟨by simp only; omega, by simp only; omega, by simp only; omega, fun e => by have := (h.hs.fB _ e).2; simp only at this; omega⟩
      · exact h.kn y hy }
theorem HT.less (h : HT O w0 u x m g s n k b st C S V K Fs) {K' : List Bx} (hs : ∀ y ∈ K', y ∈ K) : HT O w0 u x m g s n k b st C S V K' Fs :=
  { h with
    bK := fun y hy => h.bK y (hs y hy)
    kn := fun y hy => h.kn y (hs y hy) }
theorem AllB.one {b : Bx} (h : AllB u (b :: K)) : Box u b.1 b.2.1 b.2.2 := h _ (List.mem_cons_self ..)
/-- a box of one's own is written; boxes of one's own are unlike each other -/
theorem HT.put {q : Nat} {cs : Array Value} {t : TypeId} (h : HT O w0 u x m g s n k b st C S V ((q, cs, t) :: K) Fs) (hq : ∀ y ∈ K, y.1 ≠ q) (hB : w0.heap.size ≤ q) (j : Nat) (v : Value) : HT O w0 (u.setCell ⟨q, j, none⟩ v) x m g s n k b st C S V ((q, cs.setIfInBounds j v, t) :: K) Fs := by
  have hb := h.bK.one
  obtain ⟨k1, k2, k3, k4⟩ := h.kn _ (List.mem_cons_self ..)
  simp only at hb k1 k2 k3 k4
  have hg := grown_store u q j v
  exact
    { h with
      bx := h.bx.other q j v (Ne.symm k1)
      bm := h.bm.other q j v (Ne.symm k2)
      bg := h.bg.other q j v (Ne.symm k3)
      hs := h.hs.stay hg.size (fun y hy => hg.block y (h.hs.fB y hy).2 (fun e => by injection e with e; exact k4 (e ▸ hy)))
      bK := fun y hy => by
        rcases List.mem_cons.1 hy with rfl | hy
        · exact hb.store j v
        · exact (h.bK y (List.mem_cons_of_mem _ hy)).other q j v (hq y hy)
      kn := fun y hy => by
        rcases List.mem_cons.1 hy with rfl | hy
        · exact ⟨k1, k2, k3, k4⟩
        · exact h.kn y (List.mem_cons_of_mem _ hy)
      ko := fun y hy => ⟨(hg.block y.1 (obj_lt (h.ko y hy).1) (fun e => map_ne (h.ko y hy).1 (h.ko y hy).2.1 hb (by have := Option.some.inj e; omega))).trans (h.ko y hy).1, (h.ko y hy).2⟩
      bel := h.bel.setCell hB v }
theorem set_three (a b c x y z : Value) : ((#[a, b, c].setIfInBounds 0 x).setIfInBounds 1 y).setIfInBounds 2 z = #[x, y, z] := rfl
theorem HT.put3 {q : Nat} {a1 a2 a3 : Value} {t : TypeId} (h : HT O w0 u x m g s n k b st C S V ((q, #[a1, a2, a3], t) :: K) Fs) (hq : ∀ y ∈ K, y.1 ≠ q) (hB : w0.heap.size ≤ q) (v1 v2 v3 : Value) : HT O w0 (((u.setCell ⟨q, 0, none⟩ v1).setCell ⟨q, 1, none⟩ v2).setCell ⟨q, 2, none⟩ v3) x m g s n k b st C S V ((q, #[v1, v2, v3], t) :: K) Fs :=
  ((h.put hq hB 0 v1).put hq hB 1 v2).put hq hB 2 v3
/-- the sets alone were changed -/
theorem HT.sets {S' : SS En} (h : HT O w0 u x m g s n k b st C S V K Fs) (t : To ag 93 91 u w0.heap.size s S' Fs u') {V' : List En}
    (hR : ∀ i v, gt S'.R i = some v → ∃ (j : Nat) (c : Cl), i = (j : Int) ∧ C[j]? = some c ∧ v = c.ver) (hW : ∀ i, (gt S'.W i).isSome = true → ∃ j : Nat, i = (j : Int) ∧ j < n)
    (vl : V'.length = n) (hV : ∀ j, j < n → V'[j]? = some (vw C S' j)) : HT O w0 u' x m g s n k b st C S' V' K (grow Fs u u') := by
  obtain ⟨t1, t2, t3⟩ := t
  have ng : ∀ y, y < u.heap.size → ¬ Fs y → ¬ grow Fs u u' y := fun y hy hn e => e.elim hn (fun e => by omega)
  have st : ∀ y cs t, Box u y cs t → ¬ Fs y → Box u' y cs t := fun y cs t hb hn => (t3.2 y hb.lt hn).trans hb
  exact
    { h with
      bx := st _ _ _ h.bx h.nx
      bm := st _ _ _ h.bm h.nm
      bg := st _ _ _ h.bg h.ng
      hs := t1
      nx := ng _ h.bx.lt h.nx
      nm := ng _ h.bm.lt h.nm
      ng := ng _ h.bg.lt h.ng
      hR := hR
      hW := hW
      vl := vl
      hV := hV
      bK := fun y hy => st _ _ _ (h.bK y hy) (h.kn y hy).2.2.2
      kn := fun y hy => ⟨(h.kn y hy).1, (h.kn y hy).2.1, (h.kn y hy).2.2.1, ng _ (h.bK y hy).lt (h.kn y hy).2.2.2⟩
      ko := fun y hy => ⟨(t3.2 y.1 (obj_lt (h.ko y hy).1) (h.ko y hy).2.2).trans (h.ko y hy).1, (h.ko y hy).2.1, ng _ (obj_lt (h.ko y hy).1) (h.ko y hy).2.2⟩
      bel := h.bel.trans t2 }
theorem few {l : List Int} {n : Nat} (hn : l.Nodup) (h : ∀ i ∈ l, ∃ j : Nat, i = (j : Int) ∧ j < n) (j : Nat) (hj : j < n) (hk : (j : Int) ∉ l) : l.length < n := by
  have := nodup_sub ((j : Int) :: l) ((List.range n).map (fun (i : Nat) => (i : Int))) (List.nodup_cons.2 ⟨hk, hn⟩) (fun y hy => by
    rw [List.mem_map]
    rcases List.mem_cons.1 hy with rfl | hy
    · exact ⟨j, List.mem_range.2 hj, rfl⟩
    · obtain ⟨j', rfl, hj'⟩ := h y hy
      exact ⟨j', List.mem_range.2 hj', rfl⟩)
  simp at this
  omega
theorem HT.room (h : HT O w0 u x m g s n k b st C S V K Fs) {j : Nat} {c : Cl} (hc : C[j]? = some c) : gt S.R (j : Int) = some c.ver ∨ (gt S.R (j : Int) = none ∧ S.R.length < 256) := by
  have hj : j < n := by rw [← h.hl]; exact (List.getElem?_eq_some_iff.1 hc).1
  cases hg : gt S.R (j : Int) with
  | some v =>
    obtain ⟨j', c', e, hc', rfl⟩ := h.hR _ _ hg
    obtain rfl : j = j' := by omega
    rw [hc] at hc'
    injection hc' with hc'
    exact .inl (by rw [hc'])
  | none =>
    obtain ⟨rb, wb, v, X, hs⟩ := h.hs
    have hk : (j : Int) ∉ kys S.R := fun e => by rw [gt_some_iff, hg] at e; cases e
    have := few hs.rd.gd.nd (fun i hi => by
      rw [gt_some_iff] at hi
      cases hv : gt S.R i with
      | none => rw [hv] at hi; cases hi
      | some v =>
        obtain ⟨j', c', e, hc', _⟩ := h.hR _ _ hv
        exact ⟨j', e, by rw [← h.hl]; exact (List.getElem?_eq_some_iff.1 hc').1⟩) j hj hk
    rw [kys_len] at this
    have := h.n2
    exact .inr ⟨rfl, by omega⟩
theorem HT.roomW (h : HT O w0 u x m g s n k b st C S V K Fs) {j : Nat} (hj : j < n) : (gt S.W (j : Int)).isSome = true ∨ S.W.length < 256 := by
  cases hg : (gt S.W (j : Int)).isSome with
  | true => exact .inl rfl
  | false =>
    obtain ⟨rb, wb, v, X, hs⟩ := h.hs
    have hk : (j : Int) ∉ kys S.W := fun e => by rw [gt_some_iff, hg] at e; cases e
    have := few hs.wr.gd.nd (fun i hi => h.hW i ((gt_some_iff _ _).1 hi)) j hj hk
    rw [kys_len] at this
    have := h.n2
    exact .inr (by omega)
theorem gt_app {α : Type} (L : List (Int × α)) (i k : Int) (v : α) (h : gt L i = none) : gt (L ++ [(i, v)]) k = if i = k then some v else gt L k := by
  rw [← pt_none L i v h, gt_pt]
  by_cases e : k = i
  · rw [if_pos e, if_pos e.symm]
  · rw [if_neg e, if_neg (Ne.symm e)]
/-- a cell was read -/
theorem HT.noted (h : HT O w0 u x m g s n k b st C S V K Fs) {j : Nat} {c : Cl} (hc : C[j]? = some c) (t : To ag 93 91 u w0.heap.size s (S.rd (j : Int) c.ver) Fs u') : HT O w0 u' x m g s n k b st C (S.rd (j : Int) c.ver) V K (grow Fs u u') := by
  refine h.sets t (fun i v hv => ?_) (fun i hi => h.hW i (by unfold SS.rd at hi; split at hi <;> exact hi)) h.vl (fun i hi => by rw [h.hV i hi]; unfold vw SS.rd; split <;> rfl)
  unfold SS.rd at hv
  split at hv
  · exact h.hR _ _ hv
  · rename_i hn
    have hn' : gt S.R (j : Int) = none := by cases hg : gt S.R (j : Int) <;> simp_all
    rw [show ({ S with R := S.R ++ [((j : Int), c.ver)] } : SS En).R = S.R ++ [((j : Int), c.ver)] from rfl, gt_app _ _ _ _ hn'] at hv
    split at hv
    · rename_i e; injection hv with hv; exact ⟨j, c, e.symm, hc, hv.symm⟩
    · exact h.hR _ _ hv
/-- a cell was written -/
theorem HT.wrote (h : HT O w0 u x m g s n k b st C S V K Fs) {j : Nat} (hj : j < n) (e : En) (t : To ag 93 91 u w0.heap.size s { S with W := pt S.W (j : Int) e } Fs u') : HT O w0 u' x m g s n k b st C { S with W := pt S.W (j : Int) e } (V.set j e) K (grow Fs u u') := by
  refine h.sets t h.hR (fun i hi => ?_) (by simp [h.vl]) (fun i hi => ?_)
  · rw [show ({ S with W := pt S.W (j : Int) e } : SS En).W = pt S.W (j : Int) e from rfl, gt_pt] at hi
    split at hi
    · rename_i e; exact ⟨j, e, hj⟩
    · exact h.hW i hi
  · have hv := h.hV i hi
    unfold vw at hv ⊢
    rw [show ({ S with W := pt S.W (j : Int) e } : SS En).W = pt S.W (j : Int) e from rfl, gt_pt, List.getElem?_set]
    by_cases hij : j = i
    · subst hij
      rw [if_pos rfl, if_pos rfl, if_pos (by rw [h.vl]; exact hj)]
      rfl
    · rw [if_neg hij, if_neg (by omega)]
      exact hv
end
end Go.Proofs.YtlbjalodjcajfaaGreat
