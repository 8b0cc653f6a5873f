/-
  What Mark and leave do to sets in memory: a row of maps that grows by one, and is cut by one.
-/
import Derived.Test.YtafiopjgegmfoaaWrite
namespace Go.Proofs.Ytafiopjgegmfoaa
open Go.RowKit Go.Maps
section
variable {α : Type} {enc : α → Value} {tS tM : TypeId}
theorem info_parts {P : Program} {T : TypeId} {z : Value} {n b : Nat} (h : (P.info? T).map (fun i => (i.zero, i.size, i.bytes)) = some (some z, n, b)) : ∃ i, P.info? T = some i ∧ i.zero = some z ∧ i.size = n ∧ i.bytes = b := by
  cases hh : P.info? T with
  | none => rw [hh] at h; cases h
  | some i =>
    rw [hh] at h
    simp at h
    exact ⟨i, rfl, h.1, h.2.1, h.2.2⟩
structure Mrk (enc : α → Value) (tS tM : TypeId) (w w1 w2 : World) (B g : Nat) (S' : SS α) (F : Nat → Prop) (wb : Nat) (v : Value) (n : Nat) (xs : List Value) : Prop where
  own : w2.ownsRow B tM 1 v n xs
  nb : w2.heap[w.heap.size + 1]? = some (.cells #[.map (some w.heap.size)] tM (0, 0))
  sz : w2.heap.size = w.heap.size + 2
  c2 : w.cell? ⟨g, 2, none⟩ = some (.map (some wb)) ∧ w1.cell? ⟨g, 2, none⟩ = some (.map (some wb)) ∧ w2.cell? ⟨g, 2, none⟩ = some (.map (some wb))
  c3 : w.cell? ⟨g, 3, none⟩ = some v ∧ w1.cell? ⟨g, 3, none⟩ = some v ∧ w2.cell? ⟨g, 3, none⟩ = some v
  fin : ∀ gg gc w8, w8.ownsRow B tM 1 (.slice (some ⟨gg, 0, none⟩) (n + 1) gc) (n + 1) (xs ++ [.map (some w.heap.size)]) → w2.grownBy w8 v.ownBlock → (v.ownBlock = some gg ∨ gg = w.heap.size + 2) →
    w8.cell? ⟨g, 2, none⟩ = some (.map (some wb)) ∧ w8.cell? ⟨g, 3, none⟩ = some v ∧ w8.frozen? ⟨g, 3, none⟩ = false ∧ (w8.setCell ⟨g, 3, none⟩ (.slice (some ⟨gg, 0, none⟩) (n + 1) gc)).cell? ⟨g, 2, none⟩ = some (.map (some wb)) ∧
    To enc tS tM w B g S' F (w8.setCell ⟨g, 3, none⟩ (.slice (some ⟨gg, 0, none⟩) (n + 1) gc))
theorem ownsRow_below {w w' : World} {B n : Nat} {e : TypeId} {size : Nat} {v : Value} {xs : List Value} (h : w.ownsRow B e size v n xs) (hb : ∀ k, k < w.heap.size → w'.heap[k]? = w.heap[k]?) : w'.ownsRow B e size v n xs := by
  refine ⟨h.1, ?_⟩
  rcases h.2 with h | ⟨q, cap, cur, rfl, hq, hg, r⟩
  · exact .inl h
  · exact .inr ⟨q, cap, cur, rfl, hq, (hb q (Box.lt hg)).trans hg, r⟩
theorem IsA.marked {w : World} {B g : Nat} {S : SS α} {F : Nat → Prop} {rb wb : Nat} {v : Value} {X : List (Nat × List (Int × α))} (h : IsA enc tS tM w B g S F rb wb v X) {es : Array MapEntry} {cl : Nat} (hcl : ∀ w' : World, ∀ b', w'.heap[b']? = some (.map es cl) → MapL enc w' b' S.W) (ht : tS ≠ tM) (hd : X.length < 8) :
    Mrk enc tS tM w (w.alloc (.map es cl)) ((w.alloc (.map es cl)).alloc (.cells #[.map (some w.heap.size)] tM)) B g { S with M := S.M ++ [S.W] } F wb v X.length (X.map (fun p => mp p.1)) := by
  obtain ⟨w1, hw1⟩ : ∃ w1, w1 = w.alloc (.map es cl) := ⟨_, rfl⟩
  obtain ⟨w2, hw2⟩ : ∃ w2, w2 = w1.alloc (.cells #[.map (some w.heap.size)] tM) := ⟨_, rfl⟩
  rw [← hw1, ← hw2]
  have s1 : w1.heap.size = w.heap.size + 1 := by rw [hw1]; simp
  have s2 : w2.heap.size = w.heap.size + 2 := by rw [hw2]; simp [s1]
  have b1 : ∀ k, k < w.heap.size → w1.heap[k]? = w.heap[k]? := fun k hk => by rw [hw1]; exact Below.heap_alloc w _ k hk
  have b2 : ∀ k, k < w1.heap.size → w2.heap[k]? = w1.heap[k]? := fun k hk => by rw [hw2]; exact Below.heap_alloc w1 _ k hk
  have b12 : ∀ k, k < w.heap.size → w2.heap[k]? = w.heap[k]? := fun k hk => (b2 k (by omega)).trans (b1 k hk)
  have n1 : w1.heap[w.heap.size]? = some (.map es cl) := by rw [hw1]; exact heap_alloc_new w _
  have n2 : w2.heap[w.heap.size + 1]? = some (.cells #[.map (some w.heap.size)] tM (0, 0)) := by rw [hw2, ← s1]; exact heap_alloc_new w1 _
  have n1' : w2.heap[w.heap.size]? = some (.map es cl) := (b2 _ (by omega)).trans n1
  have hgl := h.box.lt
  have x1 : Box w1 g #[ptr g, mp rb, mp wb, v] tS := (b1 g hgl).trans h.box
  have x2 : Box w2 g #[ptr g, mp rb, mp wb, v] tS := (b12 g hgl).trans h.box
  have o2 := ownsRow_below h.row b12
  have hg0 := h.fB g h.fg
  refine ⟨o2, n2, s2, ⟨h.box.cell 2, x1.cell 2, x2.cell 2⟩, ⟨h.box.cell 3, x1.cell 3, x2.cell 3⟩, fun gg gc w8 ho hgr hat => ?_⟩
  have hvne : ∀ k cs t, Box w k cs t → t ≠ tM → v.ownBlock ≠ some k := fun k cs t hb ht' e => by
    obtain ⟨cs', hc⟩ := ownsRow_box h.row k e
    exact hb.ne hc ht' rfl
  have hvm : ∀ (L : List (Int × α)) (e' : α → Value) (b : Nat), MapL e' w b L → v.ownBlock ≠ some b := fun L e' b hb e => by
    obtain ⟨cs', hc⟩ := ownsRow_box h.row b e
    exact hb.noBox hc rfl
  have hvm' : v.ownBlock ≠ some rb := fun e => by
    obtain ⟨cs', hc⟩ := ownsRow_box h.row rb e
    exact h.rd.noBox hc rfl
  have k8 : ∀ k, k < w.heap.size → v.ownBlock ≠ some k → w8.heap[k]? = w.heap[k]? := fun k hk hne => (hgr.block k (by omega) (fun e => hne e.symm)).trans (b12 k hk)
  have x8 : Box w8 g #[ptr g, mp rb, mp wb, v] tS := (k8 g hgl (hvne g _ _ h.box ht)).trans h.box
  have s8 := hgr.size
  have ggt : ∃ cs, Box w8 gg cs tM := ownsRow_box ho gg rfl
  have hggg : gg ≠ g := fun e => by
    obtain ⟨cs, hc⟩ := ggt
    exact (x8.ne (e ▸ hc) ht) rfl
  have m8 : w8.heap[w.heap.size]? = some (.map es cl) := (hgr.block _ (by omega) (fun e => by
    have := h.fB _ (h.fv _ e.symm); omega)).trans n1'
  obtain ⟨v', hv'⟩ : ∃ v' : Value, v' = .slice (some ⟨gg, 0, none⟩) (X.length + 1) gc := ⟨_, rfl⟩
  rw [← hv'] at ho ⊢
  have x9 : Box (w8.setCell ⟨g, 3, none⟩ v') g #[ptr g, mp rb, mp wb, v'] tS := x8.store 3 v'
  have s9 : (w8.setCell ⟨g, 3, none⟩ v').heap.size = w8.heap.size := by simp
  have k9 : ∀ k, k ≠ g → (w8.setCell ⟨g, 3, none⟩ v').heap[k]? = w8.heap[k]? := fun k hk => heap_setCell_other w8 ⟨g, 3, none⟩ k v' hk
  refine ⟨x8.cell 2, x8.cell 3, x8.frozen 3, x9.cell 2, ?_⟩
  obtain ⟨w9, hw9⟩ : ∃ w9, w9 = w8.setCell ⟨g, 3, none⟩ v' := ⟨_, rfl⟩
  have hb9 : Below B w w9 := by
    have q1 : Below B w w2 := by rw [hw2, hw1]; exact ((Below.refl B w).alloc (by omega) _).alloc (by simp; omega) _
    have q2 : Below B w w8 := q1.grown hgr (by omega) (fun k e => (h.fB k (h.fv k e)).1)
    rw [hw9]
    exact q2.grown (grown_store w8 g 3 v') (by omega) (fun k e => by cases e; omega)
  rw [← hw9] at x9 s9 k9 ⊢
  have kk : ∀ k, k < w.heap.size → v.ownBlock ≠ some k → k ≠ g → w9.heap[k]? = w.heap[k]? := fun k hk h1 h2 => (k9 k h2).trans (k8 k hk h1)
  refine ⟨⟨rb, wb, v', X ++ [(w.heap.size, S.W)], ?_⟩, hb9, ⟨by omega, fun k hk hF => kk k hk (fun e => hF (h.fv k e)) (fun e => hF (e ▸ h.fg))⟩⟩
  have hnew : ∀ x ∈ rb :: wb :: X.map (·.1), x < w.heap.size := fun x hx => by
    rcases List.mem_cons.1 hx with rfl | hx
    · exact h.rd.lt
    rcases List.mem_cons.1 hx with rfl | hx
    · exact h.wr.lt
    obtain ⟨p, hp, rfl⟩ := List.mem_map.1 hx
    exact (h.mks p hp).lt
  exact {
    box := x9
    rd := h.rd.stay (kk rb h.rd.lt hvm' (h.rd.noBox h.box))
    wr := h.wr.stay (kk wb h.wr.lt (hvm _ _ _ h.wr) (h.wr.noBox h.box))
    row := by
      have e : (X ++ [(w.heap.size, S.W)]).map (fun p => mp p.1) = X.map (fun p => mp p.1) ++ [.map (some w.heap.size)] := by simp [mp]
      rw [e, List.length_append, List.length_singleton, hw9]
      exact ownsRow_grown ho (grown_store w8 g 3 v') (fun k hk e => by
        rw [hv'] at hk
        injection hk with hk
        injection e with e
        exact hggg (hk.trans e.symm))
    mks := fun p hp => by
      rcases List.mem_append.1 hp with hp | hp
      · exact (h.mks p hp).stay (kk _ (h.mks p hp).lt (hvm _ _ _ (h.mks p hp)) ((h.mks p hp).noBox h.box))
      · rw [List.mem_singleton] at hp
        subst hp
        exact hcl w9 _ ((k9 _ (by omega)).trans m8)
    em := by simp [h.em]
    nd := by
      have e : rb :: wb :: (X ++ [(w.heap.size, S.W)]).map (·.1) = (rb :: wb :: X.map (·.1)) ++ [w.heap.size] := by simp
      rw [e, List.nodup_append]
      refine ⟨h.nd, by simp, fun a ha b hb => ?_⟩
      rw [List.mem_singleton] at hb
      have := hnew a ha
      omega
    fg := .inl h.fg
    fr := .inl h.fr
    fw := .inl h.fw
    fx := fun p hp => by
      rcases List.mem_append.1 hp with hp | hp
      · exact .inl (h.fx p hp)
      · rw [List.mem_singleton] at hp
        subst hp
        exact .inr ⟨Nat.le_refl _, by omega⟩
    fv := fun k hk => by
      rw [hv'] at hk
      injection hk with hk
      obtain ⟨cs, hc⟩ := ggt
      have hl := Box.lt hc
      subst hk
      rcases hat with e | e
      · exact .inl (h.fv _ e)
      · exact .inr ⟨by show w.heap.size ≤ gg; omega, by show gg < w9.heap.size; omega⟩
    fB := grow_lt h.fB (by omega) (by omega)
    dep := by simp; omega }
/-- what leave leaves -/
theorem IsA.left {w w' : World} {B g : Nat} {S : SS α} {F : Nat → Prop} {rb wb : Nat} {v v' : Value} {X : List (Nat × List (Int × α))} {q : Nat × List (Int × α)} (h : IsA enc tS tM w B g S F rb wb v (X ++ [q])) (ht : tS ≠ tM) (ho : w'.ownsRow B tM 1 v' X.length (X.map (fun p => mp p.1))) (hv : v'.ownBlock = v.ownBlock) (hg : w.grownBy w' v.ownBlock) :
    w'.cell? ⟨g, 3, none⟩ = some v ∧ w'.frozen? ⟨g, 3, none⟩ = false ∧ Below B w (w'.setCell ⟨g, 3, none⟩ v') ∧ Upd F w (w'.setCell ⟨g, 3, none⟩ v') ∧
    IsA enc tS tM (w'.setCell ⟨g, 3, none⟩ v') B g { S with M := S.M.dropLast } (grow F w (w'.setCell ⟨g, 3, none⟩ v')) rb wb v' X ∧ MapL enc (w'.setCell ⟨g, 3, none⟩ v') q.1 q.2 ∧ q.1 ∉ rb :: wb :: X.map (·.1) ∧ F q.1 := by
  have hgl := h.box.lt
  have hg0 := h.fB g h.fg
  have hvne : v.ownBlock ≠ some g := fun e => by
    obtain ⟨cs', hc⟩ := ownsRow_box h.row g e
    exact h.box.ne hc ht rfl
  have hvm : ∀ (L : List (Int × α)) (b : Nat), MapL enc w b L → v.ownBlock ≠ some b := fun L b hb e => by
    obtain ⟨cs', hc⟩ := ownsRow_box h.row b e
    exact hb.noBox hc rfl
  have hvm' : v.ownBlock ≠ some rb := fun e => by
    obtain ⟨cs', hc⟩ := ownsRow_box h.row rb e
    exact h.rd.noBox hc rfl
  have x8 : Box w' g #[ptr g, mp rb, mp wb, v] tS := (hg.block g hgl (fun e => hvne e.symm)).trans h.box
  have x9 : Box (w'.setCell ⟨g, 3, none⟩ v') g #[ptr g, mp rb, mp wb, v'] tS := x8.store 3 v'
  have s9 : (w'.setCell ⟨g, 3, none⟩ v').heap.size = w'.heap.size := by simp
  have k9 : ∀ k, k ≠ g → (w'.setCell ⟨g, 3, none⟩ v').heap[k]? = w'.heap[k]? := fun k hk => heap_setCell_other w' ⟨g, 3, none⟩ k v' hk
  have s8 := hg.size
  have hb9 : Below B w (w'.setCell ⟨g, 3, none⟩ v') :=
    ((Below.refl B w).grown hg (by omega) (fun k e => (h.fB k (h.fv k e)).1)).grown (grown_store w' g 3 v') (by omega) (fun k e => by cases e; omega)
  have own9 : (w'.setCell ⟨g, 3, none⟩ v').ownsRow B tM 1 v' X.length (X.map (fun p => mp p.1)) := ownsRow_grown ho (grown_store w' g 3 v') (fun k hk e => by
    injection e with e
    exact hvne (hv ▸ (hk.trans (congrArg some e.symm))))
  generalize w'.setCell ⟨g, 3, none⟩ v' = w9 at *
  have kk : ∀ k, k < w.heap.size → v.ownBlock ≠ some k → k ≠ g → w9.heap[k]? = w.heap[k]? := fun k hk h1 h2 => (k9 k h2).trans (hg.block k hk (fun e => h1 e.symm))
  have hq : q ∈ X ++ [q] := by simp
  have hnd : (rb :: wb :: X.map (·.1)) ++ [q.1] = rb :: wb :: (X ++ [q]).map (·.1) := by simp
  have nd := h.nd
  rw [← hnd, List.nodup_append] at nd
  refine ⟨x8.cell 3, x8.frozen 3, hb9, ⟨by omega, fun k hk hF => kk k hk (fun e => hF (h.fv k e)) (fun e => hF (e ▸ h.fg))⟩, ?_, (h.mks q hq).stay (kk _ (h.mks q hq).lt (hvm _ _ (h.mks q hq)) ((h.mks q hq).noBox h.box)), fun hm => nd.2.2 _ hm _ (List.mem_singleton_self _) rfl, h.fx q hq⟩
  exact {
    box := x9
    rd := h.rd.stay (kk rb h.rd.lt hvm' (h.rd.noBox h.box))
    wr := h.wr.stay (kk wb h.wr.lt (hvm _ _ h.wr) (h.wr.noBox h.box))
    row := own9
    mks := fun p hp => by
      have hp' : p ∈ X ++ [q] := List.mem_append_left _ hp
      exact (h.mks p hp').stay (kk _ (h.mks p hp').lt (hvm _ _ (h.mks p hp')) ((h.mks p hp').noBox h.box))
    em := by simp [h.em]
    nd := nd.1
    fg := .inl h.fg
    fr := .inl h.fr
    fw := .inl h.fw
    fx := fun p hp => .inl (h.fx p (List.mem_append_left _ hp))
    fv := fun k hk => .inl (h.fv k (hv ▸ hk))
    fB := grow_lt h.fB (by omega) (by omega)
    dep := by have := h.dep; simp at this; omega }
end
end Go.Proofs.Ytafiopjgegmfoaa
