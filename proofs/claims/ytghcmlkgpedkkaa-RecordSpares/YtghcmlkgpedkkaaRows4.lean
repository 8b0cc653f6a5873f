/-
  Rows of 4096 bytes that lie apart, gathered: no walk here.
-/
import Derived.Test.YtghcmlkgpedkkaaCopyI
import Derived.Test.YtghcmlkgpedkkaaApartWalk
namespace Go.Proofs.Ytghcmlkgpedkkaa
open Go.RowKit

def rcC (rs : List (Nat × Nat)) : List Value := rs.map fun p => .slice (some ⟨p.1, 0, none⟩) 4096 p.2
/-- rows of 4096 bytes between two blocks, apart -/
structure Rw (B T : Nat) (W : World) (rs : List (Nat × Nat)) : Prop where
  rows : ∀ p ∈ rs, (∃ ys, RowB W p.1 p.2 ys ∧ ys.length = 4096) ∧ B ≤ p.1 ∧ p.1 < T
  apart : (rs.map Prod.fst).Nodup
theorem Rw.below {B T : Nat} {W W' : World} {rs : List (Nat × Nat)} (h : Rw B T W rs) (b : Below W.heap.size W W') : Rw B T W' rs :=
  ⟨fun p hp => by
    obtain ⟨⟨ys, h1, h2⟩, h3⟩ := h.rows p hp
    exact ⟨⟨ys, h1.same (b.block _ h1.lt), h2⟩, h3⟩, h.apart⟩
theorem Rw.join {B T T' : Nat} {W : World} {rs qs : List (Nat × Nat)} (h : Rw B T W rs) (k : Rw T T' W qs) (hB : B ≤ T) (hT : T ≤ T') : Rw B T' W (rs ++ qs) := by
  refine ⟨fun p hp => ?_, ?_⟩
  · rcases List.mem_append.1 hp with q | q
    · obtain ⟨h1, h2, h3⟩ := h.rows p q
      exact ⟨h1, h2, by omega⟩
    · obtain ⟨h1, h2, h3⟩ := k.rows p q
      exact ⟨h1, by omega, h3⟩
  · rw [List.map_append, List.nodup_append]
    refine ⟨h.apart, k.apart, fun x hx y hy e => ?_⟩
    obtain ⟨p, hp, rfl⟩ := List.mem_map.1 hx
    obtain ⟨q, hq, rfl⟩ := List.mem_map.1 hy
    have h1 := (h.rows p hp).2.2
    have h2 := (k.rows q hq).2.1
    omega
theorem rw_get {B : Nat} {W : World} {qs : List GG} (h : GetJ B W qs) : Rw B W.heap.size W (qs.map fun p => (p.h, p.c)) := by
  refine ⟨fun p hp => ?_, ?_⟩
  · obtain ⟨q, hq, rfl⟩ := List.mem_map.1 hp
    obtain ⟨h1, h2, h3⟩ := h.rows q hq
    exact ⟨⟨q.xs, h1, h3⟩, h2, h1.lt⟩
  · rw [List.map_map]
    exact h.apart
theorem rw_put {M : List UInt8} {B h0 : Nat} {W : World} {ps : List PP} {hd : List UInt8} (hM : M.length = 8) (h : PutJ M B W ps) (hr : RowB W h0 4096 hd) (hl : hd.length = 4096) (hn : h0 ∉ ps.map PP.h) (hb : B ≤ h0) (h4 : ∀ p ∈ ps, p.xs.length = 4096) :
    Rw B W.heap.size W ((h0, 4096) :: ps.map fun p => (p.h, p.c)) := by
  refine ⟨fun p hp => ?_, ?_⟩
  · rcases List.mem_cons.1 hp with rfl | hp
    · exact ⟨⟨hd, hr, hl⟩, hb, hr.lt⟩
    · obtain ⟨q, hq, rfl⟩ := List.mem_map.1 hp
      obtain ⟨h1, _, h3, _⟩ := h.rows q hq
      exact ⟨⟨_, h1, stB_length M q.xs (h4 q hq) hM⟩, h3, h1.lt⟩
  · rw [List.map_cons, List.map_map, List.nodup_cons]
    exact ⟨hn, h.apart⟩
/-- copies of 4096 bytes each -/
theorem rw_cp {B : Nat} {W : World} {ps : List CP} (h : CpJ B W ps) (h4 : ∀ p ∈ ps, p.xs.length = 4096) : ∃ rs : List (Nat × Nat), rs.length = ps.length ∧ Rw B W.heap.size W rs ∧ ∀ i (hi : i < ps.length), (ps[i]).v = .slice (some ⟨(rs.getD i (0, 0)).1, 0, none⟩) 4096 (rs.getD i (0, 0)).2 := by
  induction ps with
  | nil => exact ⟨[], rfl, ⟨fun p hp => (by cases hp), List.nodup_nil⟩, fun i hi => (by simp at hi)⟩
  | cons p ps ih =>
    obtain ⟨rs, h1, h2, h3⟩ := ih ⟨fun q hq => h.rows q (List.mem_cons_of_mem _ hq), (List.pairwise_cons.1 h.apart).2⟩ (fun q hq => h4 q (List.mem_cons_of_mem _ hq))
    have hp := h.rows p (List.mem_cons_self ..)
    have hp4 := h4 p (List.mem_cons_self ..)
    rw [hp4] at hp
    obtain ⟨g, cap, hv, hg, hrow⟩ := RowB.owns hp (by omega)
    refine ⟨(g, cap) :: rs, by simp [h1], ⟨fun q hq => ?_, ?_⟩, fun i hi => ?_⟩
    · rcases List.mem_cons.1 hq with rfl | hq
      · exact ⟨⟨_, hrow, hp4⟩, hg, hrow.lt⟩
      · exact h2.rows q hq
    · rw [List.map_cons, List.nodup_cons]
      refine ⟨fun hm => ?_, h2.apart⟩
      obtain ⟨q, hq, e⟩ := List.mem_map.1 hm
      obtain ⟨i, hi, rfl⟩ := List.getElem_of_mem hq
      have hi' : i < ps.length := by omega
      have h5 := h3 i hi'
      have e6 : rs.getD i (0, 0) = rs[i] := by simp [hi]
      rw [e6] at h5
      refine (List.pairwise_cons.1 h.apart).1 ps[i] (List.getElem_mem hi') g (by rw [hv]; rfl) ?_
      rw [h5]
      show some (rs[i]).1 = some g
      rw [e]
    · cases i with
      | zero => simpa using hv
      | succ i => simpa using h3 i (by simpa using hi)

/-- three rows of each, behind one another -/
def trio (C X Y : List (Nat × Nat)) (k : Nat) : List (Nat × Nat) := (List.range k).flatMap fun i => [C.getD i (0, 0), X.getD i (0, 0), Y.getD i (0, 0)]
theorem trio_succ (C X Y : List (Nat × Nat)) (k : Nat) : trio C X Y (k + 1) = trio C X Y k ++ [C.getD k (0, 0), X.getD k (0, 0), Y.getD k (0, 0)] := by simp [trio, List.range_succ]
theorem trio_mem {C X Y : List (Nat × Nat)} {k : Nat} {p : Nat × Nat} (h : p ∈ trio C X Y k) : ∃ i, i < k ∧ (p = C.getD i (0, 0) ∨ p = X.getD i (0, 0) ∨ p = Y.getD i (0, 0)) := by
  unfold trio at h
  obtain ⟨i, hi, hp⟩ := List.mem_flatMap.1 h
  exact ⟨i, by simpa using hi, by simpa using hp⟩
theorem trio_length (C X Y : List (Nat × Nat)) (k : Nat) : (trio C X Y k).length = k * 3 := by
  induction k with
  | zero => rfl
  | succ k ih => rw [trio_succ, List.length_append, ih]; simp; omega
theorem getD_mem {C : List (Nat × Nat)} {i : Nat} (h : i < C.length) : C.getD i (0, 0) ∈ C := by
  rw [List.getD_eq_getElem?_getD, List.getElem?_eq_getElem h]
  exact List.getElem_mem h
theorem getD_inj {C : List (Nat × Nat)} (hc : (C.map Prod.fst).Nodup) {i j : Nat} (hi : i < C.length) (hj : j < C.length) (e : (C.getD i (0, 0)).1 = (C.getD j (0, 0)).1) : i = j := by
  rw [List.getD_eq_getElem?_getD, List.getD_eq_getElem?_getD, List.getElem?_eq_getElem hi, List.getElem?_eq_getElem hj] at e
  have h1 : (C.map Prod.fst)[i]'(by simpa using hi) = (C.map Prod.fst)[j]'(by simpa using hj) := by simpa using e
  exact (List.getElem_inj hc).1 h1
theorem rw_trio {B1 B2 B3 B4 B5 B6 : Nat} {W : World} {C X Y : List (Nat × Nat)} {n : Nat} (hC : Rw B1 B2 W C) (hX : Rw B3 B4 W X) (hY : Rw B5 B6 W Y) (h12 : B2 ≤ B3) (h23 : B4 ≤ B5) (lc : C.length = n) (lx : X.length = n) (ly : Y.length = n) (h13 : B3 ≤ B4) :
    ∀ k, k ≤ n → (∀ p ∈ trio C X Y k, (∃ ys, RowB W p.1 p.2 ys ∧ ys.length = 4096) ∧ (B1 ≤ p.1 ∧ p.1 < B2 ∨ B3 ≤ p.1 ∧ p.1 < B6)) ∧ ((trio C X Y k).map Prod.fst).Nodup := by
  intro k
  induction k with
  | zero => exact fun _ => ⟨fun p hp => (by cases hp), List.nodup_nil⟩
  | succ k ih =>
    intro hk
    obtain ⟨h1, h2⟩ := ih (by omega)
    obtain ⟨c1, c2, c3⟩ := hC.rows _ (getD_mem (show k < C.length by omega))
    obtain ⟨x1, x2, x3⟩ := hX.rows _ (getD_mem (show k < X.length by omega))
    obtain ⟨y1, y2, y3⟩ := hY.rows _ (getD_mem (show k < Y.length by omega))
    rw [trio_succ]
    generalize hck : C.getD k (0, 0) = ck at c1 c2 c3 ⊢
    generalize hxk : X.getD k (0, 0) = xk at x1 x2 x3 ⊢
    generalize hyk : Y.getD k (0, 0) = yk at y1 y2 y3 ⊢
    refine ⟨fun p hp => ?_, ?_⟩
    · rcases List.mem_append.1 hp with q | q
      · exact h1 p q
      · simp at q
        rcases q with rfl | rfl | rfl
        · exact ⟨c1, .inl ⟨c2, c3⟩⟩
        · exact ⟨x1, .inr ⟨x2, by omega⟩⟩
        · exact ⟨y1, .inr ⟨by omega, y3⟩⟩
    · rw [List.map_append, List.nodup_append]
      refine ⟨h2, ?_, fun x hx y hy e => ?_⟩
      · simp
        omega
      · obtain ⟨p, hp, rfl⟩ := List.mem_map.1 hx
        obtain ⟨i, hi, hpi⟩ := trio_mem hp
        have ci := (hC.rows _ (getD_mem (show i < C.length by omega))).2
        have xi := (hX.rows _ (getD_mem (show i < X.length by omega))).2
        have yi := (hY.rows _ (getD_mem (show i < Y.length by omega))).2
        have ec := getD_inj hC.apart (i := i) (j := k) (by omega) (by omega)
        have ex := getD_inj hX.apart (i := i) (j := k) (by omega) (by omega)
        have ey := getD_inj hY.apart (i := i) (j := k) (by omega) (by omega)
        rw [hck] at ec
        rw [hxk] at ex
        rw [hyk] at ey
        simp only [List.map_cons, List.map_nil, List.mem_cons, List.not_mem_nil, or_false] at hy
        subst e
        rcases hpi with rfl | rfl | rfl <;> rcases hy with hy | hy | hy <;> omega
end Go.Proofs.Ytghcmlkgpedkkaa
