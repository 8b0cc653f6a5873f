/-
  A memory, its transactions and a watch of it, side by side, with blocks of one's own. SameInts of two rows that hold the same.
-/
import Derived.Test.YtafiopjgegmfoaaGreatWOr
namespace Go.Proofs.YtafiopjgegmfoaaGreat.W
open Go.RowKit Go.Maps Go.Proofs.YtafiopjgegmfoaaGreat Go.Proofs.YtafiopjgegmfoaaGreat.C Go.Proofs.YtafiopjgegmfoaaGreat.T
section
variable {w0 u u' : World} {m gm g wb j k : Nat} {S S' : M} {l l' : List (Nat × TX)} {x x' : TX} {G V : Nat → Prop} {P P' : Wts} {v e : Int}
/-- the memory alone has changed -/
theorem hg_mem (h : Hg w0 u m gm S l G) (ht : C.To 29 83 u w0.heap.size m S' u') (hN : Num S') : ToG w0 u m gm S' l G V u' := by
  obtain ⟨F, h⟩ := h
  obtain ⟨hM, hu⟩ := h.mm.to ht
  refine ⟨⟨F, { mm := hM, num := hN, bel := h.bel.trans ht.bel, gB := grow_lt h.gB h.mm.hB hu.1, g1 := .inl h.g1, g2 := .inl h.g2, tx := fun j g x hj => ?_ }⟩, hu.1, fun k hk hn => hu.2 k hk (fun hx => hn (.inl (hx.elim (fun e => e ▸ h.g1) (fun e => e ▸ h.g2))))⟩
  obtain ⟨a, b, c, d, e, f⟩ := h.tx j g x hj
  exact ⟨a, b.upd hu (fun z hz hn => hn.elim (fun e => c (e ▸ hz)) (fun e => d (e ▸ hz))), c, d, fun y hy => .inl (e y hy), f⟩
theorem hg_nil (h : Hg w0 u m gm S l G) : Hg w0 u m gm S [] G := by
  obtain ⟨F, h⟩ := h
  exact ⟨F, { h with tx := fun j g x hj => by simp at hj }⟩
theorem hg_isX (h : Hg w0 u m gm S l G) (hj : l[j]? = some (g, x)) : ∃ F, IsX u w0.heap.size g m x F := by
  obtain ⟨F, h⟩ := h
  exact ⟨_, (h.tx j g x hj).2.1⟩
/-- one's own blocks: which, what lies there, of which type -/
abbrev Own := List (Nat × Array Value × TypeId)
structure HwF (w0 u : World) (m gm : Nat) (S : M) (l : List (Nat × TX)) (wb : Nat) (P : Wts) (K : Own) (G H : Nat → Prop) : Prop where
  hg : Hg w0 u m gm S l G
  wt : IsW u w0.heap.size wb m P H
  ap : ∀ y, H y → ¬ G y
  ow : ∀ b ∈ K, Box u b.1 b.2.1 b.2.2 ∧ ¬ G b.1 ∧ ¬ H b.1 ∧ w0.heap.size ≤ b.1
def Hw (w0 u : World) (m gm : Nat) (S : M) (l : List (Nat × TX)) (wb : Nat) (P : Wts) (K : Own) : Prop := ∃ G H, HwF w0 u m gm S l wb P K G H
variable {K : Own} {H : Nat → Prop}
theorem HwF.tx (h : HwF w0 u m gm S l wb P K G H) (t : ToG w0 u m gm S' l' G (fun _ => False) u') : HwF w0 u' m gm S' l' wb P K (grow G u u') H :=
  ⟨t.has, h.wt.upd t.upd (fun y hy hn => hn.elim (h.ap y hy) (fun hf => hf)), fun y hy hg => hg.elim (h.ap y hy) (fun hg => by have := (h.wt.lo y hy).2; omega), fun b hb => by
    obtain ⟨b1, b2, b3, b4⟩ := h.ow b hb
    exact ⟨(t.upd.2 _ b1.lt (fun hn => hn.elim b2 (fun hf => hf))).trans b1, fun hg => hg.elim b2 (fun hg => by have := b1.lt; omega), b3, b4⟩⟩
theorem Hw.tx' (h : HwF w0 u m gm S l wb P K G H) (t : ToG w0 u m gm S' l' G (fun _ => False) u') : Hw w0 u' m gm S' l' wb P K := ⟨_, _, h.tx t⟩
theorem Hw.wt' (h : HwF w0 u m gm S l wb P K G H) (t : ToW u w0.heap.size wb m P' H u') : Hw w0 u' m gm S l wb P' K :=
  ⟨G, grow H u u', h.hg.stay (h.hg.bel.trans t.bel) t.upd.1 (fun y hy => t.upd.2 y (h.hg.lt hy) (fun hh => h.ap y hh hy)), t.is, fun y hy hg => hy.elim (fun hh => h.ap y hh hg) (fun hh => by have := h.hg.lt hg; omega), fun b hb => by
    obtain ⟨b1, b2, b3, b4⟩ := h.ow b hb
    exact ⟨(t.upd.2 _ b1.lt b3).trans b1, b2, fun hg => hg.elim b3 (fun hg => by have := b1.lt; omega), b4⟩⟩
theorem Hw.below (h : Hw w0 u m gm S l wb P K) (hb : Below u.heap.size u u') : Hw w0 u' m gm S l wb P K := by
  obtain ⟨G, H, h⟩ := h
  exact ⟨G, H, h.hg.below hb, h.wt.below hb, h.ap, fun b hk => ⟨(h.ow b hk).1.below hb (h.ow b hk).1.lt, (h.ow b hk).2⟩⟩
theorem Hw.bel (h : Hw w0 u m gm S l wb P K) : Below w0.heap.size w0 u := by
  obtain ⟨G, H, h⟩ := h
  exact h.hg.bel
/-- a block of one's own is made -/
theorem Hw.box (h : Hw w0 u m gm S l wb P K) (cs : Array Value) (t : TypeId) : Hw w0 (u.alloc (.cells cs t)) m gm S l wb P ((u.heap.size, cs, t) :: K) := by
  have hb : Below u.heap.size u (u.alloc (.cells cs t)) := (Below.refl _ _).alloc (Nat.le_refl _) _
  obtain ⟨G, H, h⟩ := h
  refine ⟨G, H, h.hg.below hb, h.wt.below hb, h.ap, fun b hk => ?_⟩
  rcases List.mem_cons.1 hk with rfl | hk
  · exact ⟨Box.new u cs t, fun hg => by have := h.hg.lt hg; omega, fun hg => by have := (h.wt.lo _ hg).2; omega, h.hg.mm.hB⟩
  · exact ⟨(h.ow b hk).1.below hb (h.ow b hk).1.lt, (h.ow b hk).2⟩
theorem Hw.own (h : Hw w0 u m gm S l wb P K) {b : Nat} {cs : Array Value} {t : TypeId} (hk : (b, cs, t) ∈ K) : Box u b cs t := by
  obtain ⟨G, H, h⟩ := h
  exact (h.ow _ hk).1
theorem Hw.less (h : Hw w0 u m gm S l wb P K) {K' : Own} (hk : ∀ b ∈ K', b ∈ K) : Hw w0 u m gm S l wb P K' := by
  obtain ⟨G, H, h⟩ := h
  exact ⟨G, H, h.hg, h.wt, h.ap, fun b hb => h.ow b (hk b hb)⟩
theorem Hw.lost (h : Hw w0 u m gm S l wb P K) : Hw w0 u m gm S [] wb P K := by
  obtain ⟨G, H, h⟩ := h
  exact ⟨G, H, hg_nil h.hg, h.wt, h.ap, h.ow⟩
/-! ### calls -/
theorem Hw.read (h : Hw w0 u m gm S l wb P K) (hj : l[j]? = some (g, x)) (i : Int) (hi : (Lit.int .i64 i).wf = true) (he : x.read S i = (v, e, S', x')) : Calls Tryz.prog 18 #[ptr g, .int .i64 i] u fun r u' => r = .returned (.tuple #[.int .i64 v, .int .i64 e]) ∧ Hw w0 u' m gm S' (l.set j (g, x')) wb P K := by
  obtain ⟨G, H, h⟩ := h
  exact (h.hg.read hj i hi he).mono fun r u' ⟨a, t⟩ => ⟨a, Hw.tx' h t⟩
theorem Hw.begin (h : Hw w0 u m gm S l wb P K) (o : Int) (ho : 1 ≤ o) (ho2 : o < 9223372036854775808) : Calls Tryz.prog 8 #[ptr m, .int .i64 o] u fun r u' => ∃ g, r = .returned (.tuple #[ptr g, .int .i64 0]) ∧ Hw w0 u' m gm S (l ++ [(g, X0 o S.k)]) wb P K := by
  obtain ⟨G, H, h⟩ := h
  exact (h.hg.begin o ho ho2).mono fun r u' ⟨g, a, t⟩ => ⟨g, a, Hw.tx' h t⟩
theorem Hw.depth (h : Hw w0 u m gm S l wb P K) (hj : l[j]? = some (g, x)) : Calls Tryz.prog 26 #[ptr g] u fun r u' => r = .returned (.int .i64 (x.S.M.length : Int)) ∧ u' = u := by
  obtain ⟨G, H, h⟩ := h
  exact h.hg.depth hj
theorem Hw.adv (h : Hw w0 u m gm S l wb P K) (he : S.adv = (S', v, e)) : Calls Tryz.prog 20 #[ptr m] u fun r u' => r = .returned (.tuple #[.int .i64 v, .int .i64 e]) ∧ Hw w0 u' m gm S' l wb P K := by
  obtain ⟨G, H, h⟩ := h
  have c := adv_at h.hg.mm.is
  have hN := h.hg.num.adv
  rw [he] at c hN
  exact c.mono fun r u' ⟨a, t⟩ => ⟨a, Hw.tx' h (hg_mem h.hg t hN)⟩
theorem Hw.lock (h : Hw w0 u m gm S l wb P K) (i o : Int) (he : S.lock i o = (S', e)) : Calls Tryz.prog 21 #[ptr m, .int .i64 i, .int .i64 o] u fun r u' => r = .returned (.int .i64 e) ∧ Hw w0 u' m gm S' l wb P K := by
  obtain ⟨G, H, h⟩ := h
  have c := lock_at h.hg.mm.is i o
  have hN := h.hg.num.lock i o
  rw [he] at c hN
  exact c.mono fun r u' ⟨a, t⟩ => ⟨a, Hw.tx' h (hg_mem h.hg t hN)⟩
theorem Hw.publish (h : Hw w0 u m gm S l wb P K) (i o y k : Int) (he : S.publish i o (.int .i64 y) k = (S', e)) : Calls Tryz.prog 22 #[ptr m, .int .i64 i, .int .i64 o, .int .i64 y, .int .i64 k] u fun r u' => r = .returned (.int .i64 e) ∧ Hw w0 u' m gm S' l wb P K := by
  obtain ⟨G, H, h⟩ := h
  have c := publish_at h.hg.mm.is i o y k (fun c hc => h.hg.num i c hc)
  have hN := h.hg.num.publish i o y k
  rw [he] at c hN
  exact c.mono fun r u' ⟨a, t⟩ => ⟨a, Hw.tx' h (hg_mem h.hg t hN)⟩
theorem Hw.park (h : Hw w0 u m gm S l wb P K) (hj : l[j]? = some (g, x)) (id : Int) (h1 : 1 ≤ id) (hk : (Lit.int .i64 id).wf = true) (hn : gt P id = none) (hl : P.length < 64) : Calls Tryz.prog 11 #[ptr wb, .int .i64 id, ptr g] u fun r u' => r = .returned (.int .i64 0) ∧ ∃ v, Hw w0 u' m gm S l wb (P ++ [(id, (v, rdOf x))]) K := by
  obtain ⟨G, H, h⟩ := h
  obtain ⟨F, hx⟩ := hg_isX h.hg hj
  exact (park_ok h.wt hx h1 hk hn hl).mono fun r u' ⟨a, v, t⟩ => ⟨a, v, Hw.wt' h t⟩
theorem Hw.changed (h : Hw w0 u m gm S l wb P K) : Calls Tryz.prog 13 #[ptr wb] u fun r u' => ∃ v, r = .returned v ∧ u'.ownsRow u.heap.size 3 1 v (changed S P).length (zcs (changed S P)) ∧ Hw w0 u' m gm S l wb (stays S P) K := by
  obtain ⟨G, H, h⟩ := h
  exact (changed_at h.wt h.hg.mm.is).mono fun r u' ⟨v, a, b, t⟩ => ⟨v, a, b, Hw.wt' h t⟩
theorem Hw.parked (h : Hw w0 u m gm S l wb P K) : Calls Tryz.prog 14 #[ptr wb] u fun r u' => ∃ v, r = .returned v ∧ u'.ownsRow u.heap.size 3 1 v (parked P).length (zcs (parked P)) ∧ Below u.heap.size u u' := by
  obtain ⟨G, H, h⟩ := h
  exact parked_at h.wt
theorem Hw.forget (h : Hw w0 u m gm S l wb P K) (id : Int) (hk : (Lit.int .i64 id).wf = true) : Calls Tryz.prog 12 #[ptr wb, .int .i64 id] u fun r u' => r = .returned (.bool (gt P id).isSome) ∧ Hw w0 u' m gm S l wb (rm P id) K := by
  obtain ⟨G, H, h⟩ := h
  exact (forget_at h.wt id hk).mono fun r u' ⟨a, t⟩ => ⟨a, Hw.wt' h t⟩
theorem hw_new (h : Hg w0 u m gm S l G) : Calls Tryz.prog 6 #[ptr m] u fun r u' => ∃ wb, r = .returned (.tuple #[ptr wb, .int .i64 0]) ∧ Hw w0 u' m gm S l wb [] [] := by
  refine (new_at h.mm.is).mono ?_
  rintro r u' ⟨wb, a, b, c⟩
  refine ⟨wb, a, G, _, h.below c, b.wide (fun y hy => hy) (fun y hy => ⟨Nat.le_trans h.mm.hB hy.1, hy.2⟩), fun y hy hg => by have := h.lt hg; have := hy.1; omega, fun b hb => by cases hb⟩
end
end Go.Proofs.YtafiopjgegmfoaaGreat.W
namespace Go.Proofs.YtafiopjgegmfoaaGreat.W
open Go.RowKit Go.Maps Go.Proofs.YtafiopjgegmfoaaGreat Go.Proofs.YtafiopjgegmfoaaGreat.C Go.Proofs.YtafiopjgegmfoaaGreat.T
set_option maxHeartbeats 1000000 in
set_option maxRecDepth 20000 in
theorem same_ints {w : World} {B B' : Nat} {v v' : Value} {l : List Int} (h : w.ownsRow B 3 1 v l.length (zcs l)) (h' : w.ownsRow B' 3 1 v' l.length (zcs l)) (hl : l.length < 1000000) :
    Calls Tryz.prog 40 #[v, v'] w fun r w' => r = .returned (.bool true) ∧ ∃ q, w' = w.drewN q := by
  obtain ⟨a, c, rfl⟩ := ownsRow_slice h
  obtain ⟨a', c', rfl⟩ := ownsRow_slice h'
  have HR : Hid (∀ k (hk : k < l.length) (q : Nat), ∃ g g', a = some ⟨g, 0, none⟩ ∧ a' = some ⟨g', 0, none⟩ ∧ (w.drewN q).cell? ⟨g, k, none⟩ = some (.int .i64 l[k]) ∧ (w.drewN q).cell? ⟨g', k, none⟩ = some (.int .i64 l[k])) := fun k hk q => by
    obtain ⟨g, cap, e1, c1⟩ := ownsRow_cell h k hk
    obtain ⟨g', cap', e2, c2⟩ := ownsRow_cell h' k hk
    injection e1 with e1
    injection e2 with e2
    refine ⟨g, g', e1, e2, ?_, ?_⟩
    · show w.cell? _ = _
      rw [c1]; simp [zcs, hk, encI]
    · show w.cell? _ = _
      rw [c2]; simp [zcs, hk, encI]
  obtain ⟨n, hn⟩ : ∃ n, n = l.length := ⟨_, rfl⟩
  rw [← hn] at hl ⊢
  have HN : Hid (n = l.length) := hn
  clear h h' hn
  go_enter Tryz.func40, Tryz.ntmps40
  go_wp2_with fail
  go_loopw [5] (fun i u => ∃ k q : Nat, k ≤ n ∧ i = .int .i64 (k : Int) ∧ u = w.drewN q) (fun i _ => n - (iv i).toNat)
  case atStart => exact ⟨0, 0, Nat.zero_le _, rfl, rfl⟩
  case round =>
    obtain ⟨k, q, hk, rfl, rfl⟩ := hrel
    by_cases hlt : k < n
    · have hki : (k : Int) < (n : Int) := by omega
      obtain ⟨g, g', rfl, rfl, x1, x2⟩ := HR.out k (by rw [← HN.out]; exact hlt) q
      generalize (l[k]'(by rw [← HN.out]; exact hlt)) = z at x1 x2
      obtain ⟨wq, hwq⟩ : ∃ wq, wq = w.drewN q := ⟨_, rfl⟩
      rw [← hwq] at x1 x2 ⊢
      have HQ : Hid (wq = w.drewN q) := hwq
      clear hwq
      go_wp2_with fail
      go_quiet (fail)
      go_wp2
      go_roundw
      case rel => exact ⟨k + 1, q + nq, by omega, by go_num, by rw [HQ.out, World.drewN_drewN]⟩
      case measure => simp [iv]; omega
    · obtain rfl : k = n := by omega
      go_wp2
      go_ret
      exact ⟨rfl, q, rfl⟩

end Go.Proofs.YtafiopjgegmfoaaGreat.W
