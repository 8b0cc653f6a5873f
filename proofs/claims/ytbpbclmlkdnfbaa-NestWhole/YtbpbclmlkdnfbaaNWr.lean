/-
  NestWhole: run.
-/
import Derived.Test.YtbpbclmlkdnfbaaNWc
namespace Go.Proofs.Ytbpbclmlkdnfbaa.T
open Go.RowKit Go.Proofs.Ytbpbclmlkdnfbaa.C
section
variable {w0 u : World} {m gm g : Nat} {G : Nat → Prop}
theorem ToG.putV {u3 : World} {S : M} {l : List (Nat × TX)} {nb : Nat} (hg : ¬ G nb) (hl : nb < u.heap.size) (h0 : w0.heap.size ≤ nb) (t : ToG w0 u m gm S l G (fun y => y = nb) u3) (i : Nat) (v : Value) : ToG w0 u m gm S l G (fun y => y = nb) (u3.setCell ⟨nb, i, none⟩ v) := by
  have hg2 : ¬ grow G u u3 nb := fun h => h.elim hg (fun h => by omega)
  refine ⟨?_, ?_⟩
  · have q := t.has.store hg2 h0 i v
    refine q.wide (fun y hy => hy.imp id (fun e => ⟨e.1, by simpa using e.2⟩)) (fun y hy => ?_)
    rcases hy with hy | hy
    · exact q.gB (.inl hy)
    · exact q.gB (.inr ⟨hy.1, by simpa using hy.2⟩)
  · refine ⟨by have := t.upd.1; simpa using this, fun y hy hn => ?_⟩
    rw [heap_setCell_other u3 _ y _ (show y ≠ nb from fun e => hn (.inr e))]
    exact t.upd.2 y hy hn
theorem ToG.putV' {u3 : World} {S : M} {l : List (Nat × TX)} {nb : Nat} (t : ToG w0 u m gm S l G (fun y => y = nb) u3) (hg : ¬ G nb) (hl : nb < u.heap.size) (h0 : w0.heap.size ≤ nb) (i : Nat) (v : Value) : ToG w0 u m gm S l G (fun y => y = nb) (u3.setCell ⟨nb, i, none⟩ v) := ToG.putV hg hl h0 t i v
theorem enter30 : ∀ args w, (callFunc 30 args).run Try.prog w = .ok (.enter 30 args) w := enters_of Try.func30 (by kernel_rfl) rfl
theorem list5 {l : List Int} (h : l.length = 5) : ∃ a b c d e, l = [a, b, c, d, e] := by
  match l, h with
  | [a, b, c, d, e], _ => exact ⟨a, b, c, d, e, rfl⟩
def ra (u : World) (n : Int) (cs : Array Value) : World := (u.alloc (.cells #[.int .i64 n] 3)).alloc (.cells cs 53)
theorem ra_facts (u : World) (n : Int) (cs : Array Value) : (Box (ra u n cs) u.heap.size #[.int .i64 n] 3 ∧ Box (ra u n cs) (u.heap.size + 1) cs 53) ∧ Below u.heap.size u (ra u n cs) ∧ (ra u n cs).heap.size = u.heap.size + 2 := by
  have s1 : (u.alloc (.cells #[.int .i64 n] 3)).heap.size = u.heap.size + 1 := by simp
  refine ⟨⟨(Box.new u _ 3).alloc _, ?_⟩, ?_, ?_⟩
  · have := Box.new (u.alloc (.cells #[.int .i64 n] 3)) cs 53
    rw [s1] at this
    exact this
  · exact ((Below.refl u.heap.size u).alloc (Nat.le_refl _) _).alloc (by simp) _
  · simp [ra]
/-- what the scope of a run leaves -/
theorem run_scope {p : WP} {ps : List (Int × Int)} {ks : List Bool} (hR : RdP w0 p.ia ps) (hN : ps.length = p.N) (hB : RdBl w0 p.fa ks) (hF : ks.length = p.F) (hd : p.deep ≤ 6 ∧ p.deep ≤ p.F) (n : Nat) (hn : n < p.deep) (hrec : n + 1 < p.deep → RunOk w0 m gm g p (n + 1)) {W : List (Int × Int)} {Mk : List (List (Int × Int))} {nw : List Int}
    (h : Hg w0 u m gm wS [(g, wX W Mk)] G) (hE : WE p g u G) (bn : Box u p.nb (nws nw) 53) (hW : Wv W nw) (hM : Mk.length = n) (h0 : w0.heap.size ≤ p.nb) :
    Calls Try.prog 14 #[ptr g, .func (.func 30) #[] #[ptr u.heap.size, ptr p.ib, ptr p.db, ptr p.tb, ptr p.nb, ptr p.rb, ptr p.fb]] (ra u (n : Int) (nws nw)) fun r u3 => r = .returned (.int .i64 (if ks.getD n false then 77 else 0)) ∧ ∃ W2 nw2, ToG w0 u m gm wS [(g, wX (if ks.getD n false then W else W2) Mk)] G (fun y => y = p.nb) u3 ∧ Box u3 p.nb (nws nw2) 53 ∧ Wv W2 nw2 ∧ Box u3 u.heap.size #[.int .i64 (n : Int)] 3 ∧ Box u3 (u.heap.size + 1) (nws nw) 53 ∧ Box u3 p.fb #[.slice p.fa p.F p.fc] 52 := by
  obtain ⟨⟨ba, bw⟩, hb, hs⟩ := ra_facts u (n : Int) (nws nw)
  obtain ⟨ua, hua⟩ : ∃ ua, ua = ra u (n : Int) (nws nw) := ⟨_, rfl⟩
  rw [← hua] at ba bw hb hs ⊢
  have bn' := bn.below hb bn.lt
  have hup : Upd (fun k => G k ∨ k = p.nb) u ua := ⟨hb.size, fun k hk _ => hb.block k hk⟩
  have hE' : WE p g ua G := hE.to bn hup (fun k hk => .inl hk)
  have hg' := h.below hb
  have hGn : ∀ y, u.heap.size ≤ y → ¬ G y := fun y hy hg => by have := h.lt hg; omega
  have hnl := bn.lt
  have hBd : Body w0 ua m gm g wS (wX W Mk).open1 G (fun y => y = p.nb) 30 #[ptr u.heap.size, ptr p.ib, ptr p.db, ptr p.tb, ptr p.nb, ptr p.rb, ptr p.fb] (fun e S2 y u2 => e = (if ks.getD n false then 77 else 0) ∧ S2 = wS ∧ ∃ W2 nw2, y = wX W2 (Mk ++ [W]) ∧ Box u2 p.nb (nws nw2) 53 ∧ Wv W2 nw2) := fun u1 G1 hu k1 k2 hg1 => by
    have hu' : Upd (fun k => G k ∨ k = p.nb) ua u1 := ⟨hu.1, fun k hk hn => hu.2 k hk (fun e => hn (.inl e))⟩
    have hE1 := hE'.to bn' hu' k2
    have bn1 := Box.upd bn' hu hE'.gn.1
    have ba1 := Box.upd ba hu (hGn _ (Nat.le_refl _))
    refine (body30_at hR hN hB hF hd n hn hrec hg1 hE1 bn1 hW (by show (Mk ++ [W]).length = n + 1; simp [hM]) h0 ba1 (fun hx => (k2 _ hx).elim (hGn _ (Nat.le_refl _)) (fun hx => by omega))).mono ?_
    rintro r u2 ⟨rfl, W2, nw2, t, b2, hW2⟩
    exact ⟨_, wS, _, rfl, t, rfl, rfl, W2, nw2, rfl, b2, hW2⟩
  refine (scope_at hg' rfl (by show Mk.length < 8; omega) (fun y hy => by rw [hy]; exact bn'.lt) 30 _ enter30 _ hBd).mono ?_
  rintro r u3 ⟨e, S2, y, u2, ⟨rfl, rfl, W2, nw2, rfl, b2, hW2⟩, rfl, t, hk⟩
  obtain ⟨cc, dd⟩ := shut_same (x := wX W Mk) (x2 := wX W2 (Mk ++ [W])) rfl rfl (if ks.getD n false then 77 else 0)
  rw [cc, wleft] at t
  have hne : ∀ {y : Nat}, u.heap.size ≤ y → ¬ (G y ∨ y = p.nb) := fun hy hx => hx.elim (hGn _ hy) (fun e => by omega)
  refine ⟨by rw [dd], W2, nw2, ?_, (hk _ bn'.lt hE'.gn.1).trans b2, hW2, Box.upd ba t.upd (hne (Nat.le_refl _)), Box.upd bw t.upd (hne (by omega)), Box.upd hE'.bf t.upd (fun hx => hx.elim hE'.gn.2.2.2.2.2 (hE'.bf.ne bn' (by decide)))⟩
  have e1 : (if (if ks.getD n false then (77 : Int) else 0) = 0 then W2 else W) = (if ks.getD n false then W else W2) := by cases ks.getD n false <;> rfl
  rw [e1] at t
  exact t.base hup h.mm.hB (fun y hy => .inl hy) (fun y hy => hy) (fun y hy => .inl hy)
set_option maxHeartbeats 2000000 in
set_option maxRecDepth 100000 in
theorem run_step {p : WP} {ps : List (Int × Int)} {ks : List Bool} (hR : RdP w0 p.ia ps) (hN : ps.length = p.N) (hB : RdBl w0 p.fa ks) (hF : ks.length = p.F) (hd : p.deep ≤ 6 ∧ p.deep ≤ p.F) (n : Nat) (hn : n < p.deep) (hrec : n + 1 < p.deep → RunOk w0 m gm g p (n + 1)) (h0 : w0.heap.size ≤ p.nb) : RunOk w0 m gm g p n := fun u G W Mk nw h hE bn hW hM => by
  have cs := run_scope hR hN hB hF hd n hn hrec h hE bn hW hM h0
  have hmf : ∀ (fn : Fn) (first cap : Array Value) (w : World), (Instr.makeFunc fn first cap).run Try.prog w = .ok (.func fn first cap) w := fun _ _ _ _ => rfl
  have HBd : Hid (RdBl w0 p.fa ks ∧ ks.length = p.F) := ⟨hB, hF⟩
  have HW : Hid (Wv W nw) := hW
  have HG : Hid (¬ G p.nb ∧ p.nb < u.heap.size ∧ w0.heap.size ≤ p.nb) := ⟨hE.gn.1, bn.lt, h0⟩
  have hnF : (n : Int) < (p.F : Int) := by omega
  obtain ⟨a, b, c, d, e, rfl⟩ := list5 hW.len
  have n0 : u.cell? ⟨p.nb, 0, none⟩ = some (.int .i64 a) := bn.cell 0
  have n1 : u.cell? ⟨p.nb, 1, none⟩ = some (.int .i64 b) := bn.cell 1
  have n2 : u.cell? ⟨p.nb, 2, none⟩ = some (.int .i64 c) := bn.cell 2
  have n3 : u.cell? ⟨p.nb, 3, none⟩ = some (.int .i64 d) := bn.cell 3
  have n4 : u.cell? ⟨p.nb, 4, none⟩ = some (.int .i64 e) := bn.cell 4
  have ct : u.cell? ⟨p.tb, 0, none⟩ = some (.pointer (some ⟨g, 0, none⟩)) := hE.bt.cell 0
  have al : ∀ o, (u.alloc o).cell? ⟨p.tb, 0, none⟩ = some (.pointer (some ⟨g, 0, none⟩)) := fun o => (hE.bt.alloc o).cell 0
  have al2 : ∀ o o2, ((u.alloc o).alloc o2).cell? ⟨p.tb, 0, none⟩ = some (.pointer (some ⟨g, 0, none⟩)) := fun o o2 => ((hE.bt.alloc o).alloc o2).cell 0
  have m0 : ∀ o, (u.alloc o).cell? ⟨p.nb, 0, none⟩ = some (.int .i64 a) := fun o => (bn.alloc o).cell 0
  have m1 : ∀ o, (u.alloc o).cell? ⟨p.nb, 1, none⟩ = some (.int .i64 b) := fun o => (bn.alloc o).cell 1
  have m2 : ∀ o, (u.alloc o).cell? ⟨p.nb, 2, none⟩ = some (.int .i64 c) := fun o => (bn.alloc o).cell 2
  have m3 : ∀ o, (u.alloc o).cell? ⟨p.nb, 3, none⟩ = some (.int .i64 d) := fun o => (bn.alloc o).cell 3
  have m4 : ∀ o, (u.alloc o).cell? ⟨p.nb, 4, none⟩ = some (.int .i64 e) := fun o => (bn.alloc o).cell 4
  clear hR hN hB hF hrec h hE bn hW h0
  obtain ⟨nb, tb, ib, db, rb, fb, ia, N, ic, fa, F, fc, deep⟩ := p
  dsimp only at *
  unfold ptr ra nws at cs
  simp only [List.map_cons, List.map_nil] at cs
  unfold ptr
  go_enter Try.func29, Try.ntmps29
  go_wp2_with fail
  refine cs.mono ?_
  rintro r u3 ⟨rfl, W2, nw2, t, b1, hW2, b2, b3, b4⟩
  obtain ⟨a2, b2', c2, d2, e2, rfl⟩ := list5 hW2.len
  have cf : u3.cell? ⟨fb, 0, none⟩ = some (.slice fa F fc) := b4.cell 0
  have ca : u3.cell? ⟨u.heap.size, 0, none⟩ = some (.int .i64 (n : Int)) := b2.cell 0
  obtain ⟨bf, of, rfl, cz⟩ := bool_at HBd.out.1 t.has.bel n (by rw [HBd.out.2]; omega)
  clear ct al al2 m0 m1 m2 m3 m4 n0 n1 n2 n3 n4 cs
  cases hkn : ks.getD n false with
  | false =>
    rw [hkn] at cz t
    have HJ : Hid (WJ w0 u m gm g ⟨nb, tb, ib, db, rb, fb, ia, N, ic, some ⟨bf, of, none⟩, F, fc, deep⟩ Mk G u3) := ⟨W2, _, t, b1, hW2⟩
    clear t b1 b2 b3 b4 hW2
    go_wp2_with fail
    go_ret
    exact ⟨rfl, HJ.out⟩
  | true =>
    rw [hkn] at cz t
    have k0 : u3.cell? ⟨u.heap.size + 1, 0, none⟩ = some (.int .i64 a) := b3.cell 0
    have k1 : u3.cell? ⟨u.heap.size + 1, 1, none⟩ = some (.int .i64 b) := b3.cell 1
    have k2 : u3.cell? ⟨u.heap.size + 1, 2, none⟩ = some (.int .i64 c) := b3.cell 2
    have k3 : u3.cell? ⟨u.heap.size + 1, 3, none⟩ = some (.int .i64 d) := b3.cell 3
    have k4 : u3.cell? ⟨u.heap.size + 1, 4, none⟩ = some (.int .i64 e) := b3.cell 4
    have q0 : u3.cell? ⟨nb, 0, none⟩ = some (.int .i64 a2) := b1.cell 0
    have q1 : u3.cell? ⟨nb, 1, none⟩ = some (.int .i64 b2') := b1.cell 1
    have q2 : u3.cell? ⟨nb, 2, none⟩ = some (.int .i64 c2) := b1.cell 2
    have q3 : u3.cell? ⟨nb, 3, none⟩ = some (.int .i64 d2) := b1.cell 3
    have q4 : u3.cell? ⟨nb, 4, none⟩ = some (.int .i64 e2) := b1.cell 4
    have f0 := b1.frozen 0
    have f1 := b1.frozen 1
    have f2 := b1.frozen 2
    have f3 := b1.frozen 3
    have f4 := b1.frozen 4
    have HJ : Hid (WJ w0 u m gm g ⟨nb, tb, ib, db, rb, fb, ia, N, ic, some ⟨bf, of, none⟩, F, fc, deep⟩ Mk G (((((u3.setCell ⟨nb, 0, none⟩ (.int .i64 a)).setCell ⟨nb, 1, none⟩ (.int .i64 b)).setCell ⟨nb, 2, none⟩ (.int .i64 c)).setCell ⟨nb, 3, none⟩ (.int .i64 d)).setCell ⟨nb, 4, none⟩ (.int .i64 e))) := by
      refine ⟨W, [a, b, c, d, e], ((((ToG.putV HG.out.1 HG.out.2.1 HG.out.2.2 t 0 _).putV' HG.out.1 HG.out.2.1 HG.out.2.2 1 _).putV' HG.out.1 HG.out.2.1 HG.out.2.2 2 _).putV' HG.out.1 HG.out.2.1 HG.out.2.2 3 _).putV' HG.out.1 HG.out.2.1 HG.out.2.2 4 _, ?_, HW.out⟩
      exact ((((b1.store 0 (.int .i64 a)).store 1 (.int .i64 b)).store 2 (.int .i64 c)).store 3 (.int .i64 d)).store 4 (.int .i64 e)
    clear t b1 b2 b3 b4 hW2
    go_wp2_with fail
    go_ret
    exact ⟨rfl, HJ.out⟩
theorem run_all {p : WP} {ps : List (Int × Int)} {ks : List Bool} (hR : RdP w0 p.ia ps) (hN : ps.length = p.N) (hB : RdBl w0 p.fa ks) (hF : ks.length = p.F) (hd : p.deep ≤ 6 ∧ p.deep ≤ p.F) (h0 : w0.heap.size ≤ p.nb) : ∀ k n, n + k + 1 = p.deep → RunOk w0 m gm g p n
  | 0, n, h => run_step hR hN hB hF hd n (by omega) (fun h' => by omega) h0
  | k + 1, n, h => run_step hR hN hB hF hd n (by omega) (fun _ => run_all hR hN hB hF hd h0 k (n + 1) (by omega)) h0
end
end Go.Proofs.Ytbpbclmlkdnfbaa.T
