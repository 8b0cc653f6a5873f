/-
  The chapter's example: its calls.
-/
import Derived.Test.YtbpbclmlkdnfbaaNAwC
namespace Go.Proofs.Ytbpbclmlkdnfbaa.T
open Go.RowKit Go.Proofs.Ytbpbclmlkdnfbaa.C
/-- the example's memory and transactions -/
def aS : M := ⟨[⟨.int .i64 1, 0, 0⟩], 0⟩
def aX (R W : List (Int × Int)) (Mk : List (List (Int × Int))) : TX := ⟨1, 0, ⟨R, W, Mk⟩, 1, [], 0, false⟩
def Awk (w0 u : World) (m gm g tb fb : Nat) (x : TX) : Prop := ∃ G, Hg w0 u m gm aS [(g, x)] G ∧ ¬ G tb ∧ ¬ G fb ∧ Box u tb #[ptr g] 42 ∧ Box u fb #[.func (.func 51) #[] #[ptr tb]] 82
section
variable {w0 u ux uy : World} {m gm g tb fb : Nat} {x x' : TX} {G : Nat → Prop}
theorem Awk.to (hG : ¬ G tb ∧ ¬ G fb ∧ Box u tb #[ptr g] 42 ∧ Box u fb #[.func (.func 51) #[] #[ptr tb]] 82) (ht : ToG w0 u m gm aS [(g, x')] G (fun _ => False) ux) : Awk w0 ux m gm g tb fb x' := by
  obtain ⟨g1, g2, b1, b2⟩ := hG
  have n1 : ∀ y, ¬ G y → ¬ (G y ∨ False) := fun y h k => k.elim h id
  refine ⟨_, ht.has, fun h => h.elim g1 (fun h => ?_), fun h => h.elim g2 (fun h => ?_), Box.upd b1 ht.upd (n1 _ g1), Box.upd b2 ht.upd (n1 _ g2)⟩
  · have := b1.lt; omega
  · have := b2.lt; omega
theorem Awk.read {i v e : Int} (h : Awk w0 u m gm g tb fb x) (hi : (Lit.int .i64 i).wf = true) (he : x.read aS i = (v, e, aS, x')) : Calls Try.prog 31 #[ptr g, .int .i64 i] u fun r u' => r = .returned (.tuple #[.int .i64 v, .int .i64 e]) ∧ Awk w0 u' m gm g tb fb x' := by
  obtain ⟨G, hg, hG⟩ := h
  exact (hg.read (V := fun _ => False) (j := 0) rfl i hi he).mono fun r u' ⟨a, b⟩ => ⟨a, Awk.to hG b⟩
/-- a body that was made, in a scope -/
theorem Awk.one {vb eb q : Nat} {v e e0 : Int} (h : Awk w0 u m gm g tb fb x) (hs : x.st = 1) (hd : x.S.M.length < 8) (hN : New2 u ux vb eb v e) (he : x.open1.write aS 0 v = (e0, x')) : Calls Try.prog 14 #[ptr g, .func (.func 52) #[] #[ptr tb, ptr vb, ptr eb]] (ux.drewN q) fun r u' => r = .returned (.int .i64 e) ∧ Awk w0 u' m gm g tb fb (x.left1 x' e) := by
  obtain ⟨G, hg, hG⟩ := h
  exact (wmake_at (V := fun _ => False) hg hs hd hG.2.2.1 hG.1 hN he).mono fun r u' ⟨a, b⟩ => ⟨a, Awk.to hG b⟩
theorem enter53 : ∀ args w, (callFunc 53 args).run Try.prog w = .ok (.enter 53 args) w := enters_of Try.func53 (by kernel_rfl) rfl
/-- the body with a scope of its own -/
theorem Awk.two {e0 e1 : Int} {x1 x2 : TX} (h : Awk w0 u m gm g tb fb x) (hs : x.st = 1) (hd : x.S.M.length < 7) (he : x.open1.write aS 0 2 = (e0, x1)) (he2 : x1.open1.write aS 0 3 = (e1, x2)) : Calls Try.prog 14 #[ptr g, .func (.func 53) #[] #[ptr tb, ptr fb]] u fun r u' => r = .returned (.int .i64 0) ∧ Awk w0 u' m gm g tb fb (x.left1 (x1.left1 x2 5) 0) := by
  obtain ⟨G, hg, hG⟩ := h
  obtain ⟨g1, g2, b1, b2⟩ := hG
  obtain ⟨h1, h2⟩ := cell_in_write he
  obtain ⟨h3, h4⟩ := cell_in_write he2
  have hb : Body w0 u m gm g aS x.open1 G (fun _ => False) 53 #[ptr tb, ptr fb] (fun e' S2 y _ => e' = 0 ∧ S2 = aS ∧ y = x1.left1 x2 5) := fun u1 G1 hu k1 k2 hg1 => by
    have n1 : ∀ y, ¬ G y → y < u.heap.size → ¬ (G1 y ∨ False) := fun y h hl k => k.elim (fun k => (k2 y k).elim h (fun k => by omega)) id
    refine (awk53_at (V := fun _ => False) hg1 hs (by rw [TX.open1_len]; omega) (Box.upd b1 hu g1) (Box.upd b2 hu g2) (n1 _ g1 b1.lt) (n1 _ g2 b2.lt) he he2).mono ?_
    rintro r u2 ⟨rfl, t⟩
    exact ⟨0, aS, _, rfl, t, rfl, rfl, rfl⟩
  refine (scope_at hg hs (by omega) (fun _ h => h.elim) 53 _ enter53 _ hb).mono ?_
  rintro r u' ⟨e', S2, y, u2, ⟨rfl, rfl, rfl⟩, rfl, ht, _⟩
  obtain ⟨c, d⟩ := shut_same (x := x) (x2 := x1.left1 x2 5) (by show x2.st = 1; rw [h3]; show x1.st = 1; rw [h1]; exact hs) (by show x1.S.M = _; rw [h2]; rfl) 0
  rw [c] at ht
  rw [d]
  exact ⟨rfl, Awk.to ⟨g1, g2, b1, b2⟩ ht⟩
/-- two bodies that were made, and a row of them -/
structure Two (u uy : World) (tb v1 e1 v2 e2 bb : Nat) (va ea vc ec : Int) : Prop where
  b1 : Box uy v1 #[.int .i64 va] 3
  b2 : Box uy e1 #[.int .i64 ea] 39
  b3 : Box uy v2 #[.int .i64 vc] 3
  b4 : Box uy e2 #[.int .i64 ec] 39
  b5 : Box uy bb #[.func (.func 52) #[] #[ptr tb, ptr v1, ptr e1], .func (.func 52) #[] #[ptr tb, ptr v2, ptr e2]] 46
  hn : u.heap.size ≤ v1 ∧ u.heap.size ≤ e1 ∧ u.heap.size ≤ v2 ∧ u.heap.size ≤ e2 ∧ u.heap.size ≤ bb
  bel : Below u.heap.size u uy
theorem Two.of {ux2 : World} {v1 e1 v2 e2 : Nat} {va ea vc ec : Int} (h1 : New2 u ux v1 e1 va ea) (h2 : New2 ux ux2 v2 e2 vc ec) : Two u (ux2.alloc (.cells #[.func (.func 52) #[] #[ptr tb, ptr v1, ptr e1], .func (.func 52) #[] #[ptr tb, ptr v2, ptr e2]] 46)) tb v1 e1 v2 e2 ux2.heap.size va ea vc ec := by
  have s1 := h1.bel.size
  have s2 := h2.bel.size
  have h3 := h1.hv
  have h4 := h1.he
  have h5 := h2.hv
  have h6 := h2.he
  exact ⟨(h1.bv.below h2.bel h1.bv.lt).alloc _, (h1.be.below h2.bel h1.be.lt).alloc _, h2.bv.alloc _, h2.be.alloc _, Box.new _ _ _, ⟨by omega, by omega, by omega, by omega, by omega⟩, (h1.bel.trans (h2.bel.mono s1)).alloc (by omega) _⟩
theorem Two.drew {v1 e1 v2 e2 bb : Nat} {va ea vc ec : Int} (h : Two u uy tb v1 e1 v2 e2 bb va ea vc ec) (q : Nat) : Two u (uy.drewN q) tb v1 e1 v2 e2 bb va ea vc ec := ⟨h.b1, h.b2, h.b3, h.b4, h.b5, h.hn, h.bel.os, h.bel.tape, h.bel.output, h.bel.size, h.bel.block⟩
def fv (tb v1 e1 v2 e2 : Nat) (k : Nat) : Value := if k = 0 then .func (.func 52) #[] #[ptr tb, ptr v1, ptr e1] else .func (.func 52) #[] #[ptr tb, ptr v2, ptr e2]
/-- a body of the row, in a scope -/
theorem two_step {v1 e1 v2 e2 k : Nat} {va ea vc ec c0 : Int} {u' : World} {G' V : Nat → Prop} (hh : Box u' v1 #[.int .i64 va] 3 ∧ Box u' e1 #[.int .i64 ea] 39 ∧ Box u' v2 #[.int .i64 vc] 3 ∧ Box u' e2 #[.int .i64 ec] 39) (hg : Hg w0 u' m gm aS [(g, x)] G') (hs : x.st = 1) (hd : x.S.M.length < 8) (bt : Box u' tb #[ptr g] 42) (nt : ¬ G' tb) (n1 : ¬ G' v1 ∧ ¬ G' e1 ∧ ¬ G' v2 ∧ ¬ G' e2) (he : x.open1.write aS 0 (if k = 0 then va else vc) = (c0, x')) :
    Calls Try.prog 14 #[ptr g, fv tb v1 e1 v2 e2 k] u' fun r u2 => r = .returned (.int .i64 (if k = 0 then ea else ec)) ∧ ToG w0 u' m gm aS [(g, x.left1 x' (if k = 0 then ea else ec))] G' V u2 := by
  unfold fv
  by_cases hk : k = 0
  · simp only [hk, if_true] at he ⊢
    exact wscope_at hg hs hd bt hh.1 hh.2.1 nt n1.1 n1.2.1 he
  · simp only [hk, if_false] at he ⊢
    exact wscope_at hg hs hd bt hh.2.2.1 hh.2.2.2 nt n1.2.2.1 n1.2.2.2 he
theorem Awk.first {v1 e1 v2 e2 bb cap : Nat} {va ea vc c1 c2 : Int} {x1 y x2 : TX} (h : Awk w0 u m gm g tb fb x) (hT : Two u uy tb v1 e1 v2 e2 bb va ea vc 0) (hs : x.st = 1) (hd : x.S.M.length < 8) (hea : ea ≠ 0) (he1 : x.open1.write aS 0 va = (c1, x1)) (hy : x.left1 x1 ea = y) (he2 : y.open1.write aS 0 vc = (c2, x2)) :
    Calls Try.prog 18 #[ptr g, .slice (some ⟨bb, 0, none⟩) 2 cap] uy fun r u' => r = .returned (.tuple #[.int .i64 1, .int .i64 0]) ∧ Awk w0 u' m gm g tb fb (y.left1 x2 0) := by
  obtain ⟨G, hg, hG⟩ := h
  obtain ⟨g1, g2, bt, bf⟩ := hG
  obtain ⟨p1, p2⟩ := cell_in_write he1
  obtain ⟨p3, p4⟩ := cell_in_write he2
  have hys : y.st = 1 := by rw [← hy]; show x1.st = 1; rw [p1]; exact hs
  have hyd : y.S.M.length < 8 := by rw [← hy]; exact hd
  have hGn : ∀ z, u.heap.size ≤ z → ¬ (G z ∨ False) := fun z hz h => h.elim (fun h => by have := hg.lt h; omega) id
  have n1 : ∀ z, ¬ G z → ¬ (G z ∨ False) := fun z h k => k.elim h id
  have bt' := bt.below hT.bel bt.lt
  have bf' := bf.below hT.bel bf.lt
  obtain ⟨q1, q2, q3, q4, q5⟩ := hT.hn
  have hTr : Tries w0 uy m gm g G (fun _ => False) (fv tb v1 e1 v2 e2) 2 (fun k _ S z => S = aS ∧ (k = 0 ∧ z = x ∨ k = 1 ∧ z = y)) (fun k e _ S z => k = 1 ∧ e = 0 ∧ S = aS ∧ z = y.left1 x2 0) := fun k u' S z hk ht hz hI => by
    obtain ⟨rfl, hI⟩ := hI
    have hh : Box u' v1 #[.int .i64 va] 3 ∧ Box u' e1 #[.int .i64 ea] 39 ∧ Box u' v2 #[.int .i64 vc] 3 ∧ Box u' e2 #[.int .i64 0] 39 := ⟨Box.upd hT.b1 ht.upd (hGn _ q1), Box.upd hT.b2 ht.upd (hGn _ q2), Box.upd hT.b3 ht.upd (hGn _ q3), Box.upd hT.b4 ht.upd (hGn _ q4)⟩
    have hn : ∀ z, ¬ (G z ∨ False) → z < uy.heap.size → ¬ grow G uy u' z := fun z h1 h2 h3 => h3.elim (fun h3 => h1 (.inl h3)) (fun h3 => by omega)
    have hn4 : ¬ grow G uy u' v1 ∧ ¬ grow G uy u' e1 ∧ ¬ grow G uy u' v2 ∧ ¬ grow G uy u' e2 := ⟨hn _ (hGn _ q1) hT.b1.lt, hn _ (hGn _ q2) hT.b2.lt, hn _ (hGn _ q3) hT.b3.lt, hn _ (hGn _ q4) hT.b4.lt⟩
    rcases hI with ⟨rfl, rfl⟩ | ⟨rfl, rfl⟩
    · refine (two_step (k := 0) (V := fun _ => False) hh ht.has hs hd (Box.upd bt' ht.upd (n1 _ g1)) (hn _ (n1 _ g1) bt'.lt) hn4 he1).mono ?_
      rintro r u2 ⟨rfl, t⟩
      exact ⟨ea, aS, _, rfl, ht.trans t, fun h => h.elim (fun h => absurd h hea) (fun h => absurd (show x1.st = 1 by rw [p1]; exact hs) h), fun _ _ => ⟨rfl, .inr ⟨rfl, hy⟩⟩⟩
    · refine (two_step (k := 1) (V := fun _ => False) hh ht.has hys hyd (Box.upd bt' ht.upd (n1 _ g1)) (hn _ (n1 _ g1) bt'.lt) hn4 he2).mono ?_
      rintro r u2 ⟨rfl, t⟩
      exact ⟨0, aS, _, rfl, ht.trans t, fun _ => ⟨rfl, rfl, rfl, rfl⟩, fun h _ => absurd rfl h⟩
  refine (first_at (V := fun _ => False) (hg.below hT.bel) hs (fv tb v1 e1 v2 e2) 2 bb cap _ (by omega) (by omega) hT.b5 (fun k hk => ?_) (hGn _ q5) _ _ ⟨rfl, .inl ⟨rfl, rfl⟩⟩ hTr).mono ?_
  · have : k = 0 ∨ k = 1 := by omega
    rcases this with rfl | rfl <;> rfl
  · rintro r u' ⟨k, e, S2, z, rfl, t, hf⟩
    rcases hf with ⟨_, rfl, rfl, rfl, rfl⟩ | ⟨rfl, _, _, h⟩
    · exact ⟨rfl, Awk.to ⟨g1, g2, bt', bf'⟩ t⟩
    · rcases h with h | h <;> exact absurd h.1 (by decide)
theorem Awk.all {v1 e1 v2 e2 bb cap : Nat} {va vc ec c1 c2 : Int} {x1 y x2 z : TX} (h : Awk w0 u m gm g tb fb x) (hT : Two u uy tb v1 e1 v2 e2 bb va 0 vc ec) (hs : x.st = 1) (hd : x.S.M.length < 7) (hec : ec ≠ 0) (he1 : x.open1.open1.write aS 0 va = (c1, x1)) (hy : x.open1.left1 x1 0 = y) (he2 : y.open1.write aS 0 vc = (c2, x2)) (hz : y.left1 x2 ec = z) :
    Calls Try.prog 26 #[ptr g, .slice (some ⟨bb, 0, none⟩) 2 cap] uy fun r u' => r = .returned (.tuple #[.int .i64 1, .int .i64 ec]) ∧ Awk w0 u' m gm g tb fb (x.left1 z ec) := by
  obtain ⟨G, hg, hG⟩ := h
  obtain ⟨g1, g2, bt, bf⟩ := hG
  obtain ⟨p1, p2⟩ := cell_in_write he1
  obtain ⟨p3, p4⟩ := cell_in_write he2
  have hys : y.st = 1 := by rw [← hy]; show x1.st = 1; rw [p1]; exact hs
  have hyM : y.S.M = x.open1.S.M := by rw [← hy]; rfl
  have hyd : y.S.M.length < 8 := by rw [hyM, TX.open1_len]; omega
  have hGn : ∀ z, u.heap.size ≤ z → ¬ (G z ∨ False) := fun z hz h => h.elim (fun h => by have := hg.lt h; omega) id
  have n1 : ∀ z, ¬ G z → ¬ (G z ∨ False) := fun z h k => k.elim h id
  have bt' := bt.below hT.bel bt.lt
  have bf' := bf.below hT.bel bf.lt
  obtain ⟨q1, q2, q3, q4, q5⟩ := hT.hn
  let P0 : Nat → Prop := fun k => k = tb ∨ k = v1 ∨ k = e1 ∨ k = v2 ∨ k = e2
  let Bx : World → Prop := fun u' => Box u' tb #[ptr g] 42 ∧ Box u' v1 #[.int .i64 va] 3 ∧ Box u' e1 #[.int .i64 0] 39 ∧ Box u' v2 #[.int .i64 vc] 3 ∧ Box u' e2 #[.int .i64 ec] 39
  have hBx : ∀ {u1 u2 : World} {F : Nat → Prop}, Bx u1 → Upd F u1 u2 → (∀ k, P0 k → ¬ F k) → Bx u2 := fun {u1 u2 F} hb hu hF => ⟨Box.upd hb.1 hu (hF _ (.inl rfl)), Box.upd hb.2.1 hu (hF _ (.inr (.inl rfl))), Box.upd hb.2.2.1 hu (hF _ (.inr (.inr (.inl rfl)))), Box.upd hb.2.2.2.1 hu (hF _ (.inr (.inr (.inr (.inl rfl))))), Box.upd hb.2.2.2.2 hu (hF _ (.inr (.inr (.inr (.inr rfl)))))⟩
  have hP0 : ∀ k, P0 k → k < uy.heap.size ∧ ¬ G k := fun k hk => by
    rcases hk with rfl | rfl | rfl | rfl | rfl
    · exact ⟨bt'.lt, g1⟩
    · exact ⟨hT.b1.lt, fun h => hGn _ q1 (.inl h)⟩
    · exact ⟨hT.b2.lt, fun h => hGn _ q2 (.inl h)⟩
    · exact ⟨hT.b3.lt, fun h => hGn _ q3 (.inl h)⟩
    · exact ⟨hT.b4.lt, fun h => hGn _ q4 (.inl h)⟩
  have hE : ∀ P : Nat → Prop, (∀ k, P0 k → P k) → Each w0 m gm g P (fun _ => False) (fv tb v1 e1 v2 e2) 2 (fun k u' S w => Bx u' ∧ (∀ i, P0 i → i < uy.heap.size) ∧ S = aS ∧ (k = 0 ∧ w = x.open1 ∨ k = 1 ∧ w = y)) (fun k e _ S w => k = 1 ∧ e = ec ∧ S = aS ∧ w = z) := fun P hP k u' S w G' hk hg' hG' hI => by
    obtain ⟨hb, hlt, rfl, hI⟩ := hI
    have hn : ∀ k, P0 k → ¬ G' k := fun k hk hg => hG' k hg (hP k hk)
    have hn4 : ¬ G' v1 ∧ ¬ G' e1 ∧ ¬ G' v2 ∧ ¬ G' e2 := ⟨hn _ (.inr (.inl rfl)), hn _ (.inr (.inr (.inl rfl))), hn _ (.inr (.inr (.inr (.inl rfl)))), hn _ (.inr (.inr (.inr (.inr rfl))))⟩
    rcases hI with ⟨rfl, rfl⟩ | ⟨rfl, rfl⟩
    · refine (two_step (k := 0) (V := fun _ => False) hb.2 hg' hs (by rw [TX.open1_len]; omega) hb.1 (hn _ (.inl rfl)) hn4 he1).mono ?_
      rintro r u2 ⟨rfl, t⟩
      exact ⟨0, aS, _, rfl, t, fun h => absurd rfl h, fun _ => ⟨hBx hb t.upd (fun k hk h => h.elim (hn k hk) id), hlt, rfl, .inr ⟨rfl, hy⟩⟩⟩
    · refine (two_step (k := 1) (V := fun _ => False) hb.2 hg' hys hyd hb.1 (hn _ (.inl rfl)) hn4 he2).mono ?_
      rintro r u2 ⟨rfl, t⟩
      exact ⟨ec, aS, _, rfl, t, fun _ => ⟨rfl, rfl, rfl, hz⟩, fun h => absurd h hec⟩
  refine (all_at (V := fun _ => False) (hg.below hT.bel) hs (by omega) (by omega) (fun i hi => ⟨bb, _, rfl, hT.b5, ?_⟩) (fun b hb => ?_) (fun _ h => h.elim) P0 hP0 _ _ ?_ ?_ hE).mono ?_
  · have : i = 0 ∨ i = 1 := by omega
    rcases this with rfl | rfl <;> rfl
  · injection hb with hb
    injection hb with hb
    subst hb
    exact ⟨hT.b5.lt, hGn _ q5⟩
  · rintro k u' nb y' S w hnb ⟨hb, hlt, hI⟩
    have hne : ∀ i, P0 i → i ≠ nb := fun i hi e => by have := hlt i hi; omega
    exact ⟨⟨hb.1.other nb 0 _ (hne _ (.inl rfl)), hb.2.1.other nb 0 _ (hne _ (.inr (.inl rfl))), hb.2.2.1.other nb 0 _ (hne _ (.inr (.inr (.inl rfl)))), hb.2.2.2.1.other nb 0 _ (hne _ (.inr (.inr (.inr (.inl rfl))))), hb.2.2.2.2.other nb 0 _ (hne _ (.inr (.inr (.inr (.inr rfl)))))⟩, hlt, hI⟩
  · intro u1 hu
    exact ⟨hBx ⟨bt', hT.b1, hT.b2, hT.b3, hT.b4⟩ hu (fun k hk h => (hP0 k hk).2 h), fun i hi => (hP0 i hi).1, rfl, .inl ⟨rfl, rfl⟩⟩
  · rintro r u' ⟨k, e, S2, w, u2, rfl, t, _, hf⟩
    rcases hf with ⟨_, _, rfl, rfl, rfl, rfl⟩ | ⟨rfl, _, _, _, _, h⟩
    · obtain ⟨c, d⟩ := shut_same (x := x) (x2 := w) (by rw [← hz]; show x2.st = 1; rw [p3]; exact hys) (by rw [← hz]; show y.S.M = _; rw [hyM]; rfl) e
      rw [c] at t
      rw [d]
      exact ⟨rfl, Awk.to ⟨g1, g2, bt', bf'⟩ t⟩
    · rcases h with h | h <;> exact absurd h.1 (by decide)
end
end Go.Proofs.Ytbpbclmlkdnfbaa.T
