/-
  Step of a transaction.
-/
import Derived.Test.YtafiopjgegmfoaaTClo
import Derived.Test.YtafiopjgegmfoaaTRead
namespace Go.Proofs.Ytafiopjgegmfoaa.T
open Go.RowKit Go.Proofs.Ytafiopjgegmfoaa.C
theorem do1_keeps (X : TX) (S : M) (s : Stp) : (X.do1 S s).2.2.left = X.left ∧ (X.do1 S s).2.2.own = X.own ∧ (X.do1 S s).2.2.st = X.st := by
  cases s with
  | stay => exact ⟨rfl, rfl, rfl⟩
  | adv => exact ⟨rfl, rfl, rfl⟩
  | lock i => exact ⟨rfl, rfl, rfl⟩
  | look i =>
    unfold TX.do1
    dsimp only
    split
    · exact ⟨rfl, rfl, rfl⟩
    · split <;> exact ⟨rfl, rfl, rfl⟩
  | pub i =>
    unfold TX.do1
    dsimp only
    split <;> exact ⟨rfl, rfl, rfl⟩
theorem LeftAt.tail {w : World} {Q : Nat → Prop} {g lb off n c n' c' : Nat} {s : Stp} {L : List Stp} (h : LeftAt w Q g (.slice (some ⟨lb, off, none⟩) n c) (s :: L)) (hn : n' = L.length) (hc : n' ≤ c') {a : Option Addr} (ha : L ≠ [] → a = some ⟨lb, off + 1, none⟩) : LeftAt w Q g (.slice a n' c') L := by
  obtain ⟨a0, c0, e, _, h⟩ := h
  injection e with e1 e2 e3
  refine ⟨a, c', by rw [hn], by omega, fun j hj => ?_⟩
  obtain ⟨lb', off', cs, v, e, q, b, hv, hp⟩ := h (j + 1) (by simp; omega)
  rw [e] at e1
  injection e1 with e1
  injection e1 with e4 e5
  subst e4
  subst e5
  refine ⟨lb, off + 1, cs, v, ha (by intro h; simp [h] at hj), q, b, ?_, ?_⟩
  · rw [← hv]; congr 1; omega
  · simpa using hp
theorem LeftAt.head {w : World} {Q : Nat → Prop} {g : Nat} {lv : Value} {s : Stp} {L : List Stp} (h : LeftAt w Q g lv (s :: L)) : ∃ lb off c v, lv = .slice (some ⟨lb, off, none⟩) (L.length + 1) c ∧ L.length + 1 ≤ c ∧ w.cell? ⟨lb, off, none⟩ = some v ∧ IsStp w Q g v s := by
  obtain ⟨a, c, e, hc, h⟩ := h
  obtain ⟨lb, off, cs, v, e2, q, b, hv, hp⟩ := h 0 (by simp)
  subst e2
  refine ⟨lb, off, c, v, by simpa using e, by simpa using hc, ?_, hp⟩
  rw [Box.cell b]
  simpa using hv
theorem ends_ne (X : TX) : X.ends ≠ [] := by
  unfold TX.ends
  split <;> simp
theorem ends_ok {w : World} {B g m s : Nat} {X : TX} {F P Q : Nat → Prop} {lv : Value} (h : IsT w B g m X F s lv P Q) : TX.Ok { X with st := 2, left := X.ends } := by
  obtain ⟨rb, wb, v, Y, hA⟩ := h.sets
  have h1 := hA.wr.gd
  have h2 := hA.rd.gd
  refine ⟨h.ok.own, .inr (.inl rfl), ?_, ?_⟩
  · show X.ends.length ≤ 769
    have := h1.le
    have := h2.le
    unfold TX.ends
    split
    · simp
    · simp [srt_len, kys_len]
      omega
  · show ∀ s ∈ X.ends, s.Bnd
    intro s hs
    unfold TX.ends at hs
    split at hs
    · simp at hs
      subst hs
      trivial
    · simp only [List.mem_append, List.mem_cons, List.mem_map] at hs
      rcases hs with ⟨i, hi, rfl⟩ | rfl | ⟨i, hi, rfl⟩ | ⟨i, hi, rfl⟩
      · exact h1.cl i ((srt_mem _ _).1 hi)
      · trivial
      · exact h2.cl i ((srt_mem _ _).1 hi)
      · exact h1.cl i ((srt_mem _ _).1 hi)
/-- the steps were made, and stand in the transaction -/
theorem ToX.ended {w w1 : World} {B g m gm s : Nat} {S : M} {X : TX} {F P Q : Nat → Prop} {lv lv1 : Value} (hM : MM w B m gm S) (h : IsT w B g m X F s lv P Q) (hm : ¬ F m) (hgm : ¬ F gm) (hl : LeftAt w1 (fun x => w.heap.size ≤ x ∧ x < w1.heap.size) g lv1 X.ends) (hb : Below w.heap.size w w1) :
    w1.cell? ⟨g, 5, none⟩ = some (.int .u8 X.st) ∧ w1.frozen? ⟨g, 5, none⟩ = false ∧ (w1.setCell ⟨g, 5, none⟩ (.int .u8 2)).cell? ⟨g, 6, none⟩ = some lv ∧ (w1.setCell ⟨g, 5, none⟩ (.int .u8 2)).frozen? ⟨g, 6, none⟩ = false ∧ ((w1.setCell ⟨g, 5, none⟩ (.int .u8 2)).setCell ⟨g, 6, none⟩ lv1).cell? ⟨g, 6, none⟩ = some lv1 ∧ ToX w B g m gm S { X with st := 2, left := X.ends } F ((w1.setCell ⟨g, 5, none⟩ (.int .u8 2)).setCell ⟨g, 6, none⟩ lv1) := by
  have hB := hM.hB
  have h1 : IsT w1 B g m X F s lv P Q := h.stay hb.size (fun x hx => hb.block x (h.fB x hx).2)
  have hM1 : MM w1 B m gm S := hM.below hb
  have h2 : IsT w1 B g m X (grow F w w1) s lv P (fun x => grow F w w1 x ∧ ¬ P x) := h1.wide (fun _ hx => .inl hx) (grow_lt h.fB hB hb.size)
  have hl2 : LeftAt w1 (fun x => grow F w w1 x ∧ ¬ P x) g lv1 X.ends := hl.stay (fun x hx => ⟨.inr hx, fun p => by have := (h.fB x ((h.fF x).2 (.inl p))).2; omega⟩) (fun _ _ _ _ b _ => b)
  have b5 := h1.box.store 5 (.int .u8 2)
  have b6 := b5.store 6 lv1
  refine ⟨h1.box.cell 5, h1.box.frozen 5, b5.cell 6, b5.frozen 6, b6.cell 6, ?_⟩
  have k := ToX.own hM1 h2 (grow_not hm hM.lt.1.2) (grow_not hgm hM.lt.2.2) (grown_trans (grown_store w1 g 5 (.int .u8 2)) (grown_store _ g 6 lv1)) (X' := { X with st := 2, left := X.ends }) (lv' := lv1) b6 rfl hl2 (ends_ok h1)
  have s1 := hb.size
  have s2 := k.upd.1
  exact ⟨k.mm, k.tx.wide (fun x hx => (grow_trans s1 s2 x).1 hx) (fun x hx => k.tx.fB x ((grow_trans s1 s2 x).2 hx)), (hb.mono hB).trans k.bel, Nat.le_trans s1 s2, fun x hx hn => (k.upd.2 x (Nat.lt_of_lt_of_le hx s1) (fun e => e.elim (fun e => e.elim (fun e => hn (.inl e)) (fun e => by omega)) (fun e => hn (.inr e)))).trans (hb.block x hx)⟩
/-- what stands ahead of a step -/
structure At (w : World) (B g m gm : Nat) (S : M) (X : TX) (F : Nat → Prop) (u : World) (s : Stp) (L : List Stp) (lb off c : Nat) (v : Value) : Prop where
  to : ToX w B g m gm S X F u
  st : X.st = 2
  left : X.left = s :: L
  c5 : u.cell? ⟨g, 5, none⟩ = some (.int .u8 2)
  c6 : u.cell? ⟨g, 6, none⟩ = some (.slice (some ⟨lb, off, none⟩) (L.length + 1) c)
  f6 : u.frozen? ⟨g, 6, none⟩ = false
  hc : L.length + 1 ≤ c
  cv : u.cell? ⟨lb, off, none⟩ = some v
  lt : L.length ≤ 768
theorem ToX.at {w u : World} {B g m gm : Nat} {S : M} {X : TX} {F : Nat → Prop} {s : Stp} {L : List Stp} (h : ToX w B g m gm S X F u) (hs : X.st = 2) (hl : X.left = s :: L) : ∃ lb off c v, At w B g m gm S X F u s L lb off c v := by
  obtain ⟨s0, lv, P, Q, hT⟩ := h.tx
  have h1 := hT.left
  rw [hl] at h1
  obtain ⟨lb, off, c, v, rfl, hc, hv, hp⟩ := h1.head
  have h5 := hT.box.cell 5
  have hlen := hT.ok.len
  rw [hl] at hlen
  exact ⟨lb, off, c, v, h, hs, hl, by rw [← hs]; exact h5, hT.box.cell 6, hT.box.frozen 6, hc, hv, by simpa using hlen⟩
/-- the step is taken out of the row: what its closure will do -/
theorem At.next {w u : World} {B g m gm lb off c : Nat} {S : M} {X : TX} {F : Nat → Prop} {s : Stp} {L : List Stp} {v : Value} (h : At w B g m gm S X F u s L lb off c v) (hM : MM w B m gm S) (hm : ¬ F m) (hgm : ¬ F gm) (hN : Num S) {a : Option Addr} {c' : Nat} (hc : L.length ≤ c') (ha : L ≠ [] → a = some ⟨lb, off + 1, none⟩) :
    ∃ f caps, v = .func (.func f) #[] caps ∧ (f = 41 ∨ f = 43 ∨ f = 45 ∨ f = 48 ∨ f = 50) ∧ Calls Try.prog f caps (u.setCell ⟨g, 6, none⟩ (.slice a L.length c')) fun r w' => r = .returned (.int .i64 (TX.do1 S { X with left := L } s).1) ∧ ToX w B g m gm (TX.do1 S { X with left := L } s).2.1 (TX.do1 S { X with left := L } s).2.2 F w' := by
  obtain ⟨s0, lv, P, Q, hT⟩ := h.to.tx
  have e6 : lv = .slice (some ⟨lb, off, none⟩) (L.length + 1) c := by
    have e1 : u.cell? ⟨g, 6, none⟩ = some lv := hT.box.cell 6
    rw [h.c6] at e1
    injection e1 with e1
    exact e1.symm
  subst e6
  have h1 := hT.left
  rw [h.left] at h1
  have hok : TX.Ok { X with left := L } := ⟨hT.ok.own, hT.ok.st, by show L.length ≤ 769; have := h.lt; omega, fun t ht => hT.ok.bnd t (by rw [h.left]; exact List.mem_cons_of_mem _ ht)⟩
  have hbn : s.Bnd := hT.ok.bnd s (by rw [h.left]; exact List.mem_cons_self ..)
  have b6 := hT.box.store 6 (.slice a L.length c')
  have hl2 : LeftAt u Q g (.slice a L.length c') L := h1.tail rfl hc ha
  have fm : ¬ grow F w u m := grow_not hm hM.lt.1.2
  have fgm : ¬ grow F w u gm := grow_not hgm hM.lt.2.2
  have k0 := ToX.own h.to.mm hT fm fgm (grown_store u g 6 (.slice a L.length c')) (X' := { X with left := L }) (lv' := .slice a L.length c') b6 rfl hl2 hok
  have k := h.to.trans k0
  have gm1 : ¬ grow F w (u.setCell ⟨g, 6, none⟩ (.slice a L.length c')) m := grow_not hm hM.lt.1.2
  have gm2 : ¬ grow F w (u.setCell ⟨g, 6, none⟩ (.slice a L.length c')) gm := grow_not hgm hM.lt.2.2
  have bx : ∀ x cs t, Q x → Box u x cs t → t ≠ 71 → Box (u.setCell ⟨g, 6, none⟩ (.slice a L.length c')) x cs t ∧ grow F w (u.setCell ⟨g, 6, none⟩ (.slice a L.length c')) x := fun x cs t q b ht => by
    refine ⟨b.other g 6 _ (b.ne hT.box ht), ?_⟩
    have := (hT.fF x).2 (.inr q)
    rcases this with hf | hf
    · exact .inl hf
    · exact .inr ⟨hf.1, by simpa using hf.2⟩
  have fin : ∀ r w', r = Ending.returned (.int .i64 (TX.do1 S { X with left := L } s).1) ∧ ToX (u.setCell ⟨g, 6, none⟩ (.slice a L.length c')) B g m gm (TX.do1 S { X with left := L } s).2.1 (TX.do1 S { X with left := L } s).2.2 (grow F w (u.setCell ⟨g, 6, none⟩ (.slice a L.length c'))) w' → r = .returned (.int .i64 (TX.do1 S { X with left := L } s).1) ∧ ToX w B g m gm (TX.do1 S { X with left := L } s).2.1 (TX.do1 S { X with left := L } s).2.2 F w' := fun r w' hr => ⟨hr.1, k.trans hr.2⟩
  obtain ⟨lb', off', c0', v', e0, _, hv', hp⟩ := h1.head
  have ev : v' = v := by
    injection e0 with e0
    injection e0 with e0
    injection e0 with e1 e2
    rw [← e1, ← e2, h.cv] at hv'
    injection hv' with hv'
    exact hv'.symm
  subst ev
  obtain ⟨tb, qt, bt, hp⟩ := hp
  obtain ⟨bt', ft⟩ := bx tb _ _ qt bt (by decide)
  cases s with
  | stay => exact ⟨41, _, hp, .inl rfl, (clo_stay k.mm k.tx gm1 gm2 bt').mono fin⟩
  | adv => exact ⟨45, _, hp, .inr (.inr (.inl rfl)), (clo_adv k.mm k.tx gm1 gm2 bt').mono fin⟩
  | lock i =>
    obtain ⟨ib, qi, bi, hp⟩ := hp
    obtain ⟨bi', fi⟩ := bx ib _ _ qi bi (by decide)
    exact ⟨43, _, hp, .inr (.inl rfl), (clo_lock k.mm k.tx gm1 gm2 i bt' bi' ft fi).mono fin⟩
  | look i =>
    obtain ⟨ib, qi, bi, hp⟩ := hp
    obtain ⟨bi', fi⟩ := bx ib _ _ qi bi (by decide)
    exact ⟨48, _, hp, .inr (.inr (.inr (.inl rfl))), (clo_look k.mm k.tx hN i (cell_wf hbn) bt' bi').mono fin⟩
  | pub i =>
    obtain ⟨ib, qi, bi, hp⟩ := hp
    obtain ⟨bi', fi⟩ := bx ib _ _ qi bi (by decide)
    exact ⟨50, _, hp, .inr (.inr (.inr (.inr rfl))), (clo_pub k.mm k.tx gm1 gm2 hN i (cell_wf hbn) bt' bi').mono fin⟩
/-- behind the closure -/
structure Beh (w : World) (B g m gm : Nat) (S : M) (X : TX) (F : Nat → Prop) (n : Nat) (u : World) : Prop where
  to : ToX w B g m gm S X F u
  c5 : u.cell? ⟨g, 5, none⟩ = some (.int .u8 2)
  c6 : ∃ a c, u.cell? ⟨g, 6, none⟩ = some (.slice a n c)
  f5 : u.frozen? ⟨g, 5, none⟩ = false
  cf : Calls Try.prog 27 #[ptr g] u fun r w' => r = .returned (.tuple #[]) ∧ ToX w B g m gm (S.rel X.own) X.fail F w' ∧ w'.cell? ⟨g, 5, none⟩ = some (.int .u8 4)
  d6 : ∃ lv, (u.setCell ⟨g, 5, none⟩ (.int .u8 3)).cell? ⟨g, 6, none⟩ = some lv
  g6 : (u.setCell ⟨g, 5, none⟩ (.int .u8 3)).frozen? ⟨g, 6, none⟩ = false
  dn : ToX w B g m gm S { X with st := 3, left := [] } F ((u.setCell ⟨g, 5, none⟩ (.int .u8 3)).setCell ⟨g, 6, none⟩ (.slice none 0 0))
  e5 : ((u.setCell ⟨g, 5, none⟩ (.int .u8 3)).setCell ⟨g, 6, none⟩ (.slice none 0 0)).cell? ⟨g, 5, none⟩ = some (.int .u8 3)
theorem ToX.st {w u : World} {B g m gm : Nat} {S : M} {X : TX} {F : Nat → Prop} (h : ToX w B g m gm S X F u) : u.cell? ⟨g, 5, none⟩ = some (.int .u8 X.st) := by
  obtain ⟨s0, lv, P, Q, hT⟩ := h.tx
  exact hT.box.cell 5
theorem ToX.beh {w u : World} {B g m gm : Nat} {S0 S : M} {X : TX} {F : Nat → Prop} (h : ToX w B g m gm S X F u) (hM : MM w B m gm S0) (hm : ¬ F m) (hgm : ¬ F gm) (hs : X.st = 2) {n : Nat} (hn : X.left.length = n) : Beh w B g m gm S X F n u := by
  obtain ⟨s0, lv, P, Q, hT⟩ := h.tx
  have fm : ¬ grow F w u m := grow_not hm hM.lt.1.2
  have fgm : ¬ grow F w u gm := grow_not hgm hM.lt.2.2
  have b5 := hT.box.store 5 (.int .u8 3)
  have b6 := b5.store 6 (.slice none 0 0)
  obtain ⟨a, c, e, _, _⟩ := hT.left
  refine ⟨h, by rw [← hs]; exact h.st, ⟨a, c, ?_⟩, hT.box.frozen 5, (fail_at h.mm h.tx fm fgm).mono (fun r w' hr => ⟨hr.1, h.trans hr.2, ?_⟩), ⟨lv, b5.cell 6⟩, b5.frozen 6, ?_, b6.cell 5⟩
  · rw [← hn, ← e]; exact hT.box.cell 6
  · exact (h.trans hr.2).st
  · exact h.trans (ToX.own h.mm hT fm fgm (grown_trans (grown_store u g 5 (.int .u8 3)) (grown_store _ g 6 (.slice none 0 0))) (X' := { X with st := 3, left := [] }) (lv' := .slice none 0 0) b6 rfl (LeftAt.nil _ _ _ _ _) ⟨hT.ok.own, .inr (.inr (.inl rfl)), by simp, by simp⟩)
set_option maxRecDepth 100000 in
set_option maxHeartbeats 2000000 in
theorem step_over {w : World} {B g m gm : Nat} {S : M} {X : TX} {F : Nat → Prop} (hM : MM w B m gm S) (hX : IsX w B g m X F) (h1 : X.st = 3 ∨ X.st = 4) : Calls Try.prog 17 #[ptr g] w fun r w' => r = .returned (.tuple #[.int .u8 (X.step S).1, .int .i64 (X.step S).2.1]) ∧ ToX w B g m gm (X.step S).2.2.1 (X.step S).2.2.2 F w' := by
  have H0 : Hid (ToX w B g m gm S X F w) := ToX.refl hM hX
  obtain ⟨s, lv, P, Q, h⟩ := hX
  have cm := isMade_at h.box
  have co := isOver_at h.box h.ok
  have c5 : w.cell? ⟨g, 5, none⟩ = some (.int .u8 X.st) := h.box.cell 5
  have e : X.step S = (X.st, 132, S, X) := by unfold TX.step; rw [if_pos h1]
  rw [e]
  rw [decide_eq_true h1] at co
  generalize X.st = st at *
  clear h hM e h1
  unfold ptr at *
  go_enter Try.func17, Try.ntmps17
  go_wp2_with (first | (go_at_call 30; refine cm.mono ?_; rintro e wx ⟨rfl, hwx⟩; subst wx) | (go_at_call 31; refine co.mono ?_; rintro e wx ⟨rfl, hwx⟩; subst wx))
  go_ret2
  exact ⟨rfl, H0.out⟩
end Go.Proofs.Ytafiopjgegmfoaa.T
