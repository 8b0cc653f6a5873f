/-
  DkWrite, DkTold, DkCopy, DkStand, JSmall, JNone, RcBytes, RcMem, RcPlain, RcOctets, RcLittle, JNone2: put together.
-/
import Derived.Test.YtkhejjddmbegaaaGreatG1
import Derived.Test.YtkhejjddmbegaaaGreatRows
import Derived.WalkKit
import Derived.WalkSpells
import Derived.WalkLawsBesides
import Derived.Laws.BytesArg
import Derived.Laws.AppendOwnNone
import Derived.ProofKit
import Derived.Laws.CopyOwn
import Derived.Deep.QuietTactic
import Derived.BigQuiet
/-
  Write; Writes, Pending.
-/
namespace Go.Proofs.YtkhejjddmbegaaaGreat.Dk
open Go.RowKit

theorem info79 : (Tryz.prog.info? 88).map (fun i => (i.zero, i.size, i.bytes)) = some (some (.agg #[.int .i64 0, .slice none 0 0]), 2, 32) := by kernel_rfl

/-- An append leaves the row where it was, or lays it anew. -/
theorem append_where {P : Program} {w : World} {t ty e : TypeId} {i : TypeInfo} {z : Value} {size bytes : Nat} (ht : P.underlying t = some (.slice e)) (hi : P.info? e = some i) (hz : i.zero = some z) (hsize : i.size = size) (hby : i.bytes = bytes) (hzs : z.cells.size = size) (hsz : 0 < size)
    {v : Value} {n : Nat} {xs : List Value} (hown : w.ownsRow 0 e size v n xs) {ad : Addr} {m c : Nat} {news : List Value} (hl : news.length = m * size) (hnews : ∀ j u, news[j]? = some u → w.cell? (ad.add j) = some u) (h1 : ∀ u ∈ news, u.oneCell' = true)
    (h63 : n + m ≤ maxLen) (hbytes : (n + m) * bytes ≤ 140737488355328) :
    ∃ v' w', (Builtin.append_ #[t, t] ty #[v, .slice (some ad) m c]).run P w = .ok v' w' ∧ w'.ownsRow 0 e size v' (n + m) (xs ++ news) ∧ w.grownBy w' v.ownBlock ∧ (∀ k, v'.ownBlock = some k → v.ownBlock = some k ∨ w.heap.size ≤ k) := by
  obtain ⟨v', w', hr, h2, h3, _⟩ := run_append_own (P := P) w 0 t ty e i z size bytes ht hi hz hsize hby hzs hsz v n xs hown ad m c news hl hnews h1 h63 hbytes (Nat.zero_le _)
  refine ⟨v', w', hr, h2, h3, fun k hk => ?_⟩
  rcases hown.2 with ⟨rfl, rfl⟩ | ⟨g, cap, cur, rfl, hbg, hg, hnc, hcm, hcs, htake⟩
  · have hx : xs = [] := List.eq_nil_of_length_eq_zero (by simpa using hown.1)
    subst hx
    obtain ⟨v2, w2, hr2, o2, _⟩ := run_append_own (P := P) w w.heap.size t ty e i z size bytes ht hi hz hsize hby hzs hsz (.slice none 0 0) 0 [] (World.ownsRow_nil _ _ _ _) ad m c news hl hnews h1 h63 hbytes (Nat.le_refl _)
    rw [hr] at hr2
    simp only [Result.ok.injEq] at hr2
    obtain ⟨rfl, rfl⟩ := hr2
    exact .inr (o2.lt k hk).1
  · by_cases hroom : n + m ≤ cap
    · have hr2 := run_append_room (P := P) w t ty e i ht hi g n cap cur hg ad m c news (by rw [hsize]; exact hl) hnews h1 hroom (by rw [hsize, hl, hcs, ← Nat.add_mul]; exact Nat.mul_le_mul_right _ hroom)
      rw [hr] at hr2
      simp only [Result.ok.injEq] at hr2
      obtain ⟨rfl, _⟩ := hr2
      exact .inl hk
    · have hr2 := run_append_grow (P := P) w t ty e i z ht hi hz ⟨g, 0, none⟩ n cap xs (by rw [hsize]; exact hown.1) (hown.cells (g := g) rfl) ad m c news (by rw [hsize]; exact hl) hnews (by omega) (by simp only [maxLen] at h63; omega) (growslice_fits (by omega) (by rw [hby]; exact hbytes))
      rw [hr] at hr2
      simp only [Result.ok.injEq] at hr2
      obtain ⟨rfl, _⟩ := hr2
      simp [Value.ownBlock] at hk
      exact .inr (by omega)

/-- .. as one step of a region that draws its order. -/
theorem step_append_where {P : Program} {ops : Array Oper} {o : Oper} {a : Act} {w : World} {K : Act → World → Prop} {Q : Exit → Act → World → Prop} {E : Prop}
    (hg : o.guard = none) (s x : Operand) (t : TypeId) (hop : o.op = Op.call { callee := Callee.builtin Builtin.append, args := #[s, x], argTypes := #[t, t] })
    (e : TypeId) (i : TypeInfo) (z : Value) (size bytes : Nat) (h1 : P.underlying t = some (.slice e)) (h2 : P.info? e = some i) (h3 : i.zero = some z) (h4 : i.size = size) (h5 : i.bytes = bytes) (h6 : z.cells.size = size) (h7 : 0 < size)
    (v : Value) (n : Nat) (olds : List Value) (hs : a.eval s = v) (hown : w.ownsRow 0 e size v n olds)
    (ad : Addr) (m c : Nat) (news : List Value) (hx : a.eval x = .slice (some ad) m c) (hn : news.length = m * size) (hc : ∀ j u, news[j]? = some u → w.cell? (ad.add j) = some u) (h1c : ∀ u ∈ news, u.oneCell' = true)
    (b1 : n + m ≤ maxLen) (b2 : (n + m) * bytes ≤ 140737488355328)
    (hK : ∀ v' w', w'.ownsRow 0 e size v' (n + m) (olds ++ news) → w.grownBy w' v.ownBlock → (∀ k, v'.ownBlock = some k → v.ownBlock = some k ∨ w.heap.size ≤ k) → K (a.put o.dst v') w') :
    if Region.wanted o (yielded ops a.tmps) = true then Oper.wp P o a w K Q else E := by
  have hw : Region.wanted o (yielded ops a.tmps) = true := by simp [Region.wanted, hg]
  rw [if_pos hw]
  obtain ⟨v', w', hrun, r1, r2, r3⟩ := append_where (P := P) (ty := o.type) (c := c) h1 h2 h3 h4 h5 h6 h7 hown hn hc h1c b1 b2
  unfold Oper.wp
  simp [execOp, hop, resolve, invoke, builtin, hs, hx, hrun, Result.andThen]
  exact hK v' w' r1 r2 r3

/-- A write more stands in the row. -/
theorem Lies.added {w w3 w4 : World} {g : Nat} {D : DS} {F : Nat → Prop} {gd cd : Nat} {vu v' : Value} {ps : List (Nat × Nat × Nat)} (h : Lies w g D F gd cd vu ps) (hb : Below w.heap.size w w3) (bn gk ck : Nat) (b : List UInt8) (hrow : RowB w3 gk ck b) (hgk : w.heap.size ≤ gk) (hbn : bn < D.nb) (hbl : b.length = 4096)
    (ho : w4.ownsRow 0 88 2 v' (D.uf.length + 1) (wcs (ps ++ [(bn, gk, ck)]))) (hg : w3.grownBy w4 vu.ownBlock) (hv : ∀ k, v'.ownBlock = some k → vu.ownBlock = some k ∨ w.heap.size ≤ k) :
    ∃ F' : Nat → Prop, Lies (w4.setCell ⟨g, 2, none⟩ v') g { D with uf := D.uf ++ [(bn, b)] } F' gd cd v' (ps ++ [(bn, gk, ck)]) ∧ (∀ i, F' i → F i ∨ w.heap.size ≤ i) ∧ Upd F w (w4.setCell ⟨g, 2, none⟩ v') ∧ Box w4 g (diskC g (.slice (some ⟨gd, 0, none⟩) (D.nb * 4096) cd) vu D) 84 := by
  have h3 := h.below hb
  have gr := grown_store w4 g 2 v'
  have nrow : ∀ {q : Nat} {cs : Array Value} {t : TypeId}, Box w3 q cs t → t ≠ 88 → some q ≠ vu.ownBlock := by
    intro q cs t hq ht e
    rcases h3.row.2 with ⟨rfl, _⟩ | ⟨gv, cu, cur, rfl, _, hgv, _⟩
    · simp [Value.ownBlock] at e
    · simp [Value.ownBlock] at e
      subst e
      exact Box.ne (w := w3) hq hgv ht rfl
  have hbox4 : Box w4 g _ 84 := (hg.block g h3.box.lt (nrow h3.box (by decide))).trans h3.box
  have hrowB : ∀ {q c : Nat} {ys : List UInt8}, RowB w3 q c ys → RowB (w4.setCell ⟨g, 2, none⟩ v') q c ys := by
    intro q c ys hq
    have hq0 := hq
    obtain ⟨cur, hb1, _⟩ := hq
    have h4 := hq0.same (hg.block q hb1.lt (nrow hb1 (by decide)))
    obtain ⟨cur4, hb4, _⟩ := h4
    exact (hq0.same (hg.block q hb1.lt (nrow hb1 (by decide)))).same (gr.block q hb4.lt (by simpa using hb4.ne hbox4 (by decide)))
  have hkg : gk ≠ gd := by have := h.dur.lt; omega
  have hok : DS.Ok { D with uf := D.uf ++ [(bn, b)] } := ⟨h.ok.len, h.ok.lo, h.ok.hi, fun p hp => by
    rcases List.mem_append.1 hp with hp | hp
    · exact h.ok.each p hp
    · simp at hp; subst hp; exact ⟨hbn, hbl⟩, h.ok.arm, h.ok.fail⟩
  refine ⟨fun i => F i ∨ i = gk ∨ v'.ownBlock = some i, ⟨hbox4.store 2 v', hrowB h3.dur, ?_, ?_, ?_, .inl h.fg, .inl h.fd, fun k hk => .inr (.inr hk), ?_, hok⟩, ?_, ?_⟩
  · have ho' := ho.kept gr (by
      rcases ho.2 with ⟨rfl, _⟩ | ⟨gv, cu, cur, rfl, _, hgv, _⟩
      · exact .inl rfl
      · exact .inr (by simp only [Value.ownBlock, ne_eq, Option.some.injEq]; exact Box.ne (w := w4) (t := 88) hgv hbox4 (by decide)))
    show World.ownsRow _ _ _ _ _ (D.uf ++ [(bn, b)]).length _
    rw [List.length_append]
    exact ho'
  · show (ps ++ [(bn, gk, ck)]).length = (D.uf ++ [(bn, b)]).length
    simp [h.len]
  · intro k h1 h2
    have hl := h.len
    by_cases hk : k < ps.length
    · have hk2 : k < D.uf.length := by omega
      obtain ⟨a1, a2, a3, a4⟩ := h3.each k hk hk2
      have e1 : (ps ++ [(bn, gk, ck)])[k] = ps[k] := List.getElem_append_left hk
      have e2 : (D.uf ++ [(bn, b)])[k]'(by simp; omega) = D.uf[k] := List.getElem_append_left hk2
      show (ps ++ [(bn, gk, ck)])[k].1 = ((D.uf ++ [(bn, b)])[k]'(by simp; omega)).1 ∧ RowB _ (ps ++ [(bn, gk, ck)])[k].2.1 (ps ++ [(bn, gk, ck)])[k].2.2 ((D.uf ++ [(bn, b)])[k]'(by simp; omega)).2 ∧ _
      rw [e1, e2]
      exact ⟨a1, hrowB a2, a3, .inl a4⟩
    · have hke : k = ps.length := by simp at h1; omega
      subst hke
      have e1 : (ps ++ [(bn, gk, ck)])[ps.length] = (bn, gk, ck) := by simp
      have e2 : (D.uf ++ [(bn, b)])[ps.length]'(by simp; omega) = (bn, b) := by simp [hl]
      show (ps ++ [(bn, gk, ck)])[ps.length].1 = ((D.uf ++ [(bn, b)])[ps.length]'(by simp; omega)).1 ∧ RowB _ (ps ++ [(bn, gk, ck)])[ps.length].2.1 (ps ++ [(bn, gk, ck)])[ps.length].2.2 ((D.uf ++ [(bn, b)])[ps.length]'(by simp; omega)).2 ∧ _
      rw [e1, e2]
      exact ⟨rfl, hrowB hrow, hkg, .inr (.inl rfl)⟩
  · intro i hi
    have z1 := hb.size
    have z2 := hg.size
    have z3 := gr.size
    rcases hi with hi | rfl | hi
    · have := h.flt i hi; omega
    · have := hrow.lt; omega
    · have := (ho.lt i hi).2; omega
  · intro i hi
    rcases hi with hi | rfl | hi
    · exact .inl hi
    · exact .inr hgk
    · rcases hv i hi with h1 | h1
      · exact .inl (h.fu i h1)
      · exact .inr h1
  · have u1 : Upd F w w3 := Upd.of_below hb
    have u2 : Upd F w w4 := u1.grown hg (fun k hk => .inl (h.fu k hk))
    exact ⟨u2.setCell (.inl h.fg) _, hbox4⟩

def writeF (D : DS) : Prop := D.uf.length ≤ 1000000 ∧ D.n ≤ 1000000

set_option maxRecDepth 100000 in
set_option maxHeartbeats 2000000 in
theorem write_ok {g : Nat} {w : World} {D : DS} {F : Nat → Prop} {gd cd : Nat} {vu : Value} {ps : List (Nat × Nat × Nat)} (h : Lies w g D F gd cd vu ps) (bn cb : Nat) (ad : Addr) (b : List UInt8) (hb : b.length = 4096) (hbn : bn < D.nb) (hE : D.operE = 0) (hlim : writeF D) (hr : Rd w (some ad) b) (hF : ¬ F ad.block) :
    Calls Tryz.prog 10 #[.pointer (some ⟨g, 0, none⟩), .int .i64 (bn : Int), .slice (some ad) 4096 cb] w fun e w' => e = .returned (.int .i64 0) ∧ (∃ F', IsDisk w' g { D.oper with uf := D.uf ++ [(bn, b)], n := D.n + 1 } F' ∧ ∀ i, F' i → F i ∨ w.heap.size ≤ i) ∧ Upd F w w' := by
  have c := isMade_at h
  have cH := has_at h (bn : Int)
  have hhas : D.has (bn : Int) = true := by simp [DS.has]; omega
  rw [hhas] at cH
  have cO := operation_at h
  rw [hE] at cO
  obtain ⟨i0, hi, hz0, hz1, hz2⟩ := info_parts info79
  obtain ⟨l1, l2⟩ := hlim
  have Hb : Hid _ := hb
  have hfg := h.fg
  have Hnb : Hid _ := D.oper_nb
  have Huf : Hid _ := D.oper_uf
  have Hn : Hid _ := D.oper_n
  have hsp : ad = ⟨ad.block, ad.off, none⟩ := by
    obtain ⟨b', o', he, _⟩ := hr (by omega)
    obtain rfl := Option.some.inj he
    rfl
  obtain ⟨ab, ao, asp⟩ := ad
  simp only [Addr.mk.injEq, true_and] at hsp
  subst hsp
  clear hhas hE hb
  go_enter Tryz.func10, Tryz.ntmps10
  go_wp2_with fail
  refine c.mono ?_
  rintro e w' ⟨rfl, rfl⟩
  go_wp2_with fail
  refine cH.mono ?_
  rintro e w' ⟨rfl, rfl⟩
  go_wp2_with fail
  refine cO.mono ?_
  rintro e w1 ⟨rfl, h1, g1⟩
  have hr1 : Rd w1 (some ⟨ab, ao, none⟩) b := hr.upd ((Upd.refl F w).grown g1 (fun k e => by cases e; exact .inl hfg)) hF
  have U1 : Upd F w w1 := (Upd.refl F w).grown g1 (fun k e => by cases e; exact .inl hfg)
  clear c cH cO g1
  obtain ⟨_, _, c2, _⟩ := box_cells h1.box
  go_wp2_with fail
  refine wp_region_any (by kernel_rfl) ?_
  change wpAny _ _ _ _ _ _ _ (World.drew _)
  refine wpAny_take (i := 0) (v := ?_) rfl (by kernel_rfl) (by kernel_rfl) (by kernel_rfl) (fun _ _ _ h => h) (Or.inl ⟨by rfl, ?_⟩) ?_
  rotate_left
  · intro w
    go_simp
    with_reducible rfl
  refine wpAny_take (i := 1) (v := ?_) rfl (by kernel_rfl) (by kernel_rfl) (by kernel_rfl) (fun _ _ _ h => h) (Or.inl ⟨by rfl, ?_⟩) ?_
  rotate_left
  · intro w
    go_simp
    with_reducible rfl
  refine wpAny_take (i := 2) (v := ?_) rfl (by kernel_rfl) (by kernel_rfl) (by kernel_rfl) (fun _ _ _ h => h) (Or.inl ⟨by rfl, ?_⟩) ?_
  rotate_left
  · intro w
    go_simp
    with_reducible rfl
  refine wpAny_take (i := 3) (v := ?_) rfl (by kernel_rfl) (by kernel_rfl) (by kernel_rfl) (fun _ _ _ h => h) (Or.inl ⟨by rfl, ?_⟩) ?_
  rotate_left
  · intro w
    go_simp
    with_reducible rfl
  refine wpAny_take (i := 5) (v := ?_) rfl (by kernel_rfl) (by kernel_rfl) (by kernel_rfl) (fun _ _ _ h => h) (Or.inl ⟨by rfl, ?_⟩) ?_
  rotate_left
  · intro w
    go_simp
    with_reducible rfl
  refine wpAny_take (i := 6) (v := ?_) rfl (by kernel_rfl) (by kernel_rfl) (by kernel_rfl) (fun _ _ _ h => h) (Or.inl ⟨by rfl, ?_⟩) ?_
  rotate_left
  · intro w
    go_simp
    with_reducible rfl
  simp only [Act.put, List.setIfInBounds_toArray, List.set_cons_zero, List.set_cons_succ, List.getElem_toArray, List.getElem_cons_zero, List.getElem_cons_succ]
  have hvu : ∃ av cu, vu = .slice av D.uf.length cu := by
    have hrow := h.row
    rcases hrow.2 with ⟨h1, h2⟩ | ⟨gv, cu, cur, hv, _⟩
    · exact ⟨none, 0, by rw [h1, h2]⟩
    · exact ⟨some ⟨gv, 0, none⟩, cu, hv⟩
  obtain ⟨av, cu, rfl⟩ := hvu
  obtain ⟨n, hn⟩ : ∃ n, n = D.uf.length := ⟨_, rfl⟩
  rw [← hn] at h1 c2 l1
  have Hnn : Hid _ := hn
  clear hn
  refine wpAny_of_late (C := SlotsCells [(31, .pointer (some ⟨g, 2, none⟩))] [(⟨g, 2, none⟩, .slice av n cu)]) (late := [10, 11, 12, 13]) _ _ _ _ ?_
  have h2 : Lies w1.drew g D.oper F gd cd (.slice av n cu) ps := h1.below (Below.refl _ _).drew
  have c2d : w1.drew.cell? ⟨g, 2, none⟩ = some (.slice av n cu) := c2
  have hr2 : Rd w1.drew (some ⟨ab, ao, none⟩) b := hr1
  have U2 : Upd F w w1.drew := U1.drew
  have hgl : g < w1.drew.heap.size := h2.box.lt
  obtain ⟨W, hW⟩ : ∃ W, W = w1.drew := ⟨_, rfl⟩
  rw [← hW] at h2 c2d hr2 U2 hgl ⊢
  clear hW h1 c2 hr1 U1
  refine wpAnyD_take (i := 4) (v := .slice av n cu) rfl (by kernel_rfl) (by kernel_rfl) (by kernel_rfl) (by kernel_rfl) (fun _ _ _ h => h) ?_ (fun fr u h => (SlotsCells.put 32 _ (by rfl)).1 h) (fun fr u h => (SlotsCells.put 32 _ (by rfl)).2 h) ?_ ?_
  · intro fr u hh
    obtain ⟨e1, e2⟩ := hh.load (s := 31) (p := ⟨g, 2, none⟩) (v := .slice av n cu) (by simp) (by simp)
    exact ⟨rfl, by simp [execOp, e1, go_sem, e2]⟩
  · refine ⟨fun p hp => ?_, fun q hq => ?_⟩
    · simp at hp
      subst hp
      rfl
    · simp at hq
      subst hq
      exact c2d
  simp only [Act.put, List.setIfInBounds_toArray, List.set_cons_zero, List.set_cons_succ, List.getElem_toArray, List.getElem_cons_zero, List.getElem_cons_succ]
  refine wpAnyD_one (i := 7) (by kernel_rfl) rfl (fun K hK => ?_)
  go_simp
  refine (clone_at cb 4096 ⟨ab, ao, none⟩ b W Hb.out (by omega) (by omega) hr2).mono ?_
  rintro e w2 ⟨gk, ck, rfl, hgk, rk, b2⟩
  have c2e := (b2.cell (p := ⟨g, 2, none⟩) hgl).trans c2d
  refine hK _ _ ⟨?_, ?_⟩
  · refine .inr ⟨fun p hp => ?_, fun q hq => ?_⟩
    · simp at hp
      subst hp
      rfl
    · simp at hq
      subst hq
      exact c2e
  clear hK K
  refine wpAnyD_one (i := 8) (by kernel_rfl) rfl (fun K hK => ?_)
  go_simp
  refine hK _ _ ⟨?_, ?_⟩
  · refine .inr ⟨fun p hp => ?_, fun q hq => ?_⟩
    · simp at hp
      subst hp
      rfl
    · simp at hq
      subst hq
      exact c2e
  clear hK K
  have bA := (Below.refl w2.heap.size w2).alloc (Nat.le_refl _) (.cells #[.int .i64 (bn : Int), .slice (some ⟨gk, 0, none⟩) 4096 ck] 88)
  have x3 := Box.new w2 #[.int .i64 (bn : Int), .slice (some ⟨gk, 0, none⟩) 4096 ck] 88
  have rk3 := rk.same (bA.block gk rk.lt)
  have B3 := b2.trans (bA.mono b2.size)
  have c2f := (B3.cell (p := ⟨g, 2, none⟩) hgl).trans c2d
  refine wpAnyD_one (i := 9) (by kernel_rfl) rfl (fun K hK => ?_)
  go_simp
  refine hK _ _ ⟨?_, ?_⟩
  · refine .inr ⟨fun p hp => ?_, fun q hq => ?_⟩
    · simp at hp
      subst hp
      rfl
    · simp at hq
      subst hq
      exact c2f
  clear hK K
  obtain ⟨V, hV⟩ : ∃ V, V = w2.alloc (.cells #[.int .i64 (bn : Int), .slice (some ⟨gk, 0, none⟩) 4096 ck] 88) := ⟨_, rfl⟩
  obtain ⟨G, hG⟩ : ∃ G, G = w2.heap.size := ⟨_, rfl⟩
  rw [← hV] at x3 rk3 B3 c2f ⊢
  rw [← hG] at x3 ⊢
  clear hV hG bA c2e rk b2
  have h3 := h2.below B3
  have row3 : V.ownsRow 0 88 2 (.slice av n cu) n (wcs ps) := by
    have := h3.row
    rw [Huf.out, ← Hnn.out] at this
    exact this
  refine wpAnyD_one (i := 10) (by kernel_rfl) rfl (fun K hK => ?_)
  refine step_append_where rfl (.tmp 32) (.tmp 37) 82 rfl 88 i0 (.agg #[.int .i64 0, .slice none 0 0]) 2 32 Tryz.underlying82 hi hz0 hz1 hz2 rfl (by decide) (.slice av n cu) n (wcs ps) rfl row3 ⟨G, 0, none⟩ 1 1 [.int .i64 (bn : Int), .slice (some ⟨gk, 0, none⟩) 4096 ck] rfl rfl ?_ ?_ (by unfold maxLen; omega) (by omega) ?_
  · intro j u hj
    match j, hj with
    | 0, hj => simp at hj; subst hj; rw [Addr.add_lit]; exact x3.cell 0
    | 1, hj => simp at hj; subst hj; rw [Addr.add_lit]; exact x3.cell 1
  · intro u hu
    simp at hu
    rcases hu with rfl | rfl <;> rfl
  intro v4 w4 o4 g4 hw4
  have hVs : W.heap.size ≤ V.heap.size := B3.size
  obtain ⟨F', hl, hF', hu, hbx⟩ := h2.added B3 bn gk ck b rk3 hgk (by rw [Hnb.out]; exact hbn) Hb.out (by rw [wcs_snoc, Huf.out, ← Hnn.out]; exact o4) g4 (fun k hk => by rcases hw4 k hk with h | h; exact .inl h; exact .inr (by omega))
  have hv4 : ∃ av cu, v4 = .slice av (n + 1) cu := by
    rcases o4.2 with ⟨_, h2⟩ | ⟨gv, cu, cur, hv, _⟩
    · omega
    · exact ⟨some ⟨gv, 0, none⟩, cu, hv⟩
  obtain ⟨av4, cu4, rfl⟩ := hv4
  refine hK _ _ ⟨.inl rfl, ?_⟩
  clear hK K o4 g4 hw4 row3 h3 x3 rk3
  simp only [Act.put, List.setIfInBounds_toArray]
  refine wpAnyD_one (i := 11) (by kernel_rfl) rfl (fun K hK => ?_)
  go_simp
  refine hK _ _ ⟨.inl rfl, ?_⟩
  clear hK K
  refine wpAnyD_one (i := 12) (by kernel_rfl) rfl (fun K hK => ?_)
  go_simp
  refine hK _ _ ⟨.inl rfl, ?_⟩
  clear hK K
  have f2 := hbx.frozen 2
  obtain ⟨_, _, k2, _⟩ := box_cells hbx
  refine wpAnyD_one (i := 13) (by kernel_rfl) rfl (fun K hK => ?_)
  go_simp
  refine hK _ _ ⟨.inl rfl, ?_⟩
  clear hK K f2 k2
  refine wpAnyD_done (by kernel_rfl) ?_ _
  generalize w4.setCell ⟨g, 2, none⟩ (.slice av4 (n + 1) cu4) = X at hl hu ⊢
  obtain ⟨_, _, _, k3, _⟩ := box_cells hl.box
  have f3 := hl.box.frozen 3
  dsimp only at k3
  rw [Hn.out] at k3
  have b5 := hl.box.store 3 (.int .i64 ((D.n : Int) + 1))
  have g5 := grown_store X g 3 (.int .i64 ((D.n : Int) + 1))
  have hn1 : (((D.n + 1 : Nat)) : Int) = (D.n : Int) + 1 := by omega
  have hl5 := hl.turned (D' := { D.oper with uf := D.oper.uf ++ [(bn, b)], n := D.n + 1 }) g5 (by rw [← hn1] at b5; rw [← hn1]; exact b5) rfl rfl ⟨hl.ok.len, hl.ok.lo, hl.ok.hi, hl.ok.each, hl.ok.arm, hl.ok.fail⟩
  rw [Huf.out] at hl5
  have u5 : Upd F w _ := (U2.trans hu (fun i hi => .inl hi)).grown g5 (fun k e => by cases e; exact .inl hfg)
  have hWs : w.heap.size ≤ W.heap.size := U2.size
  clear b5 g5 hn1 hl hu hbx
  go_wp2
  go_ret
  exact ⟨rfl, ⟨F', ⟨_, _, _, _, hl5⟩, fun i hi => by rcases hF' i hi with h | h; exact .inl h; exact .inr (by omega)⟩, u5⟩
end Go.Proofs.YtkhejjddmbegaaaGreat.Dk

/-
  Write whatever it is given; Writes, Pending.
-/
namespace Go.Proofs.YtkhejjddmbegaaaGreat.Dk
open Go.RowKit

set_option maxRecDepth 100000 in
theorem write_not {g : Nat} {w : World} {D : DS} {F : Nat → Prop} {gd cd : Nat} {vu : Value} {ps : List (Nat × Nat × Nat)} (h : Lies w g D F gd cd vu ps) (n : Int) (a : Option Addr) (len cb : Nat) (hn : D.has n = false) :
    Calls Tryz.prog 10 #[.pointer (some ⟨g, 0, none⟩), .int .i64 n, .slice a len cb] w fun e w' => e = .returned (.int .i64 70) ∧ w = w' := by
  have c := isMade_at h
  have cH := has_at h n
  rw [hn] at cH
  go_enter Tryz.func10, Tryz.ntmps10
  go_wp2_with fail
  refine c.mono ?_
  rintro e w' ⟨rfl, rfl⟩
  go_wp2_with fail
  refine cH.mono ?_
  rintro e w' ⟨rfl, rfl⟩
  go_wp2
  go_ret
  exact ⟨rfl, rfl⟩
set_option maxRecDepth 100000 in
theorem write_len {g : Nat} {w : World} {D : DS} {F : Nat → Prop} {gd cd : Nat} {vu : Value} {ps : List (Nat × Nat × Nat)} (h : Lies w g D F gd cd vu ps) (n : Int) (a : Option Addr) (len cb : Nat) (hn : D.has n = true) (hl : len ≠ 4096) :
    Calls Tryz.prog 10 #[.pointer (some ⟨g, 0, none⟩), .int .i64 n, .slice a len cb] w fun e w' => e = .returned (.int .i64 2) ∧ w = w' := by
  have c := isMade_at h
  have cH := has_at h n
  rw [hn] at cH
  have hl' : ((len : Int) != 4096) = true := by simp; omega
  go_enter Tryz.func10, Tryz.ntmps10
  go_wp2_with fail
  refine c.mono ?_
  rintro e w' ⟨rfl, rfl⟩
  go_wp2_with fail
  refine cH.mono ?_
  rintro e w' ⟨rfl, rfl⟩
  go_wp2
  go_ret
  exact ⟨rfl, rfl⟩
set_option maxRecDepth 100000 in
theorem write_stop {g : Nat} {w : World} {D : DS} {F : Nat → Prop} {gd cd : Nat} {vu : Value} {ps : List (Nat × Nat × Nat)} (h : Lies w g D F gd cd vu ps) (n : Int) (a : Option Addr) (cb : Nat) (hn : D.has n = true) (hE : D.operE ≠ 0) :
    Calls Tryz.prog 10 #[.pointer (some ⟨g, 0, none⟩), .int .i64 n, .slice a 4096 cb] w fun e w' => e = .returned (.int .i64 (D.operE : Int)) ∧ Lies w' g D.oper F gd cd vu ps ∧ w.grownBy w' (some g) := by
  have c := isMade_at h
  have cH := has_at h n
  rw [hn] at cH
  have cO := operation_at h
  generalize D.operE = E at cO hE ⊢
  have hE' : ((E : Int) != 0) = true := by simp; omega
  go_enter Tryz.func10, Tryz.ntmps10
  go_wp2_with fail
  refine c.mono ?_
  rintro e w' ⟨rfl, rfl⟩
  go_wp2_with fail
  refine cH.mono ?_
  rintro e w' ⟨rfl, rfl⟩
  go_wp2_with fail
  refine cO.mono ?_
  rintro e w1 ⟨rfl, h1, g1⟩
  go_wp2
  go_ret
  exact ⟨rfl, h1, g1⟩

/-- Write -/
theorem write_at {g : Nat} {w : World} {D : DS} {F : Nat → Prop} (hd : IsDisk w g D F) (n : Int) (a : Option Addr) (len cb : Nat) (b : List UInt8) (hb : b.length = len) (hlim : writeF D) (hr : Rd w a b) (hF : ∀ ad, a = some ad → ¬ F ad.block) :
    Calls Tryz.prog 10 #[.pointer (some ⟨g, 0, none⟩), .int .i64 n, .slice a len cb] w fun e w' => e = .returned (.int .i64 (D.writeE n b : Int)) ∧ (∃ F', IsDisk w' g (D.write n b) F' ∧ ∀ i, F' i → F i ∨ w.heap.size ≤ i) ∧ Upd F w w' := by
  obtain ⟨gd, cd, vu, ps, h⟩ := hd
  cases hh : D.has n with
  | false =>
    have e1 : D.writeE n b = 70 := by simp [DS.writeE, hh]
    have e2 : D.write n b = D := by simp [DS.write, hh]
    rw [e1, e2]
    refine (write_not h n a len cb hh).mono ?_
    rintro e w' ⟨rfl, rfl⟩
    exact ⟨rfl, ⟨F, ⟨_, _, _, _, h⟩, fun i hi => .inl hi⟩, Upd.refl _ _⟩
  | true =>
    by_cases hl : len = 4096
    · subst hl
      by_cases hE : D.operE = 0
      · have hn : 0 ≤ n ∧ n < D.nb := by simpa [DS.has] using hh
        obtain ⟨bn, rfl⟩ := Int.eq_ofNat_of_zero_le hn.1
        have e1 : D.writeE bn b = 0 := by simp [DS.writeE, hh, hb, hE]
        have e2 : D.write bn b = { D.oper with uf := D.uf ++ [(bn, b)], n := D.n + 1 } := by simp [DS.write, hh, hb, hE]
        rw [e1, e2]
        obtain ⟨b', o', rfl, _⟩ := hr (by omega)
        exact write_ok h bn cb _ b hb (by omega) hE hlim hr (hF _ rfl)
      · have e1 : D.writeE n b = D.operE := by simp [DS.writeE, hh, hb]
        have e2 : D.write n b = D.oper := by simp [DS.write, hh, hb, hE]
        rw [e1, e2]
        refine (write_stop h n a cb hh hE).mono ?_
        rintro e w' ⟨rfl, h1, g1⟩
        exact ⟨rfl, ⟨F, ⟨_, _, _, _, h1⟩, fun i hi => .inl hi⟩, (Upd.refl F w).grown g1 (fun k e => by cases e; exact .inl h.fg)⟩
    · have e1 : D.writeE n b = 2 := by simp [DS.writeE, hh, hb, hl]
      have e2 : D.write n b = D := by simp [DS.write, hh, hb, hl]
      rw [e1, e2]
      refine (write_len h n a len cb hh hl).mono ?_
      rintro e w' ⟨rfl, rfl⟩
      exact ⟨rfl, ⟨F, ⟨_, _, _, _, h⟩, fun i hi => .inl hi⟩, Upd.refl _ _⟩

theorem size_of {g : Nat} {w : World} {D : DS} {F : Nat → Prop} (hd : IsDisk w g D F) :
    Calls Tryz.prog 45 #[.pointer (some ⟨g, 0, none⟩)] w fun e w' => e = .returned (.int .i64 (D.nb : Int)) ∧ w = w' := by
  obtain ⟨gd, cd, vu, ps, h⟩ := hd
  exact size_at h

def ic (k : Nat) : Value := .int .i64 (k : Int)
theorem info3 : (Tryz.prog.info? 3).map (fun i => (i.zero, i.size, i.bytes)) = some (some (.int .i64 0), 1, 8) := by kernel_rfl

/-- the blocks of the first k writes -/
def pend (uf : List (Nat × List UInt8)) (k : Nat) : List Value := ((uf.take k).map (·.1)).map ic
theorem pend_succ (uf : List (Nat × List UInt8)) (k : Nat) (h : k < uf.length) : pend uf (k + 1) = pend uf k ++ [.int .i64 (uf[k].1 : Int)] := by
  unfold pend
  rw [List.take_succ_eq_append_getElem h, List.map_append, List.map_append]
  rfl
theorem pend_all (uf : List (Nat × List UInt8)) : pend uf uf.length = (uf.map (·.1)).map ic := by unfold pend; rw [List.take_length]

end Go.Proofs.YtkhejjddmbegaaaGreat.Dk

/-
  Copy.
-/
namespace Go.Proofs.YtkhejjddmbegaaaGreat.Dk
open Go.RowKit

theorem Lies.shape {w : World} {g : Nat} {D : DS} {F : Nat → Prop} {gd cd : Nat} {vu : Value} {ps : List (Nat × Nat × Nat)} (h : Lies w g D F gd cd vu ps) : ∃ av cu, vu = .slice av D.uf.length cu := by
  have hrow := h.row
  rcases hrow.2 with ⟨h1, h2⟩ | ⟨gv, cu, cur, hv, _⟩
  · exact ⟨none, 0, by rw [h1, h2]⟩
  · exact ⟨some ⟨gv, 0, none⟩, cu, hv⟩

end Go.Proofs.YtkhejjddmbegaaaGreat.Dk

/-
  standing, Read.
-/
namespace Go.Proofs.YtkhejjddmbegaaaGreat.Dk
open Go.RowKit Go.Shelf
attribute [local go_sem] Oper.semAt_some

theorem Lies.wrs {w : World} {g : Nat} {D : DS} {F : Nat → Prop} {gd cd : Nat} {vu : Value} {ps : List (Nat × Nat × Nat)} (h : Lies w g D F gd cd vu ps) (n₀ : Nat) (hn : w.heap.size ≤ n₀) : Wrs n₀ w vu ps := by
  by_cases h0 : 0 < D.uf.length
  · obtain ⟨gv, cu, cur, rfl, _, _, hbv, hc⟩ := h.writes h0
    refine .inr ⟨gv, cu, by rw [h.len], Nat.lt_of_lt_of_le hbv.lt hn, fun j hj => ?_⟩
    have hj' : j < D.uf.length := by rw [← h.len]; exact hj
    obtain ⟨a, b⟩ := hc j hj' hj
    obtain ⟨e, _⟩ := h.each j hj hj'
    exact ⟨by rw [e]; exact a, b⟩
  · obtain ⟨av, cu, rfl⟩ := h.shape
    have e : D.uf.length = 0 := by omega
    exact .inl ⟨av, cu, by rw [e], List.eq_nil_of_length_eq_zero (by rw [h.len, e])⟩

/-- the last write of block nn, met from the end -/
theorem lastOf_met {D : DS} {ps : List (Nat × Nat × Nat)} (nn : Nat) (hl : ps.length = D.uf.length) (he : ∀ k (h : k < ps.length) (h' : k < D.uf.length), ps[k].1 = D.uf[k].1) (k : Nat) (hk : k ≤ ps.length) (hno : ∀ p ∈ downs ps k, p.2.1 ≠ nn) : lastOf D.uf nn D.uf.length = lastOf D.uf nn (D.uf.length - k) := by
  induction k with
  | zero => rfl
  | succ k ih =>
    have h1 := ih (by omega) (fun p hp => hno p (by rw [downs_succ]; exact List.mem_append_left _ hp))
    rw [h1]
    obtain ⟨m, hm⟩ : ∃ m, D.uf.length - k = m + 1 := ⟨D.uf.length - k - 1, by omega⟩
    have hm' : D.uf.length - (k + 1) = m := by omega
    have hlt : m < D.uf.length := by omega
    have hltp : m < ps.length := by omega
    rw [hm, hm', lastOf_succ D.uf nn m hlt]
    have h2 := hno (comes ps k) (by rw [downs_succ]; simp)
    have e1 : comes ps k = (m, ps[m]) := by
      unfold comes
      have : ps.length - 1 - k = m := by omega
      rw [this, List.getElem?_eq_getElem hltp]
      rfl
    rw [e1] at h2
    rw [if_neg (by rw [← he m hltp hlt]; exact h2)]

set_option maxRecDepth 100000 in
set_option maxHeartbeats 2000000 in
theorem standing_at {g : Nat} {w : World} {D : DS} {F : Nat → Prop} {gd cd : Nat} {vu : Value} {ps : List (Nat × Nat × Nat)} (h : Lies w g D F gd cd vu ps) (nn : Nat) (hn : nn < D.nb) (hlim : D.uf.length ≤ 1000000) :
    Calls Tryz.prog 35 #[.pointer (some ⟨g, 0, none⟩), .int .i64 (nn : Int)] w fun e w' => (∃ b o cap, e = .returned (.slice (some ⟨b, o, none⟩) 4096 cap) ∧ Rd w (some ⟨b, o, none⟩) (D.stand nn)) ∧ Below w.heap.size w w' := by
  refine (callsIn_wide (n := 3)).1 ?_
  obtain ⟨_, c1, c2, _⟩ := box_cells h.box
  have hglt := h.box.lt
  obtain ⟨av, cu, rfl⟩ := h.shape
  have B0 := ((Below.refl w.heap.size w).alloc (Nat.le_refl _) (.cells #[.int .i64 (nn : Int)] 3)).alloc (by simp) (.cells #[.slice none 0 0] 41)
  have k2 := (B0.cell (p := ⟨g, 2, none⟩) hglt).trans c2
  have hstand : Hid (D.stand nn = (lastOf D.uf nn D.uf.length).getD (blk D.dur nn)) := rfl
  have hmet : Hid _ := @lastOf_met D ps nn h.len (fun k h1 h2 => (h.each k h1 h2).1)
  have hdur : Hid (Rd w (some ⟨gd, 0 + nn * 4096, none⟩) (blk D.dur nn)) := h.dur.rd.part (nn * 4096) 4096
  have hcd : D.nb * 4096 ≤ cd ∧ cd ≤ 9223372036854775807 := by
    obtain ⟨_, _, q1, q2, _⟩ := h.dur
    rw [h.ok.len] at q1
    unfold maxLen at q2
    omega
  have hhi := h.ok.hi
  generalize D.stand nn = ST at hstand ⊢
  refine callsIn_of_wp_marks Tryz.func35 rfl trivial ?_ rfl
  simp only [Tryz.ntmps35, List.size_toArray, List.length_cons, List.length_nil, Nat.reduceAdd, Nat.reduceSub, Array.replicate_succ, Array.replicate_zero, List.push_toArray, List.append_toArray, List.nil_append, List.cons_append]
  gi_wp2_with fail
  refine ⟨trivial, ?_⟩
  refine (back_in 2 _ _ _ _).mono ?_
  rintro e w' ⟨rfl, rfl⟩
  gi_wp2_with fail
  have bN := (Box.new w #[.int .i64 (nn : Int)] 3)
  have bR := Box.new (w.alloc (.cells #[.int .i64 (nn : Int)] 3)) #[.slice none 0 0] 41
  have bS := Box.new ((w.alloc (.cells #[.int .i64 (nn : Int)] 3)).alloc (.cells #[.slice none 0 0] 41)) #[.slice av D.uf.length cu] 82
  have s1 : (w.alloc (.cells #[.int .i64 (nn : Int)] 3)).heap.size = w.heap.size + 1 := by simp
  have s2 : ((w.alloc (.cells #[.int .i64 (nn : Int)] 3)).alloc (.cells #[.slice none 0 0] 41)).heap.size = w.heap.size + 2 := by simp
  rw [s1] at bR
  rw [s2] at bS
  have B1 := B0.alloc B0.size (.cells #[.slice av D.uf.length cu] 82)
  have bN2 := (bN.alloc (.cells #[.slice none 0 0] 41)).alloc (.cells #[.slice av D.uf.length cu] 82)
  have bR2 := bR.alloc (.cells #[.slice av D.uf.length cu] 82)
  obtain ⟨W0, hW0⟩ : ∃ W, W = ((w.alloc (.cells #[.int .i64 (nn : Int)] 3)).alloc (.cells #[.slice none 0 0] 41)).alloc (.cells #[.slice av D.uf.length cu] 82) := ⟨_, rfl⟩
  have s3 : W0.heap.size = w.heap.size + 3 := by rw [hW0]; simp
  have hs3 : w.heap.size + 3 ≤ W0.heap.size := by omega
  rw [← hW0] at bN2 bR2 bS B1 ⊢
  clear bN bR s1 s2 B0 hW0 k2
  have hwr := (h.wrs (w.heap.size + 3) (by omega))
  have hwr0 : Wrs (w.heap.size + 3) W0 (.slice av D.uf.length cu) ps := by
    rcases h.wrs w.heap.size (Nat.le_refl _) with q | ⟨b, cap, hv, hlt, hc⟩
    · exact .inl q
    · exact .inr ⟨b, cap, hv, by omega, fun j hj => by
        obtain ⟨q0, q1⟩ := hc j hj
        exact ⟨(B1.cell (p := ⟨b, 0 + j * 2, none⟩) hlt).trans q0, (B1.cell (p := ⟨b, 0 + j * 2 + 1, none⟩) hlt).trans q1⟩⟩
  clear hwr
  refine wpIn_rangeFunc_ownH (α := Wr) rfl (by omega) (gf := 86) (lb := #[.pointer (some ⟨w.heap.size + 2, 0, none⟩)]) rfl trivial (enters_of Tryz.func86 (by kernel_rfl) rfl)
    (back_stops (3 - 1) (by omega) (w.heap.size + 2) (w.heap.size + 3) _ ps (by rw [h.len]; exact hlim) W0 (by omega) hs3 (bS.cell 0) hwr0) belowK_t (belowK_b (by omega)) (Below.refl _ _) (fun _ => rfl)
    (fun pre W => ((∀ p ∈ pre, p.2.1 ≠ nn) ∧ W.cell? ⟨w.heap.size, 0, none⟩ = some (.int .i64 (nn : Int)) ∧ W.cell? ⟨w.heap.size + 1, 0, none⟩ = some (.slice none 0 0) ∧ W.frozen? ⟨w.heap.size + 1, 0, none⟩ = false ∧ w.heap.size + 3 ≤ W.heap.size) ∧ Below w.heap.size w W)
    (fun c pre W => (c = .ret ∧ ∃ ini last, pre = ini ++ [last] ∧ (∀ p ∈ ini, p.2.1 ≠ nn) ∧ last.2.1 = nn ∧ W.cell? ⟨w.heap.size + 1, 0, none⟩ = some (.slice (some ⟨last.2.2.1, 0, none⟩) 4096 last.2.2.2)) ∧ Below w.heap.size w W)
    (OwnFrom.and (Own.from (fun s A B row hs hg hr => ⟨hs.1, cell_kept hs.2.1 hg hr, cell_kept hs.2.2.1 hg hr, (frozen_kept hs.2.2.1 hg hr).trans hs.2.2.2.1, Nat.le_trans hs.2.2.2.2 hg.size⟩) _) (ownFrom_below (Nat.le_refl _) (by omega)))
    (fun c => OwnFrom.and (Own.from (fun s A B row hs hg hr => by obtain ⟨hc, ini, last, e1, e2, e3, e4⟩ := hs; exact ⟨hc, ini, last, e1, e2, e3, cell_kept e4 hg hr⟩) _) (ownFrom_below (Nat.le_refl _) (by omega)))
    ⟨⟨by simp, bN2.cell 0, bR2.cell 0, bR2.frozen 0, hs3⟩, B1⟩
    (fun x a' W => ∃ Bx, W.cell? ⟨Bx, 0, none⟩ = some (.int .i64 (x.2.1 : Int)) ∧ W.cell? ⟨Bx, 1, none⟩ = some (.slice (some ⟨x.2.2.1, 0, none⟩) 4096 x.2.2.2) ∧ a' = { tmps := #[.pointer (some ⟨g, 0, none⟩), .int .i64 (nn : Int), undef, .pointer (some ⟨w.heap.size, 0, none⟩), .pointer (some ⟨w.heap.size + 1, 0, none⟩), undef, .pointer (some ⟨Bx, 0, none⟩), .pointer (some ⟨g, 0, none⟩), .pointer (some ⟨g, 0, none⟩), .pointer (some ⟨g, 2, none⟩), .slice av D.uf.length cu, .func (.func 86) #[] #[.pointer (some ⟨w.heap.size + 2, 0, none⟩)], .int .i64 (x.1 : Int), (.agg #[.int .i64 (x.2.1 : Int), .slice (some ⟨x.2.2.1, 0, none⟩) 4096 x.2.2.2]), undef, undef, undef, undef, undef, undef, undef, undef, undef, undef, undef, undef], defers := [] })
    (fun x a' => Own.from (fun s A B row hs hg hr => by obtain ⟨Bx, e1, e2, e3⟩ := hs; exact ⟨Bx, cell_kept e1 hg hr, cell_kept e2 hg hr, e3⟩) _) ?assign ?body ?done ?stop
  case assign =>
    rintro l pre x W K ⟨⟨hp, hcn, hcr, hfr, hsz⟩, hB⟩ hK
    dsimp only [encW]
    have bAl := (Below.refl W.heap.size W).alloc (Nat.le_refl _) (.cells #[.int .i64 (x.2.1 : Int), .slice (some ⟨x.2.2.1, 0, none⟩) 4096 x.2.2.2] 88)
    gi_wp2
    refine hK _ _ ((KeepsOthers.alloc _ _).from _) ((Below.refl _ W).alloc hsz _) ⟨⟨hp, (bAl.cell (p := ⟨w.heap.size, 0, none⟩) (by show w.heap.size < _; omega)).trans hcn, (bAl.cell (p := ⟨w.heap.size + 1, 0, none⟩) (by show w.heap.size + 1 < _; omega)).trans hcr, (bAl.frozen (p := ⟨w.heap.size + 1, 0, none⟩) (by show w.heap.size + 1 < _; omega)).trans hfr, by simp; omega⟩, hB.alloc hB.size _⟩ ⟨W.heap.size, ?_, ?_, rfl⟩
    · exact (Box.new W #[.int .i64 (x.2.1 : Int), .slice (some ⟨x.2.2.1, 0, none⟩) 4096 x.2.2.2] 88).cell 0
    · exact (Box.new W #[.int .i64 (x.2.1 : Int), .slice (some ⟨x.2.2.1, 0, none⟩) 4096 x.2.2.2] 88).cell 1
  case body =>
    rintro l pre x a' W hl ⟨r, hr⟩ ⟨⟨hp, hcn, hcr, hfr, hsz⟩, hB⟩ ⟨Bx, e1, e2, rfl⟩ hlt
    by_cases hx : x.2.1 = nn
    · have hx' : ((x.2.1 : Int) == (nn : Int)) = true := by rw [hx]; simp
      gi_wp2
      exact ⟨(KeepsOthers.setCell _ _ _).from _, ⟨rfl, pre, x, rfl, hp, hx, World.cell?_setCell_same' _ _ _ (by rw [hcr]; rfl)⟩, hB.setCell (p := ⟨w.heap.size + 1, 0, none⟩) (by simp) _⟩
    · have hx' : ((x.2.1 : Int) == (nn : Int)) = false := by simp; omega
      gi_wp2
      exact ⟨KeepsFrom.refl _ _, Below.refl _ _, ⟨fun p hp' => (List.mem_append.1 hp').elim (hp p) (fun e => by simp at e; subst e; exact hx), hcn, hcr, hfr, hsz⟩, hB⟩
  case done =>
    rintro D' ys W hD rfl ⟨⟨hne, hcn, hcr, hfr, hsz⟩, hB⟩ hK
    have hST : Hid (ST = blk D.dur nn) := by
      have h1 := hmet.out ps.length (Nat.le_refl _) hne
      rw [h.len, Nat.sub_self] at h1
      show _ = _
      rw [hstand.out, h1]
      rfl
    have d1 := (hB.cell (p := ⟨g, 1, none⟩) hglt).trans c1
    gi_wp2_with fail
    refine wpIn_wide.2 ?_
    refine wp_region_any (by kernel_rfl) ?_
    change wpAny _ _ _ _ _ _ _ (World.drew _)
    refine wpAny_of_class (C := fun _ _ => True) _ _ _ _ ?_
    have d1d : W.drew.cell? ⟨g, 1, none⟩ = some (.slice (some ⟨gd, 0, none⟩) (D.nb * 4096) cd) := d1
    have hcnd : W.drew.cell? ⟨w.heap.size, 0, none⟩ = some (.int .i64 (nn : Int)) := hcn
    have hcrd : W.drew.cell? ⟨w.heap.size + 1, 0, none⟩ = some (.slice none 0 0) := hcr
    have hfrd : W.drew.frozen? ⟨w.heap.size + 1, 0, none⟩ = false := hfr
    refine wpAnyC_two (i := 0) (j := 4) (by kernel_rfl) rfl rfl (fun K hK2 => ?_) (fun K hK2 => ?_)
    · skip
      go_simp
      refine hK2 _ _ ⟨trivial, ?_⟩
      clear hK2 K
      refine wpAnyC_two (i := 1) (j := 4) (by kernel_rfl) rfl rfl (fun K hK2 => ?_) (fun K hK2 => ?_)
      · skip
        go_simp
        refine hK2 _ _ ⟨trivial, ?_⟩
        clear hK2 K
        refine wpAnyC_two (i := 2) (j := 4) (by kernel_rfl) rfl rfl (fun K hK2 => ?_) (fun K hK2 => ?_)
        · skip
          go_simp
          refine hK2 _ _ ⟨trivial, ?_⟩
          clear hK2 K
          refine wpAnyC_two (i := 3) (j := 4) (by kernel_rfl) rfl rfl (fun K hK2 => ?_) (fun K hK2 => ?_)
          · skip
            go_simp
            refine hK2 _ _ ⟨trivial, ?_⟩
            clear hK2 K
            refine wpAnyC_one (i := 4) (by kernel_rfl) rfl (fun K hK2 => ?_)
            go_simp
            refine hK2 _ _ ⟨trivial, ?_⟩
            clear hK2 K
            refine wpAnyC_one (i := 5) (by kernel_rfl) rfl (fun K hK2 => ?_)
            go_simp
            refine (part_i gd 0 (D.nb * 4096) cd nn 4096 _ _ W.drew rfl rfl (by omega) (by omega) (by omega)).mono ?_
            rintro e w' ⟨rfl, rfl⟩
            refine hK2 _ _ ⟨trivial, ?_⟩
            clear hK2 K
            refine wpAnyC_one (i := 6) (by kernel_rfl) rfl (fun K hK2 => ?_)
            go_simp
            refine hK2 _ _ ⟨trivial, ?_⟩
            clear hK2 K
            refine wpAnyC_done (by kernel_rfl) ?_ _
            obtain ⟨V, hV⟩ : ∃ V, V = (W.setCell ⟨w.heap.size + 1, 0, none⟩ (.slice (some ⟨gd, nn * 4096, none⟩) 4096 4096)).drew := ⟨_, rfl⟩
            have hK' : V.heap[D']? = some (.deferred (some [])) := by rw [hV]; exact (KeepsOthers.setCell W ⟨w.heap.size + 1, 0, none⟩ (.slice (some ⟨gd, nn * 4096, none⟩) 4096 4096)).same D' _ hK rfl
            have hcV : V.cell? ⟨w.heap.size + 1, 0, none⟩ = some (.slice (some ⟨gd, nn * 4096, none⟩) 4096 4096) := by rw [hV]; exact World.cell?_setCell_same' W _ _ (by rw [hcr]; rfl)
            have hBV : Below w.heap.size w V := by rw [hV]; exact (hB.setCell (p := ⟨w.heap.size + 1, 0, none⟩) (by simp) _).drew
            rw [← hV]
            clear hV
            have hc5 := cell_kept hcV (grownBy_putObj' _ D' (.deferred none)) (fun r e => by cases e; exact ⟨_, hK', rfl⟩)
            gi_wp2
            refine ⟨by simp, .inl ⟨_, _, rfl, run_takeDeferred hK', ?_⟩⟩
            refine ⟨.slice (some ⟨gd, nn * 4096, none⟩) 4096 4096, ?_, ⟨gd, nn * 4096, 4096, rfl, by rw [hST.out]; have := hdur.out; rw [Nat.zero_add] at this; exact this⟩, hBV.trans (belowK_b (w := w) (Nat.le_refl _) _ D' _ _ (by omega) hK' rfl rfl)⟩
            simp [results, Tryz.f35, go_sem, hc5]
          · skip
            go_simp
            refine hK2 _ _ ⟨trivial, ?_⟩
            clear hK2 K
            refine wpAnyC_one (i := 3) (by kernel_rfl) rfl (fun K hK2 => ?_)
            go_simp
            refine hK2 _ _ ⟨trivial, ?_⟩
            clear hK2 K
            refine wpAnyC_one (i := 5) (by kernel_rfl) rfl (fun K hK2 => ?_)
            go_simp
            refine (part_i gd 0 (D.nb * 4096) cd nn 4096 _ _ W.drew rfl rfl (by omega) (by omega) (by omega)).mono ?_
            rintro e w' ⟨rfl, rfl⟩
            refine hK2 _ _ ⟨trivial, ?_⟩
            clear hK2 K
            refine wpAnyC_one (i := 6) (by kernel_rfl) rfl (fun K hK2 => ?_)
            go_simp
            refine hK2 _ _ ⟨trivial, ?_⟩
            clear hK2 K
            refine wpAnyC_done (by kernel_rfl) ?_ _
            obtain ⟨V, hV⟩ : ∃ V, V = (W.setCell ⟨w.heap.size + 1, 0, none⟩ (.slice (some ⟨gd, nn * 4096, none⟩) 4096 4096)).drew := ⟨_, rfl⟩
            have hK' : V.heap[D']? = some (.deferred (some [])) := by rw [hV]; exact (KeepsOthers.setCell W ⟨w.heap.size + 1, 0, none⟩ (.slice (some ⟨gd, nn * 4096, none⟩) 4096 4096)).same D' _ hK rfl
            have hcV : V.cell? ⟨w.heap.size + 1, 0, none⟩ = some (.slice (some ⟨gd, nn * 4096, none⟩) 4096 4096) := by rw [hV]; exact World.cell?_setCell_same' W _ _ (by rw [hcr]; rfl)
            have hBV : Below w.heap.size w V := by rw [hV]; exact (hB.setCell (p := ⟨w.heap.size + 1, 0, none⟩) (by simp) _).drew
            rw [← hV]
            clear hV
            have hc5 := cell_kept hcV (grownBy_putObj' _ D' (.deferred none)) (fun r e => by cases e; exact ⟨_, hK', rfl⟩)
            gi_wp2
            refine ⟨by simp, .inl ⟨_, _, rfl, run_takeDeferred hK', ?_⟩⟩
            refine ⟨.slice (some ⟨gd, nn * 4096, none⟩) 4096 4096, ?_, ⟨gd, nn * 4096, 4096, rfl, by rw [hST.out]; have := hdur.out; rw [Nat.zero_add] at this; exact this⟩, hBV.trans (belowK_b (w := w) (Nat.le_refl _) _ D' _ _ (by omega) hK' rfl rfl)⟩
            simp [results, Tryz.f35, go_sem, hc5]
        · skip
          go_simp
          refine hK2 _ _ ⟨trivial, ?_⟩
          clear hK2 K
          refine wpAnyC_one (i := 2) (by kernel_rfl) rfl (fun K hK2 => ?_)
          go_simp
          refine hK2 _ _ ⟨trivial, ?_⟩
          clear hK2 K
          refine wpAnyC_one (i := 3) (by kernel_rfl) rfl (fun K hK2 => ?_)
          go_simp
          refine hK2 _ _ ⟨trivial, ?_⟩
          clear hK2 K
          refine wpAnyC_one (i := 5) (by kernel_rfl) rfl (fun K hK2 => ?_)
          go_simp
          refine (part_i gd 0 (D.nb * 4096) cd nn 4096 _ _ W.drew rfl rfl (by omega) (by omega) (by omega)).mono ?_
          rintro e w' ⟨rfl, rfl⟩
          refine hK2 _ _ ⟨trivial, ?_⟩
          clear hK2 K
          refine wpAnyC_one (i := 6) (by kernel_rfl) rfl (fun K hK2 => ?_)
          go_simp
          refine hK2 _ _ ⟨trivial, ?_⟩
          clear hK2 K
          refine wpAnyC_done (by kernel_rfl) ?_ _
          obtain ⟨V, hV⟩ : ∃ V, V = (W.setCell ⟨w.heap.size + 1, 0, none⟩ (.slice (some ⟨gd, nn * 4096, none⟩) 4096 4096)).drew := ⟨_, rfl⟩
          have hK' : V.heap[D']? = some (.deferred (some [])) := by rw [hV]; exact (KeepsOthers.setCell W ⟨w.heap.size + 1, 0, none⟩ (.slice (some ⟨gd, nn * 4096, none⟩) 4096 4096)).same D' _ hK rfl
          have hcV : V.cell? ⟨w.heap.size + 1, 0, none⟩ = some (.slice (some ⟨gd, nn * 4096, none⟩) 4096 4096) := by rw [hV]; exact World.cell?_setCell_same' W _ _ (by rw [hcr]; rfl)
          have hBV : Below w.heap.size w V := by rw [hV]; exact (hB.setCell (p := ⟨w.heap.size + 1, 0, none⟩) (by simp) _).drew
          rw [← hV]
          clear hV
          have hc5 := cell_kept hcV (grownBy_putObj' _ D' (.deferred none)) (fun r e => by cases e; exact ⟨_, hK', rfl⟩)
          gi_wp2
          refine ⟨by simp, .inl ⟨_, _, rfl, run_takeDeferred hK', ?_⟩⟩
          refine ⟨.slice (some ⟨gd, nn * 4096, none⟩) 4096 4096, ?_, ⟨gd, nn * 4096, 4096, rfl, by rw [hST.out]; have := hdur.out; rw [Nat.zero_add] at this; exact this⟩, hBV.trans (belowK_b (w := w) (Nat.le_refl _) _ D' _ _ (by omega) hK' rfl rfl)⟩
          simp [results, Tryz.f35, go_sem, hc5]
      · skip
        go_simp
        refine hK2 _ _ ⟨trivial, ?_⟩
        clear hK2 K
        refine wpAnyC_one (i := 1) (by kernel_rfl) rfl (fun K hK2 => ?_)
        go_simp
        refine hK2 _ _ ⟨trivial, ?_⟩
        clear hK2 K
        refine wpAnyC_one (i := 2) (by kernel_rfl) rfl (fun K hK2 => ?_)
        go_simp
        refine hK2 _ _ ⟨trivial, ?_⟩
        clear hK2 K
        refine wpAnyC_one (i := 3) (by kernel_rfl) rfl (fun K hK2 => ?_)
        go_simp
        refine hK2 _ _ ⟨trivial, ?_⟩
        clear hK2 K
        refine wpAnyC_one (i := 5) (by kernel_rfl) rfl (fun K hK2 => ?_)
        go_simp
        refine (part_i gd 0 (D.nb * 4096) cd nn 4096 _ _ W.drew rfl rfl (by omega) (by omega) (by omega)).mono ?_
        rintro e w' ⟨rfl, rfl⟩
        refine hK2 _ _ ⟨trivial, ?_⟩
        clear hK2 K
        refine wpAnyC_one (i := 6) (by kernel_rfl) rfl (fun K hK2 => ?_)
        go_simp
        refine hK2 _ _ ⟨trivial, ?_⟩
        clear hK2 K
        refine wpAnyC_done (by kernel_rfl) ?_ _
        obtain ⟨V, hV⟩ : ∃ V, V = (W.setCell ⟨w.heap.size + 1, 0, none⟩ (.slice (some ⟨gd, nn * 4096, none⟩) 4096 4096)).drew := ⟨_, rfl⟩
        have hK' : V.heap[D']? = some (.deferred (some [])) := by rw [hV]; exact (KeepsOthers.setCell W ⟨w.heap.size + 1, 0, none⟩ (.slice (some ⟨gd, nn * 4096, none⟩) 4096 4096)).same D' _ hK rfl
        have hcV : V.cell? ⟨w.heap.size + 1, 0, none⟩ = some (.slice (some ⟨gd, nn * 4096, none⟩) 4096 4096) := by rw [hV]; exact World.cell?_setCell_same' W _ _ (by rw [hcr]; rfl)
        have hBV : Below w.heap.size w V := by rw [hV]; exact (hB.setCell (p := ⟨w.heap.size + 1, 0, none⟩) (by simp) _).drew
        rw [← hV]
        clear hV
        have hc5 := cell_kept hcV (grownBy_putObj' _ D' (.deferred none)) (fun r e => by cases e; exact ⟨_, hK', rfl⟩)
        gi_wp2
        refine ⟨by simp, .inl ⟨_, _, rfl, run_takeDeferred hK', ?_⟩⟩
        refine ⟨.slice (some ⟨gd, nn * 4096, none⟩) 4096 4096, ?_, ⟨gd, nn * 4096, 4096, rfl, by rw [hST.out]; have := hdur.out; rw [Nat.zero_add] at this; exact this⟩, hBV.trans (belowK_b (w := w) (Nat.le_refl _) _ D' _ _ (by omega) hK' rfl rfl)⟩
        simp [results, Tryz.f35, go_sem, hc5]
    · skip
      go_simp
      refine hK2 _ _ ⟨trivial, ?_⟩
      clear hK2 K
      refine wpAnyC_one (i := 0) (by kernel_rfl) rfl (fun K hK2 => ?_)
      go_simp
      refine hK2 _ _ ⟨trivial, ?_⟩
      clear hK2 K
      refine wpAnyC_one (i := 1) (by kernel_rfl) rfl (fun K hK2 => ?_)
      go_simp
      refine hK2 _ _ ⟨trivial, ?_⟩
      clear hK2 K
      refine wpAnyC_one (i := 2) (by kernel_rfl) rfl (fun K hK2 => ?_)
      go_simp
      refine hK2 _ _ ⟨trivial, ?_⟩
      clear hK2 K
      refine wpAnyC_one (i := 3) (by kernel_rfl) rfl (fun K hK2 => ?_)
      go_simp
      refine hK2 _ _ ⟨trivial, ?_⟩
      clear hK2 K
      refine wpAnyC_one (i := 5) (by kernel_rfl) rfl (fun K hK2 => ?_)
      go_simp
      refine (part_i gd 0 (D.nb * 4096) cd nn 4096 _ _ W.drew rfl rfl (by omega) (by omega) (by omega)).mono ?_
      rintro e w' ⟨rfl, rfl⟩
      refine hK2 _ _ ⟨trivial, ?_⟩
      clear hK2 K
      refine wpAnyC_one (i := 6) (by kernel_rfl) rfl (fun K hK2 => ?_)
      go_simp
      refine hK2 _ _ ⟨trivial, ?_⟩
      clear hK2 K
      refine wpAnyC_done (by kernel_rfl) ?_ _
      obtain ⟨V, hV⟩ : ∃ V, V = (W.setCell ⟨w.heap.size + 1, 0, none⟩ (.slice (some ⟨gd, nn * 4096, none⟩) 4096 4096)).drew := ⟨_, rfl⟩
      have hK' : V.heap[D']? = some (.deferred (some [])) := by rw [hV]; exact (KeepsOthers.setCell W ⟨w.heap.size + 1, 0, none⟩ (.slice (some ⟨gd, nn * 4096, none⟩) 4096 4096)).same D' _ hK rfl
      have hcV : V.cell? ⟨w.heap.size + 1, 0, none⟩ = some (.slice (some ⟨gd, nn * 4096, none⟩) 4096 4096) := by rw [hV]; exact World.cell?_setCell_same' W _ _ (by rw [hcr]; rfl)
      have hBV : Below w.heap.size w V := by rw [hV]; exact (hB.setCell (p := ⟨w.heap.size + 1, 0, none⟩) (by simp) _).drew
      rw [← hV]
      clear hV
      have hc5 := cell_kept hcV (grownBy_putObj' _ D' (.deferred none)) (fun r e => by cases e; exact ⟨_, hK', rfl⟩)
      gi_wp2
      refine ⟨by simp, .inl ⟨_, _, rfl, run_takeDeferred hK', ?_⟩⟩
      refine ⟨.slice (some ⟨gd, nn * 4096, none⟩) 4096 4096, ?_, ⟨gd, nn * 4096, 4096, rfl, by rw [hST.out]; have := hdur.out; rw [Nat.zero_add] at this; exact this⟩, hBV.trans (belowK_b (w := w) (Nat.le_refl _) _ D' _ _ (by omega) hK' rfl rfl)⟩
      simp [results, Tryz.f35, go_sem, hc5]
  case stop =>
    rintro D' c pre W hD ⟨k, hk, rfl⟩ ⟨⟨rfl, ini, last, e1, e2, e3, hcr⟩, hB⟩ hK
    gi_wp2
    refine ⟨by simp, .inl ⟨_, _, rfl, run_takeDeferred hK, ?_⟩⟩
    have hc5 := cell_kept hcr (grownBy_putObj' _ D' (.deferred none)) (fun r e => by cases e; exact ⟨_, hK, rfl⟩)
    obtain ⟨k', rfl⟩ : ∃ k', k = k' + 1 := by
      cases k with
      | zero => simp [downs] at e1
      | succ k' => exact ⟨k', rfl⟩
    rw [downs_succ] at e1
    obtain ⟨rfl, e5⟩ := List.append_inj' e1 rfl
    obtain rfl : comes ps k' = last := by simpa using e5
    obtain ⟨m, hm⟩ : ∃ m, m = ps.length - 1 - k' := ⟨_, rfl⟩
    have hmp : m < ps.length := by omega
    have hmu : m < D.uf.length := by rw [← h.len]; exact hmp
    have hcm : comes ps k' = (m, ps[m]) := by
      unfold comes
      rw [← hm, List.getElem?_eq_getElem hmp]
      rfl
    obtain ⟨q1, q2, _⟩ := h.each m hmp hmu
    have hST : ST = D.uf[m].2 := by
      have h1 := hmet.out k' (by omega) e2
      have h2 : D.uf.length - k' = m + 1 := by rw [← h.len]; omega
      rw [h2, lastOf_succ D.uf nn m hmu, if_pos (by rw [← q1]; rw [hcm] at e3; exact e3)] at h1
      rw [hstand.out, h1]
      rfl
    rw [hcm] at hc5
    refine ⟨.slice (some ⟨ps[m].2.1, 0, none⟩) 4096 ps[m].2.2, ?_, ⟨ps[m].2.1, 0, ps[m].2.2, rfl, by rw [hST]; exact q2.rd⟩, hB.trans (belowK_b (w := w) (Nat.le_refl _) W D' _ _ (by omega) hK rfl rfl)⟩
    simp [results, Tryz.f35, go_sem, hc5]

theorem stand_length {D : DS} (h : D.Ok) (nn : Nat) (hn : nn < D.nb) : (D.stand nn).length = 4096 := by
  have key : ∀ k, k ≤ D.uf.length → ∀ x, lastOf D.uf nn k = some x → x.length = 4096 := by
    intro k
    induction k with
    | zero => intro _ x hx; simp [lastOf] at hx
    | succ k ih =>
      intro hk x hx
      rw [lastOf_succ D.uf nn k (by omega)] at hx
      split at hx
      · have := (h.at k (by omega)).2
        simp at hx
        rw [← hx]; exact this
      · exact ih (by omega) x hx
  unfold DS.stand
  cases e : lastOf D.uf nn D.uf.length with
  | none => exact blk_length _ _ (h.room hn)
  | some x => exact key _ (Nat.le_refl _) x e

/-- Read -/
theorem read_at {g : Nat} {w : World} {D : DS} {F : Nat → Prop} (hd : IsDisk w g D F) (nn : Nat) (hn : nn < D.nb) (hg : D.gone = false) (hlim : D.uf.length ≤ 1000000) :
    Calls Tryz.prog 9 #[.pointer (some ⟨g, 0, none⟩), .int .i64 (nn : Int)] w fun e w' => ∃ gr cr, e = .returned (.tuple #[.slice (some ⟨gr, 0, none⟩) 4096 cr, .int .i64 0]) ∧ w.heap.size ≤ gr ∧ RowB w' gr cr (D.stand nn) ∧ Below w.heap.size w w' := by
  obtain ⟨gd, cd, vu, ps, h⟩ := hd
  have c := isMade_at h
  have cH := has_at h (nn : Int)
  have hhas : D.has (nn : Int) = true := by simp [DS.has]; omega
  rw [hhas] at cH
  have cS := standing_at h nn hn hlim
  obtain ⟨_, _, _, _, c4, _⟩ := box_cells h.box
  rw [hg] at c4
  have Hlen : Hid _ := stand_length h.ok nn hn
  generalize D.stand nn = ST at cS Hlen ⊢
  go_enter Tryz.func9, Tryz.ntmps9
  go_wp2_with fail
  refine c.mono ?_
  rintro e w' ⟨rfl, rfl⟩
  go_wp2_with fail
  refine cH.mono ?_
  rintro e w' ⟨rfl, rfl⟩
  go_wp2_with fail
  refine cS.mono ?_
  rintro e w1 ⟨⟨b, o, cap, rfl, hr⟩, b1⟩
  clear c cH cS
  go_wp2_with fail
  refine (clone_at cap 4096 ⟨b, o, none⟩ ST w1 Hlen.out (by omega) (by omega) (hr.below b1 (Nat.le_refl _))).mono ?_
  rintro e w2 ⟨gr, cr, rfl, hgr, r2, b2⟩
  have B2 := b1.trans (b2.mono b1.size)
  have z1 := b1.size
  clear b1 b2
  go_wp2
  go_ret2
  exact ⟨gr, cr, rfl, by omega, r2, B2⟩

theorem read_bad {g : Nat} {w : World} {D : DS} {F : Nat → Prop} (hd : IsDisk w g D F) (n : Int) (hE : D.readE n ≠ 0) :
    Calls Tryz.prog 9 #[.pointer (some ⟨g, 0, none⟩), .int .i64 n] w fun e w' => e = .returned (.tuple #[.slice none 0 0, .int .i64 (D.readE n : Int)]) ∧ w = w' := by
  obtain ⟨gd, cd, vu, ps, h⟩ := hd
  have c := isMade_at h
  have cH := has_at h n
  obtain ⟨_, _, _, _, c4, _⟩ := box_cells h.box
  cases hh : D.has n with
  | false =>
    have e : D.readE n = 70 := by simp [DS.readE, hh]
    rw [e]
    rw [hh] at cH
    go_enter Tryz.func9, Tryz.ntmps9
    go_wp2_with fail
    refine c.mono ?_
    rintro e w' ⟨rfl, rfl⟩
    go_wp2_with fail
    refine cH.mono ?_
    rintro e w' ⟨rfl, rfl⟩
    go_wp2
    go_ret2
    exact ⟨rfl, rfl⟩
  | true =>
    cases hg : D.gone with
    | false => exact absurd (by simp [DS.readE, hh, hg]) hE
    | true =>
      have e : D.readE n = 6 := by simp [DS.readE, hh, hg]
      rw [e]
      rw [hh] at cH
      rw [hg] at c4
      go_enter Tryz.func9, Tryz.ntmps9
      go_wp2_with fail
      refine c.mono ?_
      rintro e w' ⟨rfl, rfl⟩
      go_wp2_with fail
      refine cH.mono ?_
      rintro e w' ⟨rfl, rfl⟩
      go_wp2
      go_ret2
      exact ⟨rfl, rfl⟩
end Go.Proofs.YtkhejjddmbegaaaGreat.Dk

/-
  A journal in memory, and the small functions of journal.
-/
namespace Go.Proofs.YtkhejjddmbegaaaGreat.J
open Go.RowKit
open Go.Proofs.YtkhejjddmbegaaaGreat.Dk (Box)

/-- what a journal keeps, its disk and the list of its groups' sizes aside -/
structure JS where
  log : Int
  epoch : Int
  next : Int
  synced : Int
  S : Int
  T : Int
  U : Int
  H : Int
  broken : Bool

/-- a journal's cells: its own place, its disk's, and the list of sizes -/
def jC (g dg : Nat) (vs : Value) (J : JS) : Array Value :=
  #[.pointer (some ⟨g, 0, none⟩), .pointer (some ⟨dg, 0, none⟩), .int .i64 J.log, .int .i64 J.epoch, .int .i64 J.next, .int .i64 J.synced, .int .i64 J.S, .int .i64 J.T, .int .i64 J.U, .int .i64 J.H, vs, .bool J.broken]

theorem box_cells {w : World} {g dg : Nat} {vs : Value} {J : JS} (h : Box w g (jC g dg vs J) 105) :
    w.cell? ⟨g, 0, none⟩ = some (.pointer (some ⟨g, 0, none⟩)) ∧ w.cell? ⟨g, 1, none⟩ = some (.pointer (some ⟨dg, 0, none⟩)) ∧ w.cell? ⟨g, 2, none⟩ = some (.int .i64 J.log) ∧ w.cell? ⟨g, 3, none⟩ = some (.int .i64 J.epoch) ∧ w.cell? ⟨g, 4, none⟩ = some (.int .i64 J.next) ∧ w.cell? ⟨g, 5, none⟩ = some (.int .i64 J.synced) ∧ w.cell? ⟨g, 6, none⟩ = some (.int .i64 J.S) ∧ w.cell? ⟨g, 7, none⟩ = some (.int .i64 J.T) ∧ w.cell? ⟨g, 8, none⟩ = some (.int .i64 J.U) ∧ w.cell? ⟨g, 9, none⟩ = some (.int .i64 J.H) ∧ w.cell? ⟨g, 10, none⟩ = some vs ∧ w.cell? ⟨g, 11, none⟩ = some (.bool J.broken) :=
  ⟨h.cell 0, h.cell 1, h.cell 2, h.cell 3, h.cell 4, h.cell 5, h.cell 6, h.cell 7, h.cell 8, h.cell 9, h.cell 10, h.cell 11⟩

theorem info47 : (Tryz.prog.info? 105).map (fun i => (i.zero.isSome, i.size)) = some (true, 12) := by kernel_rfl
theorem point23 : Tryz.prog.underlying 72 = some (.pointer 105) := by kernel_rfl
theorem eqlSelf (g : Nat) (w : World) : (binOp .eql 72 (.pointer (some ⟨g, 0, none⟩)) (.pointer (some ⟨g, 0, none⟩))).run Tryz.prog w = .ok (.bool true) w := by
  cases h : Tryz.prog.info? 105 with
  | none => have := info47; rw [h] at this; cases this
  | some i => exact run_eql_ptr_same w ⟨g, 0, none⟩ point23 h
theorem eqlNone (g : Nat) (w : World) : (binOp .eql 72 (.pointer none) (.pointer (some ⟨g, 0, none⟩))).run Tryz.prog w = .ok (.bool false) w := by
  have h : ∀ d : Nat, (Op.equalIn (d + 1) 72 (.pointer none) (.pointer (some ⟨g, 0, none⟩))).run Tryz.prog w = .ok false w := fun d => by
    simp [Op.equalIn, run_underlying point23]
  simp only [binOp]
  simp [Op.equal, Op.maxDepth, h 9999]

theorem isMade_cell (g : Nat) (w : World) (h : w.cell? ⟨g, 0, none⟩ = some (.pointer (some ⟨g, 0, none⟩))) :
    Calls Tryz.prog 74 #[.pointer (some ⟨g, 0, none⟩)] w fun e w' => e = .returned (.bool true) ∧ w = w' := by
  have he := eqlSelf g
  go_enter Tryz.func74, Tryz.ntmps74
  go_wp2
  go_ret
  exact ⟨rfl, rfl⟩
theorem isMade_none (w : World) : Calls Tryz.prog 74 #[.pointer none] w fun e w' => e = .returned (.bool false) ∧ w = w' := by
  go_enter Tryz.func74, Tryz.ntmps74
  go_wp2
  go_ret
  exact ⟨rfl, rfl⟩
theorem isMade_zero (g : Nat) (w : World) (h : w.cell? ⟨g, 0, none⟩ = some (.pointer none)) :
    Calls Tryz.prog 74 #[.pointer (some ⟨g, 0, none⟩)] w fun e w' => e = .returned (.bool false) ∧ w = w' := by
  have he := eqlNone g
  go_enter Tryz.func74, Tryz.ntmps74
  go_wp2
  go_ret
  exact ⟨rfl, rfl⟩

theorem within_at (n a b : Int) (w : World) :
    Calls Tryz.prog 51 #[.int .i64 n, .int .i64 a, .int .i64 b] w fun r w' => r = .returned (.bool (decide (a ≤ n ∧ n ≤ b))) ∧ w = w' := by
  by_cases h1 : a ≤ n
  · by_cases h2 : n ≤ b
    · rw [decide_eq_true ⟨h1, h2⟩]
      go_enter Tryz.func51, Tryz.ntmps51
      go_wp2
      go_ret
      exact ⟨rfl, rfl⟩
    · rw [decide_eq_false (fun h => h2 h.2)]
      go_enter Tryz.func51, Tryz.ntmps51
      go_wp2
      go_ret
      exact ⟨rfl, rfl⟩
  · rw [decide_eq_false (fun h => h1 h.1)]
    go_enter Tryz.func51, Tryz.ntmps51
    go_wp2
    go_ret
    exact ⟨rfl, rfl⟩

theorem fits_at {w : World} {g dg : Nat} {vs : Value} {J : JS} (h : Box w g (jC g dg vs J) 105) (n : Int) :
    Calls Tryz.prog 56 #[.pointer (some ⟨g, 0, none⟩), .int .i64 n] w fun r w' => r = .returned (.int .i64 (if J.S < n then 232 else 0)) ∧ w = w' := by
  have c6 := (box_cells h).2.2.2.2.2.2.1
  by_cases hn : J.S < n
  · rw [if_pos hn]
    go_enter Tryz.func56, Tryz.ntmps56
    go_wp2
    go_ret
    exact ⟨rfl, rfl⟩
  · rw [if_neg hn]
    go_enter Tryz.func56, Tryz.ntmps56
    go_wp2
    go_ret
    exact ⟨rfl, rfl⟩

theorem asked_ok (g : Nat) (w : World) :
    Calls Tryz.prog 85 #[.pointer (some ⟨g, 0, none⟩), .int .i64 0] w fun r w' => r = .returned (.int .i64 0) ∧ w = w' := by
  go_enter Tryz.func85, Tryz.ntmps85
  go_wp2
  go_ret
  exact ⟨rfl, rfl⟩

/-- the journal is none: the rest is never asked -/
theorem ahead_none (f : Value) (w : World) :
    Calls Tryz.prog 53 #[.pointer none, f] w fun r w' => r = .returned (.int .i64 1) ∧ w = w' := by
  go_enter Tryz.func53, Tryz.ntmps53
  go_wp2_with fail
  refine (isMade_none _).mono ?_
  rintro r w1 ⟨rfl, rfl⟩
  go_wp2_with fail
  go_ret
  exact ⟨rfl, rfl⟩
theorem ahead_zero (f : Value) (g : Nat) (w : World) (h : w.cell? ⟨g, 0, none⟩ = some (.pointer none)) :
    Calls Tryz.prog 53 #[.pointer (some ⟨g, 0, none⟩), f] w fun r w' => r = .returned (.int .i64 1) ∧ w = w' := by
  go_enter Tryz.func53, Tryz.ntmps53
  go_wp2_with fail
  refine (isMade_zero _ _ h).mono ?_
  rintro r w1 ⟨rfl, rfl⟩
  go_wp2_with fail
  go_ret
  exact ⟨rfl, rfl⟩
theorem ahead_broken {w : World} {g dg : Nat} {vs : Value} {J : JS} (h : Box w g (jC g dg vs J) 105) (hb : J.broken = true) (f : Value) :
    Calls Tryz.prog 53 #[.pointer (some ⟨g, 0, none⟩), f] w fun r w' => r = .returned (.int .i64 4) ∧ w = w' := by
  obtain ⟨c0, _, _, _, _, _, _, _, _, _, _, c11⟩ := box_cells h
  rw [hb] at c11
  go_enter Tryz.func53, Tryz.ntmps53
  go_wp2_with fail
  refine (isMade_cell _ _ c0).mono ?_
  rintro r w1 ⟨rfl, rfl⟩
  go_wp2_with fail
  go_ret
  exact ⟨rfl, rfl⟩
end Go.Proofs.YtkhejjddmbegaaaGreat.J

/-
  The calls on a journal that Open did not answer: none, or one of noughts.
-/
namespace Go.Proofs.YtkhejjddmbegaaaGreat.J
open Go.RowKit

/-- no journal, or one that lies there but was not opened -/
def NotMade (w : World) (v : Value) : Prop := v = .pointer none ∨ ∃ g, v = .pointer (some ⟨g, 0, none⟩) ∧ w.cell? ⟨g, 0, none⟩ = some (.pointer none) ∧ g < w.heap.size
theorem NotMade.below {w w' : World} {v : Value} (h : NotMade w v) (b : Below w.heap.size w w') : NotMade w' v := by
  rcases h with rfl | ⟨g, rfl, h, hg⟩
  · exact .inl rfl
  · exact .inr ⟨g, rfl, (b.cell hg).trans h, Nat.lt_of_lt_of_le hg b.size⟩
theorem isMade_no {w : World} {v : Value} (h : NotMade w v) : Calls Tryz.prog 74 #[v] w fun r w' => r = .returned (.bool false) ∧ w = w' := by
  rcases h with rfl | ⟨g, rfl, h, _⟩
  · exact isMade_none w
  · exact isMade_zero g w h
theorem ahead_no {w : World} {v : Value} (h : NotMade w v) (f : Value) : Calls Tryz.prog 53 #[v, f] w fun r w' => r = .returned (.int .i64 1) ∧ w = w' := by
  rcases h with rfl | ⟨g, rfl, h, _⟩
  · exact ahead_none f w
  · exact ahead_zero f g w h

theorem append_no {w : World} {v : Value} (h : NotMade w v) (a : Option Addr) (n c : Nat) (b : Bool) : Calls Tryz.prog 31 #[v, .slice a n c, .bool b] w fun r w' => r = .returned (.tuple #[.int .i64 0, .int .i64 1]) ∧ Below w.heap.size w w' := by
  have B := (((Below.refl w.heap.size w).alloc (Nat.le_refl _) (.cells #[v] 72)).alloc (by simp) (.cells #[.slice a n c] 38)).alloc (by simp; omega) (.cells #[.slice none 0 0] 52)
  have h' := h.below B
  clear h
  obtain ⟨p, rfl⟩ : ∃ p, v = .pointer p := by rcases h' with rfl | ⟨g, rfl, _⟩ <;> exact ⟨_, rfl⟩
  go_enter Tryz.func31, Tryz.ntmps31
  go_wp2_with fail
  refine (ahead_no h' _).mono ?_
  rintro r w1 ⟨rfl, rfl⟩
  go_wp2_with fail
  exact bodyPost_ret (v := .tuple #[.int .i64 0, .int .i64 1]) (by simp [results, Tryz.results31, go_sem]) rfl ⟨rfl, B⟩
end Go.Proofs.YtkhejjddmbegaaaGreat.J

/-
  Bytes in memory, whatever the program: rows that are read, rows of one's own, copies; told over this seat's tables.
-/
namespace Go.Proofs.YtkhejjddmbegaaaGreat.Rc
open Go.RowKit

theorem u8_lt (c : UInt8) : c.toNat < 256 := c.toNat_lt
theorem ofNat_toNat (v : Nat) : (UInt8.ofNat v).toNat = v % 256 := by simp
def bc (c : UInt8) : Value := .int .u8 (c.toNat : Int)
def bcs (l : List UInt8) : List Value := l.map bc
theorem bcs_length (l : List UInt8) : (bcs l).length = l.length := by simp [bcs]
theorem bcs_append (l r : List UInt8) : bcs (l ++ r) = bcs l ++ bcs r := by simp [bcs]
theorem bcs_getElem? (l : List UInt8) (j : Nat) (h : j < l.length) : (bcs l)[j]? = some (.int .u8 (l[j].toNat : Int)) := by simp [bcs, bc, List.getElem?_eq_getElem h]
theorem bcs_oneCell (l : List UInt8) : ∀ v ∈ bcs l, v.oneCell' = true := by
  intro v hv
  obtain ⟨_, _, rfl⟩ := List.mem_map.1 hv
  rfl

/-- Block g holds just these bytes, and may be written. -/
def Own (w : World) (g : Nat) (ys : List UInt8) : Prop := w.heap[g]? = some (.cells (bcs ys).toArray 5 (0, 0))

theorem Own.cell {w : World} {g : Nat} {ys : List UInt8} (h : Own w g ys) (j : Nat) (hj : j < ys.length) : w.cell? ⟨g, j, none⟩ = some (.int .u8 (ys[j].toNat : Int)) := by
  rw [cell_of_row w g j _ 5 (0, 0) h]
  simpa using bcs_getElem? ys j hj
theorem Own.frozen {w : World} {g : Nat} {ys : List UInt8} (h : Own w g ys) (j : Nat) : w.frozen? ⟨g, j, none⟩ = false := frozen_of_row w g j _ 5 h
theorem Own.lt {w : World} {g : Nat} {ys : List UInt8} (h : Own w g ys) : g < w.heap.size := (Array.getElem?_eq_some_iff.1 h).1
theorem Own.store {w : World} {g : Nat} {ys : List UInt8} (h : Own w g ys) (j : Nat) (c : UInt8) : Own (w.setCell ⟨g, j, none⟩ (.int .u8 (c.toNat : Int))) g (ys.set j c) := by
  unfold Own
  rw [heap_setCell_same w g j _ 5 _ h]
  congr 2
  apply Array.toList_inj.1
  simp [bcs, bc]
/-- What lies below a mark stays. -/
theorem Own.below {B : Nat} {w w' : World} {g : Nat} {ys : List UInt8} (h : Own w g ys) (hb : Below B w w') (hg : g < B) : Own w' g ys := (hb.block g hg).trans h

theorem grown_trans {a b c : World} {row : Option Nat} (h : a.grownBy b row) (k : b.grownBy c row) : a.grownBy c row :=
  ⟨k.os.trans h.os, k.tape.trans h.tape, k.output.trans h.output, Nat.le_trans h.size k.size, fun i hi hr => (k.block i (Nat.lt_of_lt_of_le hi h.size) hr).trans (h.block i hi hr)⟩
theorem grown_store (w : World) (g j : Nat) (u : Value) : w.grownBy (w.setCell ⟨g, j, none⟩ u) (some g) :=
  ⟨rfl, rfl, rfl, by simp, fun k _ hk => heap_setCell_other w ⟨g, j, none⟩ k u (fun e => hk (by simp [e]))⟩
theorem grown_setRow (w : World) (g : Nat) (cs : Array Value) : w.grownBy (w.setRow g cs) (some g) :=
  ⟨rfl, rfl, rfl, by simp [World.setRow], fun k _ hk => setRow_other w g k cs (fun e => hk (by simp [e]))⟩

/-- The bytes xs lie where a says (of no bytes nothing is asked). -/
def Rd (w : World) (a : Option Addr) (xs : List UInt8) : Prop :=
  0 < xs.length → ∃ b o, a = some ⟨b, o, none⟩ ∧ ∀ j (h : j < xs.length), w.cell? ⟨b, o + j, none⟩ = some (.int .u8 (xs[j].toNat : Int))
theorem Rd.nil (w : World) (a : Option Addr) : Rd w a [] := fun h => absurd h (by simp)
theorem Own.rd {w : World} {g : Nat} {ys : List UInt8} (h : Own w g ys) : Rd w (some ⟨g, 0, none⟩) ys := fun _ => ⟨g, 0, rfl, fun j hj => by rw [Nat.zero_add]; exact h.cell j hj⟩
/-- What is read stays as long as old blocks stay. -/
theorem Rd.below {B : Nat} {w w' : World} {a : Option Addr} {xs : List UInt8} (h : Rd w a xs) (hb : Below B w w') (hB : w.heap.size ≤ B) : Rd w' a xs := fun hp => by
  obtain ⟨b, o, ha, hc⟩ := h hp
  refine ⟨b, o, ha, fun j hj => ?_⟩
  have hlt : b < w.heap.size := block_lt_of_cell (hc j hj)
  rw [hb.cell (p := ⟨b, o + j, none⟩) (Nat.lt_of_lt_of_le hlt hB)]
  exact hc j hj

theorem info5 : (Tryz.prog.info? 5).map (fun i => (i.zero, i.size, i.bytes)) = some (some (.int .u8 0), 1, 1) := by kernel_rfl
theorem size5 : (Tryz.prog.info? 5).map (·.size) = some 1 := by kernel_rfl

theorem below_of_grown {w u : World} {g : Nat} (h : w.grownBy u (some g)) (hg : w.heap.size ≤ g) : Below w.heap.size w u := (Below.refl _ _).grown h (Nat.le_refl _) (fun k hk => by simp at hk; omega)

theorem made_zero (n : Nat) : (madeCells #[Value.int .u8 0] n) = (bcs (List.replicate n 0)).toArray := by
  apply Array.toList_inj.1
  apply List.ext_getElem
  · simp [madeCells, bcs]
  · intro i h1 h2
    simp [madeCells, bcs, bc, Nat.mod_one]

/-- string(bytes). -/
theorem conv_run (u : World) (a : Option Addr) (cap : Nat) (xs : List UInt8) (hr : Rd u a xs) : (convert 41 9 (.slice a xs.length cap)).run Tryz.prog u = .ok (.string ⟨xs.toArray⟩) u := by
  cases a with
  | none =>
    by_cases h0 : 0 < xs.length
    · obtain ⟨b, o, h, _⟩ := hr h0
      simp at h
    · obtain rfl : xs = [] := List.eq_nil_of_length_eq_zero (by omega)
      exact run_convert_bytes_nil u 41 5 Tryz.underlying41 Tryz.underlying5 0 cap 9 Tryz.underlying9
  | some a =>
    exact run_convert_bytes_back u 41 9 5 a cap xs Tryz.underlying41 Tryz.underlying5 Tryz.underlying9 (fun j hj => by
      obtain ⟨b, o, h, hc⟩ := hr (by omega)
      obtain rfl := Option.some.inj h
      rw [Addr.add_lit]
      exact hc j hj)

theorem same_any (a b : Option Addr) (ca cb : Nat) (xs ys : List UInt8) (w : World) (ha : Rd w a xs) (hb : Rd w b ys) :
    Calls Tryz.prog 21 #[.slice a xs.length ca, .slice b ys.length cb] w fun e w' => e = .returned (.bool (xs == ys)) ∧ w = w' := by
  have h1 := conv_run w a ca xs ha
  have h2 := conv_run w b cb ys hb
  go_enter Tryz.func21, Tryz.ntmps21
  go_wp2
  go_ret
  exact ⟨rfl, rfl⟩

theorem own_lit (w : World) (xs : List UInt8) : Own (w.alloc (.cells (bcs xs).toArray 5)) w.heap.size xs := heap_alloc_new w _

theorem same_at (ca cb n m : Nat) (a b : Option Addr) (xs ys : List UInt8) (w : World) (hn : xs.length = n) (hm : ys.length = m) (ha : Rd w a xs) (hb : Rd w b ys) :
    Calls Tryz.prog 21 #[.slice a n ca, .slice b m cb] w fun e w' => e = .returned (.bool (xs == ys)) ∧ w = w' := by
  subst hn hm; exact same_any a b ca cb xs ys w ha hb

theorem bytes5 : Tryz.prog.bytesOf 5 = 1 := by kernel_rfl

theorem u8_bounds {n : Int} (h : (Lit.int .u8 n).wf = true) : 0 ≤ n ∧ n ≤ 255 := by
  simpa [Lit.wf, IntKind.min, IntKind.max, IntKind.signed, IntKind.bits] using h
theorem u64_bounds {n : Int} (h : (Lit.int .u64 n).wf = true) : 0 ≤ n ∧ n ≤ 18446744073709551615 := by
  simpa [Lit.wf, IntKind.min, IntKind.max, IntKind.signed, IntKind.bits] using h
theorem u32_bounds {n : Int} (h : (Lit.int .u32 n).wf = true) : 0 ≤ n ∧ n ≤ 4294967295 := by
  simpa [Lit.wf, IntKind.min, IntKind.max, IntKind.signed, IntKind.bits] using h
theorem i64_bounds {n : Int} (h : (Lit.int .i64 n).wf = true) : -9223372036854775808 ≤ n ∧ n ≤ 9223372036854775807 := by
  simpa [Lit.wf, IntKind.min, IntKind.max, IntKind.signed, IntKind.bits] using h

theorem bytes_of_ints {w : World} {a : Addr} {len cap : Nat} {zs : List Int} (hl : len ≤ cap) (hz : zs.length = cap)
    (hcell : ∀ i, i < zs.length → w.cell? (a.add i) = some (.int .u8 (zs.getD i 0))) (hwz : ∀ n ∈ zs, (Lit.int .u8 n).wf = true) :
    ∃ xs : List UInt8, xs.length = len ∧ Rd w (some a) xs := by
  refine ⟨(zs.take len).map fun n => UInt8.ofNat n.toNat, by simp; omega, fun hp => ?_⟩
  have hlen : 0 < len := by simp at hp; omega
  have h0 := hcell 0 (by omega)
  obtain ⟨b, o, sp⟩ := a
  have hsp : sp = none := by simpa [Addr.add] using World.cell?_spot h0
  subst hsp
  refine ⟨b, o, rfl, fun j hj => ?_⟩
  have hj' : j < len := by simp at hj; omega
  have hjz : j < zs.length := by omega
  have h := hcell j hjz
  rw [Addr.add_lit] at h
  rw [h]
  have hb := u8_bounds (hwz zs[j] (List.getElem_mem hjz))
  have e : zs.getD j 0 = zs[j] := by simp [List.getD, List.getElem?_eq_getElem hjz]
  rw [e]
  simp only [List.getElem_map, List.getElem_take]
  congr 2
  rw [ofNat_toNat]
  omega

/-! ### rows that grow -/
theorem owns_rd {w : World} {B n : Nat} {v : Value} {ys : List UInt8} (h : w.ownsRow B 5 1 v n (bcs ys)) :
    ∃ a cap, v = .slice a n cap ∧ ys.length = n ∧ n ≤ cap ∧ cap ≤ maxLen ∧ Rd w a ys ∧ (0 < n → ∃ g, a = some ⟨g, 0, none⟩ ∧ B ≤ g ∧ g < w.heap.size) := by
  have hl : ys.length = n := by have := h.1; rw [bcs_length] at this; omega
  rcases h.2 with ⟨rfl, rfl⟩ | ⟨g, cap, cur, rfl, hb, hg, hnc, hcm, hcs, htake⟩
  · have h0 : ys = [] := List.eq_nil_of_length_eq_zero hl
    subst h0
    exact ⟨none, 0, rfl, rfl, Nat.le_refl _, by simp [maxLen], Rd.nil _ _, fun h => by omega⟩
  · refine ⟨some ⟨g, 0, none⟩, cap, rfl, hl, hnc, hcm, fun _ => ⟨g, 0, rfl, fun j hj => ?_⟩, fun _ => ⟨g, rfl, hb, (Array.getElem?_eq_some_iff.1 hg).1⟩⟩
    have := h.cells (g := g) rfl j _ (bcs_getElem? ys j hj)
    rw [Addr.add_lit] at this
    exact this

/-- copy of bytes in memory of their own -/
theorem copyBytes_at (cap n : Nat) (a : Option Addr) (xs : List UInt8) (w : World) (hl : xs.length = n) (hn : n ≤ 140737488355328) (hr : Rd w a xs) (hnil : a = none → cap = 0) :
    Calls Tryz.prog 41 #[.slice a n cap] w fun e w' => ∃ v, e = .returned v ∧ w'.ownsRow w.heap.size 5 1 v n (bcs xs) ∧ Below w.heap.size w w' := by
  obtain ⟨i0, hi, hz0, hz1, hz2⟩ := info_parts info5
  cases a with
  | none =>
    obtain rfl := hnil rfl
    have h0 : xs.length = 0 := by
      apply Decidable.byContradiction
      intro h
      obtain ⟨_, _, h', _⟩ := hr (by omega)
      simp at h'
    obtain rfl : xs = [] := List.eq_nil_of_length_eq_zero h0
    obtain rfl : n = 0 := hl.symm
    go_enter Tryz.func41, Tryz.ntmps41
    go_wp2_with (at_builtin; refine wpList_append_own_none rfl _ _ 41 rfl w.heap.size 5 i0 1 Tryz.underlying41 hi (.slice none 0 0) 0 [] rfl (World.ownsRow_nil _ _ _ _) rfl ?_)
    go_ret
    exact ⟨_, rfl, World.ownsRow_nil _ _ _ _, Below.refl _ _⟩
  | some ad =>
    have hm : n ≤ maxLen := by unfold maxLen; omega
    go_enter Tryz.func41, Tryz.ntmps41
    go_wp2_with (at_builtin; refine wpList_append_own _ rfl _ _ 41 rfl w.heap.size 5 i0 (.int .u8 0) 1 1 Tryz.underlying41 hi hz0 hz1 hz2 rfl (by decide) (.slice none 0 0) 0 [] rfl (World.ownsRow_nil _ _ _ _) ad n cap (bcs xs) rfl ?c0 ?c1 (bcs_oneCell xs) ?c2 ?c3 (Nat.le_refl _) ?_)
    case c0 => rw [bcs_length]; omega
    case c1 =>
      intro j u hj
      have hj' : j < xs.length := by have := (List.getElem?_eq_some_iff.1 hj).1; simpa [bcs_length] using this
      rw [bcs_getElem? xs j hj'] at hj
      obtain ⟨b, o, he, hc⟩ := hr (by omega)
      obtain rfl := Option.some.inj he
      rw [Addr.add_lit, hc j hj']
      exact hj
    case c2 => omega
    case c3 => omega
    · intro v' w1 hown hgrow _
      have hown1 : w1.ownsRow w.heap.size 5 1 v' n (bcs xs) := by simpa using hown
      have hb : Below w.heap.size w w1 := (Below.refl _ _).grown hgrow (Nat.le_refl _) (fun k hk => by simp [Value.ownBlock] at hk)
      clear hgrow hown
      go_wp2
      go_ret
      exact ⟨_, rfl, hown1, hb⟩

theorem append_bcs (xs : List UInt8) (c : UInt8) : bcs xs ++ [.int .u8 (c.toNat : Int)] = bcs (xs ++ [c]) := by simp [bcs, bc]

/-- bytes from anywhere (none, too) behind a row of one's own -/
theorem wpList_append_bytes {w : World} {ops : Array Oper} {rest : List Oper} {o : Oper} {a : Act} {Q : Exit → Act → World → Prop} (hgd : o.guard = none) (s x : Operand)
    (ho : o.op = .call { callee := .builtin .append, args := #[s, x], argTypes := #[41, 41] })
    (base : Nat) (v : Value) (n : Nat) (xs : List Value) (hs : a.eval s = v) (hown : w.ownsRow base 5 1 v n xs)
    (ao : Option Addr) (m c : Nat) (ys : List UInt8) (hx : a.eval x = .slice ao m c) (hl : ys.length = m) (hr : Rd w ao ys) (hnil : ao = none → c = 0) (hb : n + m ≤ 140737488355328) (hbase : base ≤ w.heap.size)
    (h : ∀ v' w', w'.ownsRow base 5 1 v' (n + m) (xs ++ bcs ys) → w.grownBy w' v.ownBlock → wpList Tryz.prog ops Q rest (a.put o.dst v') w') : wpList Tryz.prog ops Q (o :: rest) a w := by
  obtain ⟨i0, hi, hz0, hz1, hz2⟩ := info_parts info5
  cases ao with
  | none =>
    obtain rfl := hnil rfl
    have h0 : ys.length = 0 := by
      apply Decidable.byContradiction
      intro h'
      obtain ⟨_, _, h', _⟩ := hr (by omega)
      simp at h'
    obtain rfl : ys = [] := List.eq_nil_of_length_eq_zero h0
    obtain rfl : m = 0 := hl.symm
    exact wpList_append_own_none hgd s x 41 ho base 5 i0 1 Tryz.underlying41 hi v n xs hs hown hx (h v w (by simpa [bcs] using hown) (World.grownBy.refl _ _))
  | some ad =>
    refine wpList_append_own w hgd s x 41 ho base 5 i0 (.int .u8 0) 1 1 Tryz.underlying41 hi hz0 hz1 hz2 rfl (by decide) v n xs hs hown ad m c (bcs ys) hx (by rw [bcs_length]; omega) ?_ (bcs_oneCell ys) (by unfold maxLen; omega) (by omega) hbase (fun v' w' h1 h2 _ => h v' w' h1 h2)
    intro j u hj
    have hj' : j < ys.length := by have := (List.getElem?_eq_some_iff.1 hj).1; simpa [bcs_length] using this
    rw [bcs_getElem? ys j hj'] at hj
    obtain ⟨b, o', he, hc⟩ := hr (by omega)
    obtain rfl := Option.some.inj he
    rw [Addr.add_lit, hc j hj']
    exact hj

theorem Rd.head {w : World} {a : Option Addr} {xs ys : List UInt8} (h : Rd w a (xs ++ ys)) : Rd w a xs := fun hp => by
  obtain ⟨b, o, ha, hc⟩ := h (by simp; omega)
  refine ⟨b, o, ha, fun j hj => ?_⟩
  rw [hc j (by simp; omega), List.getElem_append_left hj]

end Go.Proofs.YtkhejjddmbegaaaGreat.Rc

/-
  Blocks of memory: boxes, rows of bytes with room behind them, what a call may turn; sectors of a block's bytes.
-/
namespace Go.Proofs.YtkhejjddmbegaaaGreat.Rc
open Go.RowKit

/-- xs upon l, from off on -/
def over {α : Type} (l : List α) (off : Nat) (xs : List α) : List α := l.take off ++ (xs ++ l.drop (off + xs.length))
theorem over_length {α : Type} (l : List α) (off : Nat) (xs : List α) (h : off + xs.length ≤ l.length) : (over l off xs).length = l.length := by
  simp [over]; omega
theorem over_get {α : Type} (l : List α) (off : Nat) (xs : List α) (h : off + xs.length ≤ l.length) (i : Nat) : (over l off xs)[i]? = if off ≤ i ∧ i < off + xs.length then xs[i - off]? else l[i]? := by
  unfold over
  have hlo : (l.take off).length = off := by simp; omega
  by_cases h1 : i < off
  · rw [List.getElem?_append_left (by omega), if_neg (by omega), List.getElem?_take, if_pos h1]
  · rw [List.getElem?_append_right (by omega), hlo]
    by_cases h2 : i < off + xs.length
    · rw [if_pos ⟨by omega, h2⟩, List.getElem?_append_left (by omega)]
    · rw [if_neg (by omega), List.getElem?_append_right (by omega), List.getElem?_drop]
      congr 1
      omega

/-- sector s of a block's bytes -/
def sec (data : List UInt8) (s : Nat) : List UInt8 := (data.drop (s * 512)).take 512
theorem sec_length (data : List UInt8) (s : Nat) (hd : data.length = 4096) (hs : s < 8) : (sec data s).length = 512 := by simp [sec]; omega

/-! ### one block -/
/-- a block that was made for one value -/
def Box (w : World) (g : Nat) (cs : Array Value) (t : TypeId) : Prop := w.heap[g]? = some (.cells cs t (0, 0))
theorem Box.cell {w : World} {g : Nat} {cs : Array Value} {t : TypeId} (h : Box w g cs t) (j : Nat) : w.cell? ⟨g, j, none⟩ = cs[j]? := cell_of_row w g j cs t (0, 0) h
theorem Box.frozen {w : World} {g : Nat} {cs : Array Value} {t : TypeId} (h : Box w g cs t) (j : Nat) : w.frozen? ⟨g, j, none⟩ = false := frozen_of_row w g j cs t h
theorem Box.lt {w : World} {g : Nat} {cs : Array Value} {t : TypeId} (h : Box w g cs t) : g < w.heap.size := (Array.getElem?_eq_some_iff.1 h).1
theorem Box.below {w w' : World} {g : Nat} {cs : Array Value} {t : TypeId} (h : Box w g cs t) (hb : Below w.heap.size w w') : Box w' g cs t := (hb.block g h.lt).trans h
theorem Box.new (w : World) (cs : Array Value) (t : TypeId) : Box (w.alloc (.cells cs t)) w.heap.size cs t := heap_alloc_new w _
theorem Box.alloc {w : World} {g : Nat} {cs : Array Value} {t : TypeId} (h : Box w g cs t) (o : Obj) : Box (w.alloc o) g cs t := (Below.heap_alloc w o g h.lt).trans h
theorem Box.store {w : World} {g : Nat} {cs : Array Value} {t : TypeId} (h : Box w g cs t) (j : Nat) (v : Value) : Box (w.setCell ⟨g, j, none⟩ v) g (cs.setIfInBounds j v) t := heap_setCell_same w g j cs t v h
theorem Box.ne {w : World} {g g' : Nat} {cs cs' : Array Value} {t t' : TypeId} (h : Box w g cs t) (h' : Box w g' cs' t') (ht : t ≠ t') : g ≠ g' := by
  intro e
  subst e
  unfold Box at h h'
  rw [h] at h'
  simp at h'
  exact ht h'.2

/-- Bytes, with room behind them of which nothing is said. -/
def RowB (w : World) (g cap : Nat) (ys : List UInt8) : Prop := ∃ cur : Array Value, Box w g cur 5 ∧ ys.length ≤ cap ∧ cap ≤ maxLen ∧ cur.size = cap ∧ cur.toList.take ys.length = bcs ys
theorem RowB.lt {w : World} {g cap : Nat} {ys : List UInt8} (h : RowB w g cap ys) : g < w.heap.size := by obtain ⟨cur, h, _⟩ := h; exact h.lt
theorem RowB.rd {w : World} {g cap : Nat} {ys : List UInt8} (h : RowB w g cap ys) : Rd w (some ⟨g, 0, none⟩) ys := by
  obtain ⟨cur, h, _, _, _, ht⟩ := h
  intro _
  refine ⟨g, 0, rfl, fun j hj => ?_⟩
  rw [Nat.zero_add, h.cell j]
  have h1 := bcs_getElem? ys j hj
  rw [← ht, List.getElem?_take] at h1
  rw [if_pos hj] at h1
  simpa using h1
theorem RowB.same {w w' : World} {g cap : Nat} {ys : List UInt8} (h : RowB w g cap ys) (hb : w'.heap[g]? = w.heap[g]?) : RowB w' g cap ys := by
  obtain ⟨cur, h, r⟩ := h
  exact ⟨cur, hb.trans h, r⟩
theorem RowB.own {w : World} {g : Nat} {ys : List UInt8} (h : Own w g ys) (hm : ys.length ≤ maxLen) : RowB w g ys.length ys :=
  ⟨(bcs ys).toArray, h, Nat.le_refl _, hm, by simp [bcs_length], by rw [List.take_of_length_le (by simp [bcs_length])]⟩
theorem RowB.owns {w : World} {B n : Nat} {v : Value} {ys : List UInt8} (h : w.ownsRow B 5 1 v n (bcs ys)) (h0 : 0 < n) : ∃ g cap, v = .slice (some ⟨g, 0, none⟩) n cap ∧ B ≤ g ∧ RowB w g cap ys := by
  have hl : ys.length = n := by have := h.1; rw [bcs_length] at this; omega
  rcases h.2 with ⟨rfl, rfl⟩ | ⟨g, cap, cur, rfl, hb, hg, hnc, hcm, hcs, ht⟩
  · omega
  · exact ⟨g, cap, rfl, hb, cur, hg, by omega, hcm, by omega, by rw [hl]; simpa using ht⟩

/-- copy of bytes onto a part of such a row -/
theorem copy_row (g cap off dLen dCap : Nat) (a : Option Addr) (sCap : Nat) (xs ys : List UInt8) (u : World) (hg : RowB u g cap ys) (hr : Rd u a xs) (hl : xs.length ≤ dLen) (hfit : off + xs.length ≤ ys.length) (h0 : 0 < xs.length) :
    ∃ W, (∀ ty, (Builtin.copy_ #[41, 41] ty #[.slice (some ⟨g, off, none⟩) dLen dCap, .slice a xs.length sCap]).run Tryz.prog u = .ok (goInt xs.length) W) ∧ RowB W g cap (over ys off xs) ∧ u.grownBy W (some g) := by
  obtain ⟨b, o, rfl, hc⟩ := hr h0
  obtain ⟨cur, hb, hlc, hm, hs, ht⟩ := hg
  refine ⟨u.setRow g (cur.toList.take off ++ bcs xs ++ cur.toList.drop (off + (bcs xs).length)).toArray, fun ty => ?_, ?_, grown_setRow _ _ _⟩
  · have h := run_copy_row (P := Tryz.prog) u 41 41 ty 5 g off dLen dCap ⟨b, o, none⟩ xs.length sCap cur 5 (bcs xs) Tryz.underlying41 size5 hb (by rw [bcs_length]; exact (Nat.min_eq_left hl).symm) (fun j v hj => by
        have hj' : j < xs.length := by have := (List.getElem?_eq_some_iff.1 hj).1; simpa [bcs_length] using this
        rw [bcs_getElem? xs j hj'] at hj
        rw [Addr.add_lit, hc j hj']
        exact hj) (by rw [bcs_length]; omega) (bcs_oneCell xs)
    rw [h, bcs_length]
  · have hpl := over_length ys off xs hfit
    refine ⟨_, setRow_heap u g _ _ 5 _ hb, by omega, hm, ?_, ?_⟩
    · simp [bcs_length]; omega
    · rw [hpl]
      have e1 : cur.toList.take off = bcs (ys.take off) := by
        have := congrArg (List.take off) ht
        rw [List.take_take, Nat.min_eq_left (by omega)] at this
        rw [this]; simp [bcs]
      have e2 : (cur.toList.drop (off + xs.length)).take (ys.length - (off + xs.length)) = bcs (ys.drop (off + xs.length)) := by
        have := congrArg (List.drop (off + xs.length)) ht
        rw [List.drop_take] at this
        rw [this]; simp [bcs]
      have hlt : (cur.toList.take off).length = off := by simp; omega
      have e3 : bcs (over ys off xs) = bcs (ys.take off) ++ (bcs xs ++ bcs (ys.drop (off + xs.length))) := by simp [over, bcs]
      show (cur.toList.take off ++ bcs xs ++ cur.toList.drop (off + (bcs xs).length)).take ys.length = _
      have e4 : (bcs xs).take (ys.length - off) = bcs xs := List.take_of_length_le (by rw [bcs_length]; omega)
      rw [e3, ← e1, ← e2]
      generalize hA : cur.toList.take off = A at hlt
      have e5 : A.take ys.length = A := List.take_of_length_le (by omega)
      rw [List.append_assoc, List.take_append, List.take_append, e5, hlt, e4, bcs_length, Nat.sub_sub]

/-! ### what a call may turn -/
/-- Of what was there, only blocks of F have turned. -/
structure Upd (F : Nat → Prop) (w w' : World) : Prop where
  os : w'.os = w.os
  tape : w'.tape = w.tape
  output : w'.output = w.output
  size : w.heap.size ≤ w'.heap.size
  block : ∀ k, k < w.heap.size → ¬ F k → w'.heap[k]? = w.heap[k]?
theorem Upd.refl (F : Nat → Prop) (w : World) : Upd F w w := ⟨rfl, rfl, rfl, Nat.le_refl _, fun _ _ _ => rfl⟩
theorem Upd.trans {F F' : Nat → Prop} {a b c : World} (h : Upd F a b) (k : Upd F' b c) (hF : ∀ i, F' i → F i ∨ a.heap.size ≤ i) : Upd F a c :=
  ⟨k.os.trans h.os, k.tape.trans h.tape, k.output.trans h.output, Nat.le_trans h.size k.size, fun i hi hn => (k.block i (Nat.lt_of_lt_of_le hi h.size) (fun hf => by rcases hF i hf with h1 | h1; exact hn h1; omega)).trans (h.block i hi hn)⟩
theorem Upd.of_below {F : Nat → Prop} {w w' : World} (h : Below w.heap.size w w') : Upd F w w' := ⟨h.os, h.tape, h.output, h.size, fun k hk _ => h.block k hk⟩
theorem Upd.grown {F : Nat → Prop} {a w w' : World} {row : Option Nat} (h : Upd F a w) (hg : w.grownBy w' row) (hr : ∀ k, row = some k → F k ∨ a.heap.size ≤ k) : Upd F a w' :=
  ⟨hg.os.trans h.os, hg.tape.trans h.tape, hg.output.trans h.output, Nat.le_trans h.size hg.size, fun i hi hn => (hg.block i (Nat.lt_of_lt_of_le hi h.size) (fun e => by rcases hr i e.symm with h1 | h1; exact hn h1; omega)).trans (h.block i hi hn)⟩
theorem Upd.below {F : Nat → Prop} {w w' : World} {B : Nat} (h : Upd F w w') (hF : ∀ i, F i → B ≤ i) (hB : B ≤ w.heap.size) : Below B w w' :=
  ⟨h.os, h.tape, h.output, h.size, fun k hk => h.block k (by omega) (fun hf => by have := hF k hf; omega)⟩
theorem Upd.alloc {F : Nat → Prop} {a w : World} (h : Upd F a w) (o : Obj) : Upd F a (w.alloc o) := h.grown (World.grownBy_alloc w o none) (fun k e => by cases e)
theorem Upd.setCell {F : Nat → Prop} {a w : World} (h : Upd F a w) {g j : Nat} (hg : F g ∨ a.heap.size ≤ g) (u : Value) : Upd F a (w.setCell ⟨g, j, none⟩ u) := h.grown (grown_store w g j u) (fun k e => by cases e; exact hg)
theorem Upd.drew {F : Nat → Prop} {a w : World} (h : Upd F a w) : Upd F a w.drew := ⟨h.os, h.tape, h.output, h.size, h.block⟩
theorem Upd.thenB {F : Nat → Prop} {a w w' : World} (h : Upd F a w) (k : Below w.heap.size w w') : Upd F a w' := ⟨k.os.trans h.os, k.tape.trans h.tape, k.output.trans h.output, Nat.le_trans h.size k.size, fun i hi hn => (k.block i (Nat.lt_of_lt_of_le hi h.size)).trans (h.block i hi hn)⟩
theorem Rd.upd {F : Nat → Prop} {w w' : World} {g o : Nat} {xs : List UInt8} (h : Rd w (some ⟨g, o, none⟩) xs) (hu : Upd F w w') (hg : ¬ F g) : Rd w' (some ⟨g, o, none⟩) xs := fun hp => by
  obtain ⟨b, o', ha, hc⟩ := h hp
  simp only [Option.some.injEq, Addr.mk.injEq, and_true] at ha
  obtain ⟨rfl, rfl⟩ := ha
  refine ⟨g, o, rfl, fun j hj => ?_⟩
  have hlt : g < w.heap.size := block_lt_of_cell (hc j hj)
  rw [World.cell?_of_block (a := ⟨g, o + j, none⟩) (hu.block g hlt hg)]
  exact hc j hj

theorem Upd.box {F : Nat → Prop} {w w' : World} {g : Nat} {cs : Array Value} {t : TypeId} (h : Upd F w w') (hb : Box w g cs t) (hg : ¬ F g) : Box w' g cs t := (h.block g hb.lt hg).trans hb
theorem Upd.rowB {F : Nat → Prop} {w w' : World} {g cap : Nat} {ys : List UInt8} (h : Upd F w w') (hb : RowB w g cap ys) (hg : ¬ F g) : RowB w' g cap ys := hb.same (h.block g hb.lt hg)
theorem Rd.part {w : World} {g o : Nat} {xs : List UInt8} (h : Rd w (some ⟨g, o, none⟩) xs) (k n : Nat) : Rd w (some ⟨g, o + k, none⟩) ((xs.drop k).take n) := fun hp => by
  have hk : k < xs.length := by simp at hp; omega
  obtain ⟨b', o', he, hc⟩ := h (by omega)
  simp only [Option.some.injEq, Addr.mk.injEq, and_true] at he
  obtain ⟨rfl, rfl⟩ := he
  refine ⟨g, o + k, rfl, fun j hj => ?_⟩
  have hj' : k + j < xs.length := by simp at hj; omega
  rw [Nat.add_assoc, hc (k + j) hj']
  simp

end Go.Proofs.YtkhejjddmbegaaaGreat.Rc

/-
  Plain facts on bytes: a number in bytes, the highest first, and back; nothing of the program is named here.
-/
namespace Go.Proofs.YtkhejjddmbegaaaGreat.Rc
open Go.RowKit

/-- The number that bytes say, the highest first. -/
def beNat (l : List UInt8) : Nat := l.foldl (fun v c => v * 256 + c.toNat) 0

/-- The lowest n bytes of v, the highest first. -/
def toBE : Nat → Nat → List UInt8
  | 0, _ => []
  | n + 1, v => toBE n (v / 256) ++ [UInt8.ofNat v]

theorem beNat_nil : beNat [] = 0 := rfl
theorem beNat_snoc (l : List UInt8) (c : UInt8) : beNat (l ++ [c]) = beNat l * 256 + c.toNat := by
  simp [beNat, List.foldl_append]

theorem beNat_lt_aux : ∀ (n : Nat) (l : List UInt8), l.length = n → beNat l < 256 ^ n
  | 0, l, h => by
    obtain rfl : l = [] := List.eq_nil_of_length_eq_zero h
    simp [beNat]
  | n + 1, l, h => by
    have hne : l ≠ [] := by intro e; simp [e] at h
    obtain ⟨l', c, rfl⟩ : ∃ l' c, l = l' ++ [c] := ⟨l.dropLast, l.getLast hne, (List.dropLast_concat_getLast hne).symm⟩
    have hl : l'.length = n := by simpa using h
    have ih := beNat_lt_aux n l' hl
    have hc := u8_lt c
    rw [beNat_snoc, Nat.pow_succ]
    omega

theorem beNat_lt (l : List UInt8) : beNat l < 256 ^ l.length := beNat_lt_aux _ l rfl

theorem beNat_take_lt (l : List UInt8) (j : Nat) (hj : j ≤ 8) : beNat (l.take j) < 18446744073709551616 := by
  have h := beNat_lt (l.take j)
  have h2 : 256 ^ (l.take j).length ≤ 256 ^ 8 := Nat.pow_le_pow_right (by omega) (by have := List.length_take_le j l; omega)
  have h3 : 256 ^ 8 = 18446744073709551616 := by decide
  omega

theorem beNat_take_lt7 (l : List UInt8) (j : Nat) (hj : j ≤ 7) : beNat (l.take j) < 72057594037927936 := by
  have h := beNat_lt (l.take j)
  have h2 : 256 ^ (l.take j).length ≤ 256 ^ 7 := Nat.pow_le_pow_right (by omega) (by have := List.length_take_le j l; omega)
  have h3 : 256 ^ 7 = 72057594037927936 := by decide
  omega

theorem toBE_length : ∀ (n v : Nat), (toBE n v).length = n
  | 0, _ => rfl
  | n + 1, v => by simp [toBE, toBE_length n]

theorem beNat_toBE : ∀ (n v : Nat), beNat (toBE n v) = v % 256 ^ n
  | 0, v => by simp [toBE, beNat, Nat.mod_one]
  | n + 1, v => by
    rw [toBE, beNat_snoc, beNat_toBE n, ofNat_toNat, Nat.pow_succ, Nat.mul_comm (256 ^ n) 256, Nat.mod_mul]
    omega

theorem toBE_cons : ∀ (n v : Nat), toBE (n + 1) v = UInt8.ofNat (v / 256 ^ n) :: toBE n v
  | 0, v => by simp [toBE]
  | n + 1, v => by
    rw [toBE, toBE_cons n]
    have e : v / 256 / 256 ^ n = v / 256 ^ (n + 1) := by rw [Nat.div_div_eq_div_mul, Nat.pow_succ, Nat.mul_comm]
    rw [e]
    rfl

theorem toBE_beNat_aux : ∀ (n : Nat) (l : List UInt8), l.length = n → toBE n (beNat l) = l
  | 0, l, h => by
    obtain rfl : l = [] := List.eq_nil_of_length_eq_zero h
    rfl
  | n + 1, l, h => by
    have hne : l ≠ [] := by intro e; simp [e] at h
    obtain ⟨l', c, rfl⟩ : ∃ l' c, l = l' ++ [c] := ⟨l.dropLast, l.getLast hne, (List.dropLast_concat_getLast hne).symm⟩
    have hl : l'.length = n := by simpa using h
    have hc := u8_lt c
    rw [beNat_snoc, toBE, show (beNat l' * 256 + c.toNat) / 256 = beNat l' by omega, toBE_beNat_aux n l' hl]
    congr 1
    congr 1
    apply UInt8.toNat_inj.1
    rw [ofNat_toNat]
    omega

theorem toBE_beNat (l : List UInt8) : toBE l.length (beNat l) = l := toBE_beNat_aux _ l rfl

theorem toBE_mod (n v : Nat) : toBE n (v % 256 ^ n) = toBE n v := by
  have h := toBE_beNat (toBE n v)
  rw [toBE_length, beNat_toBE] at h
  exact h

/-- The window of j bytes from k on, one byte longer. -/
theorem window_succ (xs : List UInt8) (k j : Nat) (h : k + j < xs.length) : (xs.drop k).take (j + 1) = (xs.drop k).take j ++ [xs[k + j]] := by
  rw [List.take_succ_eq_append_getElem (by simp; omega)]
  simp

theorem be_window_succ (xs : List UInt8) (k j : Nat) (h : k + j < xs.length) : beNat ((xs.drop k).take (j + 1)) = beNat ((xs.drop k).take j) * 256 + xs[k + j].toNat := by
  rw [window_succ xs k j h, beNat_snoc]

/-- One more byte, as Go puts it: a shift by eight and an or. -/
theorem or_step (a c : Nat) (ha : a < 72057594037927936) (hc : c < 256) : bits .or .u64 (IntKind.u64.wrap ((a : Int) * 256)) (IntKind.u64.wrap (c : Int)) = ((a * 256 + c : Nat) : Int) := by
  have e1 : IntKind.u64.wrap ((a : Int) * 256) = (a : Int) * 256 := by rw [IntKind.wrap_u64]; omega
  have e2 : IntKind.u64.wrap (c : Int) = (c : Int) := by rw [IntKind.wrap_u64]; omega
  rw [e1, e2, bits_join .u64 64 (by decide) (fun n h0 h1 => by rw [IntKind.wrap_u64]; omega) 8 ((a : Int) * 256) (c : Int) (by omega) (by omega) (by omega) (by omega) (by omega) (by omega)]
  omega

/-- What put has laid behind j rounds: the last j bytes of the window. -/
def putAt (ys : List UInt8) (off n j v : Nat) : List UInt8 := ys.take (off + n - j) ++ (toBE j v ++ ys.drop (off + n))

theorem putAt_zero (ys : List UInt8) (off n v : Nat) : putAt ys off n 0 v = ys := by simp [putAt, toBE]
theorem putAt_length (ys : List UInt8) (off n j v : Nat) (h : off + n ≤ ys.length) (hj : j ≤ n) : (putAt ys off n j v).length = ys.length := by
  simp [putAt, toBE_length]; omega
theorem putAt_succ (ys : List UInt8) (off n j v : Nat) (h : off + n ≤ ys.length) (hj : j < n) :
    (putAt ys off n j v).set (off + (n - 1 - j)) (UInt8.ofNat (v / 256 ^ j)) = putAt ys off n (j + 1) v := by
  unfold putAt
  rw [toBE_cons, show off + n - j = (off + (n - 1 - j)) + 1 by omega, show off + n - (j + 1) = off + (n - 1 - j) by omega]
  rw [List.take_succ_eq_append_getElem (by omega), List.append_assoc]
  rw [List.set_append_right _ _ (by simp; omega)]
  simp [List.length_take]
  rw [show min (off + (n - 1 - j)) ys.length = off + (n - 1 - j) by omega]
  simp

/-- A byte of a shifted number. -/
theorem shr_byte (v j : Nat) : IntKind.u8.wrap ((v : Int) / 2 ^ (8 * j)) = ((UInt8.ofNat (v / 256 ^ j)).toNat : Int) := by
  rw [IntKind.wrap_u8, ofNat_toNat]
  have e : ((2 : Int) ^ (8 * j)) = ((256 ^ j : Nat) : Int) := by
    rw [Int.pow_mul]; simp
  rw [e]
  omega



end Go.Proofs.YtkhejjddmbegaaaGreat.Rc

/-
  What the calls of octets do: numbers that are read and that are put.
-/
namespace Go.Proofs.YtkhejjddmbegaaaGreat.Rc
open Go.RowKit

/-- copy of bytes onto a row of one's own. -/
theorem copy_run (g off dLen dCap : Nat) (d a : Option Addr) (cap : Nat) (xs ys : List UInt8) (u : World) (hg : Own u g ys) (hr : Rd u a xs) (hd : 0 < xs.length → d = some ⟨g, off, none⟩) (hl : xs.length ≤ dLen) (hfit : off + xs.length ≤ ys.length) :
    ∃ W, (∀ ty, (Builtin.copy_ #[41, 41] ty #[.slice d dLen dCap, .slice a xs.length cap]).run Tryz.prog u = .ok (goInt xs.length) W) ∧ Own W g (ys.take off ++ (xs ++ ys.drop (off + xs.length))) ∧ u.grownBy W (some g) := by
  by_cases h0 : xs.length = 0
  · obtain rfl : xs = [] := List.eq_nil_of_length_eq_zero h0
    refine ⟨u, fun ty => ?_, by simpa using hg, World.grownBy.refl _ _⟩
    have h := run_copy_none (P := Tryz.prog) u 41 41 ty 5 d a dLen dCap 0 cap Tryz.underlying41 size5 (by simp)
    exact h
  · obtain ⟨b, o, rfl, hc⟩ := hr (by omega)
    obtain rfl := hd (by omega)
    refine ⟨u.setRow g ((bcs ys).take off ++ bcs xs ++ (bcs ys).drop (off + (bcs xs).length)).toArray, fun ty => ?_, ?_, grown_setRow _ _ _⟩
    · have h := run_copy_row (P := Tryz.prog) u 41 41 ty 5 g off dLen dCap ⟨b, o, none⟩ xs.length cap (bcs ys).toArray 5 (bcs xs) Tryz.underlying41 size5 hg (by rw [bcs_length]; exact (Nat.min_eq_left hl).symm) (fun j v hj => by
          have hj' : j < xs.length := by have := (List.getElem?_eq_some_iff.1 hj).1; simpa [bcs_length] using this
          rw [bcs_getElem? xs j hj'] at hj
          rw [Addr.add_lit, hc j hj']
          exact hj) (by simpa [bcs_length] using hfit) (bcs_oneCell xs)
      rw [h, bcs_length]
    · unfold Own
      rw [setRow_heap u g _ _ 5 _ hg]
      simp [bcs]

set_option maxHeartbeats 400000 in
theorem longer_any (a : Option Addr) (cap more : Nat) (xs : List UInt8) (w : World) (hr : Rd w a xs) (hm : xs.length + more ≤ 281474976710656) :
    Calls Tryz.prog 112 #[.slice a xs.length cap, .int .i64 more] w fun e w' => e = .returned (.slice (some ⟨w.heap.size, 0, none⟩) (xs.length + more) (xs.length + more)) ∧ Own w' w.heap.size (xs ++ List.replicate more 0) ∧ Below w.heap.size w w' := by
  obtain ⟨i0, hi, hz0, hz1, hz2⟩ := info_parts info5
  have hmk : ∀ u : World, (Instr.makeSlice 41 (.int .i64 ((xs.length : Int) + (more : Int))) (.int .i64 ((xs.length : Int) + (more : Int)))).run Tryz.prog u =
      .ok (.slice (some ⟨u.heap.size, 0, none⟩) (xs.length + more) (xs.length + more)) (u.alloc (.cells (madeCells #[.int .u8 0] (xs.length + more)) 5)) := fun u => by
    have h := run_make (P := Tryz.prog) u 41 5 i0 (.int .u8 0) Tryz.underlying41 hi hz0 .i64 .i64 ((xs.length : Int) + (more : Int)) ((xs.length : Int) + (more : Int)) (by omega) (Int.le_refl _) (by rw [hz2]; omega) (by omega)
    have e : ((xs.length : Int) + (more : Int)).toNat = xs.length + more := by omega
    rw [e] at h
    simpa [hz1, Value.cells] using h
  have hb0 : Below w.heap.size w (w.alloc (.cells (madeCells #[.int .u8 0] (xs.length + more)) 5)) := (Below.refl _ _).alloc (Nat.le_refl _) _
  have ho : Own (w.alloc (.cells (madeCells #[.int .u8 0] (xs.length + more)) 5)) w.heap.size (List.replicate (xs.length + more) 0) := by
    rw [made_zero]; exact heap_alloc_new w _
  obtain ⟨W, hcp, hoW, hgW⟩ := copy_run w.heap.size 0 (xs.length + more) (xs.length + more) (some ⟨w.heap.size, 0, none⟩) a cap xs _ _ ho (hr.below hb0 (Nat.le_refl _)) (fun _ => rfl) (by omega) (by simp)
  have hbW : Below w.heap.size w W := hb0.grown hgW (by simp) (fun k hk => by simp at hk; omega)
  have hres : Own W w.heap.size (xs ++ List.replicate more 0) := by
    have e : (List.replicate (xs.length + more) (0 : UInt8)).drop (0 + xs.length) = List.replicate more 0 := by simp
    rw [e] at hoW
    simpa using hoW
  clear hb0 ho hoW hgW hr
  go_enter Tryz.func112, Tryz.ntmps112
  go_wp2
  go_ret
  exact ⟨rfl, hres, hbW⟩

/-- The number of so many bytes from a place on, if all are there. -/
def numAt (xs : List UInt8) (i : Int) (size : Nat) : Option Nat := if 0 ≤ i ∧ i + size ≤ xs.length then some (beNat ((xs.drop i.toNat).take size)) else none

theorem numAt_none {xs : List UInt8} {i : Int} {size : Nat} (h : ¬ (0 ≤ i ∧ i + size ≤ xs.length)) : numAt xs i size = none := by unfold numAt; rw [if_neg h]
theorem numAt_some {xs : List UInt8} {k size : Nat} (h : k + size ≤ xs.length) : numAt xs k size = some (beNat ((xs.drop k).take size)) := by unfold numAt; rw [if_pos (by omega)]; simp
theorem numAt_lt (xs : List UInt8) (i : Int) (size : Nat) : (numAt xs i size).getD 0 < 256 ^ size := by
  unfold numAt
  split
  · have h := beNat_lt ((xs.drop i.toNat).take size)
    have h2 : 256 ^ ((xs.drop i.toNat).take size).length ≤ 256 ^ size := Nat.pow_le_pow_right (by omega) (List.length_take_le _ _)
    simp only [Option.getD_some]
    omega
  · simpa using Nat.pow_pos (by omega)

theorem number_out (a : Option Addr) (n cap : Nat) (i : Int) (size : Nat) (w : World) (hs : size ≤ 8) (hn : n ≤ 9223372036854775807) (h : i < 0 ∨ (n : Int) - size < i) :
    Calls Tryz.prog 110 #[.slice a n cap, .int .i64 i, .int .i64 size] w fun e w' => e = .returned (.tuple #[.int .u64 0, .bool false]) ∧ w = w' := by
  by_cases h1 : i < 0
  · go_enter Tryz.func110, Tryz.ntmps110
    go_wp2
    go_ret2
    exact ⟨rfl, rfl⟩
  · have h2 : (n : Int) - size < i := by omega
    go_enter Tryz.func110, Tryz.ntmps110
    go_wp2
    go_ret2
    exact ⟨rfl, rfl⟩

theorem number_in (b off cap : Nat) (xs : List UInt8) (k size : Nat) (w : World) (hs : size ≤ 8) (hn : xs.length ≤ 9223372036854775807)
    (hc : ∀ j (h : j < xs.length), w.cell? ⟨b, off + j, none⟩ = some (.int .u8 (xs[j].toNat : Int))) (h : k + size ≤ xs.length) :
    Calls Tryz.prog 110 #[.slice (some ⟨b, off, none⟩) xs.length cap, .int .i64 k, .int .i64 size] w fun e w' => e = .returned (.tuple #[.int .u64 (beNat ((xs.drop k).take size)), .bool true]) ∧ w = w' := by
  go_enter Tryz.func110, Tryz.ntmps110
  go_wp2
  go_loop [8, 21] (fun v i => ∃ j : Nat, j ≤ size ∧ i = .int .i64 j ∧ v = .int .u64 (beNat ((xs.drop k).take j))) (fun _ i => size - (intOf i).toNat)
  case atStart => exact ⟨0, Nat.zero_le _, rfl, rfl⟩
  case round =>
    obtain ⟨j, hj, rfl, rfl⟩ := hrel
    by_cases hlt : j < size
    · have hcc := hc (k + j) (by omega)
      go_wp2
      go_round
      case rel => exact ⟨j + 1, by omega, by go_num, by rw [or_step _ _ (beNat_take_lt7 _ _ (by omega)) (u8_lt _), be_window_succ xs k j (by omega)]⟩
      case measure => simp [intOf]; omega
    · obtain rfl : j = size := by omega
      go_wp2
      go_ret2
      exact ⟨rfl, rfl⟩

theorem number_any (a : Option Addr) (cap : Nat) (xs : List UInt8) (i : Int) (size : Nat) (w : World) (hs0 : 0 < size) (hs : size ≤ 8) (hn : xs.length ≤ 9223372036854775807) (hr : Rd w a xs) :
    Calls Tryz.prog 110 #[.slice a xs.length cap, .int .i64 i, .int .i64 size] w fun e w' => e = .returned (.tuple #[.int .u64 ((numAt xs i size).getD 0 : Nat), .bool (numAt xs i size).isSome]) ∧ w = w' := by
  by_cases h : 0 ≤ i ∧ i + size ≤ xs.length
  · obtain ⟨k, rfl⟩ := Int.eq_ofNat_of_zero_le h.1
    have hk : k + size ≤ xs.length := by omega
    obtain ⟨b, o, rfl, hc⟩ := hr (by omega)
    rw [numAt_some hk]
    exact number_in b o cap xs k size w hs hn hc hk
  · rw [numAt_none h]
    exact number_out a xs.length cap i size w hs hn (by omega)

theorem wrap_u8_in (n : Nat) (h : n < 256) : IntKind.u8.wrap (n : Int) = n := by rw [IntKind.wrap_u8]; omega
theorem wrap_u16_in (n : Nat) (h : n < 65536) : IntKind.u16.wrap (n : Int) = n := by simp [IntKind.wrap, IntKind.bits, IntKind.signed]; omega
theorem wrap_u32_in (n : Nat) (h : n < 4294967296) : IntKind.u32.wrap (n : Int) = n := by rw [IntKind.wrap_u32]; omega

theorem u16_any (a : Option Addr) (cap : Nat) (xs : List UInt8) (i : Int) (w : World) (hn : xs.length ≤ 9223372036854775807) (hr : Rd w a xs) :
    Calls Tryz.prog 111 #[.slice a xs.length cap, .int .i64 i] w fun e w' => e = .returned (.tuple #[.int .u16 ((numAt xs i 2).getD 0 : Nat), .bool (numAt xs i 2).isSome]) ∧ w = w' := by
  have hb := numAt_lt xs i 2
  go_enter Tryz.func111, Tryz.ntmps111
  go_wp2_with (go_at_call 110; refine (number_any a cap xs i 2 _ (by omega) (by omega) hn hr).mono ?_; rintro e w' ⟨rfl, rfl⟩)
  go_ret2
  exact ⟨rfl, rfl⟩

theorem u64_any (a : Option Addr) (cap : Nat) (xs : List UInt8) (i : Int) (w : World) (hn : xs.length ≤ 9223372036854775807) (hr : Rd w a xs) :
    Calls Tryz.prog 98 #[.slice a xs.length cap, .int .i64 i] w fun e w' => e = .returned (.tuple #[.int .u64 ((numAt xs i 8).getD 0 : Nat), .bool (numAt xs i 8).isSome]) ∧ w = w' := by
  go_enter Tryz.func98, Tryz.ntmps98
  go_wp2_with (go_at_call 110; refine (number_any a cap xs i 8 _ (by omega) (by omega) hn hr).mono ?_; rintro e w' ⟨rfl, rfl⟩)
  go_ret2
  exact ⟨rfl, rfl⟩

set_option maxHeartbeats 400000 in
theorem put_any (g off n cap : Nat) (ys : List UInt8) (v : Nat) (w : World) (_hv : v < 18446744073709551616) (h : off + n ≤ ys.length) (hn : n ≤ 8) (hg : Own w g ys) :
    Calls Tryz.prog 113 #[.slice (some ⟨g, off, none⟩) n cap, .int .u64 v] w fun e w' => e = .returned (.tuple #[]) ∧ Own w' g (putAt ys off n n v) ∧ w.grownBy w' (some g) := by
  go_enter Tryz.func113, Tryz.ntmps113
  go_wp2
  go_loopw [7] (fun i wr => ∃ j : Nat, j ≤ n ∧ i = .int .i64 j ∧ Own wr g (putAt ys off n j v) ∧ w.grownBy wr (some g)) (fun i _ => n - (intOf i).toNat)
  case atStart => exact ⟨0, Nat.zero_le _, rfl, by rw [putAt_zero]; exact hg, World.grownBy.refl _ _⟩
  case round =>
    obtain ⟨j, hj, rfl, ho, hb⟩ := hrel
    by_cases hlt : j < n
    · have hf := ho.frozen (off + (n - 1 - j))
      have hcl := ho.cell (off + (n - 1 - j)) (by rw [putAt_length _ _ _ _ _ h hj]; omega)
      have hst := ho.store (off + (n - 1 - j)) (UInt8.ofNat (v / 256 ^ j))
      rw [putAt_succ ys off n j v h hlt, ← shr_byte, IntKind.wrap_u8] at hst
      have hgr := grown_trans hb (grown_store wr g (off + (n - 1 - j)) (.int .u8 ((v : Int) / 2 ^ (8 * j) % 256)))
      go_wp2
      go_roundw
      case rel => exact ⟨j + 1, by omega, by go_num, hst, hgr⟩
      case measure => simp [intOf]; omega
    · obtain rfl : j = n := by omega
      go_wp2
      go_end0
      exact ⟨rfl, ho, hb⟩

theorem putAt_behind (xs zs : List UInt8) (n v : Nat) (hz : zs.length = n) : putAt (xs ++ zs) xs.length n n v = xs ++ toBE n v := by
  unfold putAt
  rw [show xs.length + n - n = xs.length by omega, List.take_left, List.drop_eq_nil_of_le (by simp; omega), List.append_nil]

set_option maxHeartbeats 400000 in
theorem addNumber_any (a : Option Addr) (cap : Nat) (xs : List UInt8) (v n : Nat) (w : World) (hv : v < 18446744073709551616) (hn0 : 0 < n) (hn : n ≤ 8) (hm : xs.length + n ≤ 281474976710656) (hr : Rd w a xs) :
    Calls Tryz.prog 106 #[.slice a xs.length cap, .int .u64 v, .int .i64 n] w fun e w' => e = .returned (.slice (some ⟨w.heap.size, 0, none⟩) (xs.length + n) (xs.length + n)) ∧ Own w' w.heap.size (xs ++ toBE n v) ∧ Below w.heap.size w w' := by
  have hsz : ¬ xs.length + n = xs.length := by omega
  go_enter Tryz.func106, Tryz.ntmps106
  go_wp2_with (go_at_call 112; refine (longer_any a cap n xs _ hr hm).mono ?_; rintro e w1 ⟨rfl, ho, hb⟩)
  refine (put_any w.heap.size xs.length n n (xs ++ List.replicate n 0) v w1 hv (by simp) hn ho).mono ?_
  rintro e w2 ⟨rfl, ho2, hg2⟩
  have hb2 : Below w.heap.size w w2 := hb.grown hg2 hb.size (fun k hk => by simp at hk; omega)
  rw [putAt_behind xs _ n v (by simp)] at ho2
  clear ho hb hg2 hr
  go_wp2
  go_ret
  exact ⟨rfl, ho2, hb2⟩

theorem add16_any (a : Option Addr) (cap : Nat) (xs : List UInt8) (v : Nat) (w : World) (hv : v < 65536) (hm : xs.length + 2 ≤ 281474976710656) (hr : Rd w a xs) :
    Calls Tryz.prog 107 #[.slice a xs.length cap, .int .u16 v] w fun e w' => e = .returned (.slice (some ⟨w.heap.size, 0, none⟩) (xs.length + 2) (xs.length + 2)) ∧ Own w' w.heap.size (xs ++ toBE 2 v) ∧ Below w.heap.size w w' := by
  go_enter Tryz.func107, Tryz.ntmps107
  go_wp2_with (go_at_call 106; refine (addNumber_any a cap xs v 2 _ (by omega) (by omega) (by omega) hm hr).mono ?_; rintro e w1 ⟨rfl, ho, hb⟩)
  go_ret
  exact ⟨rfl, ho, hb⟩

theorem add32_any (a : Option Addr) (cap : Nat) (xs : List UInt8) (v : Nat) (w : World) (hv : v < 4294967296) (hm : xs.length + 4 ≤ 281474976710656) (hr : Rd w a xs) :
    Calls Tryz.prog 108 #[.slice a xs.length cap, .int .u32 v] w fun e w' => e = .returned (.slice (some ⟨w.heap.size, 0, none⟩) (xs.length + 4) (xs.length + 4)) ∧ Own w' w.heap.size (xs ++ toBE 4 v) ∧ Below w.heap.size w w' := by
  go_enter Tryz.func108, Tryz.ntmps108
  go_wp2_with (go_at_call 106; refine (addNumber_any a cap xs v 4 _ (by omega) (by omega) (by omega) hm hr).mono ?_; rintro e w1 ⟨rfl, ho, hb⟩)
  go_ret
  exact ⟨rfl, ho, hb⟩

theorem add64_any (a : Option Addr) (cap : Nat) (xs : List UInt8) (v : Nat) (w : World) (hv : v < 18446744073709551616) (hm : xs.length + 8 ≤ 281474976710656) (hr : Rd w a xs) :
    Calls Tryz.prog 95 #[.slice a xs.length cap, .int .u64 v] w fun e w' => e = .returned (.slice (some ⟨w.heap.size, 0, none⟩) (xs.length + 8) (xs.length + 8)) ∧ Own w' w.heap.size (xs ++ toBE 8 v) ∧ Below w.heap.size w w' := by
  go_enter Tryz.func95, Tryz.ntmps95
  go_wp2_with (go_at_call 106; refine (addNumber_any a cap xs v 8 _ (by omega) (by omega) (by omega) hm hr).mono ?_; rintro e w1 ⟨rfl, ho, hb⟩)
  go_ret
  exact ⟨rfl, ho, hb⟩

theorem add16_at (g cap n : Nat) (a : Option Addr) (xs : List UInt8) (v : Nat) (V : Int) (w : World) (hV : V = (v : Int)) (hg : w.heap.size = g) (hn : xs.length = n) (hv : v < 65536) (hm : n + 2 ≤ 281474976710656) (hr : Rd w a xs) :
    Calls Tryz.prog 107 #[.slice a n cap, .int .u16 V] w fun e w' => e = .returned (.slice (some ⟨g, 0, none⟩) (n + 2) (n + 2)) ∧ Own w' g (xs ++ toBE 2 v) ∧ Below g w w' := by
  subst hn hg hV; exact add16_any a cap xs v w hv hm hr
theorem add32_at (g cap n : Nat) (a : Option Addr) (xs : List UInt8) (v : Nat) (V : Int) (w : World) (hV : V = (v : Int)) (hg : w.heap.size = g) (hn : xs.length = n) (hv : v < 4294967296) (hm : n + 4 ≤ 281474976710656) (hr : Rd w a xs) :
    Calls Tryz.prog 108 #[.slice a n cap, .int .u32 V] w fun e w' => e = .returned (.slice (some ⟨g, 0, none⟩) (n + 4) (n + 4)) ∧ Own w' g (xs ++ toBE 4 v) ∧ Below g w w' := by
  subst hn hg hV; exact add32_any a cap xs v w hv hm hr
theorem add64_at (g cap n : Nat) (a : Option Addr) (xs : List UInt8) (v : Nat) (V : Int) (w : World) (hV : V = (v : Int)) (hg : w.heap.size = g) (hn : xs.length = n) (hv : v < 18446744073709551616) (hm : n + 8 ≤ 281474976710656) (hr : Rd w a xs) :
    Calls Tryz.prog 95 #[.slice a n cap, .int .u64 V] w fun e w' => e = .returned (.slice (some ⟨g, 0, none⟩) (n + 8) (n + 8)) ∧ Own w' g (xs ++ toBE 8 v) ∧ Below g w w' := by
  subst hn hg hV; exact add64_any a cap xs v w hv hm hr
theorem u16_at (cap n : Nat) (a : Option Addr) (xs : List UInt8) (i : Int) (v : Nat) (V : Int) (w : World) (hV : (v : Int) = V) (hn : xs.length = n) (hm : n ≤ 9223372036854775807) (hr : Rd w a xs) (hv : numAt xs i 2 = some v) :
    Calls Tryz.prog 111 #[.slice a n cap, .int .i64 i] w fun e w' => e = .returned (.tuple #[.int .u16 V, .bool true]) ∧ w = w' := by
  subst hn hV; have h := u16_any a cap xs i w hm hr; rw [hv] at h; exact h
theorem u64_at (cap n : Nat) (a : Option Addr) (xs : List UInt8) (i : Int) (v : Nat) (V : Int) (w : World) (hV : (v : Int) = V) (hn : xs.length = n) (hm : n ≤ 9223372036854775807) (hr : Rd w a xs) (hv : numAt xs i 8 = some v) :
    Calls Tryz.prog 98 #[.slice a n cap, .int .i64 i] w fun e w' => e = .returned (.tuple #[.int .u64 V, .bool true]) ∧ w = w' := by
  subst hn hV; have h := u64_any a cap xs i w hm hr; rw [hv] at h; exact h
theorem wrap16 (x : Int) : IntKind.u16.wrap x = x % 65536 := by simp [IntKind.wrap, IntKind.bits, IntKind.signed]

theorem numAt_put (pre post : List UInt8) (k v : Nat) (i : Int) (hi : i = (pre.length : Int)) : numAt (pre ++ (toBE k v ++ post)) i k = some (v % 256 ^ k) := by
  subst hi
  rw [numAt_some (by simp [toBE_length])]
  rw [List.drop_left, List.take_append_of_le_length (by simp [toBE_length]), List.take_of_length_le (by simp [toBE_length]), beNat_toBE]

/-- the head of a row of one's own -/
theorem Own.rd_head {w : World} {g : Nat} {xs post : List UInt8} (h : Own w g (xs ++ post)) : Rd w (some ⟨g, 0, none⟩) xs := fun _ => ⟨g, 0, rfl, fun j hj => by
  rw [Nat.zero_add, h.cell j (by simp; omega), List.getElem_append_left hj]⟩

end Go.Proofs.YtkhejjddmbegaaaGreat.Rc

/-
  record's little calls: within, rightStamp, Blocks, stamp, unstamp; bytes.Clone, Equal, HasPrefix.
-/
namespace Go.Proofs.YtkhejjddmbegaaaGreat.Rc
open Go.RowKit

theorem within_at (x a b : Int) (w : World) : Calls Tryz.prog 50 #[.int .i64 x, .int .i64 a, .int .i64 b] w fun e w' => e = .returned (.bool (decide (a ≤ x) && decide (x ≤ b))) ∧ w = w' := by
  by_cases h : a ≤ x
  · go_enter Tryz.func50, Tryz.ntmps50
    go_wp2
    go_ret
    simp [h]
  · go_enter Tryz.func50, Tryz.ntmps50
    go_wp2
    go_ret
    simp
    omega

/-- a right stamp's numbers -/
def okStamp (e s : Int) : Bool := (decide (1 ≤ e) && decide (e ≤ 8388608)) && (decide (1 ≤ s) && decide (s ≤ 549755813888))
theorem okStamp_iff (e s : Int) : okStamp e s = true ↔ (1 ≤ e ∧ e ≤ 8388608) ∧ 1 ≤ s ∧ s ≤ 549755813888 := by simp [okStamp]

theorem rightStamp_at (e s : Int) (w : World) : Calls Tryz.prog 103 #[.int .i64 e, .int .i64 s] w fun x w' => x = .returned (.bool (okStamp e s)) ∧ w = w' := by
  unfold okStamp
  generalize hb : (decide (1 ≤ e) && decide (e ≤ 8388608)) = b
  generalize hc : (decide (1 ≤ s) && decide (s ≤ 549755813888)) = c
  have c1 := within_at e 1 8388608 w
  have c2 := within_at s 1 549755813888 w
  rw [hb] at c1
  rw [hc] at c2
  clear hb hc
  cases b
  all_goals
    go_enter Tryz.func103, Tryz.ntmps103
    go_wp2_with fail
    refine c1.mono ?_
    rintro x w' ⟨rfl, rfl⟩
    clear c1
    go_wp2_with fail
  · go_ret
    exact ⟨by simp, rfl⟩
  · refine c2.mono ?_
    rintro x w' ⟨rfl, rfl⟩
    clear c2
    go_wp2
    go_ret
    exact ⟨by simp, rfl⟩

/-- how many blocks -/
def blocksN (n : Int) : Int := if 1 ≤ n ∧ n ≤ 32 then n + 1 else 0
theorem blocks_at (n : Int) (w : World) : Calls Tryz.prog 26 #[.int .i64 n] w fun x w' => x = .returned (.int .i64 (blocksN n)) ∧ w = w' := by
  have c1 := within_at n 1 32 w
  unfold blocksN
  by_cases h : 1 ≤ n ∧ n ≤ 32
  · have hb : (decide (1 ≤ n) && decide (n ≤ 32)) = true := by simpa using h
    rw [hb] at c1
    rw [if_pos h]
    obtain ⟨h1, h2⟩ := h
    go_enter Tryz.func26, Tryz.ntmps26
    go_wp2_with fail
    refine c1.mono ?_
    rintro x w' ⟨rfl, rfl⟩
    go_wp2
    go_ret
    exact ⟨rfl, rfl⟩
  · have hb : (decide (1 ≤ n) && decide (n ≤ 32)) = false := by simpa using h
    rw [hb] at c1
    rw [if_neg h]
    clear h
    go_enter Tryz.func26, Tryz.ntmps26
    go_wp2_with fail
    refine c1.mono ?_
    rintro x w' ⟨rfl, rfl⟩
    go_wp2
    go_ret
    exact ⟨rfl, rfl⟩

/-- the stamp -/
def stampN (e s : Nat) : Nat := 1099511627776 * e + s
def mark (e s : Nat) : List UInt8 := toBE 8 (stampN e s)
theorem mark_length (e s : Nat) : (mark e s).length = 8 := toBE_length _ _

theorem stamp_or (e s : Nat) (he : e ≤ 8388608) (hs : s < 1099511627776) : bits .or .u64 ((e : Int) * 1099511627776) (s : Int) = ((stampN e s : Nat) : Int) := by
  rw [bits_join .u64 64 (by decide) (fun n h0 h1 => by rw [IntKind.wrap_u64]; omega) 40 ((e : Int) * 1099511627776) (s : Int) (by omega) (by omega) (by omega) (by omega) (by omega) (by omega)]
  unfold stampN
  omega

theorem stamp_at (e s : Nat) (E S : Int) (w : World) (hE : E = (e : Int)) (hS : S = (s : Int)) (he : e ≤ 8388608) (hs : s ≤ 549755813888) :
    Calls Tryz.prog 77 #[.int .i64 E, .int .i64 S] w fun x w' => x = .returned (.slice (some ⟨w.heap.size, 0, none⟩) 8 8) ∧ Own w' w.heap.size (mark e s) ∧ Below w.heap.size w w' := by
  subst hE hS
  have hor := stamp_or e s he (by omega)
  have h1 : IntKind.u64.wrap (e : Int) = (e : Int) := by rw [IntKind.wrap_u64]; omega
  have h2 : IntKind.u64.wrap (s : Int) = (s : Int) := by rw [IntKind.wrap_u64]; omega
  have c := add64_at w.heap.size 0 0 none [] (stampN e s) _ w rfl rfl rfl (by unfold stampN; omega) (by omega) (Rd.nil _ _)
  unfold mark
  generalize stampN e s = V at hor c ⊢
  go_enter Tryz.func77, Tryz.ntmps77
  go_wp2_with fail
  refine c.mono ?_
  rintro x w' ⟨rfl, ho, hb⟩
  go_wp2
  go_ret
  exact ⟨rfl, ho, hb⟩

theorem unstamp_at (v : Nat) (V : Int) (w : World) (hV : V = (v : Int)) (hv : v < 18446744073709551616) :
    Calls Tryz.prog 101 #[.int .u64 V] w fun x w' => x = .returned (.tuple #[.int .i64 ((v / 1099511627776 : Nat) : Int), .int .i64 ((v % 1099511627776 : Nat) : Int)]) ∧ w = w' := by
  subst hV
  have h1 : bits .and .u64 (v : Int) 1099511627775 = ((v % 1099511627776 : Nat) : Int) := by
    have h := bits_mask .u64 64 (by decide) (fun n h0 h1 => by rw [IntKind.wrap_u64]; omega) 40 (by decide) (v : Int) (by omega) (by omega)
    simpa using h
  have h2 : IntKind.i64.wrap ((v : Int) / 1099511627776) = ((v / 1099511627776 : Nat) : Int) := by rw [IntKind.wrap_i64]; omega
  have h3 : IntKind.i64.wrap ((v % 1099511627776 : Nat) : Int) = ((v % 1099511627776 : Nat) : Int) := by rw [IntKind.wrap_i64]; omega
  generalize ((v % 1099511627776 : Nat) : Int) = X at h1 h3 ⊢
  go_enter Tryz.func101, Tryz.ntmps101
  go_wp2
  go_ret2
  exact ⟨by simp, rfl⟩

theorem equal_at (ca cb n m : Nat) (a b : Option Addr) (xs ys : List UInt8) (w : World) (hn : xs.length = n) (hm : ys.length = m) (ha : Rd w a xs) (hb : Rd w b ys) :
    Calls Tryz.prog 102 #[.slice a n ca, .slice b m cb] w fun e w' => e = .returned (.bool (xs == ys)) ∧ w = w' := by
  subst hn hm
  have h1 := conv_run w a ca xs ha
  have h2 := conv_run w b cb ys hb
  go_enter Tryz.func102, Tryz.ntmps102
  go_wp2
  go_ret
  exact ⟨rfl, rfl⟩

/-- of a sector, and of eight bytes -/
theorem prefix_at (ca cb g o : Nat) (b : Option Addr) (xs ys : List UInt8) (w : World) (hn : xs.length = 512) (hm : ys.length = 8) (hca : 512 ≤ ca) (ha : Rd w (some ⟨g, o, none⟩) xs) (hb : Rd w b ys) :
    Calls Tryz.prog 104 #[.slice (some ⟨g, o, none⟩) 512 ca, .slice b 8 cb] w fun e w' => e = .returned (.bool (xs.take 8 == ys)) ∧ w = w' := by
  have hr : Rd w (some ⟨g, o, none⟩) (xs.take 8) := by
    have := ha.part 0 8
    simpa using this
  have c := equal_at ca cb 8 8 _ _ (xs.take 8) ys w (by simp; omega) hm hr hb
  have hca2 : 8 ≤ ca := by omega
  generalize (xs.take 8 == ys) = q at c ⊢
  go_enter Tryz.func104, Tryz.ntmps104
  go_wp2_with fail
  refine c.mono ?_
  rintro e w' ⟨rfl, rfl⟩
  go_wp2
  go_ret
  exact ⟨by simp, rfl⟩

set_option maxRecDepth 100000 in
/-- bytes.Clone of some bytes -/
theorem clone_at (cap n g o : Nat) (xs : List UInt8) (w : World) (hl : xs.length = n) (h0 : 0 < n) (hn : n ≤ 140737488355328) (hr : Rd w (some ⟨g, o, none⟩) xs) :
    Calls Tryz.prog 34 #[.slice (some ⟨g, o, none⟩) n cap] w fun e w' => ∃ h c, e = .returned (.slice (some ⟨h, 0, none⟩) n c) ∧ w.heap.size ≤ h ∧ RowB w' h c xs ∧ Below w.heap.size w w' := by
  obtain ⟨i0, hi, hz0, hz1, hz2⟩ := info_parts info5
  have hm : n ≤ maxLen := by unfold maxLen; omega
  have hq : ∀ u : World, (binOp .eql 41 (.slice (some ⟨g, o, none⟩) n cap) (.slice none 0 0)).run Tryz.prog u = .ok (.bool false) u := fun u => Lib.run_eql_slice_nil u 41 5 (some ⟨g, o, none⟩) n cap 0 0 Tryz.underlying41
  have o1 : (w.alloc (.cells #[] 5)).ownsRow w.heap.size 5 1 (.slice (some ⟨w.heap.size, 0, none⟩) 0 0) 0 [] := ⟨rfl, .inr ⟨w.heap.size, 0, #[], rfl, Nat.le_refl _, heap_alloc_new w _, Nat.le_refl _, by simp [maxLen], rfl, rfl⟩⟩
  have hr1 := hr.below ((Below.refl w.heap.size w).alloc (Nat.le_refl _) (.cells #[] 5)) (Nat.le_refl _)
  have B1 := (Below.refl w.heap.size w).alloc (Nat.le_refl _) (.cells #[] 5)
  go_enter Tryz.func34, Tryz.ntmps34
  go_wp2_with (at_builtin; refine wpList_append_bytes rfl _ _ rfl w.heap.size _ 0 [] rfl o1 (some ⟨g, o, none⟩) n cap xs rfl hl hr1 (fun h => by cases h) (by omega) (by simp) ?_)
  intro v' w1 hown hgrow
  have hown1 : w1.ownsRow w.heap.size 5 1 v' n (bcs xs) := by simpa using hown
  have hb : Below w.heap.size w w1 := B1.grown hgrow (by simp) (fun k hk => by simp [Value.ownBlock] at hk; omega)
  obtain ⟨h, c, rfl, hh, hrow⟩ := RowB.owns hown1 h0
  clear hgrow hown hown1 o1 B1 hr1
  go_wp2
  go_ret
  exact ⟨h, c, rfl, hh, hrow, hb⟩

end Go.Proofs.YtkhejjddmbegaaaGreat.Rc

/-
  Reserve and Cancel on a journal that Open did not answer; what a journal tells.
-/
namespace Go.Proofs.YtkhejjddmbegaaaGreat.J
open Go.RowKit
open Go.Proofs.YtkhejjddmbegaaaGreat.Dk (Box)

theorem below_drewN {B : Nat} {a w : World} (h : Below B a w) (n : Nat) : Below B a (w.drewN n) := ⟨h.os, h.tape, h.output, h.size, h.block⟩
theorem asked_no {w : World} {g dg : Nat} {vs : Value} {J : JS} (h : Box w g (jC g dg vs J) 105) (e : Int) (he : e ≠ 0) :
    Calls Tryz.prog 85 #[.pointer (some ⟨g, 0, none⟩), .int .i64 e] w fun r w' => r = .returned (.int .i64 e) ∧ w' = w.setCell ⟨g, 11, none⟩ (.bool true) := by
  have c11 := h.cell 11
  have f11 := h.frozen 11
  unfold jC at c11
  simp at c11
  go_enter Tryz.func85, Tryz.ntmps85
  go_wp2_with fail
  go_ret
  exact ⟨rfl, rfl⟩
end Go.Proofs.YtkhejjddmbegaaaGreat.J
