/-
  JOps2: put together.
-/
import Derived.Test.YtglahlbponlepaaGreatG9
/-
  What an Append does to it; what is read.
-/
namespace Go.Proofs.YtglahlbponlepaaGreat.J
open Go.RowKit
open Go.Proofs.YtglahlbponlepaaGreat.Dk (Box)

/-- a group was appended, and is not yet in the line -/
structure StA (w : World) (g dg i : Nat) (nx sy T H : Nat) (gs : List G) (q : G) (v9 : Value) (u : World) : Prop where
  ex : ∃ D F, JD u g dg (jN nx sy T (tot (gs ++ [q])) H) (szs (gs ++ [q])) D F ∧ Calm D ∧ D.nb = 64 ∧ D.Ok ∧ D.uf.length ≤ 5 * i ∧ D.n ≤ 1000 + 5 * i ∧ Whl D (gs ++ [q]) ∧ Ln w.heap.size F u v9 gs ∧ (∀ p ∈ gs ++ [q], ImF F u p.al p.n p.cl (grpL p.N p.n)) ∧ (∀ k, F k → w.heap.size ≤ k)
  bel : Below w.heap.size w u
  T16 : T < 16
  room : tot (gs ++ [q]) + H ≤ 16
  chain : Chain T (nx - (gs ++ [q]).length) (gs ++ [q])
  nlen : (gs ++ [q]).length + 1 ≤ nx
  nxi : nx ≤ i + 1

/-- beside it images that were made, none of them the journal's -/
structure StI (w : World) (g dg i : Nat) (nx sy T H : Nat) (gs : List G) (n N : Nat) (al : Option Addr) (cap : Nat) (v9 : Value) (u : World) : Prop where
  ex : ∃ D F, (JD u g dg (jN nx sy T (tot gs) H) (szs gs) D F ∧ Calm D ∧ D.nb = 64 ∧ D.Ok ∧ D.uf.length ≤ 5 * i ∧ D.n ≤ 1000 + 5 * i ∧ Whl D gs ∧ Ln w.heap.size F u v9 gs ∧ (∀ q ∈ gs, ImF F u q.al q.n q.cl (grpL q.N q.n)) ∧ (∀ k, F k → w.heap.size ≤ k)) ∧ ImF F u al n cap (grpL N n)
  bel : Below w.heap.size w u
  T16 : T < 16
  room : tot gs + H ≤ 16
  chain : Chain T (nx - gs.length) gs
  nlen : gs.length + 1 ≤ nx
  nxi : nx ≤ i + 1

section
variable {w u u' : World} {g dg i nx sy T H n N cap : Nat} {al : Option Addr} {gs : List G} {v9 : Value}
theorem St.img (h : St w g dg i nx sy T H gs v9 u) (hI : ∀ F : Nat → Prop, (∀ k, F k → k < u.heap.size) → ImF F u' al n cap (grpL N n)) (b : Below u.heap.size u u') : StI w g dg i nx sy T H gs n N al cap v9 u' := by
  obtain ⟨⟨D, F, j, c, nb, ok, l1, l2, wl, ln, im, hF⟩, bel, t, r, ch, nl, ni⟩ := h
  exact ⟨⟨D, F, ⟨j.below j.flt b b.size, c, nb, ok, l1, l2, wl, ln.below b, fun q hq => (im q hq).below b, hF⟩, hI F j.flt⟩, bel.trans (b.mono bel.size), t, r, ch, nl, ni⟩
theorem StI.st (h : StI w g dg i nx sy T H gs n N al cap v9 u) : St w g dg i nx sy T H gs v9 u := by
  obtain ⟨⟨D, F, e, _⟩, bel, t, r, ch, nl, ni⟩ := h
  exact ⟨⟨D, F, e⟩, bel, t, r, ch, nl, ni⟩
theorem StA.below {q : G} (h : StA w g dg i nx sy T H gs q v9 u) (b : Below u.heap.size u u') : StA w g dg i nx sy T H gs q v9 u' := by
  obtain ⟨⟨D, F, j, c, nb, ok, l1, l2, wl, ln, im, hF⟩, bel, t, r, ch, nl, ni⟩ := h
  exact ⟨⟨D, F, j.below j.flt b b.size, c, nb, ok, l1, l2, wl, ln.below b, fun q hq => (im q hq).below b, hF⟩, bel.trans (b.mono bel.size), t, r, ch, nl, ni⟩
end

section
variable {w u u' : World} {g dg i nx sy T H : Nat} {gs : List G} {v9 : Value}
/-- it is put into the line -/
theorem StA.line {q : G} (h : StA w g dg i nx sy T H gs q v9 u) (ga : Nat) (hx : Box u ga #[.int .i64 (q.seq : Int), .int .i64 (q.at_ : Int), .slice q.al q.n q.cl] 34) (hi : i ≤ 50) (ty : TypeId) :
    ∃ v' u', (Builtin.append_ #[28, 28] ty #[v9, .slice (some ⟨ga, 0, none⟩) 1 1]).run Tryz.prog u = .ok v' u' ∧ St w g dg i nx sy T H (gs ++ [q]) v' u' := by
  obtain ⟨⟨D, F, j, c, nb, ok, l1, l2, wl, ln, im, hF⟩, bel, t, rm, ch, nl, ni⟩ := h
  have hl : gs.length ≤ 1000 := by rw [List.length_append] at nl; omega
  obtain ⟨v', u', hr, hl', hb, hs, hk⟩ := ln.append bel.size j.flt ty ga q hx hl
  refine ⟨v', u', hr, ⟨⟨D, F, j.kept (fun k hF' => ?_) hs, c, nb, ok, l1, l2, wl, hl', fun p hp => (im p hp).kept (fun k hk1 hk2 => hk k hk1 (fun e => by
    obtain ⟨_, cur, hb⟩ := ln.own e
    exact hk2 cur hb)), hF⟩, bel.trans hb, t, rm, ch, nl, ni⟩⟩
  exact hk k (j.flt k hF') (fun e => (ln.own e).1 hF')

theorem wpList_append_ran {w : World} {ops : Array Oper} {rest : List Oper} {o : Oper} {a : Act} {Q : Exit → Act → World → Prop} (hgd : o.guard = none) (sl x : Operand) (t u : TypeId)
    (ho : o.op = .call { callee := .builtin .append, args := #[sl, x], argTypes := #[t, u] }) (v s v' : Value) (W : World) (hs : a.eval sl = v) (hx : a.eval x = s)
    (hrun : (Builtin.append_ #[t, u] o.type #[v, s]).run Tryz.prog w = .ok v' W) (h : wpList Tryz.prog ops Q rest (a.put o.dst v') W) : wpList Tryz.prog ops Q (o :: rest) a w := by
  refine wpList_plain hgd fun K hK => ?_
  unfold Oper.wp execOp
  simp only [ho, resolve, invoke, builtin, Sem.run_bind, Sem.run_pure, Result.andThen_ok, List.map_toArray, List.map_cons, List.map_nil, hs, hx, hrun]
  exact hK _ _ h
theorem images_imf (n N : Nat) (w : World) (b c : Nat) (hc : ∀ j (h : j < (rowL n).length), w.cell? ⟨b, 0 + j, none⟩ = some (.int .i64 (rowL n)[j])) (hn : n ≤ 40) (hN : N ≤ 2000000) :
    Calls Tryz.prog 9 #[.slice (some ⟨b, 0, none⟩) n c, .int .i64 (N : Int)] w fun r w' => ∃ a' c', r = .returned (.slice a' n c') ∧ (∀ F : Nat → Prop, (∀ i, F i → i < w.heap.size) → ImF F w' a' n c' (grpL N n)) ∧ Below w.heap.size w w' := by
  refine (images_at w b 0 n c N (rowL n) (rowL_length n) hn hN hc).mono ?_
  rintro r w' ⟨a', c', qs, rfl, ho, hj, hq, hb⟩
  have hlen : qs.length = n := by
    have := congrArg List.length hq
    simpa [imgL_length] using this
  refine ⟨a', c', rfl, fun F hF => ⟨qs, ?_, ⟨fun p hp => ?_, hj.apart⟩, hlen, hq, fun k hk hf => ?_, fun q hq' hf => ?_⟩, hb⟩
  · refine ⟨ho.1, ?_⟩
    rcases ho.2 with h1 | ⟨g', cap, cur, e, _, r⟩
    · exact .inl h1
    · exact .inr ⟨g', cap, cur, e, Nat.zero_le _, r⟩
  · obtain ⟨a1, _, a3⟩ := hj.rows p hp
    exact ⟨a1, Nat.zero_le _, a3⟩
  · have := (ho.lt k hk).1
    have := hF k hf
    omega
  · have := (hj.rows q hq').2.1
    have := hF q.h hf
    omega

theorem St.append (n N : Nat) (al : Option Addr) (cap : Nat) (h : StI w g dg i nx sy T H gs n N al cap v9 u) (hi : i ≤ 40) (h1 : 1 ≤ n) (h2 : n ≤ 4) (hN : N ≤ 2000000) (hr : tot gs + H + (n + 1) ≤ 16) :
    Calls Tryz.prog 11 #[.pointer (some ⟨g, 0, none⟩), .slice al n cap, .bool false] u fun r u' => r = .returned (.tuple #[.int .i64 (nx : Int), .int .i64 0]) ∧ StA w g dg (i + 1) (nx + 1) sy T H gs ⟨nx, (T + tot gs) % 16, n, N, al, cap⟩ v9 u' := by
  obtain ⟨⟨D, F, ⟨j, c, nb, ok, l1, l2, wl, ln, im, hF⟩, him⟩, bel, t, rm, ch, nl, ni⟩ := h
  have hfr := jN_fr nx sy T (tot gs) H t rm
  have hst : Rc.okStamp (jN nx sy T (tot gs) H).epoch (jN nx sy T (tot gs) H).next = true := by
    rw [Rc.okStamp_iff]
    show ((1 : Int) ≤ 1 ∧ (1 : Int) ≤ 8388608) ∧ 1 ≤ (nx : Int) ∧ (nx : Int) ≤ 549755813888
    omega
  have hlen := szs_length gs
  refine (append_ok (cap := cap) j rfl (grpL_length N n) him.imgs (grpL_ok _ _ N n h1 (by omega) hst) (jN_R _ _ _ _ _ t rm) (by rw [hfr]; omega) rfl c (by show (16 : Int) ≤ 64; omega) (by rw [nb]; show (2 : Int) + 16 ≤ ((64 : Nat) : Int); omega) (by omega) (by omega) (by omega)).mono ?_
  rintro r u' ⟨rfl, F', j', hF', hU⟩
  have hat : (((jN nx sy T (tot gs) H).T + (jN nx sy T (tot gs) H).U) % (jN nx sy T (tot gs) H).S).toNat = (T + tot gs) % 16 := by
    show (((T : Int) + (tot gs : Int)) % 16).toNat = _
    omega
  rw [hat] at j'
  have ej : ({ jN nx sy T (tot gs) H with next := (jN nx sy T (tot gs) H).next + 1, U := (jN nx sy T (tot gs) H).U + ((n + 1 : Nat) : Int), H := (jN nx sy T (tot gs) H).H - 0 } : JS) = jN (nx + 1) sy T (tot (gs ++ [⟨nx, (T + tot gs) % 16, n, N, al, cap⟩])) H := by
    rw [tot_snoc]
    simp [jN]
  rw [ej, ← szs_snoc gs ⟨nx, (T + tot gs) % 16, n, N, al, cap⟩] at j'
  have e16 : (jN nx sy T (tot gs) H).S.toNat = 16 := rfl
  have e1 : (jN nx sy T (tot gs) H).epoch.toNat = 1 := rfl
  have e2 : (jN nx sy T (tot gs) H).next.toNat = nx := by show ((nx : Int)).toNat = nx; omega
  rw [e16, e1, e2] at j'
  refine ⟨rfl, ⟨⟨_, F', j', c, nb, j'.ok, ?_, ?_, wl.grow ch ⟨nx, (T + tot gs) % 16, n, N, al, cap⟩ rfl (by show tot gs + (n + 1) ≤ 16; omega), ln.upd hU hF', fun p hp => ?_, fun k hk => (hF' k hk).elim (hF k) (Nat.le_trans bel.size)⟩, below_upd bel hU hF bel.size, t, by rw [tot_snoc]; show tot gs + (n + 1) + _ ≤ 16; omega, ?_, by simp; omega, by omega⟩⟩
  · show (D.uf ++ wrs 16 _ _ (n + 1)).length ≤ _
    rw [List.length_append, wrs_length]
    omega
  · show D.n + (n + 1) ≤ _
    omega
  · rcases List.mem_append.1 hp with hp | hp
    · exact (im p hp).upd hU hF'
    · obtain rfl : p = ⟨nx, (T + tot gs) % 16, n, N, al, cap⟩ := by simpa using hp
      exact him.upd hU hF'
  · rw [show nx + 1 - (gs ++ [(⟨nx, (T + tot gs) % 16, n, N, al, cap⟩ : G)]).length = nx - gs.length by simp]
    exact chain_snoc _ gs T _ ch (by show nx = _; omega) rfl ⟨h1, h2⟩ hN
theorem St.held (n N : Nat) (al : Option Addr) (cap : Nat) (h : StI w g dg i nx sy T H gs n N al cap v9 u) (hi : i ≤ 40) (h1 : 1 ≤ n) (h2 : n ≤ 4) (hN : N ≤ 2000000) (hr : n + 1 ≤ H) :
    Calls Tryz.prog 11 #[.pointer (some ⟨g, 0, none⟩), .slice al n cap, .bool true] u fun r u' => r = .returned (.tuple #[.int .i64 (nx : Int), .int .i64 0]) ∧ StA w g dg (i + 1) (nx + 1) sy T (H - (n + 1)) gs ⟨nx, (T + tot gs) % 16, n, N, al, cap⟩ v9 u' := by
  obtain ⟨⟨D, F, ⟨j, c, nb, ok, l1, l2, wl, ln, im, hF⟩, him⟩, bel, t, rm, ch, nl, ni⟩ := h
  have hfr := jN_fr nx sy T (tot gs) H t rm
  have hst : Rc.okStamp (jN nx sy T (tot gs) H).epoch (jN nx sy T (tot gs) H).next = true := by
    rw [Rc.okStamp_iff]
    show ((1 : Int) ≤ 1 ∧ (1 : Int) ≤ 8388608) ∧ 1 ≤ (nx : Int) ∧ (nx : Int) ≤ 549755813888
    omega
  have hlen := szs_length gs
  refine (append_held (cap := cap) j rfl (grpL_length N n) him.imgs (grpL_ok _ _ N n h1 (by omega) hst) (jN_R _ _ _ _ _ t rm) (by show (_ : Int) ≤ (H : Int); omega) rfl c (by show (16 : Int) ≤ 64; omega) (by rw [nb]; show (2 : Int) + 16 ≤ ((64 : Nat) : Int); omega) (by omega) (by omega) (by omega)).mono ?_
  rintro r u' ⟨rfl, F', j', hF', hU⟩
  have hat : (((jN nx sy T (tot gs) H).T + (jN nx sy T (tot gs) H).U) % (jN nx sy T (tot gs) H).S).toNat = (T + tot gs) % 16 := by
    show (((T : Int) + (tot gs : Int)) % 16).toNat = _
    omega
  rw [hat] at j'
  have ej : ({ jN nx sy T (tot gs) H with next := (jN nx sy T (tot gs) H).next + 1, U := (jN nx sy T (tot gs) H).U + ((n + 1 : Nat) : Int), H := (jN nx sy T (tot gs) H).H - ((n + 1 : Nat) : Int) } : JS) = jN (nx + 1) sy T (tot (gs ++ [⟨nx, (T + tot gs) % 16, n, N, al, cap⟩])) (H - (n + 1)) := by
    rw [tot_snoc]
    have : ((H - (n + 1) : Nat) : Int) = (H : Int) - ((n + 1 : Nat) : Int) := by omega
    simp only [jN, this]
    simp
  rw [ej, ← szs_snoc gs ⟨nx, (T + tot gs) % 16, n, N, al, cap⟩] at j'
  have e16 : (jN nx sy T (tot gs) H).S.toNat = 16 := rfl
  have e1 : (jN nx sy T (tot gs) H).epoch.toNat = 1 := rfl
  have e2 : (jN nx sy T (tot gs) H).next.toNat = nx := by show ((nx : Int)).toNat = nx; omega
  rw [e16, e1, e2] at j'
  refine ⟨rfl, ⟨⟨_, F', j', c, nb, j'.ok, ?_, ?_, wl.grow ch ⟨nx, (T + tot gs) % 16, n, N, al, cap⟩ rfl (by show tot gs + (n + 1) ≤ 16; omega), ln.upd hU hF', fun p hp => ?_, fun k hk => (hF' k hk).elim (hF k) (Nat.le_trans bel.size)⟩, below_upd bel hU hF bel.size, t, by rw [tot_snoc]; show tot gs + (n + 1) + _ ≤ 16; omega, ?_, by simp; omega, by omega⟩⟩
  · show (D.uf ++ wrs 16 _ _ (n + 1)).length ≤ _
    rw [List.length_append, wrs_length]
    omega
  · show D.n + (n + 1) ≤ _
    omega
  · rcases List.mem_append.1 hp with hp | hp
    · exact (im p hp).upd hU hF'
    · obtain rfl : p = ⟨nx, (T + tot gs) % 16, n, N, al, cap⟩ := by simpa using hp
      exact him.upd hU hF'
  · rw [show nx + 1 - (gs ++ [(⟨nx, (T + tot gs) % 16, n, N, al, cap⟩ : G)]).length = nx - gs.length by simp]
    exact chain_snoc _ gs T _ ch (by show nx = _; omega) rfl ⟨h1, h2⟩ hN
theorem St.full (h : St w g dg i nx sy T H gs v9 u) (hi : i ≤ 40) (n N : Nat) (al : Option Addr) (cap : Nat) (h1 : 1 ≤ n) (h2 : n ≤ 4) (hI : Rc.Imgs u al (grpL N n)) (hr : ¬ tot gs + H + (n + 1) ≤ 16) :
    Calls Tryz.prog 11 #[.pointer (some ⟨g, 0, none⟩), .slice al n cap, .bool false] u fun r u' => r = .returned (.tuple #[.int .i64 0, .int .i64 5]) ∧ St w g dg i nx sy T H gs v9 u' := by
  have h' := h
  obtain ⟨⟨D, F, j, c, nb, ok, l1, l2, wl, ln, im, hF⟩, bel, t, rm, ch, nl, ni⟩ := h
  have hfr := jN_fr nx sy T (tot gs) H t rm
  have hst : Rc.okStamp (jN nx sy T (tot gs) H).epoch (jN nx sy T (tot gs) H).next = true := by
    rw [Rc.okStamp_iff]
    show ((1 : Int) ≤ 1 ∧ (1 : Int) ≤ 8388608) ∧ 1 ≤ (nx : Int) ∧ (nx : Int) ≤ 549755813888
    omega
  obtain ⟨a, cc, hb⟩ := j.box
  refine (append_full (cap := cap) hb rfl (grpL_length N n) hI (grpL_ok _ _ N n h1 (by omega) hst) (by show ¬ ((16 : Int) < _); omega) (jN_R _ _ _ _ _ t rm) (by rw [hfr]; omega)).mono ?_
  rintro r u' ⟨rfl, b⟩
  exact ⟨rfl, h'.below b⟩
/-- a block of one of the groups is read -/
theorem St.read (h : St w g dg i nx sy T H gs v9 u) (hi : i ≤ 40) (m : Nat) (hm : m < gs.length) (b : Nat) (hb : b ≤ (gs[m]).n) (P : Int) (hP : P = ((2 + ((gs[m]).at_ + b) % 16 : Nat) : Int)) :
    Calls Tryz.prog 13 #[.pointer (some ⟨dg, 0, none⟩), .int .i64 P] u fun r u' => ∃ gr cr, r = .returned (.tuple #[.slice (some ⟨gr, 0, none⟩) 4096 cr, .int .i64 0]) ∧ u.heap.size ≤ gr ∧ Rc.RowB u' gr cr ((Rc.putL 1 (gs[m]).seq (grpL (gs[m]).N (gs[m]).n)).getD b []) ∧ Below u.heap.size u u' := by
  subst hP
  obtain ⟨⟨D, F, j, c, nb, ok, l1, l2, wl, ln, im, hF⟩, bel, t, rm, ch, nl, ni⟩ := h
  obtain ⟨Fd, hd, _⟩ := j.disk
  have hlt := Nat.mod_lt ((gs[m]).at_ + b) (show 0 < 16 by decide)
  have := Dk.read_at hd (2 + ((gs[m]).at_ + b) % 16) (by omega) c.1 (by omega)
  rw [wl _ (List.getElem_mem hm) b hb] at this
  exact this
end
end Go.Proofs.YtglahlbponlepaaGreat.J
