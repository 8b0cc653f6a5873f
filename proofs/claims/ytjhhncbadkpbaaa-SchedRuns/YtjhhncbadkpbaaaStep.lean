/-
  step: a task's Step is called through the interface.
-/
import Derived.Test.YtjhhncbadkpbaaaEnd
namespace Go.Proofs.Ytjhhncbadkpbaaa
open Go.RowKit

/-- what a step makes of the sched that Step left -/
def SS.fin (S : SS) (i : Nat) (e : En) (st : Nat) : SS :=
  if st = 1 ∨ (st = 2 ∧ S.wk = true) then { S with now := none, E := S.E.set i ⟨e.task, 1, e.n + 1⟩, L := S.L ++ [i] }
  else if st = 2 then { S with now := none, E := S.E.set i ⟨e.task, 2, e.n + 1⟩ }
  else { S with now := none, E := S.E.set i ⟨.nilIface, 3, e.n + 1⟩ }
theorem Sh.now {w : World} {B s : Nat} {S : SS} {vt va vl : Value} (h : Sh w B s S vt va vl) (o : Option Nat) (ho : ∀ i, o = some i → i < S.G.length) : Sh (w.setCell ⟨s, 4, none⟩ (SS.nv { S with now := o })) B s { S with now := o } vt va vl :=
  ⟨h.rows.set 4 _ _ S.wk rfl, h.ents.kt ((Kt.refl (fun t => t ≠ 63) _).setCell h.rows.box (by simp) 4 _) (by decide), h.ll, ho⟩
theorem Sh.wk {w : World} {B s : Nat} {S : SS} {vt va vl : Value} (h : Sh w B s S vt va vl) (b : Bool) : Sh (w.setCell ⟨s, 5, none⟩ (.bool b)) B s { S with wk := b } vt va vl :=
  ⟨h.rows.set 5 _ S.nv b rfl, h.ents.kt ((Kt.refl (fun t => t ≠ 63) _).setCell h.rows.box (by simp) 5 _) (by decide), h.ll, h.hn⟩
theorem Sh.ent {w : World} {B s : Nat} {S : SS} {vt va vl : Value} (h : Sh w B s S vt va vl) (i : Nat) (hi : i < S.G.length) (e e' : En) (he : S.E[i]? = some e) (j : Nat) (v : Value) (hc : (enC i e).setIfInBounds j v = enC i e') (h1 : e.st ≠ 3) (h2 : e'.st ≠ 3) : Sh (w.setCell ⟨S.G[i], j, none⟩ v) B s { S with E := S.E.set i e' } vt va vl := by
  refine ⟨?_, h.ents.set i hi e e' he j v hc, h.ll, h.hn⟩
  have := h.rows.kt ((Kt.refl (fun t => t ≠ 70) _).setCell (h.ents.en i hi e he) (by simp) j v) (by decide) (by decide)
  show Rws _ B s vt va vl S.nv S.wk S.G (alv (S.E.set i e') S.G) _
  rw [alv_set S.E S.G i e e' he h1 h2]
  exact this
theorem Sh.set_to {w : World} {B s : Nat} {S : SS} {vt va vl : Value} (h : Sh w B s S vt va vl) (j : Nat) (v : Value) : Below B w (w.setCell ⟨s, j, none⟩ v) ∧ Kt Oth w (w.setCell ⟨s, j, none⟩ v) :=
  ⟨(Below.refl _ _).setCell (p := ⟨s, j, none⟩) h.rows.hs _, ((Kt.refl (fun t => t ≠ 63) _).setCell h.rows.box (by simp) j v).mono (fun _ ht => ht.2.1)⟩
theorem Sh.ent_to {w : World} {B s : Nat} {S : SS} {vt va vl : Value} (h : Sh w B s S vt va vl) (i : Nat) (hi : i < S.G.length) (e : En) (he : S.E[i]? = some e) (j : Nat) (v : Value) : Below B w (w.setCell ⟨S.G[i], j, none⟩ v) ∧ Kt Oth w (w.setCell ⟨S.G[i], j, none⟩ v) :=
  ⟨(Below.refl _ _).setCell (p := ⟨S.G[i], j, none⟩) (h.ents.hG _ (List.getElem_mem _)) _, ((Kt.refl (fun t => t ≠ 70) _).setCell (h.ents.en i hi e he) (by simp) j v).mono (fun _ ht => ht.2.2)⟩

/-- a task whose Step is a known function -/
structure Tsk (t : TypeId) (x : Value) (f : Nat) : Prop where
  m : ∀ u : World, (method 196 t x "Step").run Try.prog u = .ok (f, x) u
  hin : ∀ args u, (callFunc f args).run Try.prog u = .ok (.enter f args) u
set_option maxRecDepth 20000 in
set_option maxHeartbeats 2000000 in
theorem step_at {w : World} {B s : Nat} {S : SS} (h : IsS w B s S) (i : Nat) (t : TypeId) (x : Value) (n : Nat) (he : S.E[i]? = some ⟨.iface t x, 1, n⟩) (hi : i < S.G.length) (hn : n < 1000000) (f : Nat) (hf : Tsk t x f)
    (R : Nat → SS → World → Prop)
    (hS : ∀ w1, To w B s { S with now := some i, wk := false } w1 → Calls Try.prog f #[x] w1 fun r w2 => ∃ st S2, r = .returned (.int .u8 ((st : Nat) : Int)) ∧ st < 200 ∧ IsS w2 B s S2 ∧ Below B w1 w2 ∧ S2.G = S.G ∧ S2.now = some i ∧ S2.E[i]? = some ⟨.iface t x, 1, n⟩ ∧ S2.L.length < 1000000 ∧ R st S2 w2) :
    Calls Try.prog 26 #[ptr s, ptr S.G[i]] w fun r w' => r = .returned (.tuple #[]) ∧ ∃ st S2 w2, IsS w2 B s S2 ∧ R st S2 w2 ∧ S2.G = S.G ∧ S2.now = some i ∧ S2.E[i]? = some ⟨.iface t x, 1, n⟩ ∧ To w2 B s (S2.fin i ⟨.iface t x, 1, n⟩ st) w' ∧ Below B w w' := by
  obtain ⟨vt, va, vl, h⟩ := h
  have c4 : w.cell? ⟨s, 4, none⟩ = some S.nv := h.rows.box.cell 4
  have f4 := h.rows.box.frozen 4
  have n4 := h.now (some i) (fun j e => by cases e; exact hi)
  have t4 := h.set_to 4 (SS.nv { S with now := some i })
  have env : SS.nv { S with now := some i } = ptr S.G[i] := by unfold SS.nv; simp [hi]
  rw [env] at n4 t4
  obtain ⟨w4, hw4⟩ : ∃ w4, w.setCell ⟨s, 4, none⟩ (ptr S.G[i]) = w4 := ⟨_, rfl⟩
  rw [hw4] at n4 t4
  have c5 : w4.cell? ⟨s, 5, none⟩ = some (.bool S.wk) := n4.rows.box.cell 5
  have f5 := n4.rows.box.frozen 5
  have n5 := n4.wk false
  have t5 := n4.set_to 5 (.bool false)
  obtain ⟨w5, hw5⟩ : ∃ w5, w4.setCell ⟨s, 5, none⟩ (.bool false) = w5 := ⟨_, rfl⟩
  rw [hw5] at n5 t5
  have T5 : To w B s { S with now := some i, wk := false } w5 := ⟨⟨vt, va, vl, n5⟩, t4.1.trans t5.1, t4.2.trans t5.2⟩
  have cS := hS w5 T5
  have HB5 : Hid (Below B w w5) := T5.bel
  have ce1 : w5.cell? ⟨S.G[i], 1, none⟩ = some (.iface t x) := (n5.cells i hi _ he).2.1
  have hm := hf.m
  have hin := hf.hin
  generalize hq : S.G[i] = q at *
  obtain ⟨nv, hnv⟩ : ∃ o, S.nv = .pointer o := by
    unfold SS.nv
    cases S.now with
    | none => exact ⟨_, rfl⟩
    | some k => exact ⟨_, rfl⟩
  rw [hnv] at c4
  have HQ : Hid (S.G[i] = q) := hq
  clear hS hf n4 t4 n5 t5 T5 h env hnv hq
  unfold ptr at *
  go_enter Try.func26, Try.ntmps26
  go_wp2_with fail
  refine Calls.mono cS ?_
  rintro r w2 ⟨st, S2, rfl, hst, I2, B2, hG, hnow, he2, hL2, hR⟩
  have HR : Hid (R st S2 w2) := hR
  have HI : Hid (IsS w2 B s S2) := I2
  have HG : Hid (S2.G = S.G) := hG
  have HN : Hid (S2.now = some i) := hnow
  have HE : Hid (S2.E[i]? = some ⟨.iface t x, 1, n⟩) := he2
  have HB2 : Hid (Below B w w2) := HB5.out.trans B2
  have hi2 : i < S2.G.length := by rw [hG]; exact hi
  have hq2 : S2.G[i] = q := by rw [← HQ.out]; simp [hG]
  have Hq2 : Hid (S2.G[i] = q) := hq2
  obtain ⟨vt2, va2, vl2, h2⟩ := I2
  have d4 : w2.cell? ⟨s, 4, none⟩ = some (.pointer (some ⟨q, 0, none⟩)) := by
    have := h2.rows.box.cell 4
    have env : S2.nv = ptr q := by unfold SS.nv; rw [hnow]; rw [← hq2]; simp [hi2]
    rw [env] at this
    exact this
  have g4 := h2.rows.box.frozen 4
  have n6 := h2.now none (fun j e => by cases e)
  have t6 := h2.set_to 4 (SS.nv { S2 with now := none })
  change Sh (w2.setCell ⟨s, 4, none⟩ (.pointer none)) B s _ vt2 va2 vl2 at n6
  change Below B w2 (w2.setCell ⟨s, 4, none⟩ (.pointer none)) ∧ Kt Oth w2 (w2.setCell ⟨s, 4, none⟩ (.pointer none)) at t6
  obtain ⟨w6, hw6⟩ : ∃ w6, w2.setCell ⟨s, 4, none⟩ (.pointer none) = w6 := ⟨_, rfl⟩
  rw [hw6] at n6 t6
  have be6 := n6.ents.en i hi2 _ he2
  have d3 : w6.cell? ⟨q, 3, none⟩ = some (.int .i64 (n : Int)) := by rw [← hq2]; exact be6.cell 3
  have g3 : w6.frozen? ⟨q, 3, none⟩ = false := by rw [← hq2]; exact be6.frozen 3
  have n7 := n6.ent i hi2 ⟨.iface t x, 1, n⟩ ⟨.iface t x, 1, n + 1⟩ he2 3 (.int .i64 ((n + 1 : Nat) : Int)) rfl (by simp) (by simp)
  have t7 := n6.ent_to i hi2 _ he2 3 (.int .i64 ((n + 1 : Nat) : Int))
  have eq6 : ({ S2 with now := none } : SS).G[i]'hi2 = q := hq2
  rw [eq6] at n7 t7
  rw [show ((n + 1 : Nat) : Int) = (n : Int) + 1 by push_cast; rfl] at n7 t7
  obtain ⟨w7, hw7⟩ : ∃ w7, w6.setCell ⟨q, 3, none⟩ (.int .i64 ((n : Int) + 1)) = w7 := ⟨_, rfl⟩
  rw [hw7] at n7 t7
  have d5 : w7.cell? ⟨s, 5, none⟩ = some (.bool S2.wk) := n7.rows.box.cell 5
  obtain ⟨S7, hS7⟩ : ∃ S7 : SS, S7 = { S2 with now := none, E := S2.E.set i ⟨.iface t x, 1, n + 1⟩ } := ⟨_, rfl⟩
  have I7 : IsS w7 B s S7 := by rw [hS7]; exact ⟨vt2, va2, vl2, n7⟩
  have he7 : S7.E[i]? = some ⟨.iface t x, 1, n + 1⟩ := by
    rw [hS7]
    show (S2.E.set i _)[i]? = _
    rw [List.getElem?_set_self (List.getElem?_eq_some_iff.1 he2).1]
  have hi7 : i < S7.G.length := by rw [hS7]; exact hi2
  have hG7 : S7.G[i] = q := by simp only [hS7]; exact hq2
  have b7 : Below B w2 w7 := t6.1.trans t7.1
  have k7 : Kt Oth w2 w7 := t6.2.trans t7.2
  have cq := queue_at I7 i _ he7 (by simp) (by rw [hS7]; exact hL2) hi7
  have ce := end_at I7 i _ he7 (by simp) hi7
  rw [hG7] at cq ce
  have e1 : S7.ready i ⟨.iface t x, 1, n + 1⟩ = { S2 with now := none, E := S2.E.set i ⟨.iface t x, 1, n + 1⟩, L := S2.L ++ [i] } := by
    rw [hS7]; unfold SS.ready; simp [List.set_set]
  have e3 : S7.over i ⟨.iface t x, 1, n + 1⟩ = { S2 with now := none, E := S2.E.set i ⟨.nilIface, 3, n + 1⟩ } := by
    rw [hS7]; unfold SS.over; simp [List.set_set]
  have be7 := n7.ents.en i hi2 _ (by rw [hS7] at he7; exact he7)
  have d2 : w7.cell? ⟨q, 2, none⟩ = some (.int .u8 1) := by
    have := be7.cell 2
    rw [show ({ S2 with now := none, E := S2.E.set i ⟨.iface t x, 1, n + 1⟩ } : SS).G[i]'hi2 = q from hq2] at this
    exact this
  have g2 : w7.frozen? ⟨q, 2, none⟩ = false := by
    have := be7.frozen 2
    rw [show ({ S2 with now := none, E := S2.E.set i ⟨.iface t x, 1, n + 1⟩ } : SS).G[i]'hi2 = q from hq2] at this
    exact this
  have n8 := n7.ent i hi2 ⟨.iface t x, 1, n + 1⟩ ⟨.iface t x, 2, n + 1⟩ (by rw [hS7] at he7; exact he7) 2 (.int .u8 2) rfl (by simp) (by simp)
  have t8 := n7.ent_to i hi2 _ (by rw [hS7] at he7; exact he7) 2 (.int .u8 2)
  rw [show ({ S2 with now := none, E := S2.E.set i ⟨.iface t x, 1, n + 1⟩ } : SS).G[i]'hi2 = q from hq2] at n8 t8
  have T8 : To w2 B s { S2 with now := none, E := S2.E.set i ⟨.iface t x, 2, n + 1⟩ } (w7.setCell ⟨q, 2, none⟩ (.int .u8 2)) := by
    refine ⟨⟨vt2, va2, vl2, ?_⟩, b7.trans t8.1, k7.trans t8.2⟩
    have := n8
    simp only [List.set_set] at this
    exact this
  have HT8 : Hid (To w2 B s { S2 with now := none, E := S2.E.set i ⟨.iface t x, 2, n + 1⟩ } (w7.setCell ⟨q, 2, none⟩ (.int .u8 2))) := T8
  have Hk7 : Hid (Kt Oth w2 w7) := k7
  have Hb7 : Hid (Below B w2 w7) := b7
  have HF : Hid (∀ w', To w2 B s (S2.fin i ⟨.iface t x, 1, n⟩ st) w' → ∃ st S2 w2, IsS w2 B s S2 ∧ R st S2 w2 ∧ S2.G = S.G ∧ S2.now = some i ∧ S2.E[i]? = some ⟨.iface t x, 1, n⟩ ∧ To w2 B s (S2.fin i ⟨.iface t x, 1, n⟩ st) w' ∧ Below B w w') := fun w' hT => ⟨st, S2, w2, HI.out, HR.out, HG.out, HN.out, HE.out, hT, HB2.out.trans hT.bel⟩
  rw [e1] at cq
  rw [e3] at ce
  have hst0 : (0 : Int) ≤ (st : Int) := by omega
  have hst2 : (st : Int) < 200 := by omega
  clear n6 t6 n7 t7 n8 t8 T8 be6 be7 h2 hR hG hnow he2 B2 I7 he7 hi7 hG7 b7 k7 hS7 e1 e3 eq6 cS hm hin
  unfold ptr at *
  by_cases c1 : st = 1
  · have ef : S2.fin i ⟨.iface t x, 1, n⟩ st = { S2 with now := none, E := S2.E.set i ⟨.iface t x, 1, n + 1⟩, L := S2.L ++ [i] } := by unfold SS.fin; rw [if_pos (.inl c1)]
    rw [ef] at HF
    have h1 : (st : Int) = 1 := by omega
    rw [h1] at *
    clear h1
    go_wp2_with fail
    refine Calls.mono cq ?_
    rintro r w9 ⟨rfl, T9⟩
    have HT9 : Hid (To w7 B s { S2 with now := none, E := S2.E.set i ⟨.iface t x, 1, n + 1⟩, L := S2.L ++ [i] } w9) := T9
    clear T9
    go_wp2
    go_end0
    exact ⟨rfl, HF.out _ ⟨HT9.out.is, Hb7.out.trans HT9.out.bel, Hk7.out.trans HT9.out.kt⟩⟩
  · by_cases c2 : st = 2
    · have h1 : (st : Int) = 2 := by omega
      cases hwk : S2.wk with
      | true =>
        have ef : S2.fin i ⟨.iface t x, 1, n⟩ st = { S2 with now := none, E := S2.E.set i ⟨.iface t x, 1, n + 1⟩, L := S2.L ++ [i] } := by unfold SS.fin; rw [if_pos (.inr ⟨c2, hwk⟩)]
        rw [ef] at HF
        rw [hwk] at d5
        have Hwk : Hid (S2.wk = true) := hwk
        clear hwk
        rw [h1] at *
        clear h1 c1 c2
        go_wp2_with fail
        refine Calls.mono cq ?_
        rintro r w9 ⟨rfl, T9⟩
        have HT9 : Hid (To w7 B s { S2 with now := none, E := S2.E.set i ⟨.iface t x, 1, n + 1⟩, L := S2.L ++ [i] } w9) := T9
        clear T9
        go_wp2
        go_end0
        exact ⟨rfl, HF.out _ ⟨HT9.out.is, Hb7.out.trans HT9.out.bel, Hk7.out.trans HT9.out.kt⟩⟩
      | false =>
        have ef : S2.fin i ⟨.iface t x, 1, n⟩ st = { S2 with now := none, E := S2.E.set i ⟨.iface t x, 2, n + 1⟩ } := by unfold SS.fin; rw [if_neg (by rw [hwk]; simp; omega), if_pos c2]
        rw [ef] at HF
        rw [hwk] at d5
        have Hwk : Hid (S2.wk = false) := hwk
        clear hwk
        rw [h1] at *
        clear h1 c1 c2
        go_wp2_with fail
        go_end0
        exact ⟨rfl, HF.out _ HT8.out⟩
    · have ef : S2.fin i ⟨.iface t x, 1, n⟩ st = { S2 with now := none, E := S2.E.set i ⟨.nilIface, 3, n + 1⟩ } := by unfold SS.fin; rw [if_neg (by omega), if_neg c2]
      rw [ef] at HF
      have h1 : ¬ (st : Int) = 1 := by omega
      have h2 : ¬ (st : Int) = 2 := by omega
      generalize (st : Int) = z at *
      clear c1 c2
      go_wp2_with fail
      refine Calls.mono ce ?_
      rintro r w9 ⟨rfl, T9⟩
      have HT9 : Hid (To w7 B s { S2 with now := none, E := S2.E.set i ⟨.nilIface, 3, n + 1⟩ } w9) := T9
      clear T9
      go_wp2
      go_end0
      exact ⟨rfl, HF.out _ ⟨HT9.out.is, Hb7.out.trans HT9.out.bel, Hk7.out.trans HT9.out.kt⟩⟩
end Go.Proofs.Ytjhhncbadkpbaaa
