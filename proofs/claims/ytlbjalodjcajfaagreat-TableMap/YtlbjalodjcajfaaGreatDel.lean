/-
  slices.Delete, over entries: one is struck out, in place. slices.Delete of one entry.
-/
import Derived.Test.YtlbjalodjcajfaaGreatCpy
namespace Go.Proofs.YtlbjalodjcajfaaGreat
open Go.RowKit Go.Maps
/-- an append whose run is known, in a region that draws -/
theorem step_append_ran {ops : Array Oper} {o : Oper} {a : Act} {w : World} {K : Act → World → Prop} {Q : Exit → Act → World → Prop} {E : Prop}
    (hg : o.guard = none) (d x : Operand) (dT sT : TypeId) (hop : o.op = Op.call { callee := Callee.builtin Builtin.append, args := #[d, x], argTypes := #[dT, sT] })
    (v u : Value) (hd : a.eval d = v) (hx : a.eval x = u) {v' : Value} {w' : World} (hr : (Builtin.append_ #[dT, sT] o.type #[v, u]).run Tryz.prog w = .ok v' w') (hK : K (a.put o.dst v') w') :
    if Region.wanted o (yielded ops a.tmps) = true then Oper.wp Tryz.prog o a w K Q else E := by
  rw [if_pos (show Region.wanted o (yielded ops a.tmps) = true by simp [Region.wanted, hg])]
  simp only [Oper.wp, execOp, hop, resolve, invoke, builtin, Sem.run_bind, Sem.run_pure, Result.andThen_ok, List.map_toArray, List.map_cons, List.map_nil, hd, hx, hr]
  exact hK
theorem wp_copy_ran {o : Oper} {a : Act} {w : World} {K : Act → World → Prop} {Q : Exit → Act → World → Prop} (d x : Operand) (dT sT : TypeId)
    (hop : o.op = Op.call { callee := Callee.builtin Builtin.copy, args := #[d, x], argTypes := #[dT, sT] })
    (v u : Value) (hd : a.eval d = v) (hx : a.eval x = u) {v' : Value} {w' : World} (hr : (Builtin.copy_ #[dT, sT] o.type #[v, u]).run Tryz.prog w = .ok v' w') (hK : K (a.put o.dst v') w') : o.wp Tryz.prog a w K Q := by
  simp only [Oper.wp, execOp, hop, resolve, invoke, builtin, Sem.run_bind, Sem.run_pure, Result.andThen_ok, List.map_toArray, List.map_cons, List.map_nil, hd, hx, hr]
  exact hK
theorem step_copy_ran {ops : Array Oper} {o : Oper} {a : Act} {w : World} {K : Act → World → Prop} {Q : Exit → Act → World → Prop} {E : Prop}
    (hg : o.guard = none) (d x : Operand) (dT sT : TypeId) (hop : o.op = Op.call { callee := Callee.builtin Builtin.copy, args := #[d, x], argTypes := #[dT, sT] })
    (v u : Value) (hd : a.eval d = v) (hx : a.eval x = u) {v' : Value} {w' : World} (hr : (Builtin.copy_ #[dT, sT] o.type #[v, u]).run Tryz.prog w = .ok v' w') (hK : K (a.put o.dst v') w') :
    if Region.wanted o (yielded ops a.tmps) = true then Oper.wp Tryz.prog o a w K Q else E := by
  rw [if_pos (show Region.wanted o (yielded ops a.tmps) = true by simp [Region.wanted, hg])]
  exact wp_copy_ran d x dT sT hop v u hd hx hr hK
theorem wpList_copy_ran {ops : Array Oper} {rest : List Oper} {o : Oper} {a : Act} {w : World} {Q : Exit → Act → World → Prop} (hgd : o.guard = none) (d x : Operand) (dT sT : TypeId)
    (hop : o.op = Op.call { callee := Callee.builtin Builtin.copy, args := #[d, x], argTypes := #[dT, sT] })
    (v u : Value) (hd : a.eval d = v) (hx : a.eval x = u) {v' : Value} {w' : World} (hr : (Builtin.copy_ #[dT, sT] o.type #[v, u]).run Tryz.prog w = .ok v' w') (h : wpList Tryz.prog ops Q rest (a.put o.dst v') w') : wpList Tryz.prog ops Q (o :: rest) a w :=
  wpList_plain hgd fun _ hK => wp_copy_ran d x dT sT hop v u hd hx hr (hK _ _ h)
section
variable {w : World} {g cap : Nat} {l : List En}
/-- entries are appended within the room -/
theorem app_run (h : Lay eE 28 w g cap l) (p : Nat) (es : List En) (a : Addr) (m c : Nat) (hm : es.length = m) (hc : p + m ≤ cap) (hs : ∀ j v, (flat eE es)[j]? = some v → w.cell? (a.add j) = some v) (ty : TypeId) :
    (Builtin.append_ #[42, 42] ty #[.slice (some ⟨g, 0, none⟩) p cap, .slice (some a) m c]).run Tryz.prog w = .ok (.slice (some ⟨g, 0, none⟩) (p + m) cap) (w.setCells g (p * 3) (flat eE es)) := by
  obtain ⟨i0, hi, hz0, hz1, hz2⟩ := infoEx
  have hfl := flat_len eE es
  have hsrc : Src Tryz.prog i0.size 42 (.slice (some a) m c) m (flat eE es) w := by
    rw [hz1]
    exact Src.ofSlice w Tryz.underlying42 a m c (flat eE es) (by rw [hfl, hm]) hs (flat_one eE es)
  have := run_append_room_src (P := Tryz.prog) (w := w) 42 42 ty 28 i0 Tryz.underlying42 hi g 0 p cap (.slice (some a) m c) m (flat eE es) hsrc hc
    (fun j hj => by rw [hz1, Nat.zero_add]; exact h.has _ (by rw [hfl] at hj; omega)) (fun j _ => h.frozen _)
  rw [hz1, Nat.zero_add] at this
  exact this
/-- entries are copied within the row -/
theorem copy_run (h : Lay eE 28 w g cap l) (p : Nat) (es : List En) (a : Addr) (dl dc sl sc : Nat) (hm : es.length = Nat.min sl dl) (hc : p + es.length ≤ cap) (hs : ∀ j v, (flat eE es)[j]? = some v → w.cell? (a.add j) = some v) (ty : TypeId) :
    (Builtin.copy_ #[42, 42] ty #[.slice (some ⟨g, p * 3, none⟩) dl dc, .slice (some a) sl sc]).run Tryz.prog w = .ok (goInt es.length) (w.setCells g (p * 3) (flat eE es)) := by
  obtain ⟨i0, hi, hz0, hz1, hz2⟩ := infoEx
  have hfl := flat_len eE es
  have hfc := run_firstCells_some (P := Tryz.prog) w 3 es.length a sl sc (flat eE es) hfl hs
  have hst := run_storeCells_cells (P := Tryz.prog) g (p * 3) (flat eE es) 0 w (fun j hj => by rw [Nat.add_zero]; exact h.has _ (by rw [hfl] at hj; omega)) (fun j _ => h.frozen _) (flat_one eE es)
  simp only [Nat.add_zero] at hst
  simp [Builtin.copy_, run_underlying Tryz.underlying42, Builtin.lenOf, sizeOf, typeInfo, hi, hz1, ← hm, hfc, hst]
theorem clear_one (u : World) (hc : ∀ j, j < 3 → (u.cell? ⟨g, cap + j, none⟩).isSome = true) (hf : ∀ j, j < 3 → u.frozen? ⟨g, cap + j, none⟩ = false) (c : Nat) :
    (Builtin.clear_ #[42] 0 #[.slice (some ⟨g, cap, none⟩) 1 c]).run Tryz.prog u = .ok (.tuple #[]) (u.setCells g cap (flat eE [E0])) := by
  obtain ⟨i0, hi, hz0, hz1, hz2⟩ := infoEx
  have hst := run_storeCells_cells (P := Tryz.prog) g cap (flat eE [E0]) 0 u (by simpa [flat, eE, Enc.f] using hc) (by simpa [flat, eE, Enc.f] using hf) (flat_one eE _)
  have hzc : (Builtin.zeroCells (Value.agg #[.bool false, .string ⟨#[]⟩, .string ⟨#[]⟩]).cells 1).toList = flat eE [E0] := by
    simp [Builtin.zeroCells, Value.cells, flat, eE, Enc.f, E0, Array.range]
  simp only [Nat.add_zero] at hst
  simp [Builtin.clear_, run_underlying Tryz.underlying42, zeroValue, typeInfo, hi, hz0, hzc, hst]
end
end Go.Proofs.YtlbjalodjcajfaaGreat
namespace Go.Proofs.YtlbjalodjcajfaaGreat
open Go.RowKit Go.Maps
theorem chg_lay {w : World} (g o : Nat) (vs : List Value) : Chg (fun k => k = g) w (w.setCells g o vs) := chg_setCells _ g vs o w rfl
set_option maxRecDepth 100000 in
set_option maxHeartbeats 2000000 in
theorem delete_at {w : World} {g cap i m : Nat} {l : List En} (h : Lay eE 28 w g cap l) (hl : l.length = i + 1 + m) (hc : i + 1 + m ≤ 1024) (hx : cap ≤ 9223372036854775807) :
    Calls Tryz.prog 25 #[.slice (some ⟨g, 0, none⟩) (i + 1 + m) cap, .int .i64 (i : Int), .int .i64 ((i : Int) + 1)] w fun r w' => r = .returned (.slice (some ⟨g, 0, none⟩) (i + m) cap) ∧ Lay eE 28 w' g cap (l.take i ++ (l.drop (i + 1) ++ [E0])) ∧ Chg (fun k => k = g) w w' := by
  have hle := h.le
  have hle2 : i + 1 + m ≤ cap := by omega
  have hdl : (l.drop (i + 1)).length = m := by simp; omega
  have hd : Lay eE 28 w.drew g cap l := h.at' rfl
  have hap := fun c ty => app_run hd i (l.drop (i + 1)) ⟨g, (i + 1) * 3, none⟩ m c hdl (by omega) (fun j v hj => by
    rw [← flat_drop eE l _ (by omega), List.getElem?_drop] at hj
    rw [Addr.add_lit]
    obtain ⟨i', e, hi, hcs⟩ := flat_at eE hj
    obtain ⟨a0, a1, a2⟩ := hd.get hi
    rcases hcs with ⟨e1, rfl⟩ | ⟨e1, rfl⟩ | ⟨e1, rfl⟩
    · rw [e1]; exact a0
    · rw [e1]; exact a1
    · rw [e1]; exact a2) ty
  have hap0 := fun c ty (hm0 : m = 0) => app_run hd i (l.drop (i + 1)) ⟨g, 0, none⟩ m c hdl (by omega) (fun j v hj => by
    have := (List.getElem?_eq_some_iff.1 hj).1
    rw [flat_len, hdl, hm0] at this
    omega) ty
  have h2 := hd.write i (l.drop (i + 1)) (by omega) (by omega)
  rw [hdl] at h2
  have h3 := h2.write (i + m) [E0] (by simp; omega) (by simp; omega)
  have e3 : (l.take i ++ (l.drop (i + 1) ++ l.drop (i + m))).take (i + m) ++ ([E0] ++ (l.take i ++ (l.drop (i + 1) ++ l.drop (i + m))).drop (i + m + [E0].length)) = l.take i ++ (l.drop (i + 1) ++ [E0]) := by
    have t1 : (l.take i).length = i := by simp; omega
    have t2 : (l.take i ++ (l.drop (i + 1) ++ l.drop (i + m))).take (i + m) = l.take i ++ l.drop (i + 1) := by
      rw [← List.append_assoc, List.take_left' (by rw [List.length_append, t1, hdl])]
    have t3 : (l.take i ++ (l.drop (i + 1) ++ l.drop (i + m))).drop (i + m + [E0].length) = [] := List.drop_eq_nil_of_le (by simp only [List.length_append, List.length_take, List.length_drop, List.length_singleton]; omega)
    rw [t2, t3, List.append_nil, List.append_assoc]
  rw [e3] at h3
  obtain ⟨w1, hw1⟩ : ∃ w1, w1 = w.drew.setCells g (i * 3) (flat eE (l.drop (i + 1))) := ⟨_, rfl⟩
  simp only [← hw1] at hap hap0 h2 h3
  have hcl := fun c => clear_one (g := g) (cap := (i + m) * 3) w1 (fun j hj => h2.has _ (by omega)) (fun j _ => h2.frozen _) c
  have H := hid (And.intro h3 (show Chg (fun k => k = g) w (w1.setCells g ((i + m) * 3) (flat eE [E0])) from by
    rw [hw1]
    exact (Chg.drew (Chg.refl _ w) 1).trans ((chg_lay g _ _).trans (chg_lay g _ _) (fun _ _ x => x)) (fun _ _ x => x)))
  clear h hd h2 h3 e3 hdl hw1 hl
  obtain ⟨w2, hw2⟩ : ∃ w2, w2 = w1.setCells g ((i + m) * 3) (flat eE [E0]) := ⟨_, rfl⟩
  rw [← hw2] at hcl H
  clear hw2
  have r1 : IntKind.i64.wrap ((i : Int) + 1) = (i : Int) + 1 := by rw [IntKind.wrap_i64]; omega
  have r2 : ((i : Int) + 1).toNat = i + 1 := by omega
  have r3 : i + 1 + m - (i + 1) = m := by omega
  have r4 : (i : Int) ≤ (cap : Int) := by omega
  have r5 : i ≤ cap := by omega
  have r6 : ¬ cap = i := by omega
  have r7 : (i : Int) + 1 ≤ (i : Int) + 1 + (m : Int) := by omega
  have r8 : (0 : Int) ≤ (i : Int) + 1 := by omega
  have mixed : Tryz.prog.follows Departure.mixedOrders = true := by kernel_rfl
  have r9 : ¬ cap = i + m := by omega
  have r10 : i + 1 + m - (i + m) = 1 := by omega
  by_cases hce : cap = i + 1
  · have hm0 : m = 0 := by omega
    have hap1 := fun c ty => hap0 c ty hm0
    subst hm0 hce
    clear hap hap0
    simp only [Nat.add_zero] at *
    have s1 : (i : Int) ≤ (i : Int) + 1 := by omega
    have s2 : i ≤ i + 1 := by omega
    have s3 : ¬ i + 1 = i := by omega
    have s4 : (0 : Int) ≤ (i : Int) + 1 := by omega
    have s5 : ((i : Int) + 1).toNat = i + 1 := by omega
    go_enter Tryz.func25, Tryz.ntmps25
    go_wp2_with fail
    go_region_law_o (refine step_append_ran rfl _ _ 42 42 rfl _ _ (by simp [Act.eval, Act.put]) (by simp [Act.eval, Act.put]) (hap1 0 _) ?_)
    go_wp2_with fail
    go_ret
    exact ⟨rfl, H.out⟩
  · clear hap0
    go_enter Tryz.func25, Tryz.ntmps25
    go_wp2_with fail
    go_region_law_o (refine step_append_ran rfl _ _ 42 42 rfl _ _ (by simp [Act.eval, Act.put]) (by simp [Act.eval, Act.put]) (hap (cap - (i + 1)) _) ?_)
    go_wp2_with fail
    go_ret
    exact ⟨rfl, H.out⟩
end Go.Proofs.YtlbjalodjcajfaaGreat
