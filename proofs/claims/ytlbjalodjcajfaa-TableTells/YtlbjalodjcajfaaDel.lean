/-
  slices.Delete, over entries: one is struck out, in place.
-/
import Derived.Test.YtlbjalodjcajfaaCln
namespace Go.Proofs.Ytlbjalodjcajfaa
open Go.RowKit Go.Maps
/-- an append whose run is known, in a region that draws -/
theorem step_append_ran {ops : Array Oper} {o : Oper} {a : Act} {w : World} {K : Act → World → Prop} {Q : Exit → Act → World → Prop} {E : Prop}
    (hg : o.guard = none) (d x : Operand) (dT sT : TypeId) (hop : o.op = Op.call { callee := Callee.builtin Builtin.append, args := #[d, x], argTypes := #[dT, sT] })
    (v u : Value) (hd : a.eval d = v) (hx : a.eval x = u) {v' : Value} {w' : World} (hr : (Builtin.append_ #[dT, sT] o.type #[v, u]).run Try.prog w = .ok v' w') (hK : K (a.put o.dst v') w') :
    if Region.wanted o (yielded ops a.tmps) = true then Oper.wp Try.prog o a w K Q else E := by
  rw [if_pos (show Region.wanted o (yielded ops a.tmps) = true by simp [Region.wanted, hg])]
  simp only [Oper.wp, execOp, hop, resolve, invoke, builtin, Sem.run_bind, Sem.run_pure, Result.andThen_ok, List.map_toArray, List.map_cons, List.map_nil, hd, hx, hr]
  exact hK
theorem wp_copy_ran {o : Oper} {a : Act} {w : World} {K : Act → World → Prop} {Q : Exit → Act → World → Prop} (d x : Operand) (dT sT : TypeId)
    (hop : o.op = Op.call { callee := Callee.builtin Builtin.copy, args := #[d, x], argTypes := #[dT, sT] })
    (v u : Value) (hd : a.eval d = v) (hx : a.eval x = u) {v' : Value} {w' : World} (hr : (Builtin.copy_ #[dT, sT] o.type #[v, u]).run Try.prog w = .ok v' w') (hK : K (a.put o.dst v') w') : o.wp Try.prog a w K Q := by
  simp only [Oper.wp, execOp, hop, resolve, invoke, builtin, Sem.run_bind, Sem.run_pure, Result.andThen_ok, List.map_toArray, List.map_cons, List.map_nil, hd, hx, hr]
  exact hK
theorem step_copy_ran {ops : Array Oper} {o : Oper} {a : Act} {w : World} {K : Act → World → Prop} {Q : Exit → Act → World → Prop} {E : Prop}
    (hg : o.guard = none) (d x : Operand) (dT sT : TypeId) (hop : o.op = Op.call { callee := Callee.builtin Builtin.copy, args := #[d, x], argTypes := #[dT, sT] })
    (v u : Value) (hd : a.eval d = v) (hx : a.eval x = u) {v' : Value} {w' : World} (hr : (Builtin.copy_ #[dT, sT] o.type #[v, u]).run Try.prog w = .ok v' w') (hK : K (a.put o.dst v') w') :
    if Region.wanted o (yielded ops a.tmps) = true then Oper.wp Try.prog o a w K Q else E := by
  rw [if_pos (show Region.wanted o (yielded ops a.tmps) = true by simp [Region.wanted, hg])]
  exact wp_copy_ran d x dT sT hop v u hd hx hr hK
theorem wpList_copy_ran {ops : Array Oper} {rest : List Oper} {o : Oper} {a : Act} {w : World} {Q : Exit → Act → World → Prop} (hgd : o.guard = none) (d x : Operand) (dT sT : TypeId)
    (hop : o.op = Op.call { callee := Callee.builtin Builtin.copy, args := #[d, x], argTypes := #[dT, sT] })
    (v u : Value) (hd : a.eval d = v) (hx : a.eval x = u) {v' : Value} {w' : World} (hr : (Builtin.copy_ #[dT, sT] o.type #[v, u]).run Try.prog w = .ok v' w') (h : wpList Try.prog ops Q rest (a.put o.dst v') w') : wpList Try.prog ops Q (o :: rest) a w :=
  wpList_plain hgd fun _ hK => wp_copy_ran d x dT sT hop v u hd hx hr (hK _ _ h)
section
variable {w : World} {g cap : Nat} {l : List En}
/-- entries are appended within the room -/
theorem app_run (h : Lay eE 27 w g cap l) (p : Nat) (es : List En) (a : Addr) (m c : Nat) (hm : es.length = m) (hc : p + m ≤ cap) (hs : ∀ j v, (flat eE es)[j]? = some v → w.cell? (a.add j) = some v) (ty : TypeId) :
    (Builtin.append_ #[35, 35] ty #[.slice (some ⟨g, 0, none⟩) p cap, .slice (some a) m c]).run Try.prog w = .ok (.slice (some ⟨g, 0, none⟩) (p + m) cap) (w.setCells g (p * 3) (flat eE es)) := by
  obtain ⟨i0, hi, hz0, hz1, hz2⟩ := infoEx
  have hfl := flat_len eE es
  have hsrc : Src Try.prog i0.size 35 (.slice (some a) m c) m (flat eE es) w := by
    rw [hz1]
    exact Src.ofSlice w Try.underlying35 a m c (flat eE es) (by rw [hfl, hm]) hs (flat_one eE es)
  have := run_append_room_src (P := Try.prog) (w := w) 35 35 ty 27 i0 Try.underlying35 hi g 0 p cap (.slice (some a) m c) m (flat eE es) hsrc hc
    (fun j hj => by rw [hz1, Nat.zero_add]; exact h.has _ (by rw [hfl] at hj; omega)) (fun j _ => h.frozen _)
  rw [hz1, Nat.zero_add] at this
  exact this
/-- entries are copied within the row -/
theorem copy_run (h : Lay eE 27 w g cap l) (p : Nat) (es : List En) (a : Addr) (dl dc sl sc : Nat) (hm : es.length = Nat.min sl dl) (hc : p + es.length ≤ cap) (hs : ∀ j v, (flat eE es)[j]? = some v → w.cell? (a.add j) = some v) (ty : TypeId) :
    (Builtin.copy_ #[35, 35] ty #[.slice (some ⟨g, p * 3, none⟩) dl dc, .slice (some a) sl sc]).run Try.prog w = .ok (goInt es.length) (w.setCells g (p * 3) (flat eE es)) := by
  obtain ⟨i0, hi, hz0, hz1, hz2⟩ := infoEx
  have hfl := flat_len eE es
  have hfc := run_firstCells_some (P := Try.prog) w 3 es.length a sl sc (flat eE es) hfl hs
  have hst := run_storeCells_cells (P := Try.prog) g (p * 3) (flat eE es) 0 w (fun j hj => by rw [Nat.add_zero]; exact h.has _ (by rw [hfl] at hj; omega)) (fun j _ => h.frozen _) (flat_one eE es)
  simp only [Nat.add_zero] at hst
  simp [Builtin.copy_, run_underlying Try.underlying35, Builtin.lenOf, sizeOf, typeInfo, hi, hz1, ← hm, hfc, hst]
theorem clear_one (u : World) (hc : ∀ j, j < 3 → (u.cell? ⟨g, cap + j, none⟩).isSome = true) (hf : ∀ j, j < 3 → u.frozen? ⟨g, cap + j, none⟩ = false) (c : Nat) :
    (Builtin.clear_ #[35] 0 #[.slice (some ⟨g, cap, none⟩) 1 c]).run Try.prog u = .ok (.tuple #[]) (u.setCells g cap (flat eE [E0])) := by
  obtain ⟨i0, hi, hz0, hz1, hz2⟩ := infoEx
  have hst := run_storeCells_cells (P := Try.prog) g cap (flat eE [E0]) 0 u (by simpa [flat, eE, Enc.f] using hc) (by simpa [flat, eE, Enc.f] using hf) (flat_one eE _)
  have hzc : (Builtin.zeroCells (Value.agg #[.bool false, .string ⟨#[]⟩, .string ⟨#[]⟩]).cells 1).toList = flat eE [E0] := by
    simp [Builtin.zeroCells, Value.cells, flat, eE, Enc.f, E0, Array.range]
  simp only [Nat.add_zero] at hst
  simp [Builtin.clear_, run_underlying Try.underlying35, zeroValue, typeInfo, hi, hz0, hzc, hst]
end
end Go.Proofs.Ytlbjalodjcajfaa
