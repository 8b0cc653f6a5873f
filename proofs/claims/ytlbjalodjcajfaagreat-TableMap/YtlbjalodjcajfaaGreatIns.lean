/-
  slices.Insert of one entry, in place.
-/
import Derived.Test.YtlbjalodjcajfaaGreatDel
import Derived.Lib.Overlaps
namespace Go.Proofs.YtlbjalodjcajfaaGreat
open Go.RowKit Go.Maps
theorem wpList_append_ran {ops : Array Oper} {rest : List Oper} {o : Oper} {a : Act} {w : World} {Q : Exit → Act → World → Prop} (hgd : o.guard = none) (d x : Operand) (dT sT : TypeId)
    (hop : o.op = Op.call { callee := Callee.builtin Builtin.append, args := #[d, x], argTypes := #[dT, sT] })
    (v u : Value) (hd : a.eval d = v) (hx : a.eval x = u) {v' : Value} {w' : World} (hr : (Builtin.append_ #[dT, sT] o.type #[v, u]).run Tryz.prog w = .ok v' w') (h : wpList Tryz.prog ops Q rest (a.put o.dst v') w') : wpList Tryz.prog ops Q (o :: rest) a w :=
  wpList_plain hgd fun _ hK => by
    simp only [Oper.wp, execOp, hop, resolve, invoke, builtin, Sem.run_bind, Sem.run_pure, Result.andThen_ok, List.map_toArray, List.map_cons, List.map_nil, hd, hx, hr]
    exact hK _ _ h
theorem size27 (w : World) : (Go.sizeOf 28).run Tryz.prog w = .ok 3 w := by
  obtain ⟨i0, hi, hz0, hz1, hz2⟩ := infoEx
  simp [sizeOf, typeInfo, hi, hz1]
theorem shape_box {w : World} {g : Nat} {cs : Array Value} {t : TypeId} (h : Box w g cs t) : w.shape? g = some (t, cs.size) := by
  unfold Box at h
  simp [World.shape?, h]
theorem box_ent {w : World} {vb : Nat} {e : En} (h : Box w vb (flat eE [e]).toArray 28) {j : Nat} {v : Value} (hj : (flat eE [e])[j]? = some v) : w.cell? ((⟨vb, 0, none⟩ : Addr).add j) = some v := by
  rw [Addr.add_lit, h.cell, Nat.zero_add]
  simpa using hj
set_option maxRecDepth 100000 in
set_option maxHeartbeats 2000000 in
theorem insert_at {w : World} {g cap i m vb : Nat} {l : List En} {e : En} (h : Lay eE 28 w g cap l) (hl : l.length = i + 1 + m) (hc : i + 1 + m ≤ 1024) (hx : cap ≤ 9223372036854775807) (hv : Box w vb (flat eE [e]).toArray 28) (hne : vb ≠ g) :
    Calls Tryz.prog 23 #[.slice (some ⟨g, 0, none⟩) (i + m) cap, .int .i64 (i : Int), .slice (some ⟨vb, 0, none⟩) 1 1] w fun r w' => r = .returned (.slice (some ⟨g, 0, none⟩) (i + m + 1) cap) ∧ Lay eE 28 w' g cap (l.take i ++ ([e] ++ (l.take (i + m)).drop i)) ∧ Chg (fun k => k = g) w w' := by
  have hle := h.le
  have hle2 : i + 1 + m ≤ cap := by omega
  by_cases hm0 : m = 0
  · subst hm0
    have hap := fun ty => app_run h i [e] ⟨vb, 0, none⟩ 1 1 rfl (by omega) (fun j v hj => box_ent hv hj) ty
    have h2 := h.write i [e] (by omega) (by simp; omega)
    have e2 : l.take i ++ ([e] ++ l.drop (i + [e].length)) = l.take i ++ ([e] ++ (l.take (i + 0)).drop i) := by
      rw [List.drop_eq_nil_of_le (by simp; omega), List.drop_eq_nil_of_le (by simp; omega)]
    rw [e2] at h2
    have H := hid (And.intro h2 (chg_lay (w := w) g (i * 3) (flat eE [e])))
    clear h h2 e2 hv
    obtain ⟨w2, hw2⟩ : ∃ w2, w2 = w.setCells g (i * 3) (flat eE [e]) := ⟨_, rfl⟩
    rw [← hw2] at hap
    have HW := hid hw2
    clear hw2
    simp only [Nat.add_zero] at *
    have s1 : (i : Int) ≤ (i : Int) + 1 := by omega
    have s2 : i ≤ cap := by omega
    go_enter Tryz.func23, Tryz.ntmps23
    go_wp2_with (at_builtin; refine wpList_append_ran rfl _ _ 42 42 rfl _ _ rfl rfl (hap _) ?_)
    go_ret
    exact ⟨rfl, by rw [HW.out]; exact H.out⟩
  · have hd : Lay eE 28 w.drew g cap l := h.at' rfl
    have hes : ((l.take (i + m)).drop i).length = m := by simp; omega
    have hcp := fun dc sc ty => copy_run hd (i + 1) ((l.take (i + m)).drop i) ⟨g, i * 3, none⟩ m dc (m + 1) sc (by rw [hes]; show m = min (m + 1) m; omega) (by rw [hes]; omega) (fun j v hj => by
      rw [← flat_drop eE _ _ (by simp; omega), List.getElem?_drop, ← flat_take eE l _ (by omega), List.getElem?_take] at hj
      split at hj
      · rw [Addr.add_lit]
        obtain ⟨i', e', hi, hcs⟩ := flat_at eE hj
        obtain ⟨a0, a1, a2⟩ := hd.get hi
        rcases hcs with ⟨e1, rfl⟩ | ⟨e1, rfl⟩ | ⟨e1, rfl⟩
        · rw [e1]; exact a0
        · rw [e1]; exact a1
        · rw [e1]; exact a2
      · cases hj) ty
    have h2 := hd.write (i + 1) ((l.take (i + m)).drop i) (by omega) (by rw [hes]; omega)
    rw [hes, List.drop_eq_nil_of_le (show l.length ≤ i + 1 + m by omega), List.append_nil] at h2
    obtain ⟨w1, hw1⟩ : ∃ w1, w1 = w.drew.setCells g ((i + 1) * 3) (flat eE ((l.take (i + m)).drop i)) := ⟨_, rfl⟩
    have c1 : Chg (fun k => k = g) w w1 := by
      rw [hw1]
      exact (Chg.drew (Chg.refl _ w) 1).trans (chg_lay g _ _) (fun _ _ x => x)
    simp only [← hw1] at hcp h2
    have hv1 : Box w1 vb (flat eE [e]).toArray 28 := hv.chg c1 hne
    have hcp2 := fun dc ty => copy_run h2 i [e] ⟨vb, 0, none⟩ (m + 1) dc 1 1 (by show 1 = min 1 (m + 1); omega) (by simp; omega) (fun j v hj => box_ent hv1 hj) ty
    have h3 := h2.write i [e] (by simp; omega) (by simp; omega)
    have e3 : (l.take (i + 1) ++ (l.take (i + m)).drop i).take i ++ ([e] ++ (l.take (i + 1) ++ (l.take (i + m)).drop i).drop (i + [e].length)) = l.take i ++ ([e] ++ (l.take (i + m)).drop i) := by
      have t1 : (l.take (i + 1)).length = i + 1 := by simp; omega
      rw [List.take_append_of_le_length (by omega), List.take_take, Nat.min_eq_left (by omega), List.drop_left' (by rw [t1]; rfl)]
    rw [e3] at h3
    obtain ⟨w2, hw2⟩ : ∃ w2, w2 = w1.setCells g (i * 3) (flat eE [e]) := ⟨_, rfl⟩
    simp only [← hw2] at hcp2 h3
    have H := hid (And.intro h3 (c1.trans (show Chg (fun k => k = g) w1 w2 by rw [hw2]; exact chg_lay g _ _) (fun _ _ x => x)))
    obtain ⟨cur, hcur, hcs, _⟩ := h.cur
    have hov : ∀ lb cb, (callFunc 41 #[.slice (some ⟨vb, 0, none⟩) 1 1, .slice (some ⟨g, (i + 1) * 3, none⟩) lb cb]).run Tryz.prog w = .ok (.value (.bool false)) w := fun lb cb => by
      rw [run_callFunc_extern Tryz.func41 (by kernel_rfl) (by kernel_rfl) (by kernel_rfl) (e := Extern.SlicesOverlaps.overlaps #[42, 42] #[4]) (by kernel_rfl),
        Lib.run_overlaps_apart w 42 4 28 Tryz.underlying42 3 size27 ⟨vb, 0, none⟩ ⟨g, (i + 1) * 3, none⟩ 1 1 lb cb hne 28 28 3 (cap * 3) (by have := shape_box hv; simpa [flat, eE, Enc.f] using this) (by have := shape_box hcur; rw [hcs] at this; exact this) (by omega) (hv.frozen 0) (hv.frozen 3)]
      rfl
    clear h hd h2 h3 e3 hes hw1 hw2 hv hv1 c1 hcur hcs
    have mixed : Tryz.prog.follows Departure.mixedOrders = true := by kernel_rfl
    have r1 : IntKind.i64.wrap ((i : Int) + 1) = (i : Int) + 1 := by rw [IntKind.wrap_i64]; omega
    have r2 : ((i : Int) + 1).toNat = i + 1 := by omega
    have r3 : i + m + 1 - (i + 1) = m := by omega
    have r4 : i + m + 1 - i = m + 1 := by omega
    have r5 : i ≤ cap := by omega
    have r6 : ¬ cap = i := by omega
    have r7 : ¬ cap = i + 1 := by omega
    have r8 : (i : Int) ≤ (i : Int) + (m : Int) := by omega
    have r9 : (0 : Int) ≤ (i : Int) + 1 := by omega
    have r10 : ¬ (i : Int) = (i : Int) + (m : Int) := by omega
    have r11 : IntKind.i64.wrap ((i : Int) + (m : Int) + 1) = (i : Int) + (m : Int) + 1 := by rw [IntKind.wrap_i64]; omega
    have r12 : ((i : Int) + (m : Int) + 1).toNat = i + m + 1 := by omega
    have r13 : ¬ (cap : Int) < (i : Int) + (m : Int) + 1 := by omega
    have r14 : (i : Int) + 1 ≤ (i : Int) + (m : Int) + 1 := by omega
    have r15 : (i : Int) ≤ (i : Int) + (m : Int) + 1 := by omega
    go_enter Tryz.func23, Tryz.ntmps23
    go_wp2_with (simp only [hov])
    go_region_law_o (refine step_copy_ran rfl _ _ 42 42 rfl _ _ (by simp [Act.eval, Act.put]) (by simp [Act.eval, Act.put]) (hcp (cap - (i + 1)) (cap - i) _) ?_)
    go_wp2_with (at_builtin; refine wpList_copy_ran rfl _ _ 42 42 rfl _ _ rfl rfl (hcp2 (cap - i) _) ?_)
    go_ret
    exact ⟨rfl, H.out⟩
end Go.Proofs.YtlbjalodjcajfaaGreat
