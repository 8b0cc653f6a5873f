/-
  Whether a waiter can go on.
-/
import Derived.Test.YtafiopjgegmfoaaGreatWMem
namespace Go.Proofs.YtafiopjgegmfoaaGreat.W
open Go.RowKit Go.Maps Go.Proofs.YtafiopjgegmfoaaGreat Go.Proofs.YtafiopjgegmfoaaGreat.C Go.Proofs.YtafiopjgegmfoaaGreat.T
/-- one of these cells has another version -/
def other (S : M) (p : Int × Int) : Bool := match S.cell? p.1 with | some c => !(c.ver == p.2) | none => false
def goOn (S : M) (rd : Rds) : Bool := rd.any (other S)
section
variable {u u' : World} {B wb m : Nat} {P : Wts} {H : Nat → Prop}
set_option maxHeartbeats 2000000 in
set_option maxRecDepth 20000 in
theorem index_at {v : Value} {rd : Rds} (hr : u.ownsRow B 93 2 v rd.length (rcs rd)) (hl : rd.length ≤ 256) (f : Nat) (caps : Array Value) (pr : Int × Int → Bool) (hin : ∀ args w, (callFunc f args).run Tryz.prog w = .ok (.enter f args) w)
    (hf : ∀ p ∈ rd, ∀ u', Below u.heap.size u u' → Calls Tryz.prog f (#[.agg #[.int .i64 p.1, .int .i64 p.2]] ++ caps) u' fun r u'' => r = .returned (.bool (pr p)) ∧ Below u'.heap.size u' u'') :
    Calls Tryz.prog 72 #[v, .func (.func f) #[] caps] u fun r u' => ∃ j : Int, r = .returned (.int .i64 j) ∧ decide (0 ≤ j) = rd.any pr ∧ Below u.heap.size u u' := by
  obtain ⟨a, cap, rfl⟩ := ownsRow_slice hr
  obtain ⟨n, hn⟩ : ∃ n, n = rd.length := ⟨_, rfl⟩
  have HN : Hid (n = rd.length) := hn
  have HC : Hid (∀ u', Below u.heap.size u u' → ∀ k, k < n → ∃ p, rd[k]? = some p ∧ ∃ g, a = some ⟨g, 0, none⟩ ∧ u'.cell? ⟨g, k * 2, none⟩ = some (.int .i64 p.1) ∧ u'.cell? ⟨g, k * 2 + 1, none⟩ = some (.int .i64 p.2) ∧ (Calls Tryz.prog f (#[.agg #[.int .i64 p.1, .int .i64 p.2]] ++ caps) u' fun r u'' => r = .returned (.bool (pr p)) ∧ Below u'.heap.size u' u'')) := fun u' hb k hk => by
    have hp : rd[k]? = some (rd[k]'(by omega)) := List.getElem?_eq_getElem (by omega)
    have hr' := row_stay (u' := u') hr (fun k hk => by obtain ⟨cs, hc⟩ := ownsRow_box hr k hk; exact hb.block k (Box.lt hc))
    obtain ⟨g, cap', e, c1, c2⟩ := row2_cell hr' hp
    injection e with e1 e2 e3
    exact ⟨_, hp, g, e1, c1, c2, hf _ (List.getElem_mem _) u' hb⟩
  have HY : Hid (∀ k p, rd[k]? = some p → pr p = true → rd.any pr = true) := fun k p hp h1 => List.any_eq_true.2 ⟨p, List.mem_of_getElem? hp, h1⟩
  have HE : Hid ((∀ k, k < n → ∀ p, rd[k]? = some p → pr p = false) → rd.any pr = false) := fun h => by
    rw [List.any_eq_false]
    intro p hp
    obtain ⟨k, hk, rfl⟩ := List.getElem_of_mem hp
    rw [h k (by omega) _ (List.getElem?_eq_getElem hk)]
    simp
  rw [← hn] at hl ⊢
  clear hn hr hf
  go_enter Tryz.func72, Tryz.ntmps72
  go_wp2_with fail
  go_loopw [8] (fun i wr => ∃ k : Nat, k ≤ n ∧ i = .int .i64 (k : Int) ∧ Below u.heap.size u wr ∧ ∀ j, j < k → ∀ p, rd[j]? = some p → pr p = false) (fun i _ => n - (civ i).toNat)
  case atStart => exact ⟨0, Nat.zero_le _, rfl, Below.refl _ _, fun j hj => by omega⟩
  case round =>
    obtain ⟨k, hk, rfl, hb, hno⟩ := hrel
    have HB : Hid (Below u.heap.size u wr) := hb
    have HNo : Hid (∀ j, j < k → ∀ p, rd[j]? = some p → pr p = false) := hno
    by_cases hlt : k < n
    · have hki : (k : Int) < (n : Int) := by omega
      obtain ⟨p, hp, g, rfl, c1, c2, cf⟩ := HC.out wr hb k hlt
      have HP : Hid (rd[k]? = some p) := hp
      clear hb hno hp
      go_wp2_with fail
      refine cf.mono ?_
      rintro e w' ⟨rfl, hb'⟩
      have HB' : Hid (Below u.heap.size u w') := HB.out.trans (hb'.mono HB.out.size)
      clear hb' cf
      cases hpp : pr p with
      | true =>
        have HA : Hid (rd.any pr = true) := HY.out k p HP.out hpp
        clear hpp
        go_wp2_with fail
        go_ret
        exact ⟨_, rfl, by rw [HA.out]; simp, HB'.out⟩
      | false =>
        have HNo' : Hid (∀ j, j < k + 1 → ∀ p, rd[j]? = some p → pr p = false) := fun j hj q hq => by
          by_cases e : j = k
          · subst e
            rw [HP.out] at hq
            injection hq with hq
            subst hq
            exact hpp
          · exact HNo.out j (by omega) q hq
        clear hpp
        go_wp2_with fail
        go_roundw
        case rel => exact ⟨k + 1, by omega, by go_num, HB'.out, HNo'.out⟩
        case measure => simp [civ]; omega
    · obtain rfl : k = n := by omega
      have HA : Hid (rd.any pr = false) := HE.out hno
      clear hb hno
      go_wp2_with fail
      go_ret
      exact ⟨_, rfl, by rw [HA.out]; simp, HB.out⟩
theorem contains_at {v : Value} {rd : Rds} (hr : u.ownsRow B 93 2 v rd.length (rcs rd)) (hl : rd.length ≤ 256) (f : Nat) (caps : Array Value) (pr : Int × Int → Bool) (hin : ∀ args w, (callFunc f args).run Tryz.prog w = .ok (.enter f args) w)
    (hf : ∀ p ∈ rd, ∀ u', Below u.heap.size u u' → Calls Tryz.prog f (#[.agg #[.int .i64 p.1, .int .i64 p.2]] ++ caps) u' fun r u'' => r = .returned (.bool (pr p)) ∧ Below u'.heap.size u' u'') :
    Calls Tryz.prog 58 #[v, .func (.func f) #[] caps] u fun r u' => r = .returned (.bool (rd.any pr)) ∧ Below u.heap.size u u' := by
  have c := index_at hr hl f caps pr hin hf
  obtain ⟨a, cap, rfl⟩ := ownsRow_slice hr
  generalize rd.length = n at *
  generalize rd.any pr = z at *
  clear hr hl hf hin
  go_enter Tryz.func58, Tryz.ntmps58
  go_wp2_with (go_at_call 72; refine c.mono ?_; rintro e w' ⟨j, rfl, hz, hb⟩)
  go_ret
  exact ⟨by rw [← hz]; rfl, hb⟩
/-- what is asked of one read -/
theorem clo59_at {vb : Nat} {a : Value} {S : M} (hm : C.IsM 29 83 u B m S) (bw : Box u wb #[ptr wb, ptr m, a] 32) (bv : Box u vb #[ptr wb] 22) (p : Int × Int) :
    Calls Tryz.prog 59 #[.agg #[.int .i64 p.1, .int .i64 p.2], ptr vb] u fun r u' => r = .returned (.bool (other S p)) ∧ Below u.heap.size u u' := by
  obtain ⟨x, k⟩ := p
  dsimp only
  obtain ⟨u1, hu1⟩ : ∃ u1, u1 = u.alloc (.cells #[.int .i64 x, .int .i64 k] 93) := ⟨_, rfl⟩
  have bb : Below u.heap.size u u1 := by rw [hu1]; exact (Below.refl _ _).alloc (Nat.le_refl _) _
  have bp : Box u1 u.heap.size #[.int .i64 x, .int .i64 k] 93 := by rw [hu1]; exact Box.new u _ 93
  have bw1 := bw.below bb bw.lt
  have bv1 := bv.below bb bv.lt
  have hm1 := hm.below bb
  have c0 : u1.cell? ⟨vb, 0, none⟩ = some (ptr wb) := bv1.cell 0
  have c1 : u1.cell? ⟨wb, 1, none⟩ = some (ptr m) := bw1.cell 1
  have c2 : u1.cell? ⟨u.heap.size, 0, none⟩ = some (.int .i64 x) := bp.cell 0
  have c3 : u1.cell? ⟨u.heap.size, 1, none⟩ = some (.int .i64 k) := bp.cell 1
  have cl : ∀ n, Calls Tryz.prog 45 #[ptr m, .int .i64 x] (u1.drewN n) fun r w' => r = .returned (.tuple #[(M.load S x).1, .int .i64 (M.load S x).2.1, .int .i64 (M.load S x).2.2.1, .int .i64 (M.load S x).2.2.2]) ∧ ∃ q, w' = (u1.drewN n).drewN q := fun n => load_at (w := u1.drewN n) (hm1.below (w' := u1.drewN n) ⟨rfl, rfl, rfl, Nat.le_refl _, fun _ _ => rfl⟩) x
  have ho : other S (x, k) = ((M.load S x).2.2.2 == 0 && !((M.load S x).2.1 == k)) := by
    unfold other M.load
    cases S.cell? x <;> simp
  rw [ho]
  have HB : Hid (∀ n, Below u.heap.size u (u1.drewN n)) := fun n => ⟨bb.os, bb.tape, bb.output, bb.size, bb.block⟩
  generalize (M.load S x).1 = lv at *
  generalize (M.load S x).2.1 = lk at *
  generalize (M.load S x).2.2.1 = lo at *
  generalize (M.load S x).2.2.2 = le at *
  clear ho hm hm1 bw bw1 bv bv1 bp bb
  unfold ptr at *
  go_enter Tryz.func59, Tryz.ntmps59
  go_upto_region 1 with fail
  rw [← hu1]
  clear hu1
  go_quiet ((go_at_call 45; exact Calls.quiet_of (cl _)))
  by_cases h0 : le = 0
  · subst h0
    by_cases h1 : lk = k
    · subst h1
      go_wp2_with fail
      go_ret
      exact ⟨by simp, HB.out _⟩
    · have h1' : (lk == k) = false := by simpa using h1
      go_wp2_with fail
      go_ret
      exact ⟨by simp [h1, h1'], HB.out _⟩
  · have h0' : (le == 0) = false := by simpa using h0
    go_wp2_with fail
    go_ret
    exact ⟨by simp [h0'], HB.out _⟩
theorem enter59 : ∀ args w, (callFunc 59 args).run Tryz.prog w = .ok (.enter 59 args) w := enters_of Tryz.func59 (by kernel_rfl) rfl
theorem canGoOn_at {a v : Value} {S : M} {rd : Rds} (hm : C.IsM 29 83 u B m S) (bw : Box u wb #[ptr wb, ptr m, a] 32) (hr : u.ownsRow B 93 2 v rd.length (rcs rd)) (hl : rd.length ≤ 256) :
    Calls Tryz.prog 35 #[ptr wb, v] u fun r u' => r = .returned (.bool (goOn S rd)) ∧ Below u.heap.size u u' := by
  obtain ⟨u1, hu1⟩ : ∃ u1, u1 = u.alloc (.cells #[ptr wb] 22) := ⟨_, rfl⟩
  have bb : Below u.heap.size u u1 := by rw [hu1]; exact (Below.refl _ _).alloc (Nat.le_refl _) _
  have bv : Box u1 u.heap.size #[ptr wb] 22 := by rw [hu1]; exact Box.new u _ 22
  have bw1 := bw.below bb bw.lt
  have hm1 := hm.below bb
  have hr1 := row_stay (u' := u1) hr (fun k hk => by obtain ⟨cs, hc⟩ := ownsRow_box hr k hk; exact bb.block k (Box.lt hc))
  have c := contains_at hr1 hl 59 #[ptr u.heap.size] (other S) enter59 (fun p _ u' hb => (clo59_at (hm1.below hb) (bw1.below hb bw1.lt) (bv.below hb bv.lt) p))
  have HB : Hid (Below u.heap.size u u1) := bb
  have hgo : rd.any (other S) = goOn S rd := rfl
  rw [hgo] at c
  obtain ⟨al, cap, rfl⟩ := ownsRow_slice hr
  generalize goOn S rd = z at *
  generalize rd.length = n at *
  clear hm hm1 bw bw1 hr hr1 bv bb hl hgo
  have hmf : ∀ (fn : Fn) (first cap : Array Value) (w : World), (Instr.makeFunc fn first cap).run Tryz.prog w = .ok (.func fn first cap) w := fun _ _ _ _ => rfl
  unfold ptr at *
  go_enter Tryz.func35, Tryz.ntmps35
  go_wp2_with fail
  rw [← hu1]
  refine c.mono ?_
  rintro e w' ⟨rfl, hb⟩
  go_wp2_with fail
  go_ret
  exact ⟨rfl, HB.out.trans (hb.mono HB.out.size)⟩
end
end Go.Proofs.YtafiopjgegmfoaaGreat.W
