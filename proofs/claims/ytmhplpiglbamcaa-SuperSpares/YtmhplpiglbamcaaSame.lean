/-
  SameExtents, SameInode; turned.
-/
import Derived.Test.YtmhplpiglbamcaaForms
import Derived.Laws.StructEq
import Derived.BigQuiet
import Derived.Deep.RegionWith
namespace Go.Proofs.Ytmhplpiglbamcaa
open Go.RowKit

theorem turned_at (g cap n p ch B : Nat) (xs : List UInt8) (w : World) (hp : p + 4 ≤ n) (hn : n ≤ 100000) (_hB : B ≤ g) (ho : w.ownsRow B 5 1 (.slice (some ⟨g, 0, none⟩) n cap) n (bcs xs)) :
    Calls Try.prog 34 #[.slice (some ⟨g, 0, none⟩) n cap, .int .i64 p, .int .u32 ch] w fun r w' => r = .returned (.bool true) ∧ w'.ownsRow B 5 1 (.slice (some ⟨g, 0, none⟩) n cap) n (bcs (chg xs p ch 4)) ∧ w.grownBy w' (some g) := by
  have hl : xs.length = n := by have := ho.1; rw [bcs_length] at this; omega
  have Hl : Hid _ := hl
  clear hl
  go_enter Try.func34, Try.ntmps34
  go_wp2_with fail
  go_loopw [7] (fun i wr => ∃ k : Nat, k ≤ 4 ∧ i = .int .i64 k ∧ wr.ownsRow B 5 1 (.slice (some ⟨g, 0, none⟩) n cap) n (bcs (chg xs p ch k)) ∧ w.grownBy wr (some g)) (fun i _ => 4 - (intOf i).toNat)
  case atStart => exact ⟨0, Nat.zero_le _, rfl, ho, World.grownBy.refl _ _⟩
  case round =>
    obtain ⟨k, hk, rfl, hown, hbel⟩ := hrel
    have hlen : (chg xs p ch k).length = n := by rw [chg_length]; exact Hl.out
    clear ho
    by_cases hk4 : k < 4
    · have hpn : p + k < n := by omega
      obtain ⟨c, hcc⟩ : ∃ c, (chg xs p ch k).getD (p + k) 0 = c := ⟨_, rfl⟩
      have hcell : wr.cell? ⟨g, p + k, none⟩ = some (.int .u8 (c.toNat : Int)) := by
        rw [hown.cellAt (p + k) (by omega), bcs_getElem? _ _ (by rw [hlen]; exact hpn), ← hcc]
        simp [List.getD, List.getElem?_eq_getElem (show p + k < (chg xs p ch k).length by omega)]
      have hfz := hown.frozenAt (p + k)
      have Hcc : Hid _ := hcc
      have Hlen : Hid _ := hlen
      clear hcc hlen
      go_wp2
      rw [chg_byte]
      go_roundw
      case rel =>
        have hst := hown.stored (p + k) (.int .u8 ((c ^^^ UInt8.ofNat (ch / 2 ^ (8 * k))).toNat : Int))
        refine ⟨k + 1, by omega, by go_num, ?_, grown_trans hbel (grown_store _ _ _ _)⟩
        rw [chg, Hcc.out, ← bcs_set]
        exact hst.1
      case measure => simp [intOf]; omega
    · obtain rfl : k = 4 := by omega
      go_wp2
      go_ret
      exact ⟨rfl, hown, hbel⟩

theorem fields46 : Try.prog.underlying 46 = some (.struct (Try.prog.fieldsOf 46)) := by kernel_rfl
theorem held46 : Try.prog.stoodInHeld 46 = false := by kernel_rfl
theorem guard46 : Try.prog.eqGuardType Try.prog.depth 46 = false := by kernel_rfl
theorem eq46 (u : World) (a b c d e f : Int) : (Op.equalIn 10000 46 (.agg #[.int .i64 a, .int .i64 b, .int .i64 c]) (.agg #[.int .i64 d, .int .i64 e, .int .i64 f])).run Try.prog u = .ok (a == d && (b == e && c == f)) u := by
  rw [run_equalIn_agg u 9999 46 _ _ fields46 held46]
  simp only [Program.fieldsOf, Try.underlying46]
  simp [go_sem, Op.eqFields, Try.underlying3]
  by_cases h1 : a = d <;> by_cases h2 : b = e <;> by_cases h3 : c = f <;> simp [h1, h2, h3]
theorem neq46 (u : World) (a b c d e f : Int) : (binOp .neq 46 (.agg #[.int .i64 a, .int .i64 b, .int .i64 c]) (.agg #[.int .i64 d, .int .i64 e, .int .i64 f])).run Try.prog u = .ok (.bool (!(a == d && (b == e && c == f)))) u := by
  rw [run_neq_struct, eq46]
  rfl
theorem guardN46 (u : World) (x y : Operand) (xs ys : Array Value) : (eqGuard .neq 46 x y (.agg xs) (.agg ys)).run Try.prog u = .ok () u := run_eqGuard_agg u .neq 46 x y xs ys guard46

theorem sameExtents_in (b o b' o' cap cap' n : Nat) (es fs : List Ext) (w : World) (hl : es.length = n) (hl' : fs.length = n) (hn : n ≤ 9223372036854775807) (hb : b < w.heap.size) (hb' : b' < w.heap.size)
    (hc : ∀ j (h : j < es.length), w.cell? ⟨b, o + j * 3, none⟩ = some (.int .i64 es[j].a) ∧ w.cell? ⟨b, o + j * 3 + 1, none⟩ = some (.int .i64 es[j].s) ∧ w.cell? ⟨b, o + j * 3 + 2, none⟩ = some (.int .i64 es[j].c))
    (hc' : ∀ j (h : j < fs.length), w.cell? ⟨b', o' + j * 3, none⟩ = some (.int .i64 fs[j].a) ∧ w.cell? ⟨b', o' + j * 3 + 1, none⟩ = some (.int .i64 fs[j].s) ∧ w.cell? ⟨b', o' + j * 3 + 2, none⟩ = some (.int .i64 fs[j].c)) :
    Calls Try.prog 27 #[.slice (some ⟨b, o, none⟩) n cap, .slice (some ⟨b', o', none⟩) n cap'] w fun r w' => r = .returned (.bool (decide (es = fs))) ∧ Below w.heap.size w w' := by
  have Hl : Hid _ := hl
  have Hc : Hid _ := hc
  have Hl' : Hid _ := hl'
  have Hc' : Hid _ := hc'
  clear hl hc hl' hc'
  go_enter Try.func27, Try.ntmps27
  go_wp2_with fail
  go_loopw [5] (fun i wr => ∃ k : Nat, k ≤ n ∧ i = .int .i64 k ∧ Hid (es.take k = fs.take k) ∧ Below w.heap.size w wr) (fun i _ => n - (intOf i).toNat)
  case atStart => exact ⟨0, Nat.zero_le _, rfl, by show _ = _; simp, Below.refl _ _⟩
  case round =>
    obtain ⟨k, hk, rfl, hall, hbel⟩ := hrel
    by_cases hlt : k < n
    · have hlt' : Hid (k < es.length) := by show _ < _; rw [Hl.out]; exact hlt
      have hlt2 : Hid (k < fs.length) := by show _ < _; rw [Hl'.out]; exact hlt
      obtain ⟨e, hcc⟩ : ∃ e, e = es[k]'hlt'.out := ⟨_, rfl⟩
      obtain ⟨f, hcf⟩ : ∃ e, e = fs[k]'hlt2.out := ⟨_, rfl⟩
      obtain ⟨h0, h1, h2⟩ := Hc.out k hlt'.out
      obtain ⟨g0, g1, g2⟩ := Hc'.out k hlt2.out
      rw [← hcc] at h0 h1 h2
      rw [← hcf] at g0 g1 g2
      replace h0 := (hbel.cell (p := ⟨b, _, none⟩) hb).trans h0
      replace h1 := (hbel.cell (p := ⟨b, _, none⟩) hb).trans h1
      replace h2 := (hbel.cell (p := ⟨b, _, none⟩) hb).trans h2
      replace g0 := (hbel.cell (p := ⟨b', _, none⟩) hb').trans g0
      replace g1 := (hbel.cell (p := ⟨b', _, none⟩) hb').trans g1
      replace g2 := (hbel.cell (p := ⟨b', _, none⟩) hb').trans g2
      have Hcc : Hid _ := hcc
      have Hcf : Hid _ := hcf
      clear hcc hcf
      obtain ⟨ea, eb, ec⟩ := e
      obtain ⟨fa, fb, fc⟩ := f
      have hne := fun u => neq46 u ea eb ec fa fb fc
      have hgu := guardN46
      obtain ⟨q, hq⟩ : ∃ q, q = (ea == fa && (eb == fb && ec == fc)) := ⟨_, rfl⟩
      rw [← hq] at hne
      have HQ : Hid (q = true → (⟨ea, eb, ec⟩ : Ext) = ⟨fa, fb, fc⟩) := by
        intro hq1
        rw [hq1] at hq
        have := hq.symm
        simp only [Bool.and_eq_true, beq_iff_eq] at this
        obtain ⟨rfl, rfl, rfl⟩ := this
        rfl
      have HQ2 : Hid (q = false → (⟨ea, eb, ec⟩ : Ext) ≠ ⟨fa, fb, fc⟩) := by
        intro hq1 h
        injection h with i1 i2 i3
        subst i1 i2 i3
        rw [hq1] at hq
        simp at hq
      clear hq
      go_wp2_with fail
      go_quiet (fail)
      have hb9 : Below w.heap.size w (wr.drewN nq) := hbel.trans ⟨rfl, rfl, rfl, Nat.le_refl _, fun _ _ => rfl⟩
      generalize wr.drewN nq = w9 at hb9 ⊢
      clear h0 h1 h2 g0 g1 g2 hne hgu hbel
      cases q
      · go_wp2
        go_ret
        refine ⟨?_, hb9⟩
        have h9 : ¬ es = fs := by
          intro e
          subst e
          exact HQ2.out (by simp) (Hcc.out.trans Hcf.out.symm)
        rw [decide_eq_false h9]
        rfl
      · go_wp2
        go_roundw
        case rel =>
          refine ⟨k + 1, by omega, by go_num, ?_, hb9⟩
          show _ = _
          rw [List.take_succ_eq_append_getElem hlt'.out, List.take_succ_eq_append_getElem hlt2.out, hall.out, ← Hcc.out, ← Hcf.out, HQ.out rfl]
        case measure => simp [intOf]; omega
    · obtain rfl : k = n := by omega
      go_wp2
      go_ret
      have h1 := hall.out
      rw [List.take_of_length_le (by rw [Hl.out]; exact Nat.le_refl _), List.take_of_length_le (by rw [Hl'.out]; exact Nat.le_refl _)] at h1
      exact ⟨by rw [decide_eq_true h1]; rfl, hbel⟩

theorem sameExtents_none (a b : Option Addr) (cap cap' : Nat) (w : World) :
    Calls Try.prog 27 #[.slice a 0 cap, .slice b 0 cap'] w fun r w' => r = .returned (.bool (decide (([] : List Ext) = []))) ∧ Below w.heap.size w w' := by
  go_enter Try.func27, Try.ntmps27
  go_wp2_with fail
  refine wp_loop_rounds 1 ?_
  rw [rounds_succ]
  go_wp2
  go_ret
  exact ⟨rfl, Below.refl _ _⟩

theorem sameExtents_len (a b : Option Addr) (cap cap' n m : Nat) (w : World) (es fs : List Ext) (hl : es.length = n) (hl' : fs.length = m) (hnm : n ≠ m) :
    Calls Try.prog 27 #[.slice a n cap, .slice b m cap'] w fun r w' => r = .returned (.bool (decide (es = fs))) ∧ Below w.heap.size w w' := by
  have e : ¬ es = fs := fun e => hnm (by rw [← hl, ← hl', e])
  rw [decide_eq_false e]
  have h1 : ((n : Int) != (m : Int)) = true := by simp; omega
  clear hl hl' hnm e
  go_enter Try.func27, Try.ntmps27
  go_wp2
  go_ret
  exact ⟨rfl, Below.refl _ _⟩

theorem sameExtents_at (cap cap' n m : Nat) (a b : Option Addr) (es fs : List Ext) (w : World) (hl : es.length = n) (hl' : fs.length = m) (hn : n ≤ 9223372036854775807) (hr : RdE w a es) (hr' : RdE w b fs) :
    Calls Try.prog 27 #[.slice a n cap, .slice b m cap'] w fun r w' => r = .returned (.bool (decide (es = fs))) ∧ Below w.heap.size w w' := by
  by_cases hnm : n = m
  · subst hnm
    by_cases h0 : 0 < n
    · obtain ⟨b1, o1, rfl, hc⟩ := hr (by omega)
      obtain ⟨b2, o2, rfl, hc'⟩ := hr' (by omega)
      exact sameExtents_in b1 o1 b2 o2 cap cap' n es fs w hl hl' hn (block_lt_of_cell (hc 0 (by omega)).1) (block_lt_of_cell (hc' 0 (by omega)).1) hc hc'
    · obtain rfl : n = 0 := by omega
      obtain rfl : es = [] := List.eq_nil_of_length_eq_zero hl
      obtain rfl : fs = [] := List.eq_nil_of_length_eq_zero hl'
      exact sameExtents_none a b cap cap' w
  · exact sameExtents_len a b cap cap' n m w es fs hl hl' hnm

/-- SameInode -/
def sameI (i j : Ino) : Bool := ((i.k : Int) == (j.k : Int)) && ((i.l == j.l) && ((i.s == j.s) && ((i.n == j.n) && decide (i.d = j.d))))
theorem sameI_self (i : Ino) : sameI i i = true := by simp [sameI]

set_option maxRecDepth 100000 in
set_option maxHeartbeats 1000000 in
theorem sameInode_at (cap cap' n m : Nat) (a b : Option Addr) (i j : Ino) (w : World) (hl : i.d.length = n) (hl' : j.d.length = m) (hn : n ≤ 9223372036854775807) (hr : RdE w a i.d) (hr' : RdE w b j.d) :
    Calls Try.prog 26 #[.agg #[.int .u8 (i.k : Int), .int .i64 i.l, .int .i64 i.s, .slice a n cap, .int .i64 i.n], .agg #[.int .u8 (j.k : Int), .int .i64 j.l, .int .i64 j.s, .slice b m cap', .int .i64 j.n]] w fun r w' => r = .returned (.bool (sameI i j)) ∧ Below w.heap.size w w' := by
  unfold sameI
  have hb := ((Below.refl w.heap.size w).alloc (Nat.le_refl _) (.cells #[.int .u8 (i.k : Int), .int .i64 i.l, .int .i64 i.s, .slice a n cap, .int .i64 i.n] 32)).alloc (by simp) (.cells #[.int .u8 (j.k : Int), .int .i64 j.l, .int .i64 j.s, .slice b m cap', .int .i64 j.n] 32)
  have c5 := sameExtents_at cap cap' n m a b i.d j.d _ hl hl' hn (hr.below hb (Nat.le_refl _)) (hr'.below hb (Nat.le_refl _))
  clear hl hl' hr hr'
  cases h0 : ((i.k : Int) == (j.k : Int))
  · go_enter Try.func26, Try.ntmps26
    go_wp2
    go_ret
    exact ⟨rfl, hb⟩
  · cases h1 : (i.l == j.l)
    · go_enter Try.func26, Try.ntmps26
      go_wp2
      go_ret
      exact ⟨rfl, hb⟩
    · cases h2 : (i.s == j.s)
      · go_enter Try.func26, Try.ntmps26
        go_wp2
        go_ret
        exact ⟨rfl, hb⟩
      · cases h3 : (i.n == j.n)
        · go_enter Try.func26, Try.ntmps26
          go_wp2
          go_ret
          exact ⟨rfl, hb⟩
        · go_enter Try.func26, Try.ntmps26
          go_wp2_with fail
          refine c5.mono ?_
          rintro r w1 ⟨rfl, b1⟩
          have B1 := hb.trans (b1.mono hb.size)
          go_wp2
          go_ret
          exact ⟨rfl, B1⟩
end Go.Proofs.Ytmhplpiglbamcaa
