/-
  The document's own memory, in memory; its calls.
-/
import Derived.Test.YtinflodnkopcdaaOps
namespace Go.Proofs.Ytinflodnkopcdaa
open Go.RowKit
structure IsR (w : World) (B m : Nat) (S : M) : Prop where
  hm : B ≤ m
  rt : Rt S
  row : ∃ g, B ≤ g ∧ Box w m #[.slice (some ⟨g, 0, none⟩) S.C.length S.C.length, .int .i64 S.k] 46 ∧ Row 40 w g S.C
theorem IsR.kt {w w' : World} {B m : Nat} {S : M} (h : IsR w B m S) {p : TypeId → Prop} (hk : Kt p w w') (h1 : p 46) (h2 : p 40) : IsR w' B m S := by
  obtain ⟨g, hg, hb, hr⟩ := h.row
  exact ⟨h.hm, h.rt, g, hg, hk _ _ _ hb h1, hk _ _ _ hr h2⟩
theorem IsR.below {w w' : World} {B m : Nat} {S : M} (h : IsR w B m S) (hb : Below w.heap.size w w') : IsR w' B m S := h.kt (p := fun _ => True) (Kt.below hb) trivial trivial
theorem IsR.hB {w : World} {B m : Nat} {S : M} (h : IsR w B m S) : B ≤ w.heap.size := by
  obtain ⟨g, hg, hb, hr⟩ := h.row
  exact Nat.le_trans h.hm (Nat.le_of_lt hb.lt)
structure RTo (w : World) (B m : Nat) (S : M) (w' : World) : Prop where
  is : IsR w' B m S
  bel : Below B w w'
  kt : Kt (fun t => t ≠ 46 ∧ t ≠ 40) w w'
theorem RTo.same {w : World} {B m : Nat} {S : M} (h : IsR w B m S) : RTo w B m S w := ⟨h, Below.refl _ _, Kt.refl _ _⟩
theorem RTo.drew {w w' : World} {B m : Nat} {S : M} (h : RTo w B m S w') (n : Nat) : RTo w B m S (w'.drewN n) := ⟨h.is.kt (p := fun _ => True) (fun _ _ _ x _ => x.drew n) trivial trivial, ⟨h.bel.os, h.bel.tape, h.bel.output, h.bel.size, h.bel.block⟩, h.kt.drew n⟩
theorem RTo.ofRow {w w' : World} {B m g : Nat} {S : M} (h : IsR w B m S) (hg : B ≤ g) (hb : Box w m #[.slice (some ⟨g, 0, none⟩) S.C.length S.C.length, .int .i64 S.k] 46) (hr : Row 40 w g S.C) {C : List Cl} (hC : C.length = S.C.length) (hr' : Row 40 w' g C) (hgr : w.grownBy w' (some g)) : RTo w B m ⟨C, S.k⟩ w' := by
  have hne : m ≠ g := hb.ne hr (by decide)
  refine ⟨⟨h.hm, ⟨?_, ?_, h.rt.k0, h.rt.k1⟩, g, hg, ?_, hr'⟩, ?_, ?_⟩
  · simpa [hC] using h.rt.n1
  · simpa [hC] using h.rt.n2
  · rw [hC]; exact (hgr.block m hb.lt (by simpa using hne)).trans hb
  · exact ⟨hgr.os, hgr.tape, hgr.output, hgr.size, fun i hi => hgr.block i (Nat.lt_of_lt_of_le hi h.hB) (by simp; omega)⟩
  · exact (Kt.refl _ _).grown hgr 40 (fun k e => by cases e; exact ⟨_, hr⟩) (by simp)
theorem there_in {w : World} {m g n : Nat} {k : Value} (h : Box w m #[.slice (some ⟨g, 0, none⟩) n n, k] 46) (i : Nat) (hi : i < n) : Calls Try.prog 38 #[ptr m, .int .i64 (i : Int)] w fun r w' => r = .returned (.bool true) ∧ w' = w := by
  have c1 : w.cell? ⟨m, 0, none⟩ = some (.slice (some ⟨g, 0, none⟩) n n) := h.cell 0
  clear h
  unfold ptr at *
  have h1 : (i : Int) < (n : Int) := by omega
  go_enter Try.func38, Try.ntmps38
  go_wp2
  go_ret
  simp
theorem there_out {w : World} {m g n : Nat} {k : Value} (h : Box w m #[.slice (some ⟨g, 0, none⟩) n n, k] 46) (i : Int) (hi : i < 0 ∨ (n : Int) ≤ i) : Calls Try.prog 38 #[ptr m, .int .i64 i] w fun r w' => r = .returned (.bool false) ∧ w' = w := by
  have c1 : w.cell? ⟨m, 0, none⟩ = some (.slice (some ⟨g, 0, none⟩) n n) := h.cell 0
  clear h
  unfold ptr at *
  by_cases h1 : i < 0
  · go_enter Try.func38, Try.ntmps38
    go_wp2
    go_ret
    simp
  · have h2 : (n : Int) ≤ i := by omega
    clear hi
    go_enter Try.func38, Try.ntmps38
    go_wp2
    go_ret
    simp
    exact h2
theorem radv_at {w : World} {B m : Nat} {S : M} (h : IsR w B m S) : Calls Try.prog 15 #[ptr m] w fun r w' => r = .returned (.tuple #[.int .i64 S.adv.2.1, .int .i64 S.adv.2.2]) ∧ RTo w B m S.adv.1 w' := by
  obtain ⟨g, hg, hb, hr⟩ := h.row
  have c2 : w.cell? ⟨m, 1, none⟩ = some (.int .i64 S.k) := hb.cell 1
  by_cases hk : 1099511627776 ≤ S.k
  · have e : S.adv = (S, 0, 133) := by simp [M.adv, hk]
    rw [e]
    have H : Hid (RTo w B m S w) := RTo.same h
    have hk' : S.k = 1099511627776 := by have := h.rt.k1; omega
    rw [hk'] at c2
    clear h hb hr hk' e hk
    unfold ptr at *
    go_enter Try.func15, Try.ntmps15
    go_wp2
    go_ret2
    exact ⟨rfl, H.out⟩
  · have e : S.adv = (⟨S.C, S.k + 1⟩, S.k + 1, 0) := by simp [M.adv, hk]
    rw [e]
    have f2 := hb.frozen 1
    have b1 := hb.store 1 (.int .i64 (S.k + 1))
    have g1 := grown_store w m 1 (.int .i64 (S.k + 1))
    have k1 : Kt (fun t => t ≠ 46) w (w.setCell ⟨m, 1, none⟩ (.int .i64 (S.k + 1))) := (Kt.refl _ _).setCell hb (by simp) 1 _
    have H : Hid (RTo w B m ⟨S.C, S.k + 1⟩ (w.setCell ⟨m, 1, none⟩ (.int .i64 (S.k + 1)))) := ⟨⟨h.hm, ⟨h.rt.n1, h.rt.n2, by have := h.rt.k0; simp; omega, by simp; omega⟩, g, hg, by simpa using b1, k1 _ _ _ hr (by decide)⟩, ⟨g1.os, g1.tape, g1.output, g1.size, fun i hi => g1.block i (Nat.lt_of_lt_of_le hi h.hB) (by have := h.hm; simp; omega)⟩, k1.mono (fun t ht => ht.1)⟩
    have hk0 := h.rt.k0
    have ck : (w.setCell ⟨m, 1, none⟩ (.int .i64 (S.k + 1))).cell? ⟨m, 1, none⟩ = some (.int .i64 (S.k + 1)) := by rw [Box.cell b1]; simp
    generalize S.k = k at *
    clear h hb hr b1 g1 k1 e
    have hk1 : k < 1099511627776 := by omega
    have hkb : (k == 1099511627776) = false := by simp; omega
    clear hk
    unfold ptr at *
    go_enter Try.func15, Try.ntmps15
    go_wp2
    go_ret2
    exact ⟨rfl, H.out⟩
theorem rload_at {w : World} {B m : Nat} {S : M} (h : IsR w B m S) (i : Int) (hv : ∀ c, S.cell? i = some c → ∃ y : Int, c.v = .int .i64 y) : Calls Try.prog 16 #[ptr m, .int .i64 i] w fun r w' => r = .returned (.tuple #[.agg #[(M.load S i).1, .int .i64 (M.load S i).2.1, .int .i64 (M.load S i).2.2.1], .int .i64 (M.load S i).2.2.2]) ∧ Below w.heap.size w w' := by
  obtain ⟨g, hg, hb, hr⟩ := h.row
  have x := Box.new w #[.int .i64 0, .int .i64 0, .int .i64 0] 40
  have bb := (Below.refl w.heap.size w).alloc (Nat.le_refl _) (.cells #[.int .i64 0, .int .i64 0, .int .i64 0] 40)
  have hb' := hb.below bb hb.lt
  cases hc : S.cell? i with
  | none =>
    have c := there_out hb' i (M.cell_out hc)
    have e : M.load S i = (.int .i64 0, 0, 0, 2) := by simp [M.load, hc]
    rw [e]
    have HB : Hid (Below w.heap.size w (w.alloc (.cells #[.int .i64 0, .int .i64 0, .int .i64 0] 40))) := bb
    have x0 := x.cell 0
    have x1 := x.cell 1
    have x2 := x.cell 2
    have f0 := x.frozen 0
    have f1 := x.frozen 1
    have f2 := x.frozen 2
    simp only [List.getElem?_toArray, List.getElem?_cons_zero, List.getElem?_cons_succ] at x0 x1 x2
    clear h hb hr hc e hb' bb x hv
    unfold ptr at *
    go_enter Try.func16, Try.ntmps16
    go_wp2_with (go_at_call 38; refine c.mono ?_; rintro e w' ⟨rfl, rfl⟩)
    refine bodyPost_ret (hd := rfl) (hR := ⟨rfl, ?_⟩) (hr := ?_)
    · simp [results, Try.results16, go_sem, *]
    · exact HB.out
  | some q =>
    obtain ⟨y, hy⟩ := hv q hc
    obtain ⟨j, rfl, hj, hl⟩ := M.cell_in hc
    have c := there_in hb' j hl
    obtain ⟨d0, d1, d2⟩ := Row.get (t := 40) (w := w.alloc (.cells #[.int .i64 0, .int .i64 0, .int .i64 0] 40)) (g := g) (C := S.C) (Box.below hr bb (Box.lt hr)) hj
    have c0 : (w.alloc (.cells #[.int .i64 0, .int .i64 0, .int .i64 0] 40)).cell? ⟨m, 0, none⟩ = some (.slice (some ⟨g, 0, none⟩) S.C.length S.C.length) := hb'.cell 0
    have e : M.load S (j : Int) = (q.v, q.ver, q.own, 0) := by simp [M.load, hc]
    rw [e, hy]
    rw [hy] at d0
    have hli : (j : Int) < (S.C.length : Int) := by omega
    generalize S.C.length = n at c0 hli
    obtain ⟨xv, xk, xo⟩ := q
    simp only at d0 d1 d2
    have y3 := Box.new w #[.int .i64 y, .int .i64 xk, .int .i64 xo] 40
    have HB : Hid (Below w.heap.size w (w.alloc (.cells #[.int .i64 y, .int .i64 xk, .int .i64 xo] 40))) := (Below.refl w.heap.size w).alloc (Nat.le_refl _) _
    have x0 := y3.cell 0
    have x1 := y3.cell 1
    have x2 := y3.cell 2
    simp only [List.getElem?_toArray, List.getElem?_cons_zero, List.getElem?_cons_succ] at x0 x1 x2
    clear h hb hr hc e hb' bb x hv y3
    unfold ptr at *
    go_enter Try.func16, Try.ntmps16
    go_wp2_with (go_at_call 38; refine c.mono ?_; rintro e w' ⟨rfl, rfl⟩)
    refine bodyPost_ret (hd := rfl) (hR := ⟨rfl, ?_⟩) (hr := ?_)
    · simp [results, Try.results16, go_sem, *]
    · exact HB.out
theorem infoRC : (Try.prog.info? 40).map (fun i => (i.zero, i.size, i.bytes)) = some (some (.agg #[.int .i64 0, .int .i64 0, .int .i64 0]), 3, 24) := by kernel_rfl
theorem rmake_cells (n : Nat) (hn : n ≤ 1024) (u : World) : (Instr.makeSlice 44 (.int .i64 (n : Int)) (.int .i64 (n : Int))).run Try.prog u = .ok (.slice (some ⟨u.heap.size, 0, none⟩) n n) (u.alloc (.cells (cls (List.replicate n ⟨.int .i64 0, 0, 0⟩)).toArray 40)) := by
  obtain ⟨i0, hi, hz0, hz1, hz2⟩ := info_parts infoRC
  have h := run_make (P := Try.prog) u 44 40 i0 (.agg #[.int .i64 0, .int .i64 0, .int .i64 0]) Try.underlying44 hi hz0 .i64 .i64 (n : Int) (n : Int) (by omega) (Int.le_refl _) (by rw [hz2]; omega) (by omega)
  have e : ((n : Int)).toNat = n := by omega
  rw [e, hz1] at h
  rw [← cls_made]
  exact h
theorem rnew_no (w : World) (n : Int) (hn : n < 1 ∨ 1024 < n) : Calls Try.prog 14 #[.int .i64 n] w fun r w' => r = .returned (.tuple #[.pointer none, .int .i64 2]) ∧ w' = w := by
  by_cases h1 : n < 1
  · go_enter Try.func14, Try.ntmps14
    go_wp2
    go_ret2
    simp
  · have h2 : 1024 < n := by omega
    clear hn
    go_enter Try.func14, Try.ntmps14
    go_wp2
    go_ret2
    simp
theorem rnew_at (w : World) (n : Nat) (h1 : 1 ≤ n) (h2 : n ≤ 1024) : Calls Try.prog 14 #[.int .i64 (n : Int)] w fun r w' => ∃ m, r = .returned (.tuple #[ptr m, .int .i64 0]) ∧ IsR w' w.heap.size m (M0 n) ∧ Below w.heap.size w w' := by
  have hmk := rmake_cells n h2
  have hz : (cls (List.replicate n ⟨.int .i64 0, 0, 0⟩)).toArray = (cls (M0 n).C).toArray := rfl
  have hl : (M0 n).C.length = n := by simp [M0]
  have hq : (M0 n).k = 0 := rfl
  rw [hz] at hmk
  have hn0 : (1 : Int) ≤ (n : Int) := by omega
  have hn1 : (n : Int) ≤ 1024 := by omega
  obtain ⟨S, hS⟩ : ∃ S, S = M0 n := ⟨_, rfl⟩
  rw [← hS] at hmk hl hq ⊢
  clear hS hz
  have HS : Hid (S.C.length = n ∧ S.k = 0) := ⟨hl, hq⟩
  clear hl hq
  generalize hZ : (cls S.C).toArray = Z at hmk
  have HZ : Hid ((cls S.C).toArray = Z) := hZ
  clear hZ
  have xm := Box.new (w.alloc (.cells Z 40)) #[.slice (some ⟨w.heap.size, 0, none⟩) n n, .int .i64 0] 46
  have xs := (Box.new w Z 40).alloc (.cells #[.slice (some ⟨w.heap.size, 0, none⟩) n n, .int .i64 0] 46)
  have e1 : (w.alloc (.cells Z 40)).heap.size = w.heap.size + 1 := by simp
  rw [e1] at xm
  have bb := ((Below.refl w.heap.size w).alloc (Nat.le_refl _) (.cells Z 40)).alloc (by rw [e1]; omega) (.cells #[.slice (some ⟨w.heap.size, 0, none⟩) n n, .int .i64 0] 46)
  have H : Hid (Box ((w.alloc (.cells Z 40)).alloc (.cells #[.slice (some ⟨w.heap.size, 0, none⟩) n n, .int .i64 0] 46)) (w.heap.size + 1) #[.slice (some ⟨w.heap.size, 0, none⟩) n n, .int .i64 0] 46 ∧ Box ((w.alloc (.cells Z 40)).alloc (.cells #[.slice (some ⟨w.heap.size, 0, none⟩) n n, .int .i64 0] 46)) w.heap.size Z 40 ∧ Below w.heap.size w ((w.alloc (.cells Z 40)).alloc (.cells #[.slice (some ⟨w.heap.size, 0, none⟩) n n, .int .i64 0] 46))) := ⟨xm, xs, bb⟩
  clear xm xs e1 bb
  unfold ptr at *
  go_enter Try.func14, Try.ntmps14
  go_wp2
  obtain ⟨H1, H2, H3⟩ := H.out
  refine bodyPost_ret (v := .tuple #[.pointer (some ⟨w.heap.size + 1, 0, none⟩), .int .i64 0]) (by simp [results, Try.results14, go_sem]) rfl ⟨w.heap.size + 1, rfl, ⟨by omega, ⟨?_, ?_, ?_, ?_⟩, w.heap.size, by omega, ?_, ?_⟩, H3⟩
  · have := HS.out.1; omega
  · have := HS.out.1; omega
  · rw [HS.out.2]; omega
  · rw [HS.out.2]; omega
  · rw [HS.out.1, HS.out.2]; exact H1
  · unfold Row; rw [HZ.out]; exact H2
end Go.Proofs.Ytinflodnkopcdaa
