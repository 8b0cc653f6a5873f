/-
  Put of a key that is there, and of a new one.
-/
import Derived.Test.YtlbjalodjcajfaaGreatPut
namespace Go.Proofs.YtlbjalodjcajfaaGreat
open Go.RowKit Go.Maps
variable {mg : MG}
theorem chg_threeN {w : World} (g i : Nat) (a b c : Value) : Chg (fun k => k = g) w (((w.setCell ⟨g, i, none⟩ a).setCell ⟨g, i + 1, none⟩ b).setCell ⟨g, i + 2, none⟩ c) :=
  ((Chg.setCell (S := fun k => k = g) (Chg.refl _ w) g i a (fun _ => rfl)).setCell g (i + 1) b (fun _ => rfl)).setCell g (i + 2) c (fun _ => rfl)
section
variable {w0 u u' : World} {x t base n : Nat} {st : Int} {V : List En} {K : List Bx}
set_option maxRecDepth 100000 in
set_option maxHeartbeats 4000000 in
theorem put_new (h : HasT mg w0 u x 1 V K) (ht : tb t x base n ∈ K) (h1 : 1 ≤ n) (hb : base + n ≤ V.length) (hr : Rgt (seg V base n) = true) (key val : ByteArray) (hk : hasK (seg V base n) key = false) {z : En} (hz : (seg V base n)[n - 1]? = some z) (hzu : z.u = false) :
    Calls Tryz.prog 7 #[ptr t, .string key, .string val] u fun r w' => r = .returned (.int .i64 0) ∧ HasT mg w0 w' x 1 (lay V base (insL (seg V base n) n (posOf (seg V base n) key) ⟨true, key, val⟩)) K := by
  have hv := h.len.2
  have cr := tread_at h ht h1 hb
  have hsl := seg_len (n := n) hb
  obtain ⟨L, hLs⟩ : ∃ L, L = seg V base n := ⟨_, rfl⟩
  have HS := hid hLs.symm
  rw [← hLs] at hr hk hsl cr hz ⊢
  clear hLs
  rw [hr] at cr
  simp only [rdv] at cr
  have HFD : Hid (∀ (w1 : World) (a : Option Addr), RdE w1 a L → Calls Tryz.prog 21 #[.slice a n n, .string key] w1 fun r w' => r = .returned (.tuple #[.int .i64 (posOf L key : Int), .bool false]) ∧ Below w1.heap.size w1 w') := fun w1 a hl => by
    have := find_at (c := n) hl hsl (by omega) hr key
    rwa [hk] at this
  have hZ := And.intro hsl (And.intro (pos_last (key := key) hsl h1 hz hzu) hz)
  obtain ⟨p, hp⟩ : ∃ p, p = posOf L key := ⟨_, rfl⟩
  have hFD := HFD.out
  clear HFD
  rw [← hp] at hZ hFD ⊢
  have HFD := hid hFD
  have HZ := hid hZ
  clear hZ hFD
  clear h hk hr hp hz
  unfold ptr at *
  go_enter Tryz.func7, Tryz.ntmps7
  go_wp2_with fail
  refine cr.mono ?_
  rintro e w1 ⟨q, hq, rfl, h3⟩
  have hT : tb t x base n ∈ ((q, (flat eE L).toArray, 28) :: K) := List.mem_cons_of_mem _ ht
  have d3 : w1.cell? ⟨t, 3, none⟩ = some (.int .i64 (n : Int)) := (h3.bK _ hT).cell 3
  have rw1 : IntKind.i64.wrap ((n : Int) - 1) = (n : Int) - 1 := by rw [IntKind.wrap_i64]; omega
  have HT3 : Hid (∀ o : Obj, (w1.alloc o).drew.cell? ⟨t, 3, none⟩ = some (.int .i64 (n : Int))) := fun o => ((h3.bK _ hT).alloc o).cell 3
  have hL := HZ.out.1
  have h4 := (h3.box #[.bool true, .string key, .string val] 28).below (u' := (w1.alloc (.cells #[.bool true, .string key, .string val] 28)).drew) ⟨rfl, rfl, rfl, Nat.le_refl _, fun _ _ => rfl⟩
  have rd4 : RdE (w1.alloc (.cells #[.bool true, .string key, .string val] 28)).drew (some ⟨q, 0, none⟩) L := rdE_flat (h4.bK _ (List.mem_cons_of_mem _ (List.mem_cons_self ..)))
  have cf := HFD.out _ _ rd4
  have H4 := hid h4
  have HQ := hid (And.intro hq (h3.low))
  clear cr h3 h4 hq rd4
  go_upto_region 4 with fail
  go_region_held3 (fun v => v.cell? ⟨t, 3, none⟩ = some (.int .i64 (n : Int))) (first | exact HT3.out _ | go_keep) (fail)
  clear d3
  go_wp2_with fail
  refine cf.mono ?_
  rintro e w5 ⟨rfl, hb5⟩
  have h5 := H4.out.below hb5
  have rd5 : RdE w5 (some ⟨q, 0, none⟩) L := rdE_flat (h5.bK _ (List.mem_cons_of_mem _ (List.mem_cons_self ..)))
  have cc := clone_at (c := n) rd5 hL h1 (by omega)
  have H5 := hid h5
  clear cf hb5 h5 H4 rd5
  go_wp2_with fail
  refine cc.mono ?_
  rintro e w6 ⟨g, cap, rfl, hg, hlay, hb6⟩
  have hp2 := HZ.out.2.1
  obtain ⟨cur, hcur, hcs, hct⟩ := hlay.cur
  have hcap := hlay.mx
  have h6 := H5.out.adopt hb6 hcur hg
  have heb : Box w6 w1.heap.size #[.bool true, .string key, .string val] 28 := h6.bK _ (List.mem_cons_of_mem _ (List.mem_cons_self ..))
  have l0 : w6.cell? ⟨w1.heap.size, 0, none⟩ = some (.bool true) := heb.cell 0
  have l1 : w6.cell? ⟨w1.heap.size, 1, none⟩ = some (.string key) := heb.cell 1
  have l2 : w6.cell? ⟨w1.heap.size, 2, none⟩ = some (.string val) := heb.cell 2
  have hrow : Box w6 q (flat eE L).toArray 28 := h6.bK _ (List.mem_cons_of_mem _ (List.mem_cons_of_mem _ (List.mem_cons_self ..)))
  have z0 : w6.cell? ⟨q, (n - 1) * 3, none⟩ = some (.bool false) := by
    have := (flat_get eE HZ.out.2.2).1
    rw [hrow.cell]
    simpa [eE, hzu] using this
  have r2 : ((n : Int) - 1).toNat = n - 1 := by omega
  have r3 : (0 : Int) ≤ (n : Int) - 1 := by omega
  have hlow := H5.out.low
  have hK6 : ∀ y ∈ ((w1.heap.size, #[.bool true, .string key, .string val], (28 : TypeId)) :: (q, (flat eE L).toArray, 28) :: K), y.1 ≠ g := fun y hy e => by have := H5.out.lt hy; omega
  have hne6 : w6.heap.size ≠ g := by have := hcur.lt; omega
  have h6b := (h6.box (flat eE [⟨true, key, val⟩]).toArray 28).below (u' := (w6.alloc (.cells (flat eE [⟨true, key, val⟩]).toArray 28)).drew) ⟨rfl, rfl, rfl, Nat.le_refl _, fun _ _ => rfl⟩
  have hlay2 : Lay eE 28 (w6.alloc (.cells (flat eE [⟨true, key, val⟩]).toArray 28)).drew g cap L := hlay.at' (Below.heap_alloc w6 _ g hcur.lt)
  have ci := insert_n hlay2 hL hp2 (by omega) (by unfold maxLen at hcap; omega) (h6b.bK.one) hne6
  have h6c := h6b.less (K' := (g, cur, 28) :: (w1.heap.size, #[.bool true, .string key, .string val], 28) :: (q, (flat eE L).toArray, 28) :: K) (fun y hy => List.mem_cons_of_mem _ hy)
  have HIN : Hid (∀ w', Lay eE 28 w' g cap (insL L n p ⟨true, key, val⟩) ∧ Chg (fun k => k = g) (w6.alloc (.cells (flat eE [⟨true, key, val⟩]).toArray 28)).drew w' → ∃ cur7 : Array Value, HasT mg w0 w' x 1 V ((g, cur7, 28) :: (w1.heap.size, #[.bool true, .string key, .string val], 28) :: (q, (flat eE L).toArray, 28) :: K) ∧ cur7.toList.take ((insL L n p ⟨true, key, val⟩).length * 3) = flat eE (insL L n p ⟨true, key, val⟩)) := fun w' hh => by
    obtain ⟨cur7, hc7, _, ht7⟩ := hh.1.cur
    exact ⟨cur7, h6c.turn hh.2 hc7 hK6 (by omega), ht7⟩
  have HKK : Hid (∀ (v : World) (c7 : Array Value), HasT mg w0 v x 1 V ((g, c7, 28) :: (w1.heap.size, #[.bool true, .string key, .string val], 28) :: (q, (flat eE L).toArray, 28) :: K) → (v.cell? ⟨w1.heap.size, 0, none⟩ = some (.bool true) ∧ v.cell? ⟨w1.heap.size, 1, none⟩ = some (.string key) ∧ v.cell? ⟨w1.heap.size, 2, none⟩ = some (.string val))) := fun v c7 hv => by
    have b := hv.bK _ (List.mem_cons_of_mem _ (List.mem_cons_self ..))
    exact ⟨b.cell 0, b.cell 1, b.cell 2⟩
  have HK0 : Hid (∀ o : Obj, ((w6.alloc o).drew.cell? ⟨w1.heap.size, 0, none⟩ = some (.bool true) ∧ (w6.alloc o).drew.cell? ⟨w1.heap.size, 1, none⟩ = some (.string key) ∧ (w6.alloc o).drew.cell? ⟨w1.heap.size, 2, none⟩ = some (.string val))) := fun o => ⟨(heb.alloc o).cell 0, (heb.alloc o).cell 1, (heb.alloc o).cell 2⟩
  have hpn : (p : Int) ≤ (n : Int) - 1 := by omega
  have r4 : n - 1 ≤ cap := by have := hlay.le; omega
  have r5 : (n : Int) - 1 ≤ (cap : Int) := by omega
  have r6 : (1 : Int) ≤ (n : Int) := by omega
  have r7 : ¬ ((n : Int) - 1 < 0) := by omega
  have r8 : (n : Int) ≤ (cap : Int) + 1 := by have := hlay.le; omega
  have r9 : ¬ ((cap : Int) < (n : Int) - 1) := by omega
  have HG := hid (And.intro hL hp2)
  clear cc hb6 h6 h6b h6c H5 hlay hlay2 hg hcur hct hK6 heb HZ HFD HT3 hcs hrow hcap
  go_wp2_with fail
  clear z0
  go_region_held3 (fun v => v.cell? ⟨w1.heap.size, 0, none⟩ = some (.bool true) ∧ v.cell? ⟨w1.heap.size, 1, none⟩ = some (.string key) ∧ v.cell? ⟨w1.heap.size, 2, none⟩ = some (.string val)) (first | with_reducible exact HKK.out _ _ h7 | with_reducible exact HK0.out _ | go_keep) ((go_at_call 23; refine Calls.mono ci ?_; rintro e w7 ⟨rfl, hh7⟩; obtain ⟨cur7, h7, hct7⟩ := HIN.out _ hh7))
  all_goals
    have q1 : RowIn ((g, cur7, 28) :: (w1.heap.size, #[.bool true, .string key, .string val], 28) :: (q, (flat eE L).toArray, 28) :: K) q L := ⟨_, List.mem_cons_of_mem _ (List.mem_cons_of_mem _ (List.mem_cons_self ..)), by rw [← flat_len eE, List.toList_toArray, List.take_length]⟩
    have q2 : RowIn ((g, cur7, 28) :: (w1.heap.size, #[.bool true, .string key, .string val], 28) :: (q, (flat eE L).toArray, 28) :: K) g (insL L n p ⟨true, key, val⟩) := ⟨_, List.mem_cons_self .., hct7⟩
    have cw := twrite_at (c1 := n) (c2 := cap) h7 (List.mem_cons_of_mem _ (List.mem_cons_of_mem _ hT)) hb q1 q2 HG.out.1 (insL_len HG.out.1 HG.out.2 _) HS.out
    clear h7 hh7 hct7 q1 q2 HG HIN HKK HK0 ci
    unfold ptr at cw
    go_wp2_with fail
    refine cw.mono ?_
    rintro e w8 ⟨rfl, h8⟩
    have H8 := hid (h8.less (K' := K) (fun y hy => List.mem_cons_of_mem _ (List.mem_cons_of_mem _ (List.mem_cons_of_mem _ hy))))
    clear cw h8
    go_wp2_with fail
    go_ret
    exact ⟨rfl, H8.out⟩
end
end Go.Proofs.YtlbjalodjcajfaaGreat
