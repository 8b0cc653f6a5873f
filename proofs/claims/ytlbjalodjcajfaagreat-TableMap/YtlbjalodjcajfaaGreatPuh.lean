/-
  Put of a key that is there, and of a new one.
-/
import Derived.Test.YtlbjalodjcajfaaGreatPut
namespace Go.Proofs.YtlbjalodjcajfaaGreat
open Go.RowKit Go.Maps
variable {mg : MG}
theorem chg_three {w : World} (g i : Nat) (a b c : Value) : Chg (fun k => k = g) w (((w.setCell ⟨g, i, none⟩ a).setCell ⟨g, i + 1, none⟩ b).setCell ⟨g, i + 2, none⟩ c) :=
  ((Chg.setCell (S := fun k => k = g) (Chg.refl _ w) g i a (fun _ => rfl)).setCell g (i + 1) b (fun _ => rfl)).setCell g (i + 2) c (fun _ => rfl)
section
variable {w0 u u' : World} {x t base n : Nat} {st : Int} {V : List En} {K : List Bx}
set_option maxRecDepth 100000 in
set_option maxHeartbeats 4000000 in
theorem put_has (h : HasT mg w0 u x 1 V K) (ht : tb t x base n ∈ K) (h1 : 1 ≤ n) (hb : base + n ≤ V.length) (hr : Rgt (seg V base n) = true) (key val : ByteArray) (hk : hasK (seg V base n) key = true) :
    Calls Tryz.prog 7 #[ptr t, .string key, .string val] u fun r w' => r = .returned (.int .i64 0) ∧ HasT mg w0 w' x 1 (lay V base ((seg V base n).set (posOf (seg V base n) key) ⟨true, key, val⟩)) K := by
  have hv := h.len.2
  have cr := tread_at h ht h1 hb
  have hsl := seg_len (n := n) hb
  obtain ⟨L, hLs⟩ : ∃ L, L = seg V base n := ⟨_, rfl⟩
  have HS := hid hLs.symm
  rw [← hLs] at hr hk hsl cr ⊢
  clear hLs
  rw [hr] at cr
  simp only [rdv] at cr
  have HFD : Hid (∀ (w1 : World) (a : Option Addr), RdE w1 a L → Calls Tryz.prog 21 #[.slice a n n, .string key] w1 fun r w' => r = .returned (.tuple #[.int .i64 (posOf L key : Int), .bool true]) ∧ Below w1.heap.size w1 w') := fun w1 a hl => by
    have := find_at (c := n) hl hsl (by omega) hr key
    rwa [hk] at this
  have hZ := And.intro hsl (hasK_lt hk)
  obtain ⟨p, hp⟩ : ∃ p, p = posOf L key := ⟨_, rfl⟩
  have hFD := HFD.out
  clear HFD
  rw [← hp] at hZ hFD ⊢
  have HFD := hid hFD
  have HZ := hid hZ
  clear hZ hFD
  clear h hk hr hp
  unfold ptr at *
  go_enter Tryz.func7, Tryz.ntmps7
  go_wp2_with fail
  refine cr.mono ?_
  rintro e w1 ⟨q, hq, rfl, h3⟩
  have hT : tb t x base n ∈ ((q, (flat eE L).toArray, 28) :: K) := List.mem_cons_of_mem _ ht
  have d3 : w1.cell? ⟨t, 3, none⟩ = some (.int .i64 (n : Int)) := (h3.bK _ hT).cell 3
  have rw1 : IntKind.i64.wrap ((n : Int) - 1) = (n : Int) - 1 := by rw [IntKind.wrap_i64]; omega
  have HT3 : Hid (∀ o : Obj, (w1.alloc o).drew.cell? ⟨t, 3, none⟩ = some (.int .i64 (n : Int))) := fun o => ((h3.bK _ hT).alloc o).cell 3
  have hL := HZ.out.1
  have h4 := (h3.box #[.bool true, .string key, .string val] 28).below (u' := (w1.alloc (.cells #[.bool true, .string key, .string val] 28)).drew) ⟨rfl, rfl, rfl, Nat.le_refl _, fun _ _ => rfl⟩
  have rd4 : RdE (w1.alloc (.cells #[.bool true, .string key, .string val] 28)).drew (some ⟨q, 0, none⟩) L := rdE_flat (h4.bK _ (List.mem_cons_of_mem _ (List.mem_cons_self ..)))
  have cf := HFD.out _ _ rd4
  have H4 := hid h4
  have HQ := hid (And.intro hq (h3.low))
  clear cr h3 h4 hq rd4
  go_upto_region 4 with fail
  go_region_held3 (fun v => v.cell? ⟨t, 3, none⟩ = some (.int .i64 (n : Int))) (first | exact HT3.out _ | go_keep) (fail)
  clear d3
  go_wp2_with fail
  refine cf.mono ?_
  rintro e w5 ⟨rfl, hb5⟩
  have h5 := H4.out.below hb5
  have rd5 : RdE w5 (some ⟨q, 0, none⟩) L := rdE_flat (h5.bK _ (List.mem_cons_of_mem _ (List.mem_cons_self ..)))
  have cc := clone_at (c := n) rd5 hL h1 (by omega)
  have H5 := hid h5
  clear cf hb5 h5 H4 rd5
  go_wp2_with fail
  refine cc.mono ?_
  rintro e w6 ⟨g, cap, rfl, hg, hlay, hb6⟩
  have hp2 := HZ.out.2
  obtain ⟨cur, hcur, hcs, hct⟩ := hlay.cur
  have h6 := H5.out.adopt hb6 hcur hg
  have heb : Box w6 w1.heap.size #[.bool true, .string key, .string val] 28 := h6.bK _ (List.mem_cons_of_mem _ (List.mem_cons_self ..))
  have l0 : w6.cell? ⟨w1.heap.size, 0, none⟩ = some (.bool true) := heb.cell 0
  have l1 : w6.cell? ⟨w1.heap.size, 1, none⟩ = some (.string key) := heb.cell 1
  have l2 : w6.cell? ⟨w1.heap.size, 2, none⟩ = some (.string val) := heb.cell 2
  obtain ⟨m0, m1, m2⟩ := hlay.get (List.getElem?_eq_getElem hp2)
  have f0 := hlay.frozen (p * 3)
  have f1 := hlay.frozen (p * 3 + 1)
  have f2 := hlay.frozen (p * 3 + 2)
  have hl7 := hlay.set hp2 ⟨true, key, val⟩
  have hlow := H5.out.low
  have hK6 : ∀ y ∈ ((w1.heap.size, #[.bool true, .string key, .string val], (28 : TypeId)) :: (q, (flat eE L).toArray, 28) :: K), y.1 ≠ g := fun y hy e => by have := H5.out.lt hy; omega
  obtain ⟨cur7, hcur7, _, hct7⟩ := hl7.cur
  have h7 := h6.turn (chg_three g (p * 3) (.bool true) (.string key) (.string val)) hcur7 hK6 (by omega)
  have r1 : RowIn ((g, cur7, 28) :: (w1.heap.size, #[.bool true, .string key, .string val], 28) :: (q, (flat eE L).toArray, 28) :: K) q L := ⟨_, List.mem_cons_of_mem _ (List.mem_cons_of_mem _ (List.mem_cons_self ..)), by rw [← flat_len eE, List.toList_toArray, List.take_length]⟩
  have r2 : RowIn ((g, cur7, 28) :: (w1.heap.size, #[.bool true, .string key, .string val], 28) :: (q, (flat eE L).toArray, 28) :: K) g (L.set p ⟨true, key, val⟩) := ⟨_, List.mem_cons_self .., hct7⟩
  have cw := twrite_at (c1 := n) (c2 := cap) h7 (List.mem_cons_of_mem _ (List.mem_cons_of_mem _ hT)) hb r1 r2 hL (by simpa using hL) HS.out
  simp only [eE] at m0 m1 m2 cw
  have hpn : (p : Int) < (n : Int) := by omega
  clear cc hb6 h6 h7 H5 hlay hl7 hg hcur hcur7 hct hct7 hK6 heb r1 r2 HZ HFD HT3 hcs
  unfold ptr at cw
  go_wp2_with fail
  refine cw.mono ?_
  rintro e w8 ⟨rfl, h8⟩
  have H8 := hid (h8.less (K' := K) (fun y hy => List.mem_cons_of_mem _ (List.mem_cons_of_mem _ (List.mem_cons_of_mem _ hy))))
  clear cw h8
  go_wp2_with fail
  go_ret
  exact ⟨rfl, H8.out⟩
end
end Go.Proofs.YtlbjalodjcajfaaGreat
