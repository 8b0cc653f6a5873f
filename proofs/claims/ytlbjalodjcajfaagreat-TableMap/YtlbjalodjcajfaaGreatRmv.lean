/-
  Remove.
-/
import Derived.Test.YtlbjalodjcajfaaGreatPun
namespace Go.Proofs.YtlbjalodjcajfaaGreat
open Go.RowKit Go.Maps
variable {mg : MG}
def delL (l : List En) (p : Nat) : List En := l.take p ++ (l.drop (p + 1) ++ [E0])
theorem delL_len {l : List En} {n p : Nat} (hl : l.length = n) (hp : p < n) : (delL l p).length = n := by unfold delL; simp; omega
theorem delete_n {w : World} {g cap i n : Nat} {l : List En} (h : Lay eE 28 w g cap l) (hl : l.length = n) (hi : i < n) (hc : n ≤ 1024) (hx : cap ≤ 9223372036854775807) :
    Calls Tryz.prog 25 #[.slice (some ⟨g, 0, none⟩) n cap, .int .i64 (i : Int), .int .i64 ((i : Int) + 1)] w fun r w' => r = .returned (.slice (some ⟨g, 0, none⟩) (n - 1) cap) ∧ Lay eE 28 w' g cap (delL l i) ∧ Chg (fun k => k = g) w w' := by
  obtain ⟨m, rfl⟩ : ∃ m, n = i + 1 + m := ⟨n - i - 1, by omega⟩
  have := delete_at h hl hc hx
  rw [show i + 1 + m - 1 = i + m by omega]
  exact this
theorem last_E0 {l : List En} {n p : Nat} (hl : l.length = n) (hp : p < n) : (delL l p).take (n - 1) ++ ([E0] ++ (delL l p).drop (n - 1 + [E0].length)) = delL l p := by
  have hd := delL_len hl hp
  rw [List.drop_eq_nil_of_le (by rw [hd]; simp; omega), List.append_nil]
  unfold delL
  rw [← List.append_assoc, List.take_left' (by simp; omega)]
section
variable {w0 u u' : World} {x t base n : Nat} {st : Int} {V : List En} {K : List Bx}
set_option maxRecDepth 100000 in
set_option maxHeartbeats 4000000 in
theorem remove_no (h : HasT mg w0 u x 1 V K) (ht : tb t x base n ∈ K) (h1 : 1 ≤ n) (hb : base + n ≤ V.length) (hr : Rgt (seg V base n) = true) (key : ByteArray) (hk : hasK (seg V base n) key = false) :
    Calls Tryz.prog 8 #[ptr t, .string key] u fun r w' => r = .returned (.tuple #[.bool false, .int .i64 0]) ∧ HasT mg w0 w' x 1 V K := by
  have hv := h.len.2
  have cr := tread_at h ht h1 hb
  have hsl := seg_len (n := n) hb
  generalize seg V base n = L at *
  rw [hr] at cr
  simp only [rdv] at cr
  have HFD : Hid (∀ (w1 : World) (a : Option Addr), RdE w1 a L → Calls Tryz.prog 21 #[.slice a n n, .string key] w1 fun r w' => r = .returned (.tuple #[.int .i64 (posOf L key : Int), .bool false]) ∧ Below w1.heap.size w1 w') := fun w1 a hl => by
    have := find_at (c := n) hl hsl (by omega) hr key
    rwa [hk] at this
  clear h hk hr
  unfold ptr at *
  go_enter Tryz.func8, Tryz.ntmps8
  go_wp2_with fail
  refine cr.mono ?_
  rintro e w1 ⟨q, hq, rfl, h3⟩
  have cf := HFD.out _ _ h3.rd
  have H3 := hid h3
  clear cr h3 hq HFD
  go_wp2_with fail
  refine cf.mono ?_
  rintro e w5 ⟨rfl, hb5⟩
  have H5 := hid ((H3.out.below hb5).less (K' := K) (fun y hy => List.mem_cons_of_mem _ hy))
  clear cf hb5 H3
  go_wp2_with fail
  go_ret2
  exact ⟨rfl, H5.out⟩
set_option maxRecDepth 100000 in
set_option maxHeartbeats 4000000 in
theorem remove_yes (h : HasT mg w0 u x 1 V K) (ht : tb t x base n ∈ K) (h1 : 1 ≤ n) (hb : base + n ≤ V.length) (hr : Rgt (seg V base n) = true) (key : ByteArray) (hk : hasK (seg V base n) key = true) :
    Calls Tryz.prog 8 #[ptr t, .string key] u fun r w' => r = .returned (.tuple #[.bool true, .int .i64 0]) ∧ HasT mg w0 w' x 1 (lay V base (delL (seg V base n) (posOf (seg V base n) key))) K := by
  have hv := h.len.2
  have cr := tread_at h ht h1 hb
  have hsl := seg_len (n := n) hb
  obtain ⟨L, hLs⟩ : ∃ L, L = seg V base n := ⟨_, rfl⟩
  have HS := hid hLs.symm
  rw [← hLs] at hr hk hsl cr ⊢
  clear hLs
  rw [hr] at cr
  simp only [rdv] at cr
  have hFD : ∀ (w1 : World) (a : Option Addr), RdE w1 a L → Calls Tryz.prog 21 #[.slice a n n, .string key] w1 fun r w' => r = .returned (.tuple #[.int .i64 (posOf L key : Int), .bool true]) ∧ Below w1.heap.size w1 w' := fun w1 a hl => by
    have := find_at (c := n) hl hsl (by omega) hr key
    rwa [hk] at this
  have hZ := And.intro hsl (hasK_lt hk)
  obtain ⟨p, hp⟩ : ∃ p, p = posOf L key := ⟨_, rfl⟩
  rw [← hp] at hZ hFD ⊢
  have HFD := hid hFD
  have HZ := hid hZ
  clear h hk hr hp hZ hFD
  unfold ptr at *
  go_enter Tryz.func8, Tryz.ntmps8
  go_wp2_with fail
  refine cr.mono ?_
  rintro e w1 ⟨q, hq, rfl, h3⟩
  have hT : tb t x base n ∈ ((q, (flat eE L).toArray, 28) :: K) := List.mem_cons_of_mem _ ht
  have cf := HFD.out _ _ h3.rd
  have HQ := hid hq
  have H3 := hid h3
  clear cr h3 hq HFD
  go_wp2_with fail
  refine cf.mono ?_
  rintro e w5 ⟨rfl, hb5⟩
  have h5 := H3.out.below hb5
  have cc := clone_at (c := n) h5.rd HZ.out.1 h1 (by omega)
  have H5 := hid h5
  clear cf hb5 h5 H3
  go_wp2_with fail
  refine cc.mono ?_
  rintro e w6 ⟨g, cap, rfl, hg, hlay, hb6⟩
  have hL := HZ.out.1
  have hp2 : p < n := by rw [← hL]; exact HZ.out.2
  have hcap := hlay.mx
  have hcp := hlay.le
  obtain ⟨cur, hcur, hcs, hct⟩ := hlay.cur
  have h6 := H5.out.adopt hb6 hcur hg
  have hlow := H5.out.low
  have hK6 : ∀ y ∈ ((q, (flat eE L).toArray, (28 : TypeId)) :: K), y.1 ≠ g := fun y hy e => by have := H5.out.lt hy; omega
  have cd := delete_n hlay hL hp2 (by omega) (by unfold maxLen at hcap; omega)
  have rw1 : IntKind.i64.wrap ((p : Int) + 1) = (p : Int) + 1 := by rw [IntKind.wrap_i64]; omega
  have H6 := hid (And.intro h6 (And.intro hK6 (And.intro hg hcp)))
  clear cc hb6 h6 H5 hlay hg hcur hct hK6 hcs hcp
  go_wp2_with fail
  refine cd.mono ?_
  rintro e w7 ⟨rfl, hlay7, hch7⟩
  obtain ⟨h6, hK6, hg, hcp⟩ := H6.out
  obtain ⟨cur7, hcur7, _, hct7⟩ := hlay7.cur
  have h7 := h6.turn hch7 hcur7 hK6 (by omega)
  have h8 := h7.box (flat eE [E0]).toArray 28
  have hlay8 : Lay eE 28 (w7.alloc (.cells (flat eE [E0]).toArray 28)) g cap (delL L p) := hlay7.at' (Below.heap_alloc w7 _ g hcur7.lt)
  have hap := fun ty => app_run hlay8 (n - 1) [E0] ⟨w7.heap.size, 0, none⟩ 1 1 rfl (by omega) (fun j v hj => box_ent h8.bK.one hj) ty
  rw [show n - 1 + 1 = n by omega] at hap
  have hlay9 := hlay8.write (n - 1) [E0] (by rw [delL_len hL hp2]; omega) (by simp; omega)
  rw [last_E0 hL hp2] at hlay9
  obtain ⟨w9, hw9⟩ : ∃ w9, w9 = (w7.alloc (.cells (flat eE [E0]).toArray 28)).setCells g ((n - 1) * 3) (flat eE [E0]) := ⟨_, rfl⟩
  have hch9 : Chg (fun k => k = g) (w7.alloc (.cells (flat eE [E0]).toArray 28)) w9 := by rw [hw9]; exact chg_lay g _ _
  simp only [← hw9] at hap hlay9
  obtain ⟨cur9, hcur9, _, hct9⟩ := hlay9.cur
  have h9 := (h8.less (K' := (g, cur7, 28) :: (q, (flat eE L).toArray, 28) :: K) (fun y hy => List.mem_cons_of_mem _ hy)).turn hch9 hcur9 hK6 (by omega)
  have q1 : RowIn ((g, cur9, 28) :: (q, (flat eE L).toArray, 28) :: K) q L := ⟨_, List.mem_cons_of_mem _ (List.mem_cons_self ..), by rw [← flat_len eE, List.toList_toArray, List.take_length]⟩
  have q2 : RowIn ((g, cur9, 28) :: (q, (flat eE L).toArray, 28) :: K) g (delL L p) := ⟨_, List.mem_cons_self .., hct9⟩
  have cw := twrite_at (c1 := n) (c2 := cap) h9 (List.mem_cons_of_mem _ hT) hb q1 q2 hL (delL_len hL hp2) HS.out
  clear cd H6 h6 hK6 hg hcp hcur7 hct7 h7 h8 hlay8 hlay9 hlay7 hch7 hw9 hch9 hcur9 hct9 h9 q1 q2 HZ HQ HS hlow hcap
  unfold ptr at cw
  go_wp2_with (at_builtin; refine wpList_append_ran rfl _ _ 42 42 rfl _ _ rfl rfl (hap _) ?_)
  refine cw.mono ?_
  rintro e w10 ⟨rfl, h10⟩
  have H10 := hid (h10.less (K' := K) (fun y hy => List.mem_cons_of_mem _ (List.mem_cons_of_mem _ hy)))
  clear cw h10 hap
  go_wp2_with fail
  go_ret2
  exact ⟨rfl, H10.out⟩
end
end Go.Proofs.YtlbjalodjcajfaaGreat
