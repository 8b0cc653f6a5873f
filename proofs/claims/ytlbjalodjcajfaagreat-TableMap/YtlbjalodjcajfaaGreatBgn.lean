/-
  The laws' begun: a memory, a transaction, a table. The chapter's example.
-/
import Derived.Test.YtlbjalodjcajfaaGreatHsp
namespace Go.Proofs.YtlbjalodjcajfaaGreat
open Go.RowKit Go.Maps
set_option maxRecDepth 100000 in
set_option maxHeartbeats 2000000 in
theorem begin_raw {u : World} {m g n : Nat} {k : Int} (hm : Box u m #[ptr m, .slice (some ⟨g, 0, none⟩) n n, .int .i64 k] 56) (n1 : 1 ≤ n) :
    Calls Tryz.prog 5 #[ptr m, .int .i64 1] u fun r w' => ∃ x, r = .returned (.tuple #[ptr x, .int .i64 0]) ∧ ∃ s, Box w' x (tcells x m s k 1) 63 ∧ Below u.heap.size u w' := by
  have c := size_at hm
  have ck := clock_at hm
  have cn := snew_at u
  have h0 : ¬ (n : Int) = 0 := by omega
  have h0' : ((n : Int) == 0) = false := by simpa using h0
  clear hm h0
  unfold ptr at *
  go_enter Tryz.func5, Tryz.ntmps5
  go_wp2_with (first | (go_at_call 16; refine c.mono ?_; rintro e wx ⟨rfl, hwx⟩; subst wx) | (go_at_call 17; refine ck.mono ?_; rintro e wx ⟨rfl, hwx⟩; subst wx))
  refine cn.mono ?_
  rintro e w1 ⟨s, rfl, hs, hS, hb⟩
  have HB := hid hb
  clear hS hb cn c ck hs
  unfold ptr at *
  go_wp2_with fail
  go_ret2
  refine ⟨w1.heap.size, by simp, s, Box.new w1 _ 63, HB.out.trans (((Below.refl _ w1).alloc (Nat.le_refl _) _).mono HB.out.size)⟩
theorem of_raw {u : World} {x m g n s : Nat} {k bb : Int} (hx : Box u x (tcells x m s bb 1) 63) (hm : Box u m #[ptr m, .slice (some ⟨g, 0, none⟩) n n, .int .i64 k] 56) (hn : n ≤ 1024) (b j : Int) (hb : j < 1 ∨ 200 < j ∨ b < 0 ∨ (n : Int) - j < b) :
    Calls Tryz.prog 6 #[ptr x, .int .i64 b, .int .i64 j] u fun r w' => r = .returned (.tuple #[.pointer none, .int .i64 2]) ∧ w' = u := by
  have c := status_at hx
  have cc := cells_at hx hm
  clear hx hm
  unfold ptr at *
  by_cases h1 : j < 1
  · go_enter Tryz.func6, Tryz.ntmps6
    go_wp2_with (go_at_call 13; refine c.mono ?_; rintro e wx ⟨rfl, hwx⟩; subst wx)
    go_ret2
    simp
  by_cases h2 : 200 < j
  · go_enter Tryz.func6, Tryz.ntmps6
    go_wp2_with (go_at_call 13; refine c.mono ?_; rintro e wx ⟨rfl, hwx⟩; subst wx)
    go_ret2
    simp
  by_cases h3 : b < 0
  · go_enter Tryz.func6, Tryz.ntmps6
    go_wp2_with (go_at_call 13; refine c.mono ?_; rintro e wx ⟨rfl, hwx⟩; subst wx)
    go_ret2
    simp
  have h4 : (n : Int) - j < b := by omega
  have r1 : IntKind.i64.wrap ((n : Int) - j) = (n : Int) - j := by rw [IntKind.wrap_i64]; omega
  clear hb
  go_enter Tryz.func6, Tryz.ntmps6
  go_wp2_with (first | (go_at_call 13; refine c.mono ?_; rintro e wx ⟨rfl, hwx⟩; subst wx) | (go_at_call 19; refine cc.mono ?_; rintro e wx ⟨rfl, hwx⟩; subst wx))
  go_ret2
  simp
theorem begun_bad (w : World) (s : Nat) (s1 : 1 ≤ s) (s2 : s ≤ 1024) (b j : Int) (hb : j < 1 ∨ 200 < j ∨ b < 0 ∨ (s : Int) - j < b) :
    Calls Tryz.prog 34 #[.int .i64 (s : Int), .int .i64 b, .int .i64 j] w fun r w' => ∃ x, r = .returned (.tuple #[ptr x, .pointer none, .int .i64 2]) ∧ Below w.heap.size w w' := by
  have cn := cnew_at w s s1 s2
  unfold ptr at *
  go_enter Tryz.func34, Tryz.ntmps34
  go_wp2_with fail
  refine cn.mono ?_
  rintro e w1 ⟨m, g, rfl, _, _, _, hm, _, hb1⟩
  have cb := begin_raw hm s1
  have HM := hid (And.intro hm hb1)
  clear cn hm hb1
  unfold ptr at *
  go_wp2_with fail
  refine cb.mono ?_
  rintro e w2 ⟨x, rfl, sb, hx, hb2⟩
  have co := of_raw hx (HM.out.1.below hb2 HM.out.1.lt) s2 b j hb
  have HB := hid (HM.out.2.trans (hb2.mono HM.out.2.size))
  clear cb hx hb2 HM hb
  unfold ptr at *
  go_wp2_with (go_at_call 6; refine co.mono ?_; rintro e wx ⟨rfl, hwx⟩; subst wx)
  go_ret3
  exact ⟨x, rfl, HB.out⟩
theorem begun_at (w : World) (s base n : Nat) (s2 : s ≤ 256) (n1 : 1 ≤ n) (n2 : n ≤ 200) (hb : base + n ≤ s) :
    Calls Tryz.prog 34 #[.int .i64 (s : Int), .int .i64 (base : Int), .int .i64 (n : Int)] w fun r w' => ∃ x t V, r = .returned (.tuple #[ptr x, ptr t, .int .i64 0]) ∧ ∃ mg, HasP mg w w' x t base n s [] [tb t x base n] V := by
  have cn := cnew_at w s (by omega) (by omega)
  unfold ptr at *
  go_enter Tryz.func34, Tryz.ntmps34
  go_wp2_with fail
  refine cn.mono ?_
  rintro e w1 ⟨m, g, rfl, om, og, hmg, hm, hg, hb1⟩
  have cb := begin_at (w0 := w) (K := []) hm hg om og (by simp [C0]) (by omega) s2 (Int.le_refl _) (fun c hc => by rw [(List.mem_replicate.1 hc).2]; simp) (fun y hy => by cases hy) (fun y hy => by cases hy) hb1 (O := []) (fun y hy => by cases hy)
  clear cn hm hg om og hmg hb1
  unfold ptr at *
  go_wp2_with fail
  refine cb.mono ?_
  rintro e w2 ⟨x, rfl, sb, Fs, hT⟩
  have hV : ((C0 s).map (·.e)) = List.replicate s E0 := by simp [C0]
  rw [hV] at hT
  have hT2 : HasT (m, g, 0, []) w w2 x 1 (List.replicate s E0) [] := ⟨_, _, _, _, _, hT⟩
  have co := of_at (base := base) (n := n) hT2 n1 n2 (by simpa using hb)
  clear cb hT hV hT2
  unfold ptr at *
  go_wp2_with fail
  refine co.mono ?_
  rintro e w3 ⟨t, rfl, _, h3⟩
  have H3 := hid h3
  clear co h3
  unfold ptr at *
  go_wp2_with fail
  go_ret3
  refine ⟨x, t, List.replicate s E0, rfl, (m, g, 0, []), H3.out, List.mem_cons_self .., n1, by simp, hb, ?_, List.Pairwise.nil, Nat.zero_le _⟩
  unfold seg tbl
  simp
  omega
end Go.Proofs.YtlbjalodjcajfaaGreat
namespace Go.Proofs.YtlbjalodjcajfaaGreat
open Go.RowKit Go.Maps
variable {mg : MG}
theorem HasP.box {w0 u : World} {x t base n sz : Nat} {P : List Pr} {V : List En} {K : List Bx} (h : HasP mg w0 u x t base n sz P K V) (cs : Array Value) (ty : TypeId) : HasP mg w0 (u.alloc (.cells cs ty)) x t base n sz P ((u.heap.size, cs, ty) :: K) V := h.keep (h.h.box cs ty) (List.mem_cons_of_mem _ h.tk)
theorem blt_lit (a b : ByteArray) (l m : List UInt8) (ha : a.data.toList = l) (hb : b.data.toList = m) (z : Bool) (h : Op.bytesLess l m = z) : blt a b = z := by
  unfold blt
  rw [Lib.toList_data, Lib.toList_data, ha, hb, h]
abbrev s1 (c : UInt8) : ByteArray := ⟨#[c]⟩
theorem ab : blt (s1 97) (s1 98) = true := blt_lit _ _ [97] [98] rfl rfl _ (by decide)
theorem ba : blt (s1 98) (s1 97) = false := blt_lit _ _ [98] [97] rfl rfl _ (by decide)
theorem aa (c : UInt8) : blt (s1 c) (s1 c) = false := blt_irrefl _
theorem p1 : putP 2 [] (s1 98) (s1 49) = (0, [(s1 98, s1 49)]) := by simp [putP, getP, insP]
theorem p2 : putP 2 [(s1 98, s1 49)] (s1 97) (s1 50) = (0, [(s1 97, s1 50), (s1 98, s1 49)]) := by simp [putP, getP, insP, ba]
theorem p3 : putP 2 [(s1 97, s1 50), (s1 98, s1 49)] (s1 99) (s1 51) = (5, [(s1 97, s1 50), (s1 98, s1 49)]) := by simp [putP, getP]
theorem p4 : putP 2 [(s1 97, s1 50), (s1 98, s1 49)] (s1 98) (s1 52) = (0, [(s1 97, s1 50), (s1 98, s1 52)]) := by simp [putP, getP, insP, ab, aa]
theorem p5 : nxtP [(s1 97, s1 50), (s1 98, s1 52)] (s1 97) = some (s1 98, s1 52) := by simp [nxtP, ab, aa]
theorem p6 : getP [(s1 97, s1 50), (s1 98, s1 52)] (s1 97) = some (s1 50) := by simp [getP]
theorem p7 : delP [(s1 97, s1 50), (s1 98, s1 52)] (s1 97) = [(s1 98, s1 52)] := by simp [delP]
theorem p8 : getP [(s1 98, s1 52)] (s1 97) = none := by simp [getP]
theorem p9 : (tbl 2 [(s1 97, s1 50), (s1 98, s1 52)])[0]? = some ⟨true, s1 97, s1 50⟩ := rfl
theorem p10 : (tbl 2 [(s1 98, s1 52)])[1]? = some E0 := rfl
set_option maxRecDepth 100000 in
set_option maxHeartbeats 8000000 in
theorem awake_at (w : World) : Calls Tryz.prog 15 #[] w fun r w' => r = .returned (.bool true) ∧ Below w.heap.size w w' := by
  have cb := begun_at w 4 1 2 (by decide) (by decide) (by decide) (by decide)
  have hq := eql27
  have hgd := guardN27 .eql
  have HBB := hid (fun u : World => begun_bad u 300 (by decide) (by decide) 0 201 (by decide))
  unfold ptr ag at *
  go_enter Tryz.func15, Tryz.ntmps15
  go_wp2_with fail
  refine cb.mono ?_
  rintro e w1 ⟨x, t, V1, rfl, mg, h1⟩
  have c := h1.put (s1 98) (s1 49)
  rw [p1] at c
  clear cb h1
  unfold ptr at *
  go_wp2_with fail
  refine c.mono ?_
  rintro e w2 ⟨rfl, V2, h2⟩
  have c := h2.put (s1 97) (s1 50)
  rw [p2] at c
  clear h2
  unfold ptr at *
  go_wp2_with fail
  refine c.mono ?_
  rintro e w3 ⟨rfl, V3, h3⟩
  have c := h3.put (s1 99) (s1 51)
  rw [p3] at c
  clear h3
  unfold ptr at *
  go_wp2_with fail
  refine c.mono ?_
  rintro e w4 ⟨rfl, V4, h4⟩
  have c := h4.put (s1 98) (s1 52)
  rw [p4] at c
  clear h4
  unfold ptr at *
  go_wp2_with fail
  refine c.mono ?_
  rintro e w5 ⟨rfl, V5, h5⟩
  have c := h5.read p9
  clear h5
  unfold ptr ag at *
  go_wp2_with fail
  refine c.mono ?_
  rintro e w6 ⟨rfl, h6⟩
  have h7 := h6.box #[.bool true, .string (s1 97), .string (s1 50)] 28
  have c := h7.next (s1 97)
  rw [p5] at c
  clear h6 h7
  unfold ptr ag at *
  simp only [Option.map_some, Option.getD_some, Option.isSome_some, us] at c
  go_wp2_with fail
  refine c.mono ?_
  rintro e w7 ⟨rfl, h7⟩
  have h8 := h7.box #[.bool true, .string (s1 98), .string (s1 52)] 28
  have c := h8.remove (s1 97)
  rw [p6, p7] at c
  clear h7 h8
  unfold ptr at *
  simp only [Option.isSome_some] at c
  go_wp2_with fail
  refine c.mono ?_
  rintro e w8 ⟨rfl, V8, h8⟩
  have c := h8.get (s1 97)
  rw [p8] at c
  clear h8
  unfold ptr at *
  simp only [Option.isSome_none, Option.getD_none] at c
  go_wp2_with fail
  refine c.mono ?_
  rintro e w9 ⟨rfl, h9⟩
  have c := h9.read p10
  clear h9
  unfold ptr ag at *
  simp only [E0] at c
  go_wp2_with fail
  refine c.mono ?_
  rintro e w10 ⟨rfl, h10⟩
  have h11 := h10.box zs 28
  have c := HBB.out (w10.alloc (.cells zs 28))
  have H11 := hid h11
  clear h10 h11 HBB
  unfold ptr at *
  go_wp2_with fail
  refine c.mono ?_
  rintro e w11 ⟨x2, rfl, hb⟩
  have h12 := H11.out.below hb
  have HB := hid h12.h.bel
  have k1 := h12.h.bK _ (List.mem_cons_self ..)
  have k2 := h12.h.bK _ (List.mem_cons_of_mem _ (List.mem_cons_self ..))
  have k3 := h12.h.bK _ (List.mem_cons_of_mem _ (List.mem_cons_of_mem _ (List.mem_cons_self ..)))
  have a0 := k1.cell 0
  have a1 := k1.cell 1
  have a2 := k1.cell 2
  have b0 := k2.cell 0
  have b1 := k2.cell 1
  have b2 := k2.cell 2
  have d0 := k3.cell 0
  have d1 := k3.cell 1
  have d2 := k3.cell 2
  simp at a0 a1 a2 b0 b1 b2 d0 d1 d2
  have e1 := fun u => hq u ⟨true, s1 97, s1 50⟩ ⟨true, s1 97, s1 50⟩
  have e2 := fun u => hq u E0 E0
  simp only [E0, decide_true] at e1 e2
  clear c H11 hb h12 k1 k2 k3 hq
  go_wp2_with fail
  go_ret
  exact ⟨rfl, HB.out⟩
end Go.Proofs.YtlbjalodjcajfaaGreat
