/-
  TableNumbers, walked.
-/
import Derived.Test.YtlbjalodjcajfaaAwk
namespace Go.Proofs.Ytlbjalodjcajfaa
open Go.RowKit Go.Maps
abbrev s0 : ByteArray := ⟨#[]⟩
abbrev s2 (c d : UInt8) : ByteArray := ⟨#[c, d]⟩
theorem o1 : blt (s1 97) (s2 97 33) = true := blt_lit _ _ [97] [97, 33] rfl rfl _ (by decide)
theorem o2 : blt (s2 97 33) (s1 97) = false := blt_lit _ _ [97, 33] [97] rfl rfl _ (by decide)
theorem o3 : blt (s2 97 33) (s2 97 98) = true := blt_lit _ _ [97, 33] [97, 98] rfl rfl _ (by decide)
theorem o4 : blt (s1 97) (s2 97 98) = true := blt_lit _ _ [97] [97, 98] rfl rfl _ (by decide)
theorem o5 : blt (s1 97) s0 = false := blt_lit _ _ [97] [] rfl rfl _ (by decide)
theorem o6 : blt (s1 97) s0 = false := o5
theorem o7 : blt (s2 97 34) (s2 97 98) = true := blt_lit _ _ [97, 34] [97, 98] rfl rfl _ (by decide)
theorem o8 : blt (s2 97 34) (s2 97 33) = false := blt_lit _ _ [97, 34] [97, 33] rfl rfl _ (by decide)
theorem o9 : blt (s2 97 34) (s1 97) = false := blt_lit _ _ [97, 34] [97] rfl rfl _ (by decide)
theorem o10 : blt (s2 97 34) s0 = false := blt_lit _ _ [97, 34] [] rfl rfl _ (by decide)
theorem o11 : blt (s2 97 98) s0 = false := blt_lit _ _ [97, 98] [] rfl rfl _ (by decide)
theorem o12 : blt (s2 97 98) (s1 97) = false := blt_lit _ _ [97, 98] [97] rfl rfl _ (by decide)
theorem o13 : blt (s2 97 98) (s2 97 33) = false := blt_lit _ _ [97, 98] [97, 33] rfl rfl _ (by decide)
theorem o14 : blt (s2 97 33) s0 = false := blt_lit _ _ [97, 33] [] rfl rfl _ (by decide)
theorem o15 (c : ByteArray) : blt c c = false := blt_irrefl c
abbrev N1 : List Pr := [(s2 97 33, s1 50)]
abbrev N2 : List Pr := [(s1 97, s1 49), (s2 97 33, s1 50)]
abbrev N3 : List Pr := [(s1 97, s1 49), (s2 97 33, s1 50), (s2 97 98, s1 51)]
abbrev N4 : List Pr := [(s0, s1 48), (s1 97, s1 49), (s2 97 33, s1 50), (s2 97 98, s1 51)]
theorem q1 : putP 4 [] (s2 97 33) (s1 50) = (0, N1) := by simp [putP, getP, insP]
theorem q2 : putP 4 N1 (s1 97) (s1 49) = (0, N2) := by simp [putP, getP, insP, o2]
theorem q3 : putP 4 N2 (s2 97 98) (s1 51) = (0, N3) := by simp [putP, getP, insP, o4, o3]
theorem q4 : putP 4 N3 s0 (s1 48) = (0, N4) := by simp [putP, getP, insP, o5]
theorem q5 : putP 4 N4 (s1 98) (s1 52) = (5, N4) := by simp [putP, getP]
theorem q6 : nxtP N4 (s1 97) = some (s2 97 33, s1 50) := by simp [nxtP, o5, o15, o1]
theorem q7 : nxtP N4 (s2 97 34) = some (s2 97 98, s1 51) := by simp [nxtP, o10, o9, o8, o7]
theorem q8 : nxtP N4 (s2 97 98) = none := by simp [nxtP, o11, o12, o13, o15]
theorem cell_flat {w : World} {q : Nat} {l : List En} {t : TypeId} (h : Box w q (flat eE l).toArray t) {i : Nat} {e : En} (he : l[i]? = some e) : w.cell? ⟨q, i * 3 + 1, none⟩ = some (.string e.k) := by
  rw [h.cell]
  simpa [eE] using (flat_get eE he).2.1
set_option maxRecDepth 100000 in
set_option maxHeartbeats 8000000 in
theorem numbers_at (w : World) : Calls Try.prog 3 #[] w fun r w' => r = .returned (.bool true) ∧ Below w.heap.size w w' := by
  have HAW := hid (fun u : World => awake_at u)
  have cn := cnew_at w 4 (by decide) (by decide)
  unfold ptr at *
  go_enter Try.func3, Try.ntmps3
  go_wp2_with fail
  refine cn.mono ?_
  rintro e u1 ⟨m, g, rfl, om, og, mg, hm, hg, hb1⟩
  have cb := begin_at (w0 := w) (K := []) hm hg om og (by simp [C0]) (by decide) (by decide) (Int.le_refl _) (fun c hc => by rw [(List.mem_replicate.1 hc).2]; simp) (fun y hy => by cases hy) (fun y hy => by cases hy) hb1
  clear cn hm hg om og mg hb1
  unfold ptr at *
  go_wp2_with fail
  refine cb.mono ?_
  rintro e u2 ⟨x, rfl, sb, Fs, hT⟩
  have hV : ((C0 4).map (·.e)) = List.replicate 4 E0 := rfl
  rw [hV] at hT
  have hT2 : HasT w u2 x 1 (List.replicate 4 E0) [] := ⟨_, _, _, _, _, _, _, _, _, hT⟩
  have co := of_at (base := 0) (n := 4) hT2 (by decide) (by decide) (by decide)
  clear cb hT hV hT2
  unfold ptr at *
  go_wp2_with fail
  refine co.mono ?_
  rintro e w1 ⟨t, rfl, _, h3⟩
  have h1 : HasP w w1 x t 0 4 4 [] [tb t x 0 4] (List.replicate 4 E0) := ⟨h3, List.mem_cons_self .., by decide, rfl, by decide, rfl, List.Pairwise.nil, by decide⟩
  have c := h1.put (s2 97 33) (s1 50)
  rw [q1] at c
  clear co h1 h3
  unfold ptr at *
  go_wp2_with fail
  refine c.mono ?_
  rintro e w2 ⟨rfl, V2, h2⟩
  have c := h2.put (s1 97) (s1 49)
  rw [q2] at c
  clear h2
  unfold ptr at *
  go_wp2_with fail
  refine c.mono ?_
  rintro e w3 ⟨rfl, V3, h3⟩
  have c := h3.put (s2 97 98) (s1 51)
  rw [q3] at c
  clear h3
  unfold ptr at *
  go_wp2_with fail
  refine c.mono ?_
  rintro e w4 ⟨rfl, V4, h4⟩
  have c := h4.put s0 (s1 48)
  rw [q4] at c
  clear h4
  unfold ptr at *
  go_wp2_with fail
  refine c.mono ?_
  rintro e w5 ⟨rfl, V5, h5⟩
  have c := h5.put (s1 98) (s1 52)
  rw [q5] at c
  clear h5
  unfold ptr at *
  go_wp2_with fail
  refine c.mono ?_
  rintro e w6 ⟨rfl, V6, h6⟩
  have c := h6.list
  clear h6
  unfold ptr at *
  go_wp2_with fail
  refine c.mono ?_
  rintro e w7 ⟨q, _, rfl, h7⟩
  have c := h7.next (s1 97)
  rw [q6] at c
  clear h7
  unfold ptr ag at *
  simp only [Option.map_some, Option.getD_some, Option.isSome_some, us] at c
  go_wp2_with fail
  refine c.mono ?_
  rintro e w8 ⟨rfl, h8⟩
  have h9 := h8.box #[.bool true, .string (s2 97 33), .string (s1 50)] 27
  have c := h9.next (s2 97 34)
  rw [q7] at c
  clear h8 h9
  unfold ptr ag at *
  simp only [Option.map_some, Option.getD_some, Option.isSome_some, us] at c
  go_wp2_with fail
  refine c.mono ?_
  rintro e w9 ⟨rfl, h9⟩
  have h10 := h9.box #[.bool true, .string (s2 97 98), .string (s1 51)] 27
  have c := h10.next (s2 97 98)
  rw [q8] at c
  clear h9 h10
  unfold ptr ag at *
  simp only [Option.map_none, Option.getD_none, Option.isSome_none, E0] at c
  go_wp2_with fail
  refine c.mono ?_
  rintro e w10 ⟨rfl, h10⟩
  have h11 := h10.box zs 27
  have k1 := h11.h.bK _ (List.mem_cons_of_mem _ (List.mem_cons_self ..))
  have k2 := h11.h.bK _ (List.mem_cons_of_mem _ (List.mem_cons_of_mem _ (List.mem_cons_self ..)))
  have k3 := h11.h.bK _ (List.mem_cons_of_mem _ (List.mem_cons_of_mem _ (List.mem_cons_of_mem _ (List.mem_cons_self ..))))
  have a1 := k1.cell 1
  have b1 := k2.cell 1
  have d0 : _ = some (Value.string s0) := cell_flat k3 (i := 0) rfl
  have d1 : _ = some (Value.string (s1 97)) := cell_flat k3 (i := 1) rfl
  have d2 : _ = some (Value.string (s2 97 33)) := cell_flat k3 (i := 2) rfl
  have d3 : _ = some (Value.string (s2 97 98)) := cell_flat k3 (i := 3) rfl
  simp at a1 b1 d0 d1 d2 d3
  have ca := HAW.out (w10.alloc (.cells zs 27))
  have HB := hid h11.h.bel
  clear c h10 h11 k1 k2 k3 HAW
  go_wp2_with fail
  refine ca.mono ?_
  rintro e w12 ⟨rfl, hb⟩
  have HB2 := hid (HB.out.trans (hb.mono HB.out.size))
  clear ca hb HB
  go_wp2_with fail
  go_ret
  exact ⟨rfl, HB2.out⟩
end Go.Proofs.Ytlbjalodjcajfaa
