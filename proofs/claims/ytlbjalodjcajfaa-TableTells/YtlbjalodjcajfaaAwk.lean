/-
  The chapter's example.
-/
import Derived.Test.YtlbjalodjcajfaaBgn
namespace Go.Proofs.Ytlbjalodjcajfaa
open Go.RowKit Go.Maps
theorem HasP.box {w0 u : World} {x t base n sz : Nat} {P : List Pr} {V : List En} {K : List Bx} (h : HasP w0 u x t base n sz P K V) (cs : Array Value) (ty : TypeId) : HasP w0 (u.alloc (.cells cs ty)) x t base n sz P ((u.heap.size, cs, ty) :: K) V := h.keep (h.h.box cs ty) (List.mem_cons_of_mem _ h.tk)
theorem blt_lit (a b : ByteArray) (l m : List UInt8) (ha : a.data.toList = l) (hb : b.data.toList = m) (z : Bool) (h : Op.bytesLess l m = z) : blt a b = z := by
  unfold blt
  rw [Lib.toList_data, Lib.toList_data, ha, hb, h]
abbrev s1 (c : UInt8) : ByteArray := ⟨#[c]⟩
theorem ab : blt (s1 97) (s1 98) = true := blt_lit _ _ [97] [98] rfl rfl _ (by decide)
theorem ba : blt (s1 98) (s1 97) = false := blt_lit _ _ [98] [97] rfl rfl _ (by decide)
theorem aa (c : UInt8) : blt (s1 c) (s1 c) = false := blt_irrefl _
theorem p1 : putP 2 [] (s1 98) (s1 49) = (0, [(s1 98, s1 49)]) := by simp [putP, getP, insP]
theorem p2 : putP 2 [(s1 98, s1 49)] (s1 97) (s1 50) = (0, [(s1 97, s1 50), (s1 98, s1 49)]) := by simp [putP, getP, insP, ba]
theorem p3 : putP 2 [(s1 97, s1 50), (s1 98, s1 49)] (s1 99) (s1 51) = (5, [(s1 97, s1 50), (s1 98, s1 49)]) := by simp [putP, getP]
theorem p4 : putP 2 [(s1 97, s1 50), (s1 98, s1 49)] (s1 98) (s1 52) = (0, [(s1 97, s1 50), (s1 98, s1 52)]) := by simp [putP, getP, insP, ab, aa]
theorem p5 : nxtP [(s1 97, s1 50), (s1 98, s1 52)] (s1 97) = some (s1 98, s1 52) := by simp [nxtP, ab, aa]
theorem p6 : getP [(s1 97, s1 50), (s1 98, s1 52)] (s1 97) = some (s1 50) := by simp [getP]
theorem p7 : delP [(s1 97, s1 50), (s1 98, s1 52)] (s1 97) = [(s1 98, s1 52)] := by simp [delP]
theorem p8 : getP [(s1 98, s1 52)] (s1 97) = none := by simp [getP]
theorem p9 : (tbl 2 [(s1 97, s1 50), (s1 98, s1 52)])[0]? = some ⟨true, s1 97, s1 50⟩ := rfl
theorem p10 : (tbl 2 [(s1 98, s1 52)])[1]? = some E0 := rfl
set_option maxRecDepth 100000 in
set_option maxHeartbeats 8000000 in
theorem awake_at (w : World) : Calls Try.prog 12 #[] w fun r w' => r = .returned (.bool true) ∧ Below w.heap.size w w' := by
  have cb := begun_at w 4 1 2 (by decide) (by decide) (by decide) (by decide)
  have hq := eql27
  have hgd := guardN27 .eql
  have HBB := hid (fun u : World => begun_bad u 300 (by decide) (by decide) 0 201 (by decide))
  unfold ptr ag at *
  go_enter Try.func12, Try.ntmps12
  go_wp2_with fail
  refine cb.mono ?_
  rintro e w1 ⟨x, t, V1, rfl, h1⟩
  have c := h1.put (s1 98) (s1 49)
  rw [p1] at c
  clear cb h1
  unfold ptr at *
  go_wp2_with fail
  refine c.mono ?_
  rintro e w2 ⟨rfl, V2, h2⟩
  have c := h2.put (s1 97) (s1 50)
  rw [p2] at c
  clear h2
  unfold ptr at *
  go_wp2_with fail
  refine c.mono ?_
  rintro e w3 ⟨rfl, V3, h3⟩
  have c := h3.put (s1 99) (s1 51)
  rw [p3] at c
  clear h3
  unfold ptr at *
  go_wp2_with fail
  refine c.mono ?_
  rintro e w4 ⟨rfl, V4, h4⟩
  have c := h4.put (s1 98) (s1 52)
  rw [p4] at c
  clear h4
  unfold ptr at *
  go_wp2_with fail
  refine c.mono ?_
  rintro e w5 ⟨rfl, V5, h5⟩
  have c := h5.read p9
  clear h5
  unfold ptr ag at *
  go_wp2_with fail
  refine c.mono ?_
  rintro e w6 ⟨rfl, h6⟩
  have h7 := h6.box #[.bool true, .string (s1 97), .string (s1 50)] 27
  have c := h7.next (s1 97)
  rw [p5] at c
  clear h6 h7
  unfold ptr ag at *
  simp only [Option.map_some, Option.getD_some, Option.isSome_some, us] at c
  go_wp2_with fail
  refine c.mono ?_
  rintro e w7 ⟨rfl, h7⟩
  have h8 := h7.box #[.bool true, .string (s1 98), .string (s1 52)] 27
  have c := h8.remove (s1 97)
  rw [p6, p7] at c
  clear h7 h8
  unfold ptr at *
  simp only [Option.isSome_some] at c
  go_wp2_with fail
  refine c.mono ?_
  rintro e w8 ⟨rfl, V8, h8⟩
  have c := h8.get (s1 97)
  rw [p8] at c
  clear h8
  unfold ptr at *
  simp only [Option.isSome_none, Option.getD_none] at c
  go_wp2_with fail
  refine c.mono ?_
  rintro e w9 ⟨rfl, h9⟩
  have c := h9.read p10
  clear h9
  unfold ptr ag at *
  simp only [E0] at c
  go_wp2_with fail
  refine c.mono ?_
  rintro e w10 ⟨rfl, h10⟩
  have h11 := h10.box zs 27
  have c := HBB.out (w10.alloc (.cells zs 27))
  have H11 := hid h11
  clear h10 h11 HBB
  unfold ptr at *
  go_wp2_with fail
  refine c.mono ?_
  rintro e w11 ⟨x2, rfl, hb⟩
  have h12 := H11.out.below hb
  have HB := hid h12.h.bel
  have k1 := h12.h.bK _ (List.mem_cons_self ..)
  have k2 := h12.h.bK _ (List.mem_cons_of_mem _ (List.mem_cons_self ..))
  have k3 := h12.h.bK _ (List.mem_cons_of_mem _ (List.mem_cons_of_mem _ (List.mem_cons_self ..)))
  have a0 := k1.cell 0
  have a1 := k1.cell 1
  have a2 := k1.cell 2
  have b0 := k2.cell 0
  have b1 := k2.cell 1
  have b2 := k2.cell 2
  have d0 := k3.cell 0
  have d1 := k3.cell 1
  have d2 := k3.cell 2
  simp at a0 a1 a2 b0 b1 b2 d0 d1 d2
  have e1 := fun u => hq u ⟨true, s1 97, s1 50⟩ ⟨true, s1 97, s1 50⟩
  have e2 := fun u => hq u E0 E0
  simp only [E0, decide_true] at e1 e2
  clear c H11 hb h12 k1 k2 k3 hq
  go_wp2_with fail
  go_ret
  exact ⟨rfl, HB.out⟩
end Go.Proofs.Ytlbjalodjcajfaa
