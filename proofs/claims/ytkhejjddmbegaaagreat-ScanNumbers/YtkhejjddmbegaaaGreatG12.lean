/-
  SRefN, SRef, SAns: put together.
-/
import Derived.Test.YtkhejjddmbegaaaGreatG11
import Derived.Deep.CutBlock
import Derived.BigQuiet
/-
  The document's own Groups, of the document's own disk.
-/
namespace Go.Proofs.YtkhejjddmbegaaaGreat.S
open Go.RowKit
open Go.Proofs.YtkhejjddmbegaaaGreat.Dk (Box)

theorem neq41' (u : World) : (binOp .neq 30 (.agg #[.int .i64 64, .int .i64 2, .int .i64 16, .int .i64 18, .int .i64 19, .int .i64 4, .int .i64 23]) (.agg #[.int .i64 64, .int .i64 2, .int .i64 16, .int .i64 18, .int .i64 19, .int .i64 4, .int .i64 23])).run Tryz.prog u = .ok (.bool false) u := neq41 u

set_option maxRecDepth 100000 in
set_option maxHeartbeats 4000000 in
theorem rgroups_no (w : World) (ad : Option Addr) (cs : Nat) (B E S t : Int) (hno : ¬ goodS B E S t) :
    Calls Tryz.prog 19 #[.agg #[.slice ad 64 cs, .slice none 0 0, .int .i64 0, .bool false, .int .i64 (-1), .int .i64 (-1)], .agg lay, .agg #[.int .i64 B, .int .i64 E, .int .i64 S, .int .i64 t]] w fun r w' => r = .returned (.tuple #[.slice none 0 0, .int .i64 0, .int .i64 2]) ∧ Below w.heap.size w w' := by
  have hq := neq41'
  obtain ⟨W3, hW3⟩ : ∃ W3, W3 = ((w.alloc (.cells #[.slice ad 64 cs, .slice none 0 0, .int .i64 0, .bool false, .int .i64 (-1), .int .i64 (-1)] 54)).alloc (.cells #[.int .i64 64, .int .i64 2, .int .i64 16, .int .i64 18, .int .i64 19, .int .i64 4, .int .i64 23] 30)).alloc (.cells #[.int .i64 B, .int .i64 E, .int .i64 S, .int .i64 t] 33) := ⟨_, rfl⟩
  have hs3 : W3.heap.size = w.heap.size + 3 := by rw [hW3]; simp
  have b3 : Below w.heap.size w W3 := by rw [hW3]; exact (((Below.refl w.heap.size w).alloc (Nat.le_refl _) _).alloc (by simp) _).alloc (by simp; omega) _
  have x0 : Box W3 w.heap.size #[.slice ad 64 cs, .slice none 0 0, .int .i64 0, .bool false, .int .i64 (-1), .int .i64 (-1)] 54 := by rw [hW3]; exact ((Dk.Box.new w _ 54).alloc _).alloc _
  have x1 : Box W3 (w.heap.size + 1) #[.int .i64 64, .int .i64 2, .int .i64 16, .int .i64 18, .int .i64 19, .int .i64 4, .int .i64 23] 30 := by rw [hW3]; exact (Rg.Box.next w _ _ 30).alloc _
  have x2 : Box W3 (w.heap.size + 2) #[.int .i64 B, .int .i64 E, .int .i64 S, .int .i64 t] 33 := by rw [hW3]; exact Rg.Box.next2 w _ _ _ 33
  have cO := ref64 W3
  unfold lay at *
  have HX : Hid (∀ u, Below W3.heap.size W3 u → Box u w.heap.size #[.slice ad 64 cs, .slice none 0 0, .int .i64 0, .bool false, .int .i64 (-1), .int .i64 (-1)] 54 ∧ Box u (w.heap.size + 1) #[.int .i64 64, .int .i64 2, .int .i64 16, .int .i64 18, .int .i64 19, .int .i64 4, .int .i64 23] 30 ∧ Box u (w.heap.size + 2) #[.int .i64 B, .int .i64 E, .int .i64 S, .int .i64 t] 33) := fun u bu => ⟨x0.below bu, x1.below bu, x2.below bu⟩
  have HB3 : Hid (Below w.heap.size w W3 ∧ W3.heap.size = w.heap.size + 3) := ⟨b3, hs3⟩
  have d0 := x0.cell 0
  simp at d0
  clear x0 x1 x2 b3 hs3
  rw [hW3] at d0
  go_enter Tryz.func19, Tryz.ntmps19
  go_wp2_with fail
  rw [← hW3]
  refine Calls.mono cO ?_
  rintro r u1 ⟨rfl, b1⟩
  clear d0 cO hW3
  have al := b1.alloc b1.size (.cells #[.int .i64 64, .int .i64 2, .int .i64 16, .int .i64 18, .int .i64 19, .int .i64 4, .int .i64 23] 30)
  obtain ⟨W4, hW4⟩ : ∃ W4, W4 = u1.alloc (.cells #[.int .i64 64, .int .i64 2, .int .i64 16, .int .i64 18, .int .i64 19, .int .i64 4, .int .i64 23] 30) := ⟨_, rfl⟩
  rw [← hW4] at al
  obtain ⟨x0, x1, x2⟩ := HX.out W4 al
  have x3 : Box W4 u1.heap.size #[.int .i64 64, .int .i64 2, .int .i64 16, .int .i64 18, .int .i64 19, .int .i64 4, .int .i64 23] 30 := by rw [hW4]; exact Dk.Box.new u1 _ 30
  have HB4 : Hid (Below w.heap.size w W4) := HB3.out.1.trans (al.mono HB3.out.1.size)
  have a0 := x0.cell 0
  have a1 := x0.cell 1
  have a2 := x0.cell 2
  have a3 := x0.cell 3
  have a4 := x0.cell 4
  have a5 := x0.cell 5
  have l0 := x1.cell 0
  have l1 := x1.cell 1
  have l2 := x1.cell 2
  have l3 := x1.cell 3
  have l4 := x1.cell 4
  have l5 := x1.cell 5
  have l6 := x1.cell 6
  have s0 := x2.cell 0
  have s1 := x2.cell 1
  have s2 := x2.cell 2
  have s3 := x2.cell 3
  have o0 := x3.cell 0
  have o1 := x3.cell 1
  have o2 := x3.cell 2
  have o3 := x3.cell 3
  have o4 := x3.cell 4
  have o5 := x3.cell 5
  have o6 := x3.cell 6
  simp at a0 a1 a2 a3 a4 a5 l0 l1 l2 l3 l4 l5 l6 s0 s1 s2 s3 o0 o1 o2 o3 o4 o5 o6
  have hor : B ≠ 64 ∨ (B = 64 ∧ t < 0) ∨ (B = 64 ∧ 0 ≤ t ∧ 16 ≤ t) ∨ (B = 64 ∧ 0 ≤ t ∧ t < 16 ∧ E < 1) ∨ (B = 64 ∧ 0 ≤ t ∧ t < 16 ∧ 1 ≤ E ∧ 8388608 < E) ∨ (B = 64 ∧ 0 ≤ t ∧ t < 16 ∧ 1 ≤ E ∧ E ≤ 8388608 ∧ S < 1) ∨ (B = 64 ∧ 0 ≤ t ∧ t < 16 ∧ 1 ≤ E ∧ E ≤ 8388608 ∧ 1 ≤ S ∧ 549755813888 < S) := by
    unfold goodS at hno
    omega
  clear hno x0 x1 x2 x3 al b1
  rcases hor with h | ⟨rfl, h⟩ | ⟨rfl, h1, h⟩ | ⟨rfl, h1, h2, h⟩ | ⟨rfl, h1, h2, h3, h⟩ | ⟨rfl, h1, h2, h3, h4, h⟩ | ⟨rfl, h1, h2, h3, h4, h5, h⟩
  all_goals
    rw [hW4] at a0 l0 l1 l2 l3 l4 l5 l6 s0 s1 s2 s3 o0 o1 o2 o3 o4 o5 o6
    go_wp2_with fail
    rw [← hW4]
    exact bodyPost_ret (v := .tuple #[.slice none 0 0, .int .i64 0, .int .i64 2]) (by simp [results, Tryz.results19, go_sem]) rfl ⟨rfl, HB4.out⟩

end Go.Proofs.YtkhejjddmbegaaaGreat.S

/-
  The document's own Groups, of the document's own disk.
-/
namespace Go.Proofs.YtkhejjddmbegaaaGreat.S
open Go.RowKit
open Go.Proofs.YtkhejjddmbegaaaGreat.Dk (Box)

/-- the ring's blocks, as the document lays them out -/
def RgC (W : World) (D : Dk.DS) (t k : Nat) (vs : List Value) : Prop := vs.length = k ∧ ∀ j, j < k → ∃ p o c, vs[j]? = some (.slice (some ⟨p, o, none⟩) 4096 c) ∧ 4096 ≤ c ∧ c ≤ maxLen ∧ Rc.Rd W (some ⟨p, o, none⟩) (rg D t j) ∧ (rg D t j).length = 4096
theorem RgC.snoc {W : World} {D : Dk.DS} {t k : Nat} {vs : List Value} (h : RgC W D t k vs) {p o c : Nat} (h1 : 4096 ≤ c) (h2 : c ≤ maxLen) (h3 : Rc.Rd W (some ⟨p, o, none⟩) (rg D t k)) (h4 : (rg D t k).length = 4096) : RgC W D t (k + 1) (vs ++ [.slice (some ⟨p, o, none⟩) 4096 c]) := by
  refine ⟨by simp [h.1], fun j hj => ?_⟩
  by_cases e : j = k
  · subst e
    exact ⟨p, o, c, by rw [List.getElem?_append_right (by rw [h.1]; omega), h.1]; simp, h1, h2, h3, h4⟩
  · obtain ⟨p', o', c', g1, g2⟩ := h.2 j (by omega)
    exact ⟨p', o', c', by rw [List.getElem?_append_left (by rw [h.1]; omega)]; exact g1, g2⟩
/-- they are lists -/
theorem RgC.lsts {W u : World} {D : Dk.DS} {t n B c : Nat} {a : Option Addr} {vs : List Value} (h : RgC W D t n vs) (hn : n = 16) (ho : u.ownsRow B 41 1 (.slice a n c) n vs) (b : Below W.heap.size W u) : Rc.Lsts u a (ringB D t 0 16) := fun _ => by
  subst hn
  obtain ⟨g, rfl, _, _, hc⟩ := Rc.owns_cells ho (by decide)
  refine ⟨g, 0, rfl, fun j hj => ?_⟩
  have hj' : j < 16 := by rw [ringB_length] at hj; exact hj
  obtain ⟨p, o, c', g1, g2, g3, g4, g5⟩ := h.2 j hj'
  have e : (ringB D t 0 16)[j]'hj = rg D t j := by rw [ringB_get, Nat.zero_add]
  rw [e]
  refine ⟨some ⟨p, o, none⟩, c', ?_, by omega, by unfold maxLen at g3; omega, (fun h => by simp at h), g4.below b (Nat.le_refl _)⟩
  rw [Nat.zero_add, hc j (by omega), g1, g5]
theorem infoB : (Tryz.prog.info? 41).map (fun i => (i.zero, i.size, i.bytes)) = some (some (.slice none 0 0), 1, 24) := by kernel_rfl

set_option maxRecDepth 100000 in
set_option maxHeartbeats 4000000 in
theorem rgroups_at (w : World) (ad : Option Addr) (cs : Nat) (D : Dk.DS) (hR : Dk.RD w (fun _ => True) ad none 64 cs 0 0 D) (hnb : D.nb = 64) (E S0 t : Nat) (ht : t < 16) (hE : 1 ≤ E ∧ E ≤ 8388608) (hS : 1 ≤ S0 ∧ S0 ≤ 549755813888) :
    Calls Tryz.prog 19 #[.agg #[.slice ad 64 cs, .slice none 0 0, .int .i64 0, .bool false, .int .i64 (-1), .int .i64 (-1)], .agg lay, .agg #[.int .i64 64, .int .i64 (E : Int), .int .i64 (S0 : Int), .int .i64 (t : Int)]] w fun r w' => ∃ xs a c, r = .returned (.tuple #[.slice a xs.length c, .int .i64 (((t + tot xs) % 16 : Nat) : Int), .int .i64 0]) ∧ Run D t E 0 S0 xs ∧ w'.ownsRow w.heap.size 40 3 (.slice a xs.length c) xs.length (gsC E xs) ∧ (∀ x ∈ xs, GA D t E x w') ∧ Below w.heap.size w w' := by
  have hq := neq41'
  have HRD : Hid (Dk.RD w (fun _ => True) ad none 64 cs 0 0 D) := hR
  have HNB : Hid (D.nb = 64) := hnb
  clear hR hnb
  obtain ⟨hE1, hE2⟩ := hE
  obtain ⟨hS1, hS2⟩ := hS
  obtain ⟨W3, hW3⟩ : ∃ W3, W3 = ((w.alloc (.cells #[.slice ad 64 cs, .slice none 0 0, .int .i64 0, .bool false, .int .i64 (-1), .int .i64 (-1)] 54)).alloc (.cells #[.int .i64 64, .int .i64 2, .int .i64 16, .int .i64 18, .int .i64 19, .int .i64 4, .int .i64 23] 30)).alloc (.cells #[.int .i64 64, .int .i64 (E : Int), .int .i64 (S0 : Int), .int .i64 (t : Int)] 33) := ⟨_, rfl⟩
  have hs3 : W3.heap.size = w.heap.size + 3 := by rw [hW3]; simp
  have b3 : Below w.heap.size w W3 := by rw [hW3]; exact (((Below.refl w.heap.size w).alloc (Nat.le_refl _) _).alloc (by simp) _).alloc (by simp; omega) _
  have x0 : Box W3 w.heap.size #[.slice ad 64 cs, .slice none 0 0, .int .i64 0, .bool false, .int .i64 (-1), .int .i64 (-1)] 54 := by rw [hW3]; exact ((Dk.Box.new w _ 54).alloc _).alloc _
  have x1 : Box W3 (w.heap.size + 1) #[.int .i64 64, .int .i64 2, .int .i64 16, .int .i64 18, .int .i64 19, .int .i64 4, .int .i64 23] 30 := by rw [hW3]; exact (Rg.Box.next w _ _ 30).alloc _
  have x2 : Box W3 (w.heap.size + 2) #[.int .i64 64, .int .i64 (E : Int), .int .i64 (S0 : Int), .int .i64 (t : Int)] 33 := by rw [hW3]; exact Rg.Box.next2 w _ _ _ 33
  have cO := ref64 W3
  unfold lay at *
  have HX : Hid (∀ u, Below W3.heap.size W3 u → Box u w.heap.size #[.slice ad 64 cs, .slice none 0 0, .int .i64 0, .bool false, .int .i64 (-1), .int .i64 (-1)] 54 ∧ Box u (w.heap.size + 1) #[.int .i64 64, .int .i64 2, .int .i64 16, .int .i64 18, .int .i64 19, .int .i64 4, .int .i64 23] 30 ∧ Box u (w.heap.size + 2) #[.int .i64 64, .int .i64 (E : Int), .int .i64 (S0 : Int), .int .i64 (t : Int)] 33) := fun u bu => ⟨x0.below bu, x1.below bu, x2.below bu⟩
  have HB3 : Hid (Below w.heap.size w W3 ∧ W3.heap.size = w.heap.size + 3) := ⟨b3, hs3⟩
  have d0 := x0.cell 0
  simp at d0
  clear x0 x1 x2 b3 hs3
  rw [hW3] at d0
  go_enter Tryz.func19, Tryz.ntmps19
  go_wp2_with fail
  rw [← hW3]
  refine Calls.mono cO ?_
  rintro r u1 ⟨rfl, b1⟩
  clear d0 cO hW3
  have al := b1.alloc b1.size (.cells #[.int .i64 64, .int .i64 2, .int .i64 16, .int .i64 18, .int .i64 19, .int .i64 4, .int .i64 23] 30)
  obtain ⟨W4, hW4⟩ : ∃ W4, W4 = u1.alloc (.cells #[.int .i64 64, .int .i64 2, .int .i64 16, .int .i64 18, .int .i64 19, .int .i64 4, .int .i64 23] 30) := ⟨_, rfl⟩
  rw [← hW4] at al
  obtain ⟨x0, x1, x2⟩ := HX.out W4 al
  have x3 : Box W4 u1.heap.size #[.int .i64 64, .int .i64 2, .int .i64 16, .int .i64 18, .int .i64 19, .int .i64 4, .int .i64 23] 30 := by rw [hW4]; exact Dk.Box.new u1 _ 30
  have HB4 : Hid (Below w.heap.size w W4) := HB3.out.1.trans (al.mono HB3.out.1.size)
  have a0 := x0.cell 0
  have a1 := x0.cell 1
  have a2 := x0.cell 2
  have a3 := x0.cell 3
  have a4 := x0.cell 4
  have a5 := x0.cell 5
  have l0 := x1.cell 0
  have l1 := x1.cell 1
  have l2 := x1.cell 2
  have l3 := x1.cell 3
  have l4 := x1.cell 4
  have l5 := x1.cell 5
  have l6 := x1.cell 6
  have s0 := x2.cell 0
  have s1 := x2.cell 1
  have s2 := x2.cell 2
  have s3 := x2.cell 3
  have o0 := x3.cell 0
  have o1 := x3.cell 1
  have o2 := x3.cell 2
  have o3 := x3.cell 3
  have o4 := x3.cell 4
  have o5 := x3.cell 5
  have o6 := x3.cell 6
  simp at a0 a1 a2 a3 a4 a5 l0 l1 l2 l3 l4 l5 l6 s0 s1 s2 s3 o0 o1 o2 o3 o4 o5 o6
  have HS : Hid (∀ u, Below W4.heap.size W4 u → u.cell? ⟨w.heap.size, 0, none⟩ = some (.slice ad 64 cs) ∧ u.cell? ⟨w.heap.size, 1, none⟩ = some (.slice none 0 0) ∧ u.cell? ⟨w.heap.size, 2, none⟩ = some (.int .i64 0) ∧ u.cell? ⟨w.heap.size, 3, none⟩ = some (.bool false) ∧ u.cell? ⟨w.heap.size, 4, none⟩ = some (.int .i64 (-1)) ∧ u.cell? ⟨w.heap.size, 5, none⟩ = some (.int .i64 (-1)) ∧ u.cell? ⟨w.heap.size + 1, 0, none⟩ = some (.int .i64 64) ∧ u.cell? ⟨w.heap.size + 1, 1, none⟩ = some (.int .i64 2) ∧ u.cell? ⟨w.heap.size + 1, 2, none⟩ = some (.int .i64 16) ∧ u.cell? ⟨w.heap.size + 1, 3, none⟩ = some (.int .i64 18) ∧ u.cell? ⟨w.heap.size + 1, 4, none⟩ = some (.int .i64 19) ∧ u.cell? ⟨w.heap.size + 1, 5, none⟩ = some (.int .i64 4) ∧ u.cell? ⟨w.heap.size + 1, 6, none⟩ = some (.int .i64 23) ∧ u.cell? ⟨w.heap.size + 2, 0, none⟩ = some (.int .i64 64) ∧ u.cell? ⟨w.heap.size + 2, 1, none⟩ = some (.int .i64 (E : Int)) ∧ u.cell? ⟨w.heap.size + 2, 2, none⟩ = some (.int .i64 (S0 : Int)) ∧ u.cell? ⟨w.heap.size + 2, 3, none⟩ = some (.int .i64 (t : Int))) := fun u bu => by
    have y0 := x0.below bu
    have y1 := x1.below bu
    have y2 := x2.below bu
    have a0 := y0.cell 0
    have a1 := y0.cell 1
    have a2 := y0.cell 2
    have a3 := y0.cell 3
    have a4 := y0.cell 4
    have a5 := y0.cell 5
    have l0 := y1.cell 0
    have l1 := y1.cell 1
    have l2 := y1.cell 2
    have l3 := y1.cell 3
    have l4 := y1.cell 4
    have l5 := y1.cell 5
    have l6 := y1.cell 6
    have s0 := y2.cell 0
    have s1 := y2.cell 1
    have s2 := y2.cell 2
    have s3 := y2.cell 3
    simp at a0 a1 a2 a3 a4 a5 l0 l1 l2 l3 l4 l5 l6 s0 s1 s2 s3
    exact ⟨a0, a1, a2, a3, a4, a5, l0, l1, l2, l3, l4, l5, l6, s0, s1, s2, s3⟩
  have HR4 : Hid (Dk.RD W4 (fun i => i < W4.heap.size) ad none 64 cs 0 0 D) := HRD.out.move (fun i hi _ _ => HB4.out.block i hi) (fun i hi _ => by have := HB4.out.size; omega)
  clear x0 x1 x2 x3 al b1
  rw [hW4] at a0 a1 a2 a3 a4 a5 l0 l1 l2 l3 l4 l5 l6 s0 s1 s2 s3 o0 o1 o2 o3 o4 o5 o6
  go_wp2_with fail
  rw [← hW4]
  clear a0 a1 a2 a3 a4 a5 l0 l1 l2 l3 l4 l5 l6 s0 s1 s2 s3 o0 o1 o2 o3 o4 o5 o6 HX HB3 hW4 HRD hq
  obtain ⟨i0, hi, hz0, hz1, hz2⟩ := info_parts infoB
  go_loopw [11, 12] (fun v i u => ∃ (k : Nat) (vs : List Value), k ≤ 16 ∧ i = .int .i64 (k : Int) ∧ u.ownsRow W4.heap.size 41 1 v k vs ∧ RgC W4 D t k vs ∧ Below W4.heap.size W4 u) (fun _ i _ => 16 - (intOf i).toNat)
  case atStart => exact ⟨0, [], by decide, rfl, World.ownsRow_nil _ _ _ _, ⟨rfl, fun j hj => by omega⟩, Below.refl _ _⟩
  case round =>
    obtain ⟨k, vs, hk, rfl, own, hC, Bu⟩ := hrel
    obtain ⟨av, cv, rfl⟩ := Rc.owns_shape own
    have HC : Hid (RgC W4 D t k vs) := hC
    have HO : Hid (wr.ownsRow W4.heap.size 41 1 (.slice av k cv) k vs) := own
    clear own hC
    obtain ⟨a0, a1, a2, a3, a4, a5, l0, l1, l2, l3, l4, l5, l6, s0, s1, s2, s3⟩ := HS.out wr Bu
    by_cases hlt : k < 16
    · have hki : (k : Int) < 16 := by omega
      obtain ⟨P, hP⟩ : ∃ P, P = 2 + (t + k) % 16 := ⟨_, rfl⟩
      have hP64 : P < 64 := by omega
      have HR5 : Hid (∀ u, Below W4.heap.size W4 u → Calls Tryz.prog 42 #[.agg #[.slice ad 64 cs, .slice none 0 0, .int .i64 0, .bool false, .int .i64 (-1), .int .i64 (-1)], .int .i64 (P : Int)] u fun r w' => ∃ p o c, r = .returned (.slice (some ⟨p, o, none⟩) 4096 c) ∧ Dk.BlkAt w' (fun i => i < W4.heap.size) (.slice (some ⟨p, o, none⟩) 4096 c) (D.stand P) ∧ Below u.heap.size u w') := fun u bu =>
        Dk.rat_at (HR4.out.move (fun i hi _ _ => bu.block i hi) (fun _ _ h => h)) 0 (-1) (-1) false P (by rw [HNB.out]; exact hP64)
      have e1 : IntKind.i64.wrap ((t : Int) + (k : Int)) = (t : Int) + (k : Int) := by rw [IntKind.wrap_i64]; omega
      have e2 : IntKind.i64.wrap (2 + ((t : Int) + (k : Int)).tmod 16) = (P : Int) := by rw [Int.tmod_eq_emod_of_nonneg (by omega), IntKind.wrap_i64, hP]; push_cast; omega
      have HP : Hid (P = 2 + (t + k) % 16) := hP
      clear hP
      have B0 : Below W4.heap.size W4 wr.drew := Bu.drew
      go_upto_region 10 with fail
      clear a0 a1 a2 a3 a4 a5 l0 l1 l2 l3 l4 l5 l6 s0 s1 s2 s3
      go_region_held3 (fun u => u.cell? ⟨w.heap.size, 0, none⟩ = some (.slice ad 64 cs) ∧ u.cell? ⟨w.heap.size, 1, none⟩ = some (.slice none 0 0) ∧ u.cell? ⟨w.heap.size, 2, none⟩ = some (.int .i64 0) ∧ u.cell? ⟨w.heap.size, 3, none⟩ = some (.bool false) ∧ u.cell? ⟨w.heap.size, 4, none⟩ = some (.int .i64 (-1)) ∧ u.cell? ⟨w.heap.size, 5, none⟩ = some (.int .i64 (-1)) ∧ u.cell? ⟨w.heap.size + 1, 0, none⟩ = some (.int .i64 64) ∧ u.cell? ⟨w.heap.size + 1, 1, none⟩ = some (.int .i64 2) ∧ u.cell? ⟨w.heap.size + 1, 2, none⟩ = some (.int .i64 16) ∧ u.cell? ⟨w.heap.size + 1, 3, none⟩ = some (.int .i64 18) ∧ u.cell? ⟨w.heap.size + 1, 4, none⟩ = some (.int .i64 19) ∧ u.cell? ⟨w.heap.size + 1, 5, none⟩ = some (.int .i64 4) ∧ u.cell? ⟨w.heap.size + 1, 6, none⟩ = some (.int .i64 23) ∧ u.cell? ⟨w.heap.size + 2, 0, none⟩ = some (.int .i64 64) ∧ u.cell? ⟨w.heap.size + 2, 1, none⟩ = some (.int .i64 (E : Int)) ∧ u.cell? ⟨w.heap.size + 2, 2, none⟩ = some (.int .i64 (S0 : Int)) ∧ u.cell? ⟨w.heap.size + 2, 3, none⟩ = some (.int .i64 (t : Int)))
        (first | with_reducible exact HS.out _ B0 | with_reducible exact HS.out _ B1 | with_reducible exact HS.out _ (B1.alloc B1.size _) | with_reducible exact HS.out _ B2)
        (first
          | (go_at_call 42; refine Calls.mono (HR5.out _ B0) ?_; rintro r W ⟨p, o, c, rfl, hb, bW⟩; have B1 : Below W4.heap.size W4 W := B0.trans (bW.mono B0.size))
          | ((refine step_append_lies _ (by rfl) _ _ _ (by rfl) W4.heap.size 41 i0 _ 1 24 Tryz.underlying52 hi hz0 hz1 hz2 rfl (by omega) (.slice av k cv) k vs (by rfl) (Rc.owns_below (Rc.owns_below (Rc.owns_below HO.out ((Below.refl wr.heap.size wr).drew)) bW) ((Below.refl _ W).alloc (Nat.le_refl _) _))
                ⟨W.heap.size, 0, none⟩ 1 1 [.slice (some ⟨p, o, none⟩) 4096 c] (by rfl) (by rfl) (World.news_of_block (cs := #[.slice (some ⟨p, o, none⟩) 4096 c]) (t := 41) (fr := (0, 0)) (heap_alloc_new W _)) (by intro u hu; simp at hu; subst hu; rfl)
                (by omega) (by unfold maxLen; omega) (by omega) (by simp; exact Nat.le_succ_of_le B1.size) (W.heap.size + 1) (by simp) ?_)
             intro gg gc w1 hown1 hgrow hat hlt1
             have B2 : Below W4.heap.size W4 w1 := (B1.alloc B1.size (.cells #[.slice (some ⟨p, o, none⟩) 4096 c] 41)).grown hgrow (by simp; exact Nat.le_succ_of_le B1.size) (fun j e => (Rc.owns_block HO.out j e).1)))
      obtain ⟨p', o', c', hv, h1, h2, hq, _, hl, hcl⟩ := hb
      injection hv with hv _ hv3
      injection hv with hv
      injection hv with hv1 hv2
      subst hv1 hv2 hv3
      have hrd : Rc.Rd W4 (some ⟨p, o, none⟩) (D.stand P) := fun _ => ⟨p, o, rfl, fun j hj => (B1.cell (p := ⟨p, o + j, none⟩) hq).symm.trans (hcl j hj)⟩
      have hC2 : RgC W4 D t (k + 1) (vs ++ [.slice (some ⟨p, o, none⟩) 4096 c]) := HC.out.snoc h1 h2 (by rw [HP.out] at hrd; exact hrd) (by rw [HP.out] at hl; exact hl)
      clear hrd hcl hl hq hgrow hat hlt1 bW e1 e2 B1 B0 h1 h2
      go_wp2_with fail
      go_roundw
      case rel => exact ⟨k + 1, _, by omega, by push_cast; rfl, hown1, hC2, B2⟩
      case measure => simp [intOf]; omega
    · have hk16 : k = 16 := by omega
      have hLs : Rc.Lsts wr av (ringB D t 0 16) := HC.out.lsts hk16 HO.out Bu
      obtain ⟨g5, o5, hav, hc5⟩ := hLs (by rw [ringB_length]; decide)
      subst hav
      have hcv : 16 ≤ cv ∧ cv ≤ maxLen := by
        rcases HO.out.2 with ⟨h1, _⟩ | ⟨g', cap, cur, h1, _, _, h2, h3, _⟩
        · cases h1
        · injection h1 with h4 h5 h6
          subst h6
          omega
      rw [hk16] at hlt ⊢
      rw [show (((16 : Nat) : Int)) = (16 : Int) from rfl]
      have HL5 : Hid (∀ u, Below wr.heap.size wr u → ∀ j (h : j < (ringB D t 0 16).length), Rc.LstAt u g5 (o5 + j) (ringB D t 0 16)[j]) := fun u bu j h => (hc5 j h).below bu
      have BW5 : Hid (Below w.heap.size w wr) := HB4.out.trans (Bu.mono HB4.out.size)
      have HS5 : Hid (∀ u, Below wr.heap.size wr u → u.cell? ⟨w.heap.size, 0, none⟩ = some (.slice ad 64 cs) ∧ u.cell? ⟨w.heap.size, 1, none⟩ = some (.slice none 0 0) ∧ u.cell? ⟨w.heap.size, 2, none⟩ = some (.int .i64 0) ∧ u.cell? ⟨w.heap.size, 3, none⟩ = some (.bool false) ∧ u.cell? ⟨w.heap.size, 4, none⟩ = some (.int .i64 (-1)) ∧ u.cell? ⟨w.heap.size, 5, none⟩ = some (.int .i64 (-1)) ∧ u.cell? ⟨w.heap.size + 1, 0, none⟩ = some (.int .i64 64) ∧ u.cell? ⟨w.heap.size + 1, 1, none⟩ = some (.int .i64 2) ∧ u.cell? ⟨w.heap.size + 1, 2, none⟩ = some (.int .i64 16) ∧ u.cell? ⟨w.heap.size + 1, 3, none⟩ = some (.int .i64 18) ∧ u.cell? ⟨w.heap.size + 1, 4, none⟩ = some (.int .i64 19) ∧ u.cell? ⟨w.heap.size + 1, 5, none⟩ = some (.int .i64 4) ∧ u.cell? ⟨w.heap.size + 1, 6, none⟩ = some (.int .i64 23) ∧ u.cell? ⟨w.heap.size + 2, 0, none⟩ = some (.int .i64 64) ∧ u.cell? ⟨w.heap.size + 2, 1, none⟩ = some (.int .i64 (E : Int)) ∧ u.cell? ⟨w.heap.size + 2, 2, none⟩ = some (.int .i64 (S0 : Int)) ∧ u.cell? ⟨w.heap.size + 2, 3, none⟩ = some (.int .i64 (t : Int))) := fun u bu => HS.out u (Bu.trans (bu.mono Bu.size))
      clear hLs hc5 HO HC HS HR4 hk hk16
      obtain ⟨hcv1, hcv2⟩ := hcv
      unfold maxLen at hcv2
      obtain ⟨j0, hj0, hy0, hy1, hy2⟩ := info_parts info52
      go_upto_block 2 with fail
      generalize wr = W5 at *
      clear a0 a1 a2 a3 a4 a5 l0 l1 l2 l3 l4 l5 l6 s0 s1 s2 s3
      go_cut [13, 14] from 98 to 158 (fun v13 v14 u => ∃ xs : List Gx, v14 = .int .i64 (tot xs : Int) ∧ tot xs ≤ 16 ∧ Run D t E 0 S0 xs ∧ u.ownsRow W5.heap.size 40 3 v13 xs.length (gsC E xs) ∧ (∀ x ∈ xs, GA D t E x u) ∧ Below W5.heap.size W5 u)
      case first =>
       as_aux_lemma =>
       go_wp2_with fail
       go_loopw [13, 14] (fun v i u => ∃ (b : Nat) (xs : List Gx), b ≤ 16 ∧ i = .int .i64 (b : Int) ∧ Upto D t E 0 S0 xs b (S0 + xs.length) ∧ tot xs = b ∧ u.ownsRow W5.heap.size 40 3 v xs.length (gsC E xs) ∧ (∀ x ∈ xs, GA D t E x u) ∧ Below W5.heap.size W5 u) (fun _ i _ => 17 - (intOf i).toNat)
       case atStart => exact ⟨0, [], by decide, rfl, ⟨rfl, rfl⟩, rfl, World.ownsRow_nil _ _ _ _, fun x hx => (by cases hx), Below.refl _ _⟩
       case round =>
        obtain ⟨b, xs, hb, rfl, hU, htt, own, hG, Bq⟩ := hrel
        obtain ⟨ar, cr, rfl⟩ := Rc.owns_shape own
        have hxl : xs.length ≤ 16 := by have := hU.len; omega
        have HFin : Hid (∀ u, Below wr.heap.size wr u → ¬ GOk D t E b (S0 + xs.length) → ∃ ys : List Gx, Value.int .i64 (b : Int) = .int .i64 (tot ys : Int) ∧ tot ys ≤ 16 ∧ Run D t E 0 S0 ys ∧ u.ownsRow W5.heap.size 40 3 (.slice ar xs.length cr) ys.length (gsC E ys) ∧ (∀ x ∈ ys, GA D t E x u) ∧ Below W5.heap.size W5 u) := fun u bu hno =>
          ⟨xs, by rw [htt], by omega, hU.done hno, Rc.owns_below own bu, fun x hx => (hG x hx).kept (fun k _ _ hb _ => bu.block k hb.lt), Bq.trans (bu.mono Bq.size)⟩
        have HU : Hid (Upto D t E 0 S0 xs b (S0 + xs.length)) := hU
        have HTT : Hid (tot xs = b) := htt
        have HO : Hid (wr.ownsRow W5.heap.size 40 3 (.slice ar xs.length cr) xs.length (gsC E xs)) := own
        have HG : Hid (∀ x ∈ xs, GA D t E x wr) := hG
        clear hU htt own hG
        obtain ⟨n, hn⟩ : ∃ n, n = xs.length := ⟨_, rfl⟩
        rw [← hn] at HFin HO HU hxl ⊢
        have HN : Hid (n = xs.length) := hn
        clear hn
        by_cases hlt : b < 16
        · have hlr : b < (ringB D t 0 16).length := by rw [ringB_length]; exact hlt
          obtain ⟨x, c, hc, q1, q2, q3, q4⟩ := HL5.out wr Bq b hlr
          have eX : (ringB D t 0 16)[b]'hlr = rg D t b := by rw [ringB_get, Nat.zero_add]
          rw [eX] at hc q1 q4
          obtain ⟨X, hX⟩ : ∃ X, X = rg D t b := ⟨_, rfl⟩
          rw [← hX] at hc q1 q4
          have cH := Rc.rhead_tell x X.length c X wr rfl q4 q1
          have HX : Hid (X = rg D t b) := hX
          obtain ⟨xl, hxl2⟩ : ∃ xl, xl = X.length := ⟨_, rfl⟩
          rw [← hxl2] at hc cH
          clear q1 q2 q3 q4 eX hX hxl2
          go_wp2_with fail
          refine Calls.mono cH ?_
          rintro r u2 (⟨hH, rfl, bb2⟩ | ⟨hH, rfl, bb2⟩)
          · have Bu2 : Below W5.heap.size W5 u2 := Bq.trans (bb2.mono Bq.size)
            obtain ⟨a0, a1, a2, a3, a4, a5, l0, l1, l2, l3, l4, l5, l6, s0, s1, s2, s3⟩ := HS5.out u2 Bu2
            have hm1 : 1 ≤ (Rc.saidEs X).length ∧ (Rc.saidEs X).length ≤ 32 := by
              have := hH.2.1.2.1
              simpa using this
            obtain ⟨m, hm⟩ : ∃ m, m = (Rc.saidEs X).length := ⟨_, rfl⟩
            have HM : Hid (cntAt D t b = m) := by show (Rc.saidEs (rg D t b)).length = m; rw [← HX.out, hm]
            rw [← hm] at hm1 ⊢
            have HHd : Hid (Rc.isHead X) := hH
            obtain ⟨SE, hSE⟩ : ∃ SE, SE = Rc.saidE X := ⟨_, rfl⟩
            obtain ⟨SS, hSS⟩ : ∃ SS, SS = Rc.saidS X := ⟨_, rfl⟩
            have HSE : Hid (SE = Rc.saidE X) := hSE
            have HSS : Hid (SS = Rc.saidS X) := hSS
            rw [← hSE, ← hSS]
            clear hm hH hSE hSS cH
            have hor : SE ≠ E ∨ (SE = E ∧ SS ≠ S0 + n) ∨ (SE = E ∧ SS = S0 + n ∧ ¬ b + m + 1 ≤ 16) ∨ (SE = E ∧ SS = S0 + n ∧ b + m + 1 ≤ 16) := by omega
            rcases hor with h | ⟨h1, h⟩ | ⟨h1, h2, h⟩ | ⟨h1, h2, hfit⟩
            · have hno : ¬ GOk D t E b (S0 + n) := fun hg => h (by rw [HSE.out, HX.out]; exact hg.1.2.1)
              have h' : ¬ ((SE : Int) = (E : Int)) := by omega
              have hF := HFin.out u2 bb2 hno
              clear h
              go_wp2_with fail
              go_meet
              case rel => exact hF
            · rw [h1]
              clear h1
              have hno : ¬ GOk D t E b (S0 + n) := fun hg => h (by rw [HSS.out, HX.out]; exact hg.1.2.2)
              have h' : ¬ ((SS : Int) = (S0 : Int) + (n : Int)) := by omega
              have hF := HFin.out u2 bb2 hno
              clear h
              go_wp2_with fail
              go_meet
              case rel => exact hF
            · rw [h1, h2]
              clear h1 h2
              have hno : ¬ GOk D t E b (S0 + n) := fun hg => h (by have := hg.2.1; rw [HM.out] at this; omega)
              have hF := HFin.out u2 bb2 hno
              have h' : ¬ ((b : Int) + (m : Int) + 1 ≤ 16) := by omega
              push_cast
              clear h
              go_wp2_with fail
              go_meet
              case rel => exact hF
            · rw [h1, h2]
              have HH1 : Hid (SE = E) := h1
              have HH2 : Hid (SS = S0 + n) := h2
              have hLs : Rc.Lsts u2 (some ⟨g5, o5 + b, none⟩) (ringB D t b (m + 1)) := fun _ => ⟨g5, o5 + b, rfl, fun j hj => by
                have hj' : j < m + 1 := by rw [ringB_length] at hj; exact hj
                have hl2 : b + j < (ringB D t 0 16).length := by rw [ringB_length]; omega
                have h1 := HL5.out u2 Bu2 (b + j) hl2
                rw [ringB_get, Nat.zero_add] at h1
                rw [ringB_get, Nat.add_assoc]
                exact h1⟩
              have cG := Rc.rget_in (some ⟨g5, o5 + b, none⟩) (m + 1) (cv - b) (ringB D t b (m + 1)) u2 (ringB_length _ _ _ _) (by omega) (by omega) hLs
              have e0 : (ringB D t b (m + 1))[0]?.getD [] = X := by rw [ring0, HX.out]
              unfold Rc.RGetR at cG
              rw [e0, ← HSE.out, ← HSS.out, h1, h2] at cG
              have em : (Rc.saidEs X).length = m := by rw [HX.out]; exact HM.out
              rw [em] at cG
              clear hLs e0 em h1 h2
              push_cast
              have w1 : ((b : Int) + (m : Int) + 1) ≤ 16 := by omega
              have el : b + m + 1 - b = m + 1 := by omega
              obtain ⟨SQ, hSQ⟩ : ∃ SQ, SQ = S0 + n := ⟨_, rfl⟩
              rw [← hSQ] at cG
              have HSQ : Hid (SQ = S0 + n) := hSQ
              have hSQb : SQ ≤ 549755813904 := by omega
              clear hSQ
              go_wp2_with fail
              rw [el]
              clear el
              refine Calls.mono cG ?_
              rintro r u3 (⟨hg, a, c3, rfl, hOw, bb3⟩ | ⟨hg, rfl, bb3⟩)
              · have bb23 : Below wr.heap.size wr u3 := bb2.trans (bb3.mono bb2.size)
                have B3 : Below W5.heap.size W5 u3 := Bq.trans (bb23.mono Bq.size)
                have gok : GOk D t E b (S0 + n) := ⟨⟨by have := HHd.out; rw [HX.out] at this; exact this, by have := HSE.out; rw [HX.out, HH1.out] at this; exact this.symm, by have := HSS.out; rw [HX.out, HH2.out] at this; exact this.symm⟩, by rw [HM.out]; omega, by rw [HM.out]; exact hg⟩
                obtain ⟨qs, o1, j1, mp, ql⟩ := hOw
                have gaG : GA D t E ⟨b, S0 + n, m, a, c3, qs⟩ u3 := by
                  refine ⟨gok, HM.out.symm, ⟨o1.1, ?_⟩, ⟨fun p hp => ?_, j1.apart⟩, ?_⟩
                  · rcases o1.2 with h1 | ⟨g', cap', cur, e, _, rr⟩
                    · exact .inl h1
                    · exact .inr ⟨g', cap', cur, e, Nat.zero_le _, rr⟩
                  · obtain ⟨h1, _, h3⟩ := j1.rows p hp
                    exact ⟨h1, Nat.zero_le _, h3⟩
                  · show qs.map (fun p => (p.b, p.xs)) = gimgs D t b
                    rw [mp]
                    unfold gimgs
                    rw [HM.out, HX.out]
                    rfl
                have HGA : Hid (GA D t E ⟨b, S0 + n, m, a, c3, qs⟩ u3) := gaG
                have HGK : Hid (GOk D t E b (S0 + n)) := gok
                have HOw : Hid (∀ k, (Value.slice ar n cr).ownBlock = some k → ∃ cur, Box wr k cur 40) := fun k e => (Rc.owns_block HO.out k e).2
                have al1 := (Below.refl u3.heap.size u3).alloc (Nat.le_refl _) (.cells #[.int .i64 (E : Int), .int .i64 (SQ : Int), .slice a m c3] 40)
                obtain ⟨V, hV⟩ : ∃ V, V = u3.alloc (.cells #[.int .i64 (E : Int), .int .i64 (SQ : Int), .slice a m c3] 40) := ⟨_, rfl⟩
                have al2 : Below u3.heap.size u3 (V.alloc (.cells #[.int .i64 (E : Int), .int .i64 (SQ : Int), .slice a m c3] 40)) := by rw [hV]; exact al1.alloc al1.size _
                have own1 := Rc.owns_below (Rc.owns_below HO.out bb23) al2
                have hz5 : W5.heap.size ≤ (V.alloc (.cells #[.int .i64 (E : Int), .int .i64 (SQ : Int), .slice a m c3] 40)).heap.size := by have := B3.size; have := al2.size; omega
                clear gaG gok o1 j1 mp ql hg cG bb2 bb3 al1  a0 a1 a2 a3 a4 a5 l0 l1 l2 l3 l4 l5 l6 s0 s1 s2 s3
                rw [hV] at own1 hz5
                have hnews : ∀ j u, ([.int .i64 (E : Int), .int .i64 (SQ : Int), .slice a m c3] : List Value)[j]? = some u → ((u3.alloc (.cells #[.int .i64 (E : Int), .int .i64 (SQ : Int), .slice a m c3] 40)).alloc (.cells #[.int .i64 (E : Int), .int .i64 (SQ : Int), .slice a m c3] 40)).cell? ((⟨u3.heap.size + 1, 0, none⟩ : Addr).add j) = some u := fun j u hj => by
                  have bN := Rg.Box.next u3 (.cells #[.int .i64 (E : Int), .int .i64 (SQ : Int), .slice a m c3] 40) #[.int .i64 (E : Int), .int .i64 (SQ : Int), .slice a m c3] 40
                  rw [Addr.add_lit, Nat.zero_add, bN.cell j]
                  simpa using hj
                go_wp2_with (at_builtin; refine wpList_append_own _ rfl _ _ 26 rfl W5.heap.size 40 j0 _ 3 40 Tryz.underlying26 hj0 hy0 hy1 hy2 rfl (by decide) _ n _ rfl own1 ⟨u3.heap.size + 1, 0, none⟩ 1 1 [.int .i64 (E : Int), .int .i64 (SQ : Int), .slice a m c3] rfl rfl ?c1 ?c2 ?c3 ?c4 hz5 ?_)
                case c1 => exact hnews
                case c2 => intro u hu; simp at hu; rcases hu with rfl | rfl | rfl <;> rfl
                case c3 => unfold maxLen; omega
                case c4 => omega
                intro v' w4 hown4 hgrow _
                rw [← hV] at hgrow
                have hkk : ∀ k (cs : Array Value) (ty : TypeId), Box u3 k cs ty → ty = 108 ∨ ty = 5 → w4.heap[k]? = u3.heap[k]? := fun k cs ty hbx hty => (hgrow.block k (Nat.lt_of_lt_of_le hbx.lt al2.size) (fun e => by
                  obtain ⟨cur, hbq⟩ := HOw.out k e.symm
                  exact hbx.ne (hbq.below bb23) (by rcases hty with rfl | rfl <;> decide) rfl)).trans (al2.block k hbx.lt)
                have hG4 : Hid (∀ x ∈ xs ++ [⟨b, S0 + n, m, a, c3, qs⟩], GA D t E x w4) := fun x hx => by
                  rcases List.mem_append.1 hx with hx | hx
                  · exact ((HG.out x hx).kept (fun k _ _ hb _ => bb23.block k hb.lt)).kept hkk
                  · obtain rfl : x = ⟨b, S0 + n, m, a, c3, qs⟩ := by simpa using hx
                    exact HGA.out.kept hkk
                have B4 : Below W5.heap.size W5 w4 := (B3.trans (al2.mono B3.size)).grown hgrow (by have := B3.size; have := al2.size; omega) (fun j e => (Rc.owns_block HO.out j e).1)
                have hown5 : Hid (w4.ownsRow W5.heap.size 40 3 v' (xs ++ [(⟨b, S0 + n, m, a, c3, qs⟩ : Gx)]).length (gsC E (xs ++ [⟨b, S0 + n, m, a, c3, qs⟩]))) := by
                  show w4.ownsRow _ _ _ _ _ _
                  rw [gsC_snoc, List.length_append, ← HN.out, List.length_singleton]
                  have := hown4
                  rw [HSQ.out] at this
                  exact this
                have hU5 : Hid (Upto D t E 0 S0 (xs ++ [⟨b, S0 + n, m, a, c3, qs⟩]) (b + (m + 1)) (S0 + (xs ++ [(⟨b, S0 + n, m, a, c3, qs⟩ : Gx)]).length)) := by
                  have h := HU.out.snoc (x := ⟨b, S0 + n, m, a, c3, qs⟩) ⟨rfl, rfl, HGK.out, HM.out.symm⟩
                  rw [HM.out] at h
                  show Upto _ _ _ _ _ _ _ _
                  rw [List.length_append, ← HN.out, List.length_singleton, ← Nat.add_assoc]
                  exact h
                have ht5 : Hid (tot (xs ++ [(⟨b, S0 + n, m, a, c3, qs⟩ : Gx)]) = b + (m + 1)) := by
                  show _ = _
                  rw [tot_snoc, HTT.out]
                clear hnews hgrow hown4 own1 hkk al2 bb23 hV hz5
                go_wp2_with fail
                go_roundw
                case rel =>
                  exact ⟨b + (m + 1), _, by omega, by congr 1, hU5.out, ht5.out, hown5.out, hG4.out, B4⟩
                case measure => simp [intOf]; omega
              · have hno : ¬ GOk D t E b (S0 + n) := fun hgk => hg (by have := hgk.2.2; rw [HM.out] at this; exact this)
                have bb23 : Below wr.heap.size wr u3 := bb2.trans (bb3.mono bb2.size)
                have bb4 := bb23.alloc bb23.size (.cells #[.int .i64 0, .int .i64 0, .slice none 0 0] 40)
                have hF := HFin.out _ bb4 hno
                clear cG hg
                go_wp2_with fail
                go_meet
                case rel => exact hF
          · have hno : ¬ GOk D t E b (S0 + n) := fun hg => hH (by rw [HX.out]; exact hg.1.1)
            have hF := HFin.out u2 bb2 hno
            go_wp2_with fail
            go_meet
            case rel => exact hF
        · have hno : ¬ GOk D t E b (S0 + n) := fun hg => by have := hg.2.1; omega
          have hF := HFin.out wr (Below.refl _ _) hno
          go_wp2_with fail
          go_meet
          case rel => exact hF
      case rest =>
        obtain ⟨xs, rfl, ht16, hRun, ho, hG, Bz⟩ := hcut
        obtain ⟨a, c, rfl⟩ := Rc.owns_shape ho
        obtain ⟨a0, a1, a2, a3, a4, a5, l0, l1, l2, l3, l4, l5, l6, s0, s1, s2, s3⟩ := HS5.out wc Bz
        have HRun : Hid (Run D t E 0 S0 xs) := hRun
        have HO : Hid (wc.ownsRow W5.heap.size 40 3 (.slice a xs.length c) xs.length (gsC E xs)) := ho
        have HG : Hid (∀ x ∈ xs, GA D t E x wc) := hG
        clear hRun ho hG
        obtain ⟨tt, htt⟩ : ∃ tt, tt = tot xs := ⟨_, rfl⟩
        rw [← htt] at ht16 ⊢
        have HTT : Hid (tt = tot xs) := htt
        clear htt
        have e1 : IntKind.i64.wrap ((t : Int) + (tt : Int)) = (t : Int) + (tt : Int) := by rw [IntKind.wrap_i64]; omega
        have e2 : ((t : Int) + (tt : Int)).tmod 16 = ((t : Int) + (tt : Int)) % 16 := Int.tmod_eq_emod_of_nonneg (by omega)
        go_upto_region 20 with fail
        go_quiet (fail)
        rename_i nq
        have B6 : Below wc.heap.size wc (wc.drewN nq) := J.below_drewN (Below.refl _ _) nq
        have B7 := BW5.out.trans ((J.below_drewN Bz nq).mono BW5.out.size)
        go_wp2_with fail
        refine bodyPost_ret (v := .tuple #[.slice a xs.length c, .int .i64 (((t : Int) + (tt : Int)) % 16), .int .i64 0]) (by simp [results, Tryz.results19, go_sem]) rfl ⟨xs, a, c, ?_, HRun.out, ?_, fun x hx => (HG.out x hx).kept (fun k _ _ hb _ => B6.block k hb.lt), B7⟩
        · rw [HTT.out]
          push_cast
          rfl
        · have o := Rc.owns_below HO.out B6
          refine ⟨o.1, ?_⟩
          rcases o.2 with h1 | ⟨g', cap', cur, e, hb, rr⟩
          · exact .inl h1
          · exact .inr ⟨g', cap', cur, e, by have := BW5.out.size; omega, rr⟩
end Go.Proofs.YtkhejjddmbegaaaGreat.S

/-
  Groups and the document's own Groups, each in one form: what they answer is one thing, told by the ring's blocks.
-/
namespace Go.Proofs.YtkhejjddmbegaaaGreat.S
open Go.RowKit
open Go.Proofs.YtkhejjddmbegaaaGreat.Dk (Box)

abbrev G3 := Int × Int × List (Int × List UInt8)
/-- groups in memory -/
def GsM (w : World) (a : Option Addr) (gs : List G3) : Prop :=
  0 < gs.length → ∃ b o, a = some ⟨b, o, none⟩ ∧ ∀ j (h : j < gs.length), ∃ al cl, w.cell? ⟨b, o + j * 3, none⟩ = some (.int .i64 gs[j].1) ∧ w.cell? ⟨b, o + j * 3 + 1, none⟩ = some (.int .i64 gs[j].2.1) ∧ w.cell? ⟨b, o + j * 3 + 2, none⟩ = some (.slice al gs[j].2.2.length cl) ∧ Rc.Imgs w al gs[j].2.2
theorem GsM.below {w w' : World} {a : Option Addr} {gs : List G3} (h : GsM w a gs) (b : Below w.heap.size w w') : GsM w' a gs := fun h0 => by
  obtain ⟨g, o, rfl, hc⟩ := h h0
  refine ⟨g, o, rfl, fun j hj => ?_⟩
  obtain ⟨al, cl, h1, h2, h3, h4⟩ := hc j hj
  have lt := block_lt_of_cell h1
  exact ⟨al, cl, (b.cell (p := ⟨g, o + j * 3, none⟩) lt).trans h1, (b.cell (p := ⟨g, o + j * 3 + 1, none⟩) lt).trans h2, (b.cell (p := ⟨g, o + j * 3 + 2, none⟩) lt).trans h3, h4.below b⟩
/-- the groups of a run -/
def g3s (D : Dk.DS) (t E : Nat) (xs : List Gx) : List G3 := xs.map fun x => ((E : Int), (x.s : Int), gimgs D t x.b)
/-- what is told -/
def Tell (D : Dk.DS) (B E S t : Int) (gs : List G3) (at_ e : Int) : Prop :=
  (goodS B E S t ∧ ∃ xs, Run D t.toNat E.toNat 0 S.toNat xs ∧ gs = g3s D t.toNat E.toNat xs ∧ at_ = ((t.toNat + tot xs) % 16 : Nat) ∧ e = 0) ∨ (¬ goodS B E S t ∧ gs = [] ∧ at_ = 0 ∧ e = 2)
section
variable {D D' : Dk.DS} {t E : Nat}
theorem ringB_congr (h : ∀ i, i < 16 → D.stand (2 + i) = D'.stand (2 + i)) (b k : Nat) : ringB D t b k = ringB D' t b k := by
  unfold ringB
  exact List.map_congr_left fun i _ => h _ (Nat.mod_lt _ (by decide))
theorem cntAt_congr (h : ∀ i, i < 16 → D.stand (2 + i) = D'.stand (2 + i)) (b : Nat) : cntAt D t b = cntAt D' t b := by
  unfold cntAt
  rw [h _ (Nat.mod_lt _ (by decide))]
theorem GOk_congr (h : ∀ i, i < 16 → D.stand (2 + i) = D'.stand (2 + i)) {b s : Nat} (hg : GOk D t E b s) : GOk D' t E b s := by
  unfold GOk at hg ⊢
  rw [← cntAt_congr h, ← ringB_congr h, ← h _ (Nat.mod_lt _ (by decide))]
  exact hg
theorem gimgs_congr (h : ∀ i, i < 16 → D.stand (2 + i) = D'.stand (2 + i)) (b : Nat) : gimgs D t b = gimgs D' t b := by
  unfold gimgs
  rw [cntAt_congr h, ringB_congr h, h _ (Nat.mod_lt _ (by decide))]
theorem run_unique (h : ∀ i, i < 16 → D.stand (2 + i) = D'.stand (2 + i)) : ∀ {xs ys : List Gx} {b s : Nat}, Run D t E b s xs → Run D' t E b s ys → g3s D t E xs = g3s D' t E ys ∧ tot xs = tot ys
  | [], [], _, _, _, _ => ⟨rfl, rfl⟩
  | [], y :: ys, _, _, h1, ⟨⟨_, _, h2, _⟩, _⟩ => absurd (GOk_congr (fun i hi => (h i hi).symm) h2) h1
  | x :: xs, [], _, _, ⟨⟨_, _, h2, _⟩, _⟩, h1 => absurd (GOk_congr h h2) h1
  | x :: xs, y :: ys, b, s, ⟨⟨x1, x2, _, x4⟩, hx⟩, ⟨⟨y1, y2, _, y4⟩, hy⟩ => by
    rw [← cntAt_congr h] at hy
    obtain ⟨r1, r2⟩ := run_unique h hx hy
    refine ⟨?_, ?_⟩
    · simp only [g3s, List.map_cons] at r1 ⊢
      rw [r1, x1, x2, y1, y2, gimgs_congr h]
    · simp only [tot, List.map_cons, List.sum_cons] at r2 ⊢
      rw [r2, x4, y4, cntAt_congr h]
end
theorem Tell.unique {D D' : Dk.DS} {B E S t : Int} {g1 g2 : List G3} {a1 a2 e1 e2 : Int} (hs : ∀ i, i < 16 → D.stand (2 + i) = D'.stand (2 + i)) (h1 : Tell D B E S t g1 a1 e1) (h2 : Tell D' B E S t g2 a2 e2) : g1 = g2 ∧ a1 = a2 ∧ e1 = e2 := by
  rcases h1 with ⟨hg, xs, r1, rfl, rfl, rfl⟩ | ⟨hg, rfl, rfl, rfl⟩
  · rcases h2 with ⟨_, ys, r2, rfl, rfl, rfl⟩ | ⟨hg2, _⟩
    · obtain ⟨q1, q2⟩ := run_unique hs r1 r2
      exact ⟨q1, by rw [q2], rfl⟩
    · exact absurd hg hg2
  · rcases h2 with ⟨hg2, _⟩ | ⟨_, rfl, rfl, rfl⟩
    · exact absurd hg2 hg
    · exact ⟨rfl, rfl, rfl⟩
/-- groups that are told lie in memory -/
theorem gsM_of {D : Dk.DS} {t E s B c : Nat} {a : Option Addr} {xs : List Gx} {w : World} (hr : Run D t E 0 s xs) (ho : w.ownsRow B 40 3 (.slice a xs.length c) xs.length (gsC E xs)) (hg : ∀ x ∈ xs, GA D t E x w) : GsM w a (g3s D t E xs) := fun h0 => by
  have hl : 0 < xs.length := by simpa [g3s] using h0
  obtain ⟨g, rfl, _, _, hc⟩ := Rc.owns_cells ho hl
  refine ⟨g, 0, rfl, fun j hj => ?_⟩
  have hjx : j < xs.length := by simpa [g3s] using hj
  obtain ⟨k0, k1, k2⟩ := gsC_at E xs j hjx
  have hm := List.getElem_mem hjx
  obtain ⟨_, g2, g3, g4, g5⟩ := hg _ hm
  have hn := (hr.cnt _ hm).1
  have hps : (xs[j]).ps.length = (xs[j]).m := by
    have := congrArg List.length g5
    rw [List.length_map] at this
    rw [this, hn]
  have hi := Rc.imgs_of g3 g4 hps
  rw [g5] at hi
  have e : (g3s D t E xs)[j] = ((E : Int), ((xs[j]).s : Int), gimgs D t (xs[j]).b) := by simp [g3s]
  rw [e]
  refine ⟨(xs[j]).a, (xs[j]).c, ?_, ?_, ?_, hi⟩
  · rw [Nat.zero_add, hc _ (by omega), k0]
  · rw [Nat.zero_add, hc _ (by omega), k1]
  · rw [Nat.zero_add, hc _ (by omega), k2, ← hn]
/-- an answer -/
def Ans (w : World) (D : Dk.DS) (B E S t : Int) (r : Ending) (w' : World) : Prop :=
  ∃ gs a c at_ e, r = .returned (.tuple #[.slice a gs.length c, .int .i64 at_, .int .i64 e]) ∧ Tell D B E S t gs at_ e ∧ GsM w' a gs ∧ gs.length ≤ 16 ∧ (∀ g ∈ gs, g.2.2.length ≤ 32) ∧ Below w.heap.size w w'
theorem ans_of {w w' : World} {D : Dk.DS} {B E S t : Int} {xs : List Gx} {a : Option Addr} {c b : Nat} (hg : goodS B E S t) (hr : Run D t.toNat E.toNat 0 S.toNat xs) (ho : w'.ownsRow b 40 3 (.slice a xs.length c) xs.length (gsC E.toNat xs)) (hG : ∀ x ∈ xs, GA D t.toNat E.toNat x w') (bl : Below w.heap.size w w') :
    Ans w D B E S t (.returned (.tuple #[.slice a xs.length c, .int .i64 (((t.toNat + tot xs) % 16 : Nat) : Int), .int .i64 0])) w' := by
  have hl : (g3s D t.toNat E.toNat xs).length = xs.length := by simp [g3s]
  have hf := hr.fits (by decide)
  have ht : ∀ l : List Gx, l.length ≤ tot l := fun l => by
    induction l with
    | nil => exact Nat.zero_le _
    | cons x r ih => simp only [tot, List.map_cons, List.sum_cons, List.length_cons] at ih ⊢; omega
  have h16 := ht xs
  refine ⟨g3s D t.toNat E.toNat xs, a, c, _, 0, by rw [hl], .inl ⟨hg, xs, hr, rfl, rfl, rfl⟩, gsM_of hr ho hG, by omega, fun g hg' => ?_, bl⟩
  obtain ⟨x, hx, rfl⟩ := List.mem_map.1 hg'
  have := hr.cnt x hx
  show (gimgs D t.toNat x.b).length ≤ 32
  omega
theorem groups_any {w : World} {dg : Nat} {D : Dk.DS} {F : Nat → Prop} (hd : Dk.IsDisk w dg D F) (hnb : D.nb = 64) (hgn : D.gone = false) (hlim : D.uf.length ≤ 1000000) (B E S t : Int) :
    Calls Tryz.prog 6 #[.pointer (some ⟨dg, 0, none⟩), .agg lay, .agg #[.int .i64 B, .int .i64 E, .int .i64 S, .int .i64 t]] w (Ans w D B E S t) := by
  by_cases hg : goodS B E S t
  · obtain ⟨h1, h2, h3, h4⟩ := id hg
    have c := groups_at hd hnb hgn hlim t.toNat E.toNat S.toNat (by omega) (by omega) (by omega)
    rw [show ((t.toNat : Nat) : Int) = t by omega, show ((E.toNat : Nat) : Int) = E by omega, show ((S.toNat : Nat) : Int) = S by omega] at c
    rw [h1]
    refine c.mono ?_
    rintro r w' ⟨xs, a, c, rfl, hr, ho, hG, b⟩
    rw [← h1]
    exact ans_of hg hr ho hG b
  · refine (groups_no hd hnb B E S t hg).mono ?_
    rintro r w' ⟨rfl, b⟩
    exact ⟨[], none, 0, 0, 2, rfl, .inr ⟨hg, rfl, rfl, rfl⟩, fun h => by simp at h, by decide, (fun g hg => (by cases hg)), b⟩
theorem rgroups_any (w : World) (ad : Option Addr) (cs : Nat) (D : Dk.DS) (hR : Dk.RD w (fun _ => True) ad none 64 cs 0 0 D) (hnb : D.nb = 64) (B E S t : Int) :
    Calls Tryz.prog 19 #[.agg #[.slice ad 64 cs, .slice none 0 0, .int .i64 0, .bool false, .int .i64 (-1), .int .i64 (-1)], .agg lay, .agg #[.int .i64 B, .int .i64 E, .int .i64 S, .int .i64 t]] w (Ans w D B E S t) := by
  by_cases hg : goodS B E S t
  · obtain ⟨h1, h2, h3, h4⟩ := id hg
    have c := rgroups_at w ad cs D hR hnb E.toNat S.toNat t.toNat (by omega) (by omega) (by omega)
    rw [show ((t.toNat : Nat) : Int) = t by omega, show ((E.toNat : Nat) : Int) = E by omega, show ((S.toNat : Nat) : Int) = S by omega] at c
    rw [h1]
    refine c.mono ?_
    rintro r w' ⟨xs, a, c, rfl, hr, ho, hG, b⟩
    rw [← h1]
    exact ans_of hg hr ho hG b
  · refine (rgroups_no w ad cs B E S t hg).mono ?_
    rintro r w' ⟨rfl, b⟩
    exact ⟨[], none, 0, 0, 2, rfl, .inr ⟨hg, rfl, rfl, rfl⟩, fun h => by simp at h, by decide, (fun g hg => (by cases hg)), b⟩
end Go.Proofs.YtkhejjddmbegaaaGreat.S
