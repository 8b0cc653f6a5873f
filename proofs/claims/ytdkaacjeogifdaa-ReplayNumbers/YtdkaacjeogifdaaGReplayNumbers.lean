/-
  DkBackw, DkCopy, DkStand, DkMade, HNumF, HHomeNo, HNum: put together.
-/
import Derived.Test.YtdkaacjeogifdaaG7
import Derived.RangeFuncNested
import Derived.RangeFuncBound
import Derived.RangeFuncCalls
import Derived.RangeFuncLeaves
import Derived.Shelf.Abstract
import Derived.Shelf.RegionOpen
import Derived.WalkKit
import Derived.OwnWalkIn
import Derived.TacticsInMore
import Derived.LoopNIn
import Derived.LoopIn
import Derived.Deep.RegionWith
import Derived.Deep.Cut
import Derived.Deep.CutBlock
/-
  The library's walk through a list of writes, from its end.
-/
namespace Go.Proofs.Ytdkaacjeogifdaa.Dk
open Go.RowKit Go.Shelf
attribute [local go_sem] Oper.semAt_some

abbrev Wr := Nat × (Nat × Nat × Nat)
def encW (x : Wr) : Array Value := #[.int .i64 (x.1 : Int), .agg #[.int .i64 (x.2.1 : Int), .slice (some ⟨x.2.2.1, 0, none⟩) 4096 x.2.2.2]]
/-- what comes in round j -/
def comes (ps : List (Nat × Nat × Nat)) (j : Nat) : Wr := (ps.length - 1 - j, ps[ps.length - 1 - j]?.getD (0, 0, 0))
/-- what has come behind k rounds -/
def downs (ps : List (Nat × Nat × Nat)) (k : Nat) : List Wr := (List.range k).map (comes ps)
theorem downs_succ (ps : List (Nat × Nat × Nat)) (k : Nat) : downs ps (k + 1) = downs ps k ++ [comes ps k] := by simp [downs, List.range_succ]
theorem downs_length (ps : List (Nat × Nat × Nat)) (k : Nat) : (downs ps k).length = k := by simp [downs]

set_option maxRecDepth 100000 in
set_option maxHeartbeats 2000000 in
theorem back1_in (n : Nat) (hn : 1 ≤ n) (l Bs n₀ b len cap : Nat) (ps : List (Nat × Nat × Nat)) (hlen : ps.length = len) (hmax : len ≤ 1000000) (hb : b < n₀) (J Jx : List Wr → World → Prop)
    (hY : ∀ pre x W, J pre W → pre.length < len → YieldAt Fence.wide (n - 1) Try.prog l (encW x) W fun e W' =>
      (e = .returned (.bool true) ∧ J (pre ++ [x]) W' ∧ Below n₀ W W') ∨ (e = .returned (.bool false) ∧ Jx (pre ++ [x]) W'))
    (W : World) (hBs : W.cell? ⟨Bs, 0, none⟩ = some (.slice (some ⟨b, 0, none⟩) len cap)) (hBn : Bs < n₀)
    (hc : ∀ j (h : j < ps.length), W.cell? ⟨b, 0 + j * 2, none⟩ = some (.int .i64 (ps[j].1 : Int)) ∧ W.cell? ⟨b, 0 + j * 2 + 1, none⟩ = some (.slice (some ⟨ps[j].2.1, 0, none⟩) 4096 ps[j].2.2)) (h0 : J [] W) :
    CallsIn Fence.wide n Try.prog 77 #[.func (.yield l) #[] #[], .pointer (some ⟨Bs, 0, none⟩)] W fun e W' => (∃ v, e = .returned v) ∧
      ((∃ ys, ys = downs ps len ∧ J ys W') ∨ (∃ pre, (∃ k, k ≤ len ∧ pre = downs ps k) ∧ Jx pre W')) := by
  have Hlen : Hid _ := hlen
  have Hc : Hid _ := hc
  clear hlen hc
  refine callsIn_of_wp Try.func77 rfl trivial ?_ rfl
  simp only [Try.ntmps77, List.size_toArray, List.length_cons, List.length_nil, Nat.reduceAdd, Nat.reduceSub, Array.replicate_succ, Array.replicate_zero, List.push_toArray, List.append_toArray, List.nil_append, List.cons_append]
  gi_wp2
  gi_loopw [3] (fun i wr => ∃ k : Nat, k ≤ len ∧ i = .int .i64 ((len : Int) - 1 - (k : Int)) ∧ J (downs ps k) wr ∧ Below n₀ W wr)
    (fun i _ => (intOf i + 1).toNat)
  case atStart => exact ⟨0, Nat.zero_le _, by simp, h0, Below.refl _ _⟩
  case round =>
    obtain ⟨k, hk, rfl, hJs, hnx⟩ := hrel
    have hBs' := (hnx.cell (p := ⟨Bs, 0, none⟩) hBn).trans hBs
    by_cases hlt : k < len
    · obtain ⟨j, hj⟩ : ∃ j : Nat, j = len - 1 - k := ⟨_, rfl⟩
      have hji : (len : Int) - 1 - (k : Int) = (j : Int) := by omega
      have hjl : j < ps.length := by rw [Hlen.out]; omega
      obtain ⟨a0, a1⟩ := Hc.out j hjl
      have hcm : comes ps k = (j, ps[j]) := by
        unfold comes
        rw [Hlen.out, ← hj, List.getElem?_eq_getElem hjl]
        rfl
      obtain ⟨fn, tmps, assign, body, hy, hR⟩ := hY _ (comes ps k) wr hJs (by rw [downs_length]; exact hlt)
      rw [hcm] at hy
      dsimp only [encW] at hy
      have b0 := (hnx.cell (p := ⟨b, 0 + j * 2, none⟩) hb).trans a0
      have b1 := (hnx.cell (p := ⟨b, 0 + j * 2 + 1, none⟩) hb).trans a1
      simp only [Nat.zero_add] at b0 b1
      have hjn : (j : Int) < len := by omega
      rw [hji]
      generalize (ps[j]'hjl) = p at hy b0 b1 hcm
      obtain ⟨pb, pg, pc⟩ := p
      dsimp only at hy b0 b1
      have Hcm : Hid _ := hcm
      have Hji : Hid _ := hji
      have Hj : Hid _ := hj
      clear a0 a1 hcm hji hj
      gi_wp2
      refine hR.mono ?_
      rintro e W3 (⟨rfl, hJ3, hk3⟩ | ⟨rfl, hJx3⟩)
      · gi_wp2
        go_roundw
        case rel => exact ⟨k + 1, by omega, by congr 1; have := Hji.out; omega, by rw [downs_succ]; exact hJ3, hnx.trans hk3⟩
        case measure => simp [intOf]
      · gi_wp2
        refine bodyPost_ret (results_none rfl _ _ _) rfl ?_
        exact ⟨⟨_, rfl⟩, .inr ⟨_, ⟨k + 1, by omega, (downs_succ _ _).symm⟩, hJx3⟩⟩
    · obtain rfl : k = len := by omega
      have e1 : (k : Int) - 1 - (k : Int) = -1 := by omega
      rw [e1]
      gi_wp2
      go_end0
      exact ⟨⟨_, rfl⟩, .inl ⟨_, rfl, hJs⟩⟩

set_option maxRecDepth 100000 in
set_option maxHeartbeats 1000000 in
/-- .. of no writes: no round. -/
theorem back1_nil_in (n : Nat) (l Bs cap : Nat) (a : Option Addr) (J : List Wr → World → Prop) (W : World) (hBs : W.cell? ⟨Bs, 0, none⟩ = some (.slice a 0 cap)) (h0 : J [] W) :
    CallsIn Fence.wide n Try.prog 77 #[.func (.yield l) #[] #[], .pointer (some ⟨Bs, 0, none⟩)] W fun e W' => (∃ v, e = .returned v) ∧ J [] W' := by
  refine callsIn_of_wp Try.func77 rfl trivial ?_ rfl
  simp only [Try.ntmps77, List.size_toArray, List.length_cons, List.length_nil, Nat.reduceAdd, Nat.reduceSub, Array.replicate_succ, Array.replicate_zero, List.push_toArray, List.append_toArray, List.nil_append, List.cons_append]
  gi_wp2
  gi_loopw [3] (fun i wr => i = .int .i64 (-1) ∧ J [] wr) (fun _ _ => 0)
  case atStart => exact ⟨rfl, h0⟩
  case round =>
    obtain ⟨rfl, hJs⟩ := hrel
    gi_wp2
    go_end0
    exact ⟨⟨_, rfl⟩, hJs⟩

set_option maxHeartbeats 1000000 in
/-- slices.Backward: the list is boxed; the function captures the box. -/
theorem back_in (n : Nat) (a : Option Addr) (len cap : Nat) (w : World) :
    CallsIn Fence.wide n Try.prog 62 #[.slice a len cap] w fun e w' => e = .returned (.func (.func 77) #[] #[.pointer (some ⟨w.heap.size, 0, none⟩)]) ∧ w' = w.alloc (.cells #[.slice a len cap] 85) := by
  refine callsIn_of_wp Try.func62 rfl trivial ?_ rfl
  simp only [Try.ntmps62, List.size_toArray, List.length_cons, List.length_nil, Nat.reduceAdd, Nat.reduceSub, Array.replicate_succ, Array.replicate_zero, List.push_toArray, List.append_toArray, List.nil_append, List.cons_append]
  gi_wp2
  go_ret
  exact ⟨rfl, rfl⟩

/-- The writes ps lie where v says, below n₀. -/
def Wrs (n₀ : Nat) (w : World) (v : Value) (ps : List (Nat × Nat × Nat)) : Prop :=
  (∃ a cap, v = .slice a 0 cap ∧ ps = []) ∨ ∃ b cap, v = .slice (some ⟨b, 0, none⟩) ps.length cap ∧ b < n₀ ∧ ∀ j (h : j < ps.length), w.cell? ⟨b, 0 + j * 2, none⟩ = some (.int .i64 (ps[j].1 : Int)) ∧ w.cell? ⟨b, 0 + j * 2 + 1, none⟩ = some (.slice (some ⟨ps[j].2.1, 0, none⟩) 4096 ps[j].2.2)
theorem Wrs.below {n₀ : Nat} {A B : World} {v : Value} {ps : List (Nat × Nat × Nat)} (hb : Below n₀ A B) (h : Wrs n₀ A v ps) : Wrs n₀ B v ps := by
  rcases h with h | ⟨b, cap, hv, hlt, hc⟩
  · exact .inl h
  · refine .inr ⟨b, cap, hv, hlt, fun j hj => ?_⟩
    obtain ⟨h0, h1⟩ := hc j hj
    exact ⟨(hb.cell (p := ⟨b, 0 + j * 2, none⟩) hlt).trans h0, (hb.cell (p := ⟨b, 0 + j * 2 + 1, none⟩) hlt).trans h1⟩

theorem back_stops (n : Nat) (hn : 1 ≤ n) (Bs n₀ : Nat) (v : Value) (ps : List (Nat × Nat × Nat)) (hmax : ps.length ≤ 1000000) (w : World) (hBs : Bs < n₀) (hn₀ : n₀ ≤ w.heap.size) (hc : w.cell? ⟨Bs, 0, none⟩ = some v) (hI : Wrs n₀ w v ps) :
    SeqStopsK Fence.wide n Try.prog 77 #[.pointer (some ⟨Bs, 0, none⟩)] encW (Below n₀) (fun ys => ys = downs ps ps.length) (fun pre => ∃ k, k ≤ ps.length ∧ pre = downs ps k) ps.length w := fun l J Jx W hW _ _ hY h0 => by
  have hc' := (hW.cell (p := ⟨Bs, 0, none⟩) (Nat.lt_of_lt_of_le hBs hn₀)).trans hc
  rcases hI.below (hW.mono hn₀) with ⟨a, cap, rfl, rfl⟩ | ⟨b, cap, rfl, hb, hcs⟩
  · exact (back1_nil_in n l Bs cap a J W hc' h0).mono fun e W' ⟨he, hj⟩ => ⟨he, .inl ⟨_, rfl, hj⟩⟩
  · exact back1_in n hn l Bs n₀ b ps.length cap ps rfl hmax hb J Jx hY W hc' hBs hcs h0
end Go.Proofs.Ytdkaacjeogifdaa.Dk

/-
  Copy.
-/
namespace Go.Proofs.Ytdkaacjeogifdaa.Dk
open Go.RowKit

theorem Lies.shape {w : World} {g : Nat} {D : DS} {F : Nat → Prop} {gd cd : Nat} {vu : Value} {ps : List (Nat × Nat × Nat)} (h : Lies w g D F gd cd vu ps) : ∃ av cu, vu = .slice av D.uf.length cu := by
  have hrow := h.row
  rcases hrow.2 with ⟨h1, h2⟩ | ⟨gv, cu, cur, hv, _⟩
  · exact ⟨none, 0, by rw [h1, h2]⟩
  · exact ⟨some ⟨gv, 0, none⟩, cu, hv⟩

set_option maxRecDepth 100000 in
set_option maxHeartbeats 4000000 in
theorem copy_at {g : Nat} {w : World} {D : DS} {F : Nat → Prop} (hd : IsDisk w g D F) (hlim : D.uf.length ≤ 1000000) :
    Calls Try.prog 23 #[.pointer (some ⟨g, 0, none⟩)] w fun e w' => ∃ gc, e = .returned (.pointer (some ⟨gc, 0, none⟩)) ∧ NewDisk w w' gc D.copy := by
  obtain ⟨gd, cd, vu, ps, h⟩ := hd
  have c := isMade_at h
  obtain ⟨_, c1, c2, _⟩ := box_cells h.box
  obtain ⟨av, cu, rfl⟩ := h.shape
  obtain ⟨i0, hi, hz0, hz1, hz2⟩ := info_parts info79
  have hlo := h.ok.lo
  have hhi := h.ok.hi
  have H : Hid (Lies w g D F gd cd (.slice av D.uf.length cu) ps) := h
  obtain ⟨n, hn⟩ : ∃ n, n = D.uf.length := ⟨_, rfl⟩
  rw [← hn] at c2 hlim
  have Hn : Hid _ := hn
  have ck1 := clone_at cd (D.nb * 4096) ⟨gd, 0, none⟩ D.dur w h.ok.len (by omega) (by omega) h.dur.rd
  have hglt := h.box.lt
  clear h hn
  go_enter Try.func23, Try.ntmps23
  go_wp2_with fail
  refine c.mono ?_
  rintro e w' ⟨rfl, rfl⟩
  clear c
  go_wp2_with fail
  refine ck1.mono ?_
  rintro e w1 ⟨gd1, cd1, rfl, hgd1, r1, b1⟩
  clear ck1
  go_wp2_with fail
  refine (holding_at gd1 cd1 D.nb D.dur w1 r1 H.out.ok.len hlo hhi).mono ?_
  rintro e w2 ⟨rfl, hd2, b2⟩
  have B2 := b1.trans (b2.mono b1.size)
  have z1 := b1.size
  obtain ⟨gc, hgc⟩ : ∃ gc, gc = w1.heap.size := ⟨_, rfl⟩
  rw [← hgc] at hd2 ⊢
  have hF2 : ∀ i, (i = gc ∨ i = gd1) → w.heap.size ≤ i := fun i hi => by rcases hi with rfl | rfl; omega; exact hgd1
  have c2' := (B2.cell (p := ⟨g, 2, none⟩) hglt).trans c2
  clear b1 b2 r1 hgc c1 hgd1 z1
  go_wp2_with fail
  go_loopw [20] (fun i wr => ∃ k : Nat, k ≤ n ∧ i = .int .i64 k ∧ (∃ F2 : Nat → Prop, IsDisk wr gc { DS.new D.nb D.dur with uf := D.uf.take k } F2 ∧ ∀ i, F2 i → w.heap.size ≤ i) ∧ Below w.heap.size w wr) (fun i _ => n - (intOf i).toNat)
  case atStart => exact ⟨0, Nat.zero_le _, rfl, ⟨_, hd2, hF2⟩, B2⟩
  case round =>
    obtain ⟨k, hk, rfl, ⟨F2, hdk, hFk⟩, B⟩ := hrel
    clear hd2 hF2 B2 c2'
    by_cases hlt : k < n
    · have hk' : k < D.uf.length := by rw [← Hn.out]; exact hlt
      have hkp : k < ps.length := by rw [H.out.len]; exact hk'
      obtain ⟨gv, cu', cur, hvu, hcu, hmu, hbv, hcells⟩ := H.out.writes (by omega)
      simp only [Value.slice.injEq, true_and] at hvu
      obtain ⟨rfl, rfl⟩ := hvu
      rw [← Hn.out] at hcu
      obtain ⟨a0, a1⟩ := hcells k hk' hkp
      obtain ⟨_, hdat, _, _⟩ := H.out.each k hkp hk'
      obtain ⟨hb1, hb2⟩ := H.out.ok.at k hk'
      have htk : Hid (D.uf.take (k + 1) = D.uf.take k ++ [(D.uf[k].1, D.uf[k].2)]) := List.take_succ_eq_append_getElem hk'
      have Htl : Hid ((D.uf.take k).length = k) := by show _ = _; rw [List.length_take]; omega
      have Hb1 : Hid _ := hb1
      have Hb2 : Hid _ := hb2
      generalize (ps[k]'hkp).2.1 = gk at a1 hdat
      generalize (ps[k]'hkp).2.2 = ck at a1 hdat
      generalize (D.uf[k]'hk').2 = data at hdat Hb2 htk
      generalize (D.uf[k]'hk').1 = bn at a0 Hb1 htk
      have a0' := (B.cell (p := ⟨gv, 0 + k * 2, none⟩) hbv.lt).trans a0
      have a1' := (B.cell (p := ⟨gv, 0 + k * 2 + 1, none⟩) hbv.lt).trans a1
      simp only [Nat.zero_add] at a0' a1'
      have hdat1 := hdat.same (B.block gk hdat.lt)
      obtain ⟨gd2, cd2, vu2, ps2, hl⟩ := hdk
      obtain ⟨av2, cu2, rfl⟩ := hl.shape
      dsimp only at hl
      rw [Htl.out] at hl
      have bA := (Below.refl wr.heap.size wr).alloc (Nat.le_refl _) (.cells #[.int .i64 (bn : Int), .slice (some ⟨gk, 0, none⟩) 4096 ck] 93)
      have xb := Box.new wr #[.int .i64 (bn : Int), .slice (some ⟨gk, 0, none⟩) 4096 ck] 93
      have BA := B.alloc B.size (.cells #[.int .i64 (bn : Int), .slice (some ⟨gk, 0, none⟩) 4096 ck] 93)
      have hdat2 := hdat1.same (bA.block gk hdat1.lt)
      have hl1 := hl.below bA
      have hGF0 : ¬ F2 wr.heap.size := fun h => by have := hl.flt _ h; omega
      obtain ⟨V, hV⟩ : ∃ V, V = wr.alloc (.cells #[.int .i64 (bn : Int), .slice (some ⟨gk, 0, none⟩) 4096 ck] 93) := ⟨_, rfl⟩
      obtain ⟨G, hG⟩ : ∃ G, G = wr.heap.size := ⟨_, rfl⟩
      rw [← hV] at xb BA hdat2 hl1
      rw [← hG] at xb hGF0
      have hGF : ¬ F2 G := hGF0
      clear hGF0
      have HV : Hid _ := hV
      have HG : Hid _ := hG
      clear hV hG bA hl hdat hdat1 a0 a1 hcells hb1 hb2 B
      go_upto_region 7 with fail
      rw [← HV.out, ← HG.out]
      clear HV HG a0' a1'
      refine wp_region_any (by kernel_rfl) ?_
      change wpAny _ _ _ _ _ _ _ (World.drew _)
      refine wpAny_take (i := 0) (v := ?_) rfl (by kernel_rfl) (by kernel_rfl) (by kernel_rfl) (fun _ _ _ h => h) (Or.inl ⟨by rfl, ?_⟩) ?_
      rotate_left
      · intro w
        go_simp
        with_reducible rfl
      refine wpAny_take (i := 1) (v := ?_) rfl (by kernel_rfl) (by kernel_rfl) (by kernel_rfl) (fun _ _ _ h => h) (Or.inl ⟨by rfl, ?_⟩) ?_
      rotate_left
      · intro w
        go_simp
        with_reducible rfl
      refine wpAny_take (i := 2) (v := ?_) rfl (by kernel_rfl) (by kernel_rfl) (by kernel_rfl) (fun _ _ _ h => h) (Or.inl ⟨by rfl, ?_⟩) ?_
      rotate_left
      · intro w
        go_simp
        with_reducible rfl
      refine wpAny_take (i := 3) (v := ?_) rfl (by kernel_rfl) (by kernel_rfl) (by kernel_rfl) (fun _ _ _ h => h) (Or.inl ⟨by rfl, ?_⟩) ?_
      rotate_left
      · intro w
        go_simp
        with_reducible rfl
      refine wpAny_take (i := 5) (v := ?_) rfl (by kernel_rfl) (by kernel_rfl) (by kernel_rfl) (fun _ _ _ h => h) (Or.inl ⟨by rfl, ?_⟩) ?_
      rotate_left
      · intro w
        go_simp
        with_reducible rfl
      refine wpAny_take (i := 7) (v := ?_) rfl (by kernel_rfl) (by kernel_rfl) (by kernel_rfl) (fun _ _ _ h => h) (Or.inl ⟨by rfl, ?_⟩) ?_
      rotate_left
      · intro w
        go_simp
        with_reducible rfl
      simp only [Act.put, List.setIfInBounds_toArray, List.set_cons_zero, List.set_cons_succ, List.getElem_toArray, List.getElem_cons_zero, List.getElem_cons_succ]
      refine wpAny_of_late (C := SlotsCells [(27, .pointer (some ⟨gc, 2, none⟩)), (29, .pointer (some ⟨G, 0, none⟩)), (31, .pointer (some ⟨G, 1, none⟩))] [(⟨gc, 2, none⟩, .slice av2 k cu2), (⟨G, 0, none⟩, .int .i64 (bn : Int)), (⟨G, 1, none⟩, .slice (some ⟨gk, 0, none⟩) 4096 ck)]) (late := [13, 14, 15]) _ _ _ _ ?_
      have xd : Box V.drew G #[.int .i64 (bn : Int), .slice (some ⟨gk, 0, none⟩) 4096 ck] 93 := xb
      have Bd : Below w.heap.size w V.drew := BA.drew
      have ld : Lies V.drew gc { DS.new D.nb D.dur with uf := D.uf.take k } F2 gd2 cd2 (.slice av2 k cu2) ps2 := hl1.below (Below.refl _ _).drew
      have rd : RowB V.drew gk ck data := hdat2
      obtain ⟨W, hW⟩ : ∃ W, W = V.drew := ⟨_, rfl⟩
      rw [← hW] at xd Bd ld rd ⊢
      clear hW xb BA hl1 hdat2
      obtain ⟨_, _, k2, _⟩ := box_cells ld.box
      have y0 := xd.cell 0
      have y1 := xd.cell 1
      simp only [List.getElem?_toArray, List.getElem?_cons_zero, List.getElem?_cons_succ] at y0 y1
      refine wpAnyD_take (i := 4) (v := .slice av2 k cu2) rfl (by kernel_rfl) (by kernel_rfl) (by kernel_rfl) (by kernel_rfl) (fun _ _ _ h => h) ?_ (fun fr u h => (SlotsCells.put 28 _ (by rfl)).1 h) (fun fr u h => (SlotsCells.put 28 _ (by rfl)).2 h) ?_ ?_
      · intro fr u hh
        obtain ⟨e1, e2⟩ := hh.load (s := 27) (p := ⟨gc, 2, none⟩) (v := .slice av2 k cu2) (by simp) (by simp)
        exact ⟨rfl, by simp [execOp, e1, go_sem, e2]⟩
      · refine ⟨fun p hp => ?_, fun q hq => ?_⟩
        · simp at hp
          rcases hp with rfl | rfl | rfl <;> rfl
        · simp at hq
          rcases hq with rfl | rfl | rfl
          · exact k2
          · exact y0
          · exact y1
      simp only [Act.put, List.setIfInBounds_toArray, List.set_cons_zero, List.set_cons_succ, List.getElem_toArray, List.getElem_cons_zero, List.getElem_cons_succ]
      refine wpAnyD_take (i := 6) (v := .int .i64 (bn : Int)) rfl (by kernel_rfl) (by kernel_rfl) (by kernel_rfl) (by kernel_rfl) (fun _ _ _ h => h) ?_ (fun fr u h => (SlotsCells.put 30 _ (by rfl)).1 h) (fun fr u h => (SlotsCells.put 30 _ (by rfl)).2 h) ?_ ?_
      · intro fr u hh
        obtain ⟨e1, e2⟩ := hh.load (s := 29) (p := ⟨G, 0, none⟩) (v := .int .i64 (bn : Int)) (by simp) (by simp)
        exact ⟨rfl, by simp [execOp, e1, go_sem, e2]⟩
      · refine ⟨fun p hp => ?_, fun q hq => ?_⟩
        · simp at hp
          rcases hp with rfl | rfl | rfl <;> rfl
        · simp at hq
          rcases hq with rfl | rfl | rfl
          · exact k2
          · exact y0
          · exact y1
      simp only [Act.put, List.setIfInBounds_toArray, List.set_cons_zero, List.set_cons_succ, List.getElem_toArray, List.getElem_cons_zero, List.getElem_cons_succ]
      refine wpAnyD_take (i := 8) (v := .slice (some ⟨gk, 0, none⟩) 4096 ck) rfl (by kernel_rfl) (by kernel_rfl) (by kernel_rfl) (by kernel_rfl) (fun _ _ _ h => h) ?_ (fun fr u h => (SlotsCells.put 32 _ (by rfl)).1 h) (fun fr u h => (SlotsCells.put 32 _ (by rfl)).2 h) ?_ ?_
      · intro fr u hh
        obtain ⟨e1, e2⟩ := hh.load (s := 31) (p := ⟨G, 1, none⟩) (v := .slice (some ⟨gk, 0, none⟩) 4096 ck) (by simp) (by simp)
        exact ⟨rfl, by simp [execOp, e1, go_sem, e2]⟩
      · refine ⟨fun p hp => ?_, fun q hq => ?_⟩
        · simp at hp
          rcases hp with rfl | rfl | rfl <;> rfl
        · simp at hq
          rcases hq with rfl | rfl | rfl
          · exact k2
          · exact y0
          · exact y1
      simp only [Act.put, List.setIfInBounds_toArray, List.set_cons_zero, List.set_cons_succ, List.getElem_toArray, List.getElem_cons_zero, List.getElem_cons_succ]
      have hgW : gc < W.heap.size := ld.box.lt
      have hGW : G < W.heap.size := xd.lt
      refine wpAnyD_one (i := 9) (by kernel_rfl) rfl (fun K hK => ?_)
      go_simp
      refine (clone_at ck 4096 ⟨gk, 0, none⟩ data W Hb2.out (by omega) (by omega) rd.rd).mono ?_
      rintro e w3 ⟨gn, cn, rfl, hgn, rn, b3⟩
      have k2' := (b3.cell (p := ⟨gc, 2, none⟩) hgW).trans k2
      have y0' := (b3.cell (p := ⟨G, 0, none⟩) hGW).trans y0
      have y1' := (b3.cell (p := ⟨G, 1, none⟩) hGW).trans y1
      refine hK _ _ ⟨?_, ?_⟩
      · refine .inr ⟨fun p hp => ?_, fun q hq => ?_⟩
        · simp at hp
          rcases hp with rfl | rfl | rfl <;> rfl
        · simp at hq
          rcases hq with rfl | rfl | rfl
          · exact k2'
          · exact y0'
          · exact y1'
      clear hK K
      refine wpAnyD_one (i := 10) (by kernel_rfl) rfl (fun K hK => ?_)
      go_simp
      refine hK _ _ ⟨?_, ?_⟩
      · refine .inr ⟨fun p hp => ?_, fun q hq => ?_⟩
        · simp at hp
          rcases hp with rfl | rfl | rfl <;> rfl
        · simp at hq
          rcases hq with rfl | rfl | rfl
          · exact k2'
          · exact y0'
          · exact y1'
      clear hK K
      have bA := (Below.refl w3.heap.size w3).alloc (Nat.le_refl _) (.cells #[.int .i64 (bn : Int), .slice (some ⟨gn, 0, none⟩) 4096 cn] 93)
      have x4 := Box.new w3 #[.int .i64 (bn : Int), .slice (some ⟨gn, 0, none⟩) 4096 cn] 93
      have rn4 := rn.same (bA.block gn rn.lt)
      have B4 := b3.trans (bA.mono b3.size)
      have k2f := (B4.cell (p := ⟨gc, 2, none⟩) hgW).trans k2
      have y0f := (B4.cell (p := ⟨G, 0, none⟩) hGW).trans y0
      have y1f := (B4.cell (p := ⟨G, 1, none⟩) hGW).trans y1
      refine wpAnyD_one (i := 11) (by kernel_rfl) rfl (fun K hK => ?_)
      go_simp
      refine hK _ _ ⟨?_, ?_⟩
      · refine .inr ⟨fun p hp => ?_, fun q hq => ?_⟩
        · simp at hp
          rcases hp with rfl | rfl | rfl <;> rfl
        · simp at hq
          rcases hq with rfl | rfl | rfl
          · exact k2f
          · exact y0f
          · exact y1f
      clear hK K
      obtain ⟨V4, hV⟩ : ∃ V, V = w3.alloc (.cells #[.int .i64 (bn : Int), .slice (some ⟨gn, 0, none⟩) 4096 cn] 93) := ⟨_, rfl⟩
      obtain ⟨G4, hG⟩ : ∃ G, G = w3.heap.size := ⟨_, rfl⟩
      rw [← hV] at x4 rn4 B4 k2f y0f y1f ⊢
      have hG4W : W.heap.size ≤ G4 := by rw [hG]; exact b3.size
      rw [← hG] at x4 ⊢
      clear hV hG bA k2' y0' y1' rn b3
      have l4 := ld.below B4
      have row4 : V4.ownsRow 0 93 2 (.slice av2 k cu2) k (wcs ps2) := by
        have := l4.row
        dsimp only at this
        rw [Htl.out] at this
        exact this
      refine wpAnyD_one (i := 12) (by kernel_rfl) rfl (fun K hK => ?_)
      refine step_append_where rfl (.tmp 28) (.tmp 35) 85 rfl 93 i0 (.agg #[.int .i64 0, .slice none 0 0]) 2 32 Try.underlying85 hi hz0 hz1 hz2 rfl (by decide) (.slice av2 k cu2) k (wcs ps2) rfl row4 ⟨G4, 0, none⟩ 1 1 [.int .i64 (bn : Int), .slice (some ⟨gn, 0, none⟩) 4096 cn] rfl rfl ?_ ?_ (by unfold maxLen; omega) (by omega) ?_
      · intro j u hj
        match j, hj with
        | 0, hj => simp at hj; subst hj; rw [Addr.add_lit]; exact x4.cell 0
        | 1, hj => simp at hj; subst hj; rw [Addr.add_lit]; exact x4.cell 1
      · intro u hu
        simp at hu
        rcases hu with rfl | rfl <;> rfl
      intro v5 w5 o5 g5 hw5
      have hVs : W.heap.size ≤ V4.heap.size := B4.size
      obtain ⟨F5, hl5, hF5, hu5, hbx⟩ := ld.added B4 bn gn cn data rn4 hgn Hb1.out Hb2.out (by
        show World.ownsRow _ _ _ _ _ ((D.uf.take k).length + 1) _
        rw [wcs_snoc, Htl.out]
        exact o5) g5 (fun q hq => by rcases hw5 q hq with h | h; exact .inl h; exact .inr (by omega))
      obtain ⟨av5, cu5, rfl⟩ : ∃ av cu, v5 = .slice av (k + 1) cu := by
        rcases o5.2 with ⟨_, h2⟩ | ⟨gv, cu, cur, hv, _⟩
        · omega
        · exact ⟨some ⟨gv, 0, none⟩, cu, hv⟩
      obtain ⟨_, _, k5, _⟩ := box_cells hbx
      have hxG := xd.below B4
      have hGrow : some G ≠ (Value.slice av2 k cu2).ownBlock := by
        intro e
        rcases row4.2 with ⟨h1, _⟩ | ⟨gv', cu', cur', hv', _, hgv', _, _, hcs', htk'⟩
        · simp only [Value.slice.injEq] at h1
          rw [h1.1] at e
          simp [Value.ownBlock] at e
        · exact hGF (by rw [hv'] at e; simp [Value.ownBlock] at e; exact ld.fu G (by rw [hv']; simp [Value.ownBlock, e]))
      have y0g := (World.cell?_of_block (a := ⟨G, 0, none⟩) (g5.block G hxG.lt hGrow)).trans y0f
      have y1g := (World.cell?_of_block (a := ⟨G, 1, none⟩) (g5.block G hxG.lt hGrow)).trans y1f
      refine hK _ _ ⟨?_, ?_⟩
      · refine .inr ⟨fun p hp => ?_, fun q hq => ?_⟩
        · simp at hp
          rcases hp with rfl | rfl | rfl <;> rfl
        · simp at hq
          rcases hq with rfl | rfl | rfl
          · exact k5
          · exact y0g
          · exact y1g
      clear hK K
      simp only [Act.put, List.setIfInBounds_toArray]
      refine wpAnyD_one (i := 13) (by kernel_rfl) rfl (fun K hK => ?_)
      go_simp
      refine hK _ _ ⟨.inl rfl, ?_⟩
      clear hK K
      refine wpAnyD_one (i := 14) (by kernel_rfl) rfl (fun K hK => ?_)
      go_simp
      refine hK _ _ ⟨.inl rfl, ?_⟩
      clear hK K
      have f2 := hbx.frozen 2
      refine wpAnyD_one (i := 15) (by kernel_rfl) rfl (fun K hK => ?_)
      go_simp
      refine hK _ _ ⟨.inl rfl, ?_⟩
      clear hK K
      refine wpAnyD_done (by kernel_rfl) ?_ _
      have hsz : w.heap.size ≤ W.heap.size := Bd.size
      have B6 := Bd.trans (hu5.below (B := w.heap.size) hFk hsz)
      have hd6 : IsDisk (w5.setCell ⟨gc, 2, none⟩ (.slice av5 (k + 1) cu5)) gc { DS.new D.nb D.dur with uf := D.uf.take (k + 1) } F5 := by
        rw [htk.out]
        exact ⟨_, _, _, _, hl5⟩
      generalize w5.setCell ⟨gc, 2, none⟩ (.slice av5 (k + 1) cu5) = X at hd6 B6 ⊢
      clear hl5 hu5 hbx k5 y0g y1g hxG x4 rn4 B4 k2f y0f y1f l4 row4 o5 g5 hw5 f2 xd ld rd k2 y0 y1
      go_wp2
      go_roundw
      case rel => exact ⟨k + 1, by omega, by go_num, ⟨F5, hd6, fun i hi => by rcases hF5 i hi with h | h; exact hFk i h; omega⟩, B6⟩
      case measure => simp [intOf]; omega
    · obtain rfl : k = n := by omega
      have hall : D.uf.take k = D.uf := List.take_of_length_le (by rw [← Hn.out]; exact Nat.le_refl _)
      rw [hall] at hdk
      obtain ⟨gd2, cd2, vu2, ps2, hl⟩ := hdk
      obtain ⟨_, _, _, _, p4, p5, p6, p7, p8⟩ := box_cells (H.out.below B).box
      obtain ⟨_, _, _, _, q4, q5, q6, q7, q8⟩ := box_cells hl.box
      have f4 := hl.box.frozen 4
      have f5 := hl.box.frozen 5
      have f6 := hl.box.frozen 6
      have f7 := hl.box.frozen 7
      have f8 := hl.box.frozen 8
      have b9 := ((((hl.box.store 4 (.bool D.gone)).store 5 (.bool D.arm.set)).store 6 (.int .i64 (D.arm.left : Int))).store 7 (.bool D.fail.set)).store 8 (.int .i64 (D.fail.left : Int))
      have g9 := grown_trans (grown_trans (grown_trans (grown_trans (grown_store wr gc 4 (.bool D.gone)) (grown_store _ gc 5 (.bool D.arm.set))) (grown_store _ gc 6 (.int .i64 (D.arm.left : Int)))) (grown_store _ gc 7 (.bool D.fail.set))) (grown_store _ gc 8 (.int .i64 (D.fail.left : Int)))
      have hl9 := hl.turned (D' := D.copy) g9 b9 rfl rfl H.out.ok.copy
      have hgcw := hFk gc hl.fg
      have B9 : Below w.heap.size w _ := B.grown g9 B.size (fun q e => by cases e; exact hgcw)
      clear b9 g9 hl
      go_wp2
      go_ret
      exact ⟨gc, rfl, F2, ⟨_, _, _, _, hl9⟩, hFk, B9⟩
end Go.Proofs.Ytdkaacjeogifdaa.Dk

/-
  standing, Read.
-/
namespace Go.Proofs.Ytdkaacjeogifdaa.Dk
open Go.RowKit Go.Shelf
attribute [local go_sem] Oper.semAt_some

theorem Lies.wrs {w : World} {g : Nat} {D : DS} {F : Nat → Prop} {gd cd : Nat} {vu : Value} {ps : List (Nat × Nat × Nat)} (h : Lies w g D F gd cd vu ps) (n₀ : Nat) (hn : w.heap.size ≤ n₀) : Wrs n₀ w vu ps := by
  by_cases h0 : 0 < D.uf.length
  · obtain ⟨gv, cu, cur, rfl, _, _, hbv, hc⟩ := h.writes h0
    refine .inr ⟨gv, cu, by rw [h.len], Nat.lt_of_lt_of_le hbv.lt hn, fun j hj => ?_⟩
    have hj' : j < D.uf.length := by rw [← h.len]; exact hj
    obtain ⟨a, b⟩ := hc j hj' hj
    obtain ⟨e, _⟩ := h.each j hj hj'
    exact ⟨by rw [e]; exact a, b⟩
  · obtain ⟨av, cu, rfl⟩ := h.shape
    have e : D.uf.length = 0 := by omega
    exact .inl ⟨av, cu, by rw [e], List.eq_nil_of_length_eq_zero (by rw [h.len, e])⟩

/-- the last write of block nn, met from the end -/
theorem lastOf_met {D : DS} {ps : List (Nat × Nat × Nat)} (nn : Nat) (hl : ps.length = D.uf.length) (he : ∀ k (h : k < ps.length) (h' : k < D.uf.length), ps[k].1 = D.uf[k].1) (k : Nat) (hk : k ≤ ps.length) (hno : ∀ p ∈ downs ps k, p.2.1 ≠ nn) : lastOf D.uf nn D.uf.length = lastOf D.uf nn (D.uf.length - k) := by
  induction k with
  | zero => rfl
  | succ k ih =>
    have h1 := ih (by omega) (fun p hp => hno p (by rw [downs_succ]; exact List.mem_append_left _ hp))
    rw [h1]
    obtain ⟨m, hm⟩ : ∃ m, D.uf.length - k = m + 1 := ⟨D.uf.length - k - 1, by omega⟩
    have hm' : D.uf.length - (k + 1) = m := by omega
    have hlt : m < D.uf.length := by omega
    have hltp : m < ps.length := by omega
    rw [hm, hm', lastOf_succ D.uf nn m hlt]
    have h2 := hno (comes ps k) (by rw [downs_succ]; simp)
    have e1 : comes ps k = (m, ps[m]) := by
      unfold comes
      have : ps.length - 1 - k = m := by omega
      rw [this, List.getElem?_eq_getElem hltp]
      rfl
    rw [e1] at h2
    rw [if_neg (by rw [← he m hltp hlt]; exact h2)]

set_option maxRecDepth 100000 in
set_option maxHeartbeats 2000000 in
theorem standing_at {g : Nat} {w : World} {D : DS} {F : Nat → Prop} {gd cd : Nat} {vu : Value} {ps : List (Nat × Nat × Nat)} (h : Lies w g D F gd cd vu ps) (nn : Nat) (hn : nn < D.nb) (hlim : D.uf.length ≤ 1000000) :
    Calls Try.prog 44 #[.pointer (some ⟨g, 0, none⟩), .int .i64 (nn : Int)] w fun e w' => (∃ b o cap, e = .returned (.slice (some ⟨b, o, none⟩) 4096 cap) ∧ Rd w (some ⟨b, o, none⟩) (D.stand nn)) ∧ Below w.heap.size w w' := by
  refine (callsIn_wide (n := 3)).1 ?_
  obtain ⟨_, c1, c2, _⟩ := box_cells h.box
  have hglt := h.box.lt
  obtain ⟨av, cu, rfl⟩ := h.shape
  have B0 := ((Below.refl w.heap.size w).alloc (Nat.le_refl _) (.cells #[.int .i64 (nn : Int)] 3)).alloc (by simp) (.cells #[.slice none 0 0] 26)
  have k2 := (B0.cell (p := ⟨g, 2, none⟩) hglt).trans c2
  have hstand : Hid (D.stand nn = (lastOf D.uf nn D.uf.length).getD (blk D.dur nn)) := rfl
  have hmet : Hid _ := @lastOf_met D ps nn h.len (fun k h1 h2 => (h.each k h1 h2).1)
  have hdur : Hid (Rd w (some ⟨gd, 0 + nn * 4096, none⟩) (blk D.dur nn)) := h.dur.rd.part (nn * 4096) 4096
  have hcd : D.nb * 4096 ≤ cd ∧ cd ≤ 9223372036854775807 := by
    obtain ⟨_, _, q1, q2, _⟩ := h.dur
    rw [h.ok.len] at q1
    unfold maxLen at q2
    omega
  have hhi := h.ok.hi
  generalize D.stand nn = ST at hstand ⊢
  refine callsIn_of_wp_marks Try.func44 rfl trivial ?_ rfl
  simp only [Try.ntmps44, List.size_toArray, List.length_cons, List.length_nil, Nat.reduceAdd, Nat.reduceSub, Array.replicate_succ, Array.replicate_zero, List.push_toArray, List.append_toArray, List.nil_append, List.cons_append]
  gi_wp2_with fail
  refine ⟨trivial, ?_⟩
  refine (back_in 2 _ _ _ _).mono ?_
  rintro e w' ⟨rfl, rfl⟩
  gi_wp2_with fail
  have bN := (Box.new w #[.int .i64 (nn : Int)] 3)
  have bR := Box.new (w.alloc (.cells #[.int .i64 (nn : Int)] 3)) #[.slice none 0 0] 26
  have bS := Box.new ((w.alloc (.cells #[.int .i64 (nn : Int)] 3)).alloc (.cells #[.slice none 0 0] 26)) #[.slice av D.uf.length cu] 85
  have s1 : (w.alloc (.cells #[.int .i64 (nn : Int)] 3)).heap.size = w.heap.size + 1 := by simp
  have s2 : ((w.alloc (.cells #[.int .i64 (nn : Int)] 3)).alloc (.cells #[.slice none 0 0] 26)).heap.size = w.heap.size + 2 := by simp
  rw [s1] at bR
  rw [s2] at bS
  have B1 := B0.alloc B0.size (.cells #[.slice av D.uf.length cu] 85)
  have bN2 := (bN.alloc (.cells #[.slice none 0 0] 26)).alloc (.cells #[.slice av D.uf.length cu] 85)
  have bR2 := bR.alloc (.cells #[.slice av D.uf.length cu] 85)
  obtain ⟨W0, hW0⟩ : ∃ W, W = ((w.alloc (.cells #[.int .i64 (nn : Int)] 3)).alloc (.cells #[.slice none 0 0] 26)).alloc (.cells #[.slice av D.uf.length cu] 85) := ⟨_, rfl⟩
  have s3 : W0.heap.size = w.heap.size + 3 := by rw [hW0]; simp
  have hs3 : w.heap.size + 3 ≤ W0.heap.size := by omega
  rw [← hW0] at bN2 bR2 bS B1 ⊢
  clear bN bR s1 s2 B0 hW0 k2
  have hwr := (h.wrs (w.heap.size + 3) (by omega))
  have hwr0 : Wrs (w.heap.size + 3) W0 (.slice av D.uf.length cu) ps := by
    rcases h.wrs w.heap.size (Nat.le_refl _) with q | ⟨b, cap, hv, hlt, hc⟩
    · exact .inl q
    · exact .inr ⟨b, cap, hv, by omega, fun j hj => by
        obtain ⟨q0, q1⟩ := hc j hj
        exact ⟨(B1.cell (p := ⟨b, 0 + j * 2, none⟩) hlt).trans q0, (B1.cell (p := ⟨b, 0 + j * 2 + 1, none⟩) hlt).trans q1⟩⟩
  clear hwr
  refine wpIn_rangeFunc_ownH (α := Wr) rfl (by omega) (gf := 77) (lb := #[.pointer (some ⟨w.heap.size + 2, 0, none⟩)]) rfl trivial (enters_of Try.func77 (by kernel_rfl) rfl)
    (back_stops (3 - 1) (by omega) (w.heap.size + 2) (w.heap.size + 3) _ ps (by rw [h.len]; exact hlim) W0 (by omega) hs3 (bS.cell 0) hwr0) belowK_t (belowK_b (by omega)) (Below.refl _ _) (fun _ => rfl)
    (fun pre W => ((∀ p ∈ pre, p.2.1 ≠ nn) ∧ W.cell? ⟨w.heap.size, 0, none⟩ = some (.int .i64 (nn : Int)) ∧ W.cell? ⟨w.heap.size + 1, 0, none⟩ = some (.slice none 0 0) ∧ W.frozen? ⟨w.heap.size + 1, 0, none⟩ = false ∧ w.heap.size + 3 ≤ W.heap.size) ∧ Below w.heap.size w W)
    (fun c pre W => (c = .ret ∧ ∃ ini last, pre = ini ++ [last] ∧ (∀ p ∈ ini, p.2.1 ≠ nn) ∧ last.2.1 = nn ∧ W.cell? ⟨w.heap.size + 1, 0, none⟩ = some (.slice (some ⟨last.2.2.1, 0, none⟩) 4096 last.2.2.2)) ∧ Below w.heap.size w W)
    (OwnFrom.and (Own.from (fun s A B row hs hg hr => ⟨hs.1, cell_kept hs.2.1 hg hr, cell_kept hs.2.2.1 hg hr, (frozen_kept hs.2.2.1 hg hr).trans hs.2.2.2.1, Nat.le_trans hs.2.2.2.2 hg.size⟩) _) (ownFrom_below (Nat.le_refl _) (by omega)))
    (fun c => OwnFrom.and (Own.from (fun s A B row hs hg hr => by obtain ⟨hc, ini, last, e1, e2, e3, e4⟩ := hs; exact ⟨hc, ini, last, e1, e2, e3, cell_kept e4 hg hr⟩) _) (ownFrom_below (Nat.le_refl _) (by omega)))
    ⟨⟨by simp, bN2.cell 0, bR2.cell 0, bR2.frozen 0, hs3⟩, B1⟩
    (fun x a' W => ∃ Bx, W.cell? ⟨Bx, 0, none⟩ = some (.int .i64 (x.2.1 : Int)) ∧ W.cell? ⟨Bx, 1, none⟩ = some (.slice (some ⟨x.2.2.1, 0, none⟩) 4096 x.2.2.2) ∧ a' = { tmps := #[.pointer (some ⟨g, 0, none⟩), .int .i64 (nn : Int), undef, .pointer (some ⟨w.heap.size, 0, none⟩), .pointer (some ⟨w.heap.size + 1, 0, none⟩), undef, .pointer (some ⟨Bx, 0, none⟩), .pointer (some ⟨g, 0, none⟩), .pointer (some ⟨g, 0, none⟩), .pointer (some ⟨g, 2, none⟩), .slice av D.uf.length cu, .func (.func 77) #[] #[.pointer (some ⟨w.heap.size + 2, 0, none⟩)], .int .i64 (x.1 : Int), (.agg #[.int .i64 (x.2.1 : Int), .slice (some ⟨x.2.2.1, 0, none⟩) 4096 x.2.2.2]), undef, undef, undef, undef, undef, undef, undef, undef, undef, undef, undef, undef], defers := [] })
    (fun x a' => Own.from (fun s A B row hs hg hr => by obtain ⟨Bx, e1, e2, e3⟩ := hs; exact ⟨Bx, cell_kept e1 hg hr, cell_kept e2 hg hr, e3⟩) _) ?assign ?body ?done ?stop
  case assign =>
    rintro l pre x W K ⟨⟨hp, hcn, hcr, hfr, hsz⟩, hB⟩ hK
    dsimp only [encW]
    have bAl := (Below.refl W.heap.size W).alloc (Nat.le_refl _) (.cells #[.int .i64 (x.2.1 : Int), .slice (some ⟨x.2.2.1, 0, none⟩) 4096 x.2.2.2] 93)
    gi_wp2
    refine hK _ _ ((KeepsOthers.alloc _ _).from _) ((Below.refl _ W).alloc hsz _) ⟨⟨hp, (bAl.cell (p := ⟨w.heap.size, 0, none⟩) (by show w.heap.size < _; omega)).trans hcn, (bAl.cell (p := ⟨w.heap.size + 1, 0, none⟩) (by show w.heap.size + 1 < _; omega)).trans hcr, (bAl.frozen (p := ⟨w.heap.size + 1, 0, none⟩) (by show w.heap.size + 1 < _; omega)).trans hfr, by simp; omega⟩, hB.alloc hB.size _⟩ ⟨W.heap.size, ?_, ?_, rfl⟩
    · exact (Box.new W #[.int .i64 (x.2.1 : Int), .slice (some ⟨x.2.2.1, 0, none⟩) 4096 x.2.2.2] 93).cell 0
    · exact (Box.new W #[.int .i64 (x.2.1 : Int), .slice (some ⟨x.2.2.1, 0, none⟩) 4096 x.2.2.2] 93).cell 1
  case body =>
    rintro l pre x a' W hl ⟨r, hr⟩ ⟨⟨hp, hcn, hcr, hfr, hsz⟩, hB⟩ ⟨Bx, e1, e2, rfl⟩ hlt
    by_cases hx : x.2.1 = nn
    · have hx' : ((x.2.1 : Int) == (nn : Int)) = true := by rw [hx]; simp
      gi_wp2
      exact ⟨(KeepsOthers.setCell _ _ _).from _, ⟨rfl, pre, x, rfl, hp, hx, World.cell?_setCell_same' _ _ _ (by rw [hcr]; rfl)⟩, hB.setCell (p := ⟨w.heap.size + 1, 0, none⟩) (by simp) _⟩
    · have hx' : ((x.2.1 : Int) == (nn : Int)) = false := by simp; omega
      gi_wp2
      exact ⟨KeepsFrom.refl _ _, Below.refl _ _, ⟨fun p hp' => (List.mem_append.1 hp').elim (hp p) (fun e => by simp at e; subst e; exact hx), hcn, hcr, hfr, hsz⟩, hB⟩
  case done =>
    rintro D' ys W hD rfl ⟨⟨hne, hcn, hcr, hfr, hsz⟩, hB⟩ hK
    have hST : Hid (ST = blk D.dur nn) := by
      have h1 := hmet.out ps.length (Nat.le_refl _) hne
      rw [h.len, Nat.sub_self] at h1
      show _ = _
      rw [hstand.out, h1]
      rfl
    have d1 := (hB.cell (p := ⟨g, 1, none⟩) hglt).trans c1
    gi_wp2_with fail
    refine wpIn_wide.2 ?_
    refine wp_region_any (by kernel_rfl) ?_
    change wpAny _ _ _ _ _ _ _ (World.drew _)
    refine wpAny_of_class (C := fun _ _ => True) _ _ _ _ ?_
    have d1d : W.drew.cell? ⟨g, 1, none⟩ = some (.slice (some ⟨gd, 0, none⟩) (D.nb * 4096) cd) := d1
    have hcnd : W.drew.cell? ⟨w.heap.size, 0, none⟩ = some (.int .i64 (nn : Int)) := hcn
    have hcrd : W.drew.cell? ⟨w.heap.size + 1, 0, none⟩ = some (.slice none 0 0) := hcr
    have hfrd : W.drew.frozen? ⟨w.heap.size + 1, 0, none⟩ = false := hfr
    refine wpAnyC_two (i := 0) (j := 4) (by kernel_rfl) rfl rfl (fun K hK2 => ?_) (fun K hK2 => ?_)
    · skip
      go_simp
      refine hK2 _ _ ⟨trivial, ?_⟩
      clear hK2 K
      refine wpAnyC_two (i := 1) (j := 4) (by kernel_rfl) rfl rfl (fun K hK2 => ?_) (fun K hK2 => ?_)
      · skip
        go_simp
        refine hK2 _ _ ⟨trivial, ?_⟩
        clear hK2 K
        refine wpAnyC_two (i := 2) (j := 4) (by kernel_rfl) rfl rfl (fun K hK2 => ?_) (fun K hK2 => ?_)
        · skip
          go_simp
          refine hK2 _ _ ⟨trivial, ?_⟩
          clear hK2 K
          refine wpAnyC_two (i := 3) (j := 4) (by kernel_rfl) rfl rfl (fun K hK2 => ?_) (fun K hK2 => ?_)
          · skip
            go_simp
            refine hK2 _ _ ⟨trivial, ?_⟩
            clear hK2 K
            refine wpAnyC_one (i := 4) (by kernel_rfl) rfl (fun K hK2 => ?_)
            go_simp
            refine hK2 _ _ ⟨trivial, ?_⟩
            clear hK2 K
            refine wpAnyC_one (i := 5) (by kernel_rfl) rfl (fun K hK2 => ?_)
            go_simp
            refine (part_i gd 0 (D.nb * 4096) cd nn 4096 _ _ W.drew rfl rfl (by omega) (by omega) (by omega)).mono ?_
            rintro e w' ⟨rfl, rfl⟩
            refine hK2 _ _ ⟨trivial, ?_⟩
            clear hK2 K
            refine wpAnyC_one (i := 6) (by kernel_rfl) rfl (fun K hK2 => ?_)
            go_simp
            refine hK2 _ _ ⟨trivial, ?_⟩
            clear hK2 K
            refine wpAnyC_done (by kernel_rfl) ?_ _
            obtain ⟨V, hV⟩ : ∃ V, V = (W.setCell ⟨w.heap.size + 1, 0, none⟩ (.slice (some ⟨gd, nn * 4096, none⟩) 4096 4096)).drew := ⟨_, rfl⟩
            have hK' : V.heap[D']? = some (.deferred (some [])) := by rw [hV]; exact (KeepsOthers.setCell W ⟨w.heap.size + 1, 0, none⟩ (.slice (some ⟨gd, nn * 4096, none⟩) 4096 4096)).same D' _ hK rfl
            have hcV : V.cell? ⟨w.heap.size + 1, 0, none⟩ = some (.slice (some ⟨gd, nn * 4096, none⟩) 4096 4096) := by rw [hV]; exact World.cell?_setCell_same' W _ _ (by rw [hcr]; rfl)
            have hBV : Below w.heap.size w V := by rw [hV]; exact (hB.setCell (p := ⟨w.heap.size + 1, 0, none⟩) (by simp) _).drew
            rw [← hV]
            clear hV
            have hc5 := cell_kept hcV (grownBy_putObj' _ D' (.deferred none)) (fun r e => by cases e; exact ⟨_, hK', rfl⟩)
            gi_wp2
            refine ⟨by simp, .inl ⟨_, _, rfl, run_takeDeferred hK', ?_⟩⟩
            refine ⟨.slice (some ⟨gd, nn * 4096, none⟩) 4096 4096, ?_, ⟨gd, nn * 4096, 4096, rfl, by rw [hST.out]; have := hdur.out; rw [Nat.zero_add] at this; exact this⟩, hBV.trans (belowK_b (w := w) (Nat.le_refl _) _ D' _ _ (by omega) hK' rfl rfl)⟩
            simp [results, Try.f44, go_sem, hc5]
          · skip
            go_simp
            refine hK2 _ _ ⟨trivial, ?_⟩
            clear hK2 K
            refine wpAnyC_one (i := 3) (by kernel_rfl) rfl (fun K hK2 => ?_)
            go_simp
            refine hK2 _ _ ⟨trivial, ?_⟩
            clear hK2 K
            refine wpAnyC_one (i := 5) (by kernel_rfl) rfl (fun K hK2 => ?_)
            go_simp
            refine (part_i gd 0 (D.nb * 4096) cd nn 4096 _ _ W.drew rfl rfl (by omega) (by omega) (by omega)).mono ?_
            rintro e w' ⟨rfl, rfl⟩
            refine hK2 _ _ ⟨trivial, ?_⟩
            clear hK2 K
            refine wpAnyC_one (i := 6) (by kernel_rfl) rfl (fun K hK2 => ?_)
            go_simp
            refine hK2 _ _ ⟨trivial, ?_⟩
            clear hK2 K
            refine wpAnyC_done (by kernel_rfl) ?_ _
            obtain ⟨V, hV⟩ : ∃ V, V = (W.setCell ⟨w.heap.size + 1, 0, none⟩ (.slice (some ⟨gd, nn * 4096, none⟩) 4096 4096)).drew := ⟨_, rfl⟩
            have hK' : V.heap[D']? = some (.deferred (some [])) := by rw [hV]; exact (KeepsOthers.setCell W ⟨w.heap.size + 1, 0, none⟩ (.slice (some ⟨gd, nn * 4096, none⟩) 4096 4096)).same D' _ hK rfl
            have hcV : V.cell? ⟨w.heap.size + 1, 0, none⟩ = some (.slice (some ⟨gd, nn * 4096, none⟩) 4096 4096) := by rw [hV]; exact World.cell?_setCell_same' W _ _ (by rw [hcr]; rfl)
            have hBV : Below w.heap.size w V := by rw [hV]; exact (hB.setCell (p := ⟨w.heap.size + 1, 0, none⟩) (by simp) _).drew
            rw [← hV]
            clear hV
            have hc5 := cell_kept hcV (grownBy_putObj' _ D' (.deferred none)) (fun r e => by cases e; exact ⟨_, hK', rfl⟩)
            gi_wp2
            refine ⟨by simp, .inl ⟨_, _, rfl, run_takeDeferred hK', ?_⟩⟩
            refine ⟨.slice (some ⟨gd, nn * 4096, none⟩) 4096 4096, ?_, ⟨gd, nn * 4096, 4096, rfl, by rw [hST.out]; have := hdur.out; rw [Nat.zero_add] at this; exact this⟩, hBV.trans (belowK_b (w := w) (Nat.le_refl _) _ D' _ _ (by omega) hK' rfl rfl)⟩
            simp [results, Try.f44, go_sem, hc5]
        · skip
          go_simp
          refine hK2 _ _ ⟨trivial, ?_⟩
          clear hK2 K
          refine wpAnyC_one (i := 2) (by kernel_rfl) rfl (fun K hK2 => ?_)
          go_simp
          refine hK2 _ _ ⟨trivial, ?_⟩
          clear hK2 K
          refine wpAnyC_one (i := 3) (by kernel_rfl) rfl (fun K hK2 => ?_)
          go_simp
          refine hK2 _ _ ⟨trivial, ?_⟩
          clear hK2 K
          refine wpAnyC_one (i := 5) (by kernel_rfl) rfl (fun K hK2 => ?_)
          go_simp
          refine (part_i gd 0 (D.nb * 4096) cd nn 4096 _ _ W.drew rfl rfl (by omega) (by omega) (by omega)).mono ?_
          rintro e w' ⟨rfl, rfl⟩
          refine hK2 _ _ ⟨trivial, ?_⟩
          clear hK2 K
          refine wpAnyC_one (i := 6) (by kernel_rfl) rfl (fun K hK2 => ?_)
          go_simp
          refine hK2 _ _ ⟨trivial, ?_⟩
          clear hK2 K
          refine wpAnyC_done (by kernel_rfl) ?_ _
          obtain ⟨V, hV⟩ : ∃ V, V = (W.setCell ⟨w.heap.size + 1, 0, none⟩ (.slice (some ⟨gd, nn * 4096, none⟩) 4096 4096)).drew := ⟨_, rfl⟩
          have hK' : V.heap[D']? = some (.deferred (some [])) := by rw [hV]; exact (KeepsOthers.setCell W ⟨w.heap.size + 1, 0, none⟩ (.slice (some ⟨gd, nn * 4096, none⟩) 4096 4096)).same D' _ hK rfl
          have hcV : V.cell? ⟨w.heap.size + 1, 0, none⟩ = some (.slice (some ⟨gd, nn * 4096, none⟩) 4096 4096) := by rw [hV]; exact World.cell?_setCell_same' W _ _ (by rw [hcr]; rfl)
          have hBV : Below w.heap.size w V := by rw [hV]; exact (hB.setCell (p := ⟨w.heap.size + 1, 0, none⟩) (by simp) _).drew
          rw [← hV]
          clear hV
          have hc5 := cell_kept hcV (grownBy_putObj' _ D' (.deferred none)) (fun r e => by cases e; exact ⟨_, hK', rfl⟩)
          gi_wp2
          refine ⟨by simp, .inl ⟨_, _, rfl, run_takeDeferred hK', ?_⟩⟩
          refine ⟨.slice (some ⟨gd, nn * 4096, none⟩) 4096 4096, ?_, ⟨gd, nn * 4096, 4096, rfl, by rw [hST.out]; have := hdur.out; rw [Nat.zero_add] at this; exact this⟩, hBV.trans (belowK_b (w := w) (Nat.le_refl _) _ D' _ _ (by omega) hK' rfl rfl)⟩
          simp [results, Try.f44, go_sem, hc5]
      · skip
        go_simp
        refine hK2 _ _ ⟨trivial, ?_⟩
        clear hK2 K
        refine wpAnyC_one (i := 1) (by kernel_rfl) rfl (fun K hK2 => ?_)
        go_simp
        refine hK2 _ _ ⟨trivial, ?_⟩
        clear hK2 K
        refine wpAnyC_one (i := 2) (by kernel_rfl) rfl (fun K hK2 => ?_)
        go_simp
        refine hK2 _ _ ⟨trivial, ?_⟩
        clear hK2 K
        refine wpAnyC_one (i := 3) (by kernel_rfl) rfl (fun K hK2 => ?_)
        go_simp
        refine hK2 _ _ ⟨trivial, ?_⟩
        clear hK2 K
        refine wpAnyC_one (i := 5) (by kernel_rfl) rfl (fun K hK2 => ?_)
        go_simp
        refine (part_i gd 0 (D.nb * 4096) cd nn 4096 _ _ W.drew rfl rfl (by omega) (by omega) (by omega)).mono ?_
        rintro e w' ⟨rfl, rfl⟩
        refine hK2 _ _ ⟨trivial, ?_⟩
        clear hK2 K
        refine wpAnyC_one (i := 6) (by kernel_rfl) rfl (fun K hK2 => ?_)
        go_simp
        refine hK2 _ _ ⟨trivial, ?_⟩
        clear hK2 K
        refine wpAnyC_done (by kernel_rfl) ?_ _
        obtain ⟨V, hV⟩ : ∃ V, V = (W.setCell ⟨w.heap.size + 1, 0, none⟩ (.slice (some ⟨gd, nn * 4096, none⟩) 4096 4096)).drew := ⟨_, rfl⟩
        have hK' : V.heap[D']? = some (.deferred (some [])) := by rw [hV]; exact (KeepsOthers.setCell W ⟨w.heap.size + 1, 0, none⟩ (.slice (some ⟨gd, nn * 4096, none⟩) 4096 4096)).same D' _ hK rfl
        have hcV : V.cell? ⟨w.heap.size + 1, 0, none⟩ = some (.slice (some ⟨gd, nn * 4096, none⟩) 4096 4096) := by rw [hV]; exact World.cell?_setCell_same' W _ _ (by rw [hcr]; rfl)
        have hBV : Below w.heap.size w V := by rw [hV]; exact (hB.setCell (p := ⟨w.heap.size + 1, 0, none⟩) (by simp) _).drew
        rw [← hV]
        clear hV
        have hc5 := cell_kept hcV (grownBy_putObj' _ D' (.deferred none)) (fun r e => by cases e; exact ⟨_, hK', rfl⟩)
        gi_wp2
        refine ⟨by simp, .inl ⟨_, _, rfl, run_takeDeferred hK', ?_⟩⟩
        refine ⟨.slice (some ⟨gd, nn * 4096, none⟩) 4096 4096, ?_, ⟨gd, nn * 4096, 4096, rfl, by rw [hST.out]; have := hdur.out; rw [Nat.zero_add] at this; exact this⟩, hBV.trans (belowK_b (w := w) (Nat.le_refl _) _ D' _ _ (by omega) hK' rfl rfl)⟩
        simp [results, Try.f44, go_sem, hc5]
    · skip
      go_simp
      refine hK2 _ _ ⟨trivial, ?_⟩
      clear hK2 K
      refine wpAnyC_one (i := 0) (by kernel_rfl) rfl (fun K hK2 => ?_)
      go_simp
      refine hK2 _ _ ⟨trivial, ?_⟩
      clear hK2 K
      refine wpAnyC_one (i := 1) (by kernel_rfl) rfl (fun K hK2 => ?_)
      go_simp
      refine hK2 _ _ ⟨trivial, ?_⟩
      clear hK2 K
      refine wpAnyC_one (i := 2) (by kernel_rfl) rfl (fun K hK2 => ?_)
      go_simp
      refine hK2 _ _ ⟨trivial, ?_⟩
      clear hK2 K
      refine wpAnyC_one (i := 3) (by kernel_rfl) rfl (fun K hK2 => ?_)
      go_simp
      refine hK2 _ _ ⟨trivial, ?_⟩
      clear hK2 K
      refine wpAnyC_one (i := 5) (by kernel_rfl) rfl (fun K hK2 => ?_)
      go_simp
      refine (part_i gd 0 (D.nb * 4096) cd nn 4096 _ _ W.drew rfl rfl (by omega) (by omega) (by omega)).mono ?_
      rintro e w' ⟨rfl, rfl⟩
      refine hK2 _ _ ⟨trivial, ?_⟩
      clear hK2 K
      refine wpAnyC_one (i := 6) (by kernel_rfl) rfl (fun K hK2 => ?_)
      go_simp
      refine hK2 _ _ ⟨trivial, ?_⟩
      clear hK2 K
      refine wpAnyC_done (by kernel_rfl) ?_ _
      obtain ⟨V, hV⟩ : ∃ V, V = (W.setCell ⟨w.heap.size + 1, 0, none⟩ (.slice (some ⟨gd, nn * 4096, none⟩) 4096 4096)).drew := ⟨_, rfl⟩
      have hK' : V.heap[D']? = some (.deferred (some [])) := by rw [hV]; exact (KeepsOthers.setCell W ⟨w.heap.size + 1, 0, none⟩ (.slice (some ⟨gd, nn * 4096, none⟩) 4096 4096)).same D' _ hK rfl
      have hcV : V.cell? ⟨w.heap.size + 1, 0, none⟩ = some (.slice (some ⟨gd, nn * 4096, none⟩) 4096 4096) := by rw [hV]; exact World.cell?_setCell_same' W _ _ (by rw [hcr]; rfl)
      have hBV : Below w.heap.size w V := by rw [hV]; exact (hB.setCell (p := ⟨w.heap.size + 1, 0, none⟩) (by simp) _).drew
      rw [← hV]
      clear hV
      have hc5 := cell_kept hcV (grownBy_putObj' _ D' (.deferred none)) (fun r e => by cases e; exact ⟨_, hK', rfl⟩)
      gi_wp2
      refine ⟨by simp, .inl ⟨_, _, rfl, run_takeDeferred hK', ?_⟩⟩
      refine ⟨.slice (some ⟨gd, nn * 4096, none⟩) 4096 4096, ?_, ⟨gd, nn * 4096, 4096, rfl, by rw [hST.out]; have := hdur.out; rw [Nat.zero_add] at this; exact this⟩, hBV.trans (belowK_b (w := w) (Nat.le_refl _) _ D' _ _ (by omega) hK' rfl rfl)⟩
      simp [results, Try.f44, go_sem, hc5]
  case stop =>
    rintro D' c pre W hD ⟨k, hk, rfl⟩ ⟨⟨rfl, ini, last, e1, e2, e3, hcr⟩, hB⟩ hK
    gi_wp2
    refine ⟨by simp, .inl ⟨_, _, rfl, run_takeDeferred hK, ?_⟩⟩
    have hc5 := cell_kept hcr (grownBy_putObj' _ D' (.deferred none)) (fun r e => by cases e; exact ⟨_, hK, rfl⟩)
    obtain ⟨k', rfl⟩ : ∃ k', k = k' + 1 := by
      cases k with
      | zero => simp [downs] at e1
      | succ k' => exact ⟨k', rfl⟩
    rw [downs_succ] at e1
    obtain ⟨rfl, e5⟩ := List.append_inj' e1 rfl
    obtain rfl : comes ps k' = last := by simpa using e5
    obtain ⟨m, hm⟩ : ∃ m, m = ps.length - 1 - k' := ⟨_, rfl⟩
    have hmp : m < ps.length := by omega
    have hmu : m < D.uf.length := by rw [← h.len]; exact hmp
    have hcm : comes ps k' = (m, ps[m]) := by
      unfold comes
      rw [← hm, List.getElem?_eq_getElem hmp]
      rfl
    obtain ⟨q1, q2, _⟩ := h.each m hmp hmu
    have hST : ST = D.uf[m].2 := by
      have h1 := hmet.out k' (by omega) e2
      have h2 : D.uf.length - k' = m + 1 := by rw [← h.len]; omega
      rw [h2, lastOf_succ D.uf nn m hmu, if_pos (by rw [← q1]; rw [hcm] at e3; exact e3)] at h1
      rw [hstand.out, h1]
      rfl
    rw [hcm] at hc5
    refine ⟨.slice (some ⟨ps[m].2.1, 0, none⟩) 4096 ps[m].2.2, ?_, ⟨ps[m].2.1, 0, ps[m].2.2, rfl, by rw [hST]; exact q2.rd⟩, hB.trans (belowK_b (w := w) (Nat.le_refl _) W D' _ _ (by omega) hK rfl rfl)⟩
    simp [results, Try.f44, go_sem, hc5]

theorem stand_length {D : DS} (h : D.Ok) (nn : Nat) (hn : nn < D.nb) : (D.stand nn).length = 4096 := by
  have key : ∀ k, k ≤ D.uf.length → ∀ x, lastOf D.uf nn k = some x → x.length = 4096 := by
    intro k
    induction k with
    | zero => intro _ x hx; simp [lastOf] at hx
    | succ k ih =>
      intro hk x hx
      rw [lastOf_succ D.uf nn k (by omega)] at hx
      split at hx
      · have := (h.at k (by omega)).2
        simp at hx
        rw [← hx]; exact this
      · exact ih (by omega) x hx
  unfold DS.stand
  cases e : lastOf D.uf nn D.uf.length with
  | none => exact blk_length _ _ (h.room hn)
  | some x => exact key _ (Nat.le_refl _) x e

/-- Read -/
theorem read_at {g : Nat} {w : World} {D : DS} {F : Nat → Prop} (hd : IsDisk w g D F) (nn : Nat) (hn : nn < D.nb) (hg : D.gone = false) (hlim : D.uf.length ≤ 1000000) :
    Calls Try.prog 14 #[.pointer (some ⟨g, 0, none⟩), .int .i64 (nn : Int)] w fun e w' => ∃ gr cr, e = .returned (.tuple #[.slice (some ⟨gr, 0, none⟩) 4096 cr, .int .i64 0]) ∧ w.heap.size ≤ gr ∧ RowB w' gr cr (D.stand nn) ∧ Below w.heap.size w w' := by
  obtain ⟨gd, cd, vu, ps, h⟩ := hd
  have c := isMade_at h
  have cH := has_at h (nn : Int)
  have hhas : D.has (nn : Int) = true := by simp [DS.has]; omega
  rw [hhas] at cH
  have cS := standing_at h nn hn hlim
  obtain ⟨_, _, _, _, c4, _⟩ := box_cells h.box
  rw [hg] at c4
  have Hlen : Hid _ := stand_length h.ok nn hn
  generalize D.stand nn = ST at cS Hlen ⊢
  go_enter Try.func14, Try.ntmps14
  go_wp2_with fail
  refine c.mono ?_
  rintro e w' ⟨rfl, rfl⟩
  go_wp2_with fail
  refine cH.mono ?_
  rintro e w' ⟨rfl, rfl⟩
  go_wp2_with fail
  refine cS.mono ?_
  rintro e w1 ⟨⟨b, o, cap, rfl, hr⟩, b1⟩
  clear c cH cS
  go_wp2_with fail
  refine (clone_at cap 4096 ⟨b, o, none⟩ ST w1 Hlen.out (by omega) (by omega) (hr.below b1 (Nat.le_refl _))).mono ?_
  rintro e w2 ⟨gr, cr, rfl, hgr, r2, b2⟩
  have B2 := b1.trans (b2.mono b1.size)
  have z1 := b1.size
  clear b1 b2
  go_wp2
  go_ret2
  exact ⟨gr, cr, rfl, by omega, r2, B2⟩

theorem read_bad {g : Nat} {w : World} {D : DS} {F : Nat → Prop} (hd : IsDisk w g D F) (n : Int) (hE : D.readE n ≠ 0) :
    Calls Try.prog 14 #[.pointer (some ⟨g, 0, none⟩), .int .i64 n] w fun e w' => e = .returned (.tuple #[.slice none 0 0, .int .i64 (D.readE n : Int)]) ∧ w = w' := by
  obtain ⟨gd, cd, vu, ps, h⟩ := hd
  have c := isMade_at h
  have cH := has_at h n
  obtain ⟨_, _, _, _, c4, _⟩ := box_cells h.box
  cases hh : D.has n with
  | false =>
    have e : D.readE n = 70 := by simp [DS.readE, hh]
    rw [e]
    rw [hh] at cH
    go_enter Try.func14, Try.ntmps14
    go_wp2_with fail
    refine c.mono ?_
    rintro e w' ⟨rfl, rfl⟩
    go_wp2_with fail
    refine cH.mono ?_
    rintro e w' ⟨rfl, rfl⟩
    go_wp2
    go_ret2
    exact ⟨rfl, rfl⟩
  | true =>
    cases hg : D.gone with
    | false => exact absurd (by simp [DS.readE, hh, hg]) hE
    | true =>
      have e : D.readE n = 6 := by simp [DS.readE, hh, hg]
      rw [e]
      rw [hh] at cH
      rw [hg] at c4
      go_enter Try.func14, Try.ntmps14
      go_wp2_with fail
      refine c.mono ?_
      rintro e w' ⟨rfl, rfl⟩
      go_wp2_with fail
      refine cH.mono ?_
      rintro e w' ⟨rfl, rfl⟩
      go_wp2
      go_ret2
      exact ⟨rfl, rfl⟩
end Go.Proofs.Ytdkaacjeogifdaa.Dk

/-
  Made: so many bytes, out of a number.
-/
namespace Go.Proofs.Ytdkaacjeogifdaa.Dk
open Go.RowKit

def nx (x : Int) : Int := IntKind.u64.wrap (IntKind.u64.wrap (x * 2862933555777941757) + 3037000493)
/-- the number behind k bytes -/
def seedAt (s : Int) : Nat → Int
  | 0 => nx (IntKind.u64.wrap s)
  | k + 1 => if k % 8 = 0 then nx (seedAt s k) else seedAt s k
def byteAt (s : Int) (k : Nat) : UInt8 := UInt8.ofNat (seedAt s (k + 1) / 1099511627776 % 256).toNat
def madeK (s : Int) (n : Nat) : Nat → List UInt8
  | 0 => nought n
  | k + 1 => (madeK s n k).set k (byteAt s k)
def madeL (s : Int) (n : Nat) : List UInt8 := madeK s n n
theorem madeK_length (s : Int) (n : Nat) : ∀ k, (madeK s n k).length = n
  | 0 => nought_length n
  | k + 1 => by rw [madeK, List.length_set, madeK_length s n k]
theorem byteAt_eq (s : Int) (k : Nat) : ((byteAt s k).toNat : Int) = seedAt s (k + 1) / 1099511627776 % 256 := by
  unfold byteAt
  have h1 : 0 ≤ seedAt s (k + 1) / 1099511627776 % 256 := Int.emod_nonneg _ (by decide)
  have h2 : seedAt s (k + 1) / 1099511627776 % 256 < 256 := Int.emod_lt_of_pos _ (by decide)
  rw [UInt8.toNat_ofNat']
  omega
theorem seedAt_step (s : Int) (k : Nat) (h : k % 8 = 0) : seedAt s (k + 1) = nx (seedAt s k) := by rw [seedAt, if_pos h]
theorem seedAt_same (s : Int) (k : Nat) (h : ¬ k % 8 = 0) : seedAt s (k + 1) = seedAt s k := by rw [seedAt, if_neg h]
theorem nx_range (x : Int) : 0 ≤ nx x ∧ nx x ≤ 18446744073709551615 := by unfold nx; rw [IntKind.wrap_u64]; omega
theorem seedAt_range (s : Int) : ∀ k, 0 ≤ seedAt s k ∧ seedAt s k ≤ 18446744073709551615
  | 0 => nx_range _
  | k + 1 => by rw [seedAt]; split; exact nx_range _; exact seedAt_range s k

set_option maxRecDepth 100000 in
set_option maxHeartbeats 2000000 in
theorem made_at (s : Int) (n : Nat) (w : World) (hn : n ≤ 1000000) :
    Calls Try.prog 16 #[.int .i64 s, .int .i64 (n : Int)] w fun e w' => e = .returned (.slice (some ⟨w.heap.size, 0, none⟩) n n) ∧ Own w' w.heap.size (madeL s n) ∧ Below w.heap.size w w' := by
  have hm : ∀ u : World, (Instr.makeSlice 26 (.int .i64 (n : Int)) (.int .i64 (n : Int))).run Try.prog u = .ok (.slice (some ⟨u.heap.size, 0, none⟩) n n) (u.alloc (.cells (bcs (madeK s n 0)).toArray 5)) := make_run n (by omega)
  have o0 := own_lit w (madeK s n 0)
  have B0 := (Below.refl w.heap.size w).alloc (Nat.le_refl _) (.cells (bcs (madeK s n 0)).toArray 5)
  obtain ⟨U, hU⟩ : ∃ U, U = w.alloc (.cells (bcs (madeK s n 0)).toArray 5) := ⟨_, rfl⟩
  rw [← hU] at o0 B0
  have HU : Hid _ := hU
  clear hU
  go_enter Try.func16, Try.ntmps16
  go_wp2_with fail
  rw [← HU.out]
  go_loopw [6, 7] (fun x i wr => ∃ k : Nat, k ≤ n ∧ x = .int .u64 (seedAt s k) ∧ i = .int .i64 k ∧ Own wr w.heap.size (madeK s n k) ∧ Below w.heap.size w wr) (fun _ i _ => n - (intOf i).toNat)
  case atStart => exact ⟨0, Nat.zero_le _, rfl, rfl, o0, B0⟩
  case round =>
    obtain ⟨k, hk, rfl, rfl, o, B⟩ := hrel
    clear o0 B0 hm HU
    by_cases hlt : k < n
    · have hlt2 : (k : Int) < (n : Int) := by omega
      have c0 := o.cell k (by rw [madeK_length]; exact hlt)
      have f0 := o.frozen k
      have o1 := o.store k (byteAt s k)
      have B1 := B.setCell (p := ⟨w.heap.size, k, none⟩) (Nat.le_refl _) (.int .u8 ((byteAt s k).toNat : Int))
      generalize ((madeK s n k)[k]'(by rw [madeK_length]; exact hlt)) = q at c0
      have o1' : Own _ w.heap.size (madeK s n (k + 1)) := o1
      clear o1
      rw [byteAt_eq] at o1' B1
      have r0 := seedAt_range s k
      by_cases h8 : k % 8 = 0
      · have e8 : ((k : Int) % 8 == 0) = true := by simp; omega
        rw [seedAt_step s k h8] at o1' B1
        unfold nx at o1' B1
        have Hs : Hid _ := seedAt_step s k h8
        clear h8
        go_wp2
        go_roundw
        case rel => exact ⟨k + 1, by omega, by rw [Hs.out]; rfl, by go_num, o1', B1⟩
        case measure => simp [intOf]; omega
      · have e8 : ((k : Int) % 8 == 0) = false := by simp; omega
        rw [seedAt_same s k h8] at o1' B1
        have Hs : Hid _ := seedAt_same s k h8
        clear h8
        go_wp2
        go_roundw
        case rel => exact ⟨k + 1, by omega, by rw [Hs.out], by go_num, o1', B1⟩
        case measure => simp [intOf]; omega
    · have hkn : k = n := by omega
      subst k
      go_wp2
      go_ret
      exact ⟨rfl, o, B⟩
end Go.Proofs.Ytdkaacjeogifdaa.Dk

/-
  ReplayNumbers: plain facts; Do of no disk.
-/
namespace Go.Proofs.Ytdkaacjeogifdaa.H
open Go.RowKit
open Go.Proofs.Ytdkaacjeogifdaa.Su (wi Sup supV zeroS getSuper rightS superB)
open Go.Proofs.Ytdkaacjeogifdaa.Dk (Box DS IsDisk NewDisk nought carry blk)

theorem get_nil : getSuper [] = none := by
  cases h : getSuper [] with
  | none => rfl
  | some s =>
    have := (Su.getSuper_some h).2
    have := congrArg List.length this
    rw [Su.superB_length] at this
    cases this
theorem get_nought : getSuper (nought 4096) = none := by
  cases h : getSuper (nought 4096) with
  | none => rfl
  | some s =>
    have h2 := (Su.getSuper_some h).2
    rw [Su.superB_eq] at h2
    have h3 := congrArg (fun l => l[0]?) h2
    have h4 : (nought 4096)[0]? = some 0 := by rw [nought, List.getElem?_replicate, if_pos (by decide)]
    rw [h4] at h3
    have h5 : ∀ X : List UInt8, (Su.letters ++ X)[0]? = some 76 := fun X => rfl
    rw [h5] at h3
    cases h3
theorem ch1 : choose (getSuper (sB 1 5)) (getSuper (sB 1 6)) = (⟨64, 1, 6, 0⟩, 1, true) := by rw [sB_get 1 5 (by decide), sB_get 1 6 (by decide)]; rfl
theorem ch2 : choose (getSuper (sB 1 5)) (getSuper (sB 1 5)) = (⟨64, 1, 5, 0⟩, 0, true) := by rw [sB_get 1 5 (by decide)]; rfl
theorem ch3 : choose (getSuper (nought 4096)) (getSuper (sB 1 1)) = (⟨64, 1, 1, 0⟩, 1, true) := by rw [get_nought, sB_get 1 1 (by decide)]; rfl
theorem ch4 : choose (getSuper (sB 1 1)) (getSuper []) = (⟨64, 1, 1, 0⟩, 0, true) := by rw [get_nil, sB_get 1 1 (by decide)]; rfl
theorem ch5 : choose (getSuper []) (getSuper []) = (⟨0, 0, 0, 0⟩, 0, false) := by rw [get_nil]; rfl
theorem ch6 : choose (getSuper (sB 2 1)) (getSuper (sB 1 9)) = (⟨64, 2, 1, 0⟩, 0, true) := by rw [sB_get 2 1 (by decide), sB_get 1 9 (by decide)]; rfl

theorem do_nil (v : Value) (b e q t slot : Int) (w : World) : Calls Try.prog 12 #[.pointer none, v, .agg #[.int .i64 b, .int .i64 e, .int .i64 q, .int .i64 t], .int .i64 slot] w fun r w' => r = .returned (.int .i64 1) ∧ Below w.heap.size w w' := by
  have B0 := (Below.refl w.heap.size w).alloc (Nat.le_refl _) (.cells #[.int .i64 b, .int .i64 e, .int .i64 q, .int .i64 t] 23)
  have cS : ∀ u, Calls Try.prog 37 #[.pointer none] u fun r w' => r = .returned (.int .i64 0) ∧ u = w' := fun u => by
    have c := Dk.isMade_none u
    go_enter Try.func37, Try.ntmps37
    go_wp2_with fail
    refine Calls.mono c ?_
    rintro r u1 ⟨rfl, rfl⟩
    go_wp2_with fail
    go_ret
    exact ⟨rfl, rfl⟩
  go_enter Try.func12, Try.ntmps12
  go_wp2_with fail
  refine Calls.mono (cS _) ?_
  rintro r u1 ⟨rfl, rfl⟩
  go_wp2_with fail
  go_ret
  exact ⟨rfl, B0⟩

theorem doR_none (D : DS) (L : List ImD) (slot : Int) : doR D L none slot = (D, 2) := rfl
theorem doR_slot (D : DS) (L : List ImD) (o : Option (List UInt8)) (slot : Int) (h : wi slot 0 1 = false) : doR D L o slot = (D, 2) := by
  cases o with
  | none => rfl
  | some sb => simp [doR, h]
theorem doR_fit (D : DS) (L : List ImD) (o : Option (List UInt8)) (slot : Int) (h : (L.map (·.1)).all (fits D.nb) = false) : doR D L o slot = (D, 2) := by
  cases o with
  | none => rfl
  | some sb => simp only [doR]; rw [h, Bool.and_false]; rfl
theorem sB_none : Su.putSuper 64 0 1 0 = none := by
  unfold Su.putSuper
  rw [if_neg (by decide)]
/-- the disk behind the example's Do -/
structure DoneD (D : DS) (sb m : List UInt8) : Prop where
  nb : D.nb = 64
  uf : D.uf = []
  n : D.n = 2
  up : D.gone = false
  one : D.stand 1 = sb
  thirty : D.stand 30 = m
theorem stand_nil {D : DS} (h : D.uf = []) (n : Nat) : D.stand n = blk D.dur n := by
  unfold DS.stand
  rw [h]
  rfl
theorem put12 : Su.putSuper 64 1 2 0 = some (sB 1 2) := sB_put 1 2 (by decide)
theorem doR_eq (d0 m sb : List UInt8) (a : Option Addr) (c : Nat) : doR (DS.new 64 d0) [((30, a, 4096, c), m)] (some sb) 1 = doD [(30, m)] 1 sb (DS.new 64 d0) := by
  simp [doR, wi, fits, DS.new, pl]
theorem num_do' (d0 m sb : List UInt8) (hm : m.length = 4096) (hs : sb.length = 4096) (N : Nat) (hN : N = 64 * 4096) (hL : d0.length = N) : (doD [(30, m)] 1 sb (DS.new 64 d0)).2 = 0 ∧ DoneD (doD [(30, m)] 1 sb (DS.new 64 d0)).1 sb m := by
  have hq := doD_quiet [(30, m)] 1 sb (DS.new 64 d0) (Dk.DS.new_quiet 64 d0) (fun p hp => by simp at hp; subst hp; exact ⟨rfl, hm⟩) ⟨rfl, hs⟩
  obtain ⟨h1, h2, h3, h4⟩ := hq
  obtain ⟨h5, h6⟩ := doD_ok _ _ _ _ h1
  have h6' : (doD [(30, m)] 1 sb (DS.new 64 d0)).1.dur = carry (carry d0 30 m 255) 1 sb 255 := by
    rw [h6]
    simp [DS.new]
  have hc : (carry d0 30 m 255).length = N := by rw [Dk.carry_length _ _ _ _ (by rw [hL, hN]; omega) hm, hL]
  refine ⟨h1, h3, h5, h4, h2.1, ?_, ?_⟩
  · rw [stand_nil h5, h6']
    exact Dk.blk_carry_all _ _ _ (by rw [hc, hN]; omega) hs
  · rw [stand_nil h5, h6']
    rw [Dk.blk_carry_other _ _ _ _ _ (by rw [hc, hN]; omega) hs (by omega)]
    exact Dk.blk_carry_all _ _ _ (by rw [hL, hN]; omega) hm
theorem num_do (a : Option Addr) (c N : Nat) (hN : N = 64 * 4096) (m : List UInt8) (hm : m.length = 4096) : (doR (DS.new 64 (nought N)) [((30, a, 4096, c), m)] (Su.putSuper 64 1 2 0) 1).2 = 0 ∧ DoneD (doR (DS.new 64 (nought N)) [((30, a, 4096, c), m)] (Su.putSuper 64 1 2 0) 1).1 (sB 1 2) m := by
  rw [put12, doR_eq]
  exact num_do' (nought N) m (sB 1 2) hm (sB_len 1 2) N hN (Dk.nought_length N)
theorem last_two (A B : List UInt8) (ks : List Int) (h1 : ks.Pairwise (· < ·)) (h2 : ∀ x, x ∈ ks ↔ (lastD [(18, A), (63, B)] x).isSome = true) : ks.length = 2 := by
  have e : ks = [18, 63] := rise_ext _ _ h1 (by decide) (fun x => by
    rw [h2 x]
    simp only [lastD, List.foldl_cons, List.foldl_nil]
    by_cases h30 : (18 : Int) = x
    · subst h30; simp
    · by_cases h40 : (63 : Int) = x
      · subst h40; simp
      · simp [h30, h40]
        omega)
  rw [e]
  rfl

/-- a disk of one's own in memory -/
theorem NewDisk.below {w u u' : World} {g : Nat} {D : DS} (h : NewDisk w u g D) (b : Below u.heap.size u u') : NewDisk w u' g D := by
  obtain ⟨F, h1, h2, h3⟩ := h
  exact ⟨F, h1.below b, h2, h3.trans (b.mono h3.size)⟩
/-- Do upon it, of images that were made later: u0 is the world ahead of their making -/
theorem NewDisk.does {w u0 u : World} {g : Nat} {D : DS} (h : NewDisk w u0 g D) (b : Below u0.heap.size u0 u) (a : Option Addr) (n c : Nat) (L : List ImD) (B e q t slot : Int) (hl : L.length = n) (hn : n ≤ 1000) (hlim : D.uf.length ≤ 800000 ∧ D.n ≤ 800000)
    (hc : CellsI u a (L.map (·.1))) (hd : ∀ p ∈ L, Dk.Rd u p.1.2.1 p.2 ∧ p.2.length = p.1.2.2.1 ∧ ∀ ad, p.1.2.1 = some ad → ad.block < u.heap.size ∧ u0.heap.size ≤ ad.block) (ha : ∀ ad, a = some ad → u0.heap.size ≤ ad.block) :
    Calls Try.prog 12 #[.pointer (some ⟨g, 0, none⟩), .slice a n c, .agg #[.int .i64 B, .int .i64 e, .int .i64 q, .int .i64 t], .int .i64 slot] u fun r w' => r = .returned (.int .i64 ((doR D L (Su.putSuper B e q t) slot).2 : Int)) ∧ NewDisk w w' g (doR D L (Su.putSuper B e q t) slot).1 := by
  obtain ⟨F, h1, h2, h3⟩ := h
  have hfl := h1.flt
  refine (do_at (h1.below b) a n c L B e q t slot hl hn ⟨hc, fun p hp => ?_, fun ad e => fun hf => absurd (ha ad e) (Nat.not_le.2 (hfl _ hf))⟩ hlim).mono ?_
  · obtain ⟨k1, k2, k3⟩ := hd p hp
    exact ⟨k1, k2, fun ad e => ⟨(k3 ad e).1, fun hf => absurd (k3 ad e).2 (Nat.not_le.2 (hfl _ hf))⟩⟩
  · rintro r w' ⟨rfl, ⟨F', k1, k2⟩, U⟩
    have h3' := h3.trans (b.mono h3.size)
    refine ⟨rfl, F', k1, fun i hi => ?_, ?_⟩
    · rcases k2 i hi with q | q
      · exact h2 i q
      · exact Nat.le_trans h3'.size q
    · exact h3'.trans (U.below h2 h3'.size)
theorem NewDisk.rbelow {w u : World} {g : Nat} {D : DS} (h : NewDisk w u g D) : Below w.heap.size w u := by obtain ⟨F, _, _, h3⟩ := h; exact h3
theorem NewDisk.reads {w u : World} {g : Nat} {D : DS} (h : NewDisk w u g D) (nn : Nat) (hn : nn < D.nb) (hg : D.gone = false) (hlim : D.uf.length ≤ 1000000) :
    Calls Try.prog 14 #[.pointer (some ⟨g, 0, none⟩), .int .i64 (nn : Int)] u fun e w' => ∃ gr cr, e = .returned (.tuple #[.slice (some ⟨gr, 0, none⟩) 4096 cr, .int .i64 0]) ∧ u.heap.size ≤ gr ∧ Dk.RowB w' gr cr (D.stand nn) ∧ Below u.heap.size u w' := by
  obtain ⟨F, h1, h2, h3⟩ := h
  exact Dk.read_at h1 nn hn hg hlim
theorem NewDisk.writes {w u : World} {g : Nat} {D : DS} (h : NewDisk w u g D) : Calls Try.prog 17 #[.pointer (some ⟨g, 0, none⟩)] u fun e w' => e = .returned (.int .i64 (D.n : Int)) ∧ u = w' := by
  obtain ⟨F, h1, h2, h3⟩ := h
  exact Dk.writes_at h1
theorem NewDisk.pends {w u : World} {g : Nat} {D : DS} (h : NewDisk w u g D) (hu : D.uf = []) : Calls Try.prog 18 #[.pointer (some ⟨g, 0, none⟩)] u fun e w' => ∃ a c, e = .returned (.slice a 0 c) ∧ Below u.heap.size u w' := by
  obtain ⟨F, h1, h2, h3⟩ := h
  refine (Dk.pending_at h1 (by rw [hu]; decide)).mono ?_
  rintro r w' ⟨v, rfl, ho, b⟩
  obtain ⟨a, c, rfl⟩ := Rc.owns_shape ho
  rw [hu]
  exact ⟨a, c, rfl, b⟩
end Go.Proofs.Ytdkaacjeogifdaa.H

/-
  Home of a layout that is none.
-/
namespace Go.Proofs.Ytdkaacjeogifdaa.H
open Go.RowKit
open Go.Proofs.Ytdkaacjeogifdaa.Dk (Box)

theorem home_bad (w : World) (l0 l1 l2 l3 l4 l5 l6 : Int) (v : Value) (h : ¬(64 ≤ l0 ∧ l0 ≤ 512)) :
    Calls Try.prog 8 #[.agg #[.int .i64 l0, .int .i64 l1, .int .i64 l2, .int .i64 l3, .int .i64 l4, .int .i64 l5, .int .i64 l6], v] w fun r w' => r = .returned (.tuple #[.slice none 0 0, .int .i64 2]) ∧ Below w.heap.size w w' := by
  have al := (Below.refl w.heap.size w).alloc (Nat.le_refl _) (.cells #[.int .i64 l0, .int .i64 l1, .int .i64 l2, .int .i64 l3, .int .i64 l4, .int .i64 l5, .int .i64 l6] 34)
  have x := Box.new w #[.int .i64 l0, .int .i64 l1, .int .i64 l2, .int .i64 l3, .int .i64 l4, .int .i64 l5, .int .i64 l6] 34
  have c0 := x.cell 0
  simp only [List.getElem?_toArray, List.getElem?_cons_zero] at c0
  have cO := La.of_bad l0 (w.alloc (.cells #[.int .i64 l0, .int .i64 l1, .int .i64 l2, .int .i64 l3, .int .i64 l4, .int .i64 l5, .int .i64 l6] 34)) h
  unfold La.noneA at cO
  clear h x
  go_enter Try.func8, Try.ntmps8
  go_wp2_with fail
  refine Calls.mono cO ?_
  rintro r u1 ⟨rfl, b1⟩
  have B1 := al.trans (b1.mono al.size)
  have B2 := B1.alloc B1.size (.cells #[.int .i64 0, .int .i64 0, .int .i64 0, .int .i64 0, .int .i64 0, .int .i64 0, .int .i64 0] 34)
  clear cO b1 c0 al
  go_wp2_with fail
  exact bodyPost_ret (v := .tuple #[.slice none 0 0, .int .i64 2]) (by simp [results, Try.results8, go_sem]) rfl ⟨rfl, B2⟩
end Go.Proofs.Ytdkaacjeogifdaa.H

/-
  ReplayNumbers' walk.
-/
namespace Go.Proofs.Ytdkaacjeogifdaa.H
open Go.RowKit
open Go.Proofs.Ytdkaacjeogifdaa.Rc (madeL)
open Go.Proofs.Ytdkaacjeogifdaa.Su (supV getSuper)
open Go.Proofs.Ytdkaacjeogifdaa.Dk (Box DS IsDisk NewDisk nought)

theorem bad_four (j : Nat) (h : j < 4) : ∃ v : Int, #[Value.int .i64 17, .int .i64 64, .int .i64 0, .int .i64 (-1)][j]? = some (.int .i64 v) ∧ Su.wi v 18 63 = false := by
  match j, h with
  | 0, _ => exact ⟨17, rfl, rfl⟩
  | 1, _ => exact ⟨64, rfl, rfl⟩
  | 2, _ => exact ⟨0, rfl, rfl⟩
  | 3, _ => exact ⟨-1, rfl, rfl⟩
theorem rdz {u : World} (g : Nat) (xs : List UInt8) (hg : g = u.heap.size) : Su.Rd (u.alloc (.cells (Dk.bcs xs).toArray 5)) (some ⟨g, 0, none⟩) xs := by
  subst hg
  have h : Su.Own (u.alloc (.cells (Dk.bcs xs).toArray 5)) u.heap.size xs := heap_alloc_new u _
  exact h.rd

set_option maxRecDepth 100000 in
set_option maxHeartbeats 16000000 in
theorem numbers_at (w : World) : Calls Try.prog 3 #[] w fun r w' => r = .returned (.bool true) ∧ Below w.heap.size w w' := by
  have HA : Hid (∀ u : World, Calls Try.prog 19 #[] u fun r w' => r = .returned (.bool true) ∧ Below u.heap.size u w') := awake_at
  have HLy : Hid (∀ u : World, Calls Try.prog 9 #[] u fun r w' => r = .returned (.agg #[.int .i64 64, .int .i64 2, .int .i64 16, .int .i64 18, .int .i64 19, .int .i64 4, .int .i64 23]) ∧ Below u.heap.size u w') := fun u => layout64_at u
  have HB15 : Hid (∀ u : World, Calls Try.prog 7 #[.int .i64 1, .int .i64 5] u fun r w' => ∃ g c, r = .returned (.slice (some ⟨g, 0, none⟩) 4096 c) ∧ u.heap.size ≤ g ∧ g < w'.heap.size ∧ 4096 ≤ c ∧ c ≤ 9223372036854775807 ∧ Su.Rd w' (some ⟨g, 0, none⟩) (sB 1 5) ∧ Below u.heap.size u w') := fun u => bytes_good 1 5 u (by decide)
  have L15 : Hid ((sB 1 5).length = 4096) := sB_len 1 5
  have HB16 : Hid (∀ u : World, Calls Try.prog 7 #[.int .i64 1, .int .i64 6] u fun r w' => ∃ g c, r = .returned (.slice (some ⟨g, 0, none⟩) 4096 c) ∧ u.heap.size ≤ g ∧ g < w'.heap.size ∧ 4096 ≤ c ∧ c ≤ 9223372036854775807 ∧ Su.Rd w' (some ⟨g, 0, none⟩) (sB 1 6) ∧ Below u.heap.size u w') := fun u => bytes_good 1 6 u (by decide)
  have L16 : Hid ((sB 1 6).length = 4096) := sB_len 1 6
  have HB11 : Hid (∀ u : World, Calls Try.prog 7 #[.int .i64 1, .int .i64 1] u fun r w' => ∃ g c, r = .returned (.slice (some ⟨g, 0, none⟩) 4096 c) ∧ u.heap.size ≤ g ∧ g < w'.heap.size ∧ 4096 ≤ c ∧ c ≤ 9223372036854775807 ∧ Su.Rd w' (some ⟨g, 0, none⟩) (sB 1 1) ∧ Below u.heap.size u w') := fun u => bytes_good 1 1 u (by decide)
  have L11 : Hid ((sB 1 1).length = 4096) := sB_len 1 1
  have HB21 : Hid (∀ u : World, Calls Try.prog 7 #[.int .i64 2, .int .i64 1] u fun r w' => ∃ g c, r = .returned (.slice (some ⟨g, 0, none⟩) 4096 c) ∧ u.heap.size ≤ g ∧ g < w'.heap.size ∧ 4096 ≤ c ∧ c ≤ 9223372036854775807 ∧ Su.Rd w' (some ⟨g, 0, none⟩) (sB 2 1) ∧ Below u.heap.size u w') := fun u => bytes_good 2 1 u (by decide)
  have L21 : Hid ((sB 2 1).length = 4096) := sB_len 2 1
  have HB19 : Hid (∀ u : World, Calls Try.prog 7 #[.int .i64 1, .int .i64 9] u fun r w' => ∃ g c, r = .returned (.slice (some ⟨g, 0, none⟩) 4096 c) ∧ u.heap.size ≤ g ∧ g < w'.heap.size ∧ 4096 ≤ c ∧ c ≤ 9223372036854775807 ∧ Su.Rd w' (some ⟨g, 0, none⟩) (sB 1 9) ∧ Below u.heap.size u w') := fun u => bytes_good 1 9 u (by decide)
  have L19 : Hid ((sB 1 9).length = 4096) := sB_len 1 9
  have HB12 : Hid (∀ u : World, Calls Try.prog 7 #[.int .i64 1, .int .i64 2] u fun r w' => ∃ g c, r = .returned (.slice (some ⟨g, 0, none⟩) 4096 c) ∧ u.heap.size ≤ g ∧ g < w'.heap.size ∧ 4096 ≤ c ∧ c ≤ 9223372036854775807 ∧ Su.Rd w' (some ⟨g, 0, none⟩) (sB 1 2) ∧ Below u.heap.size u w') := fun u => bytes_good 1 2 u (by decide)
  have L12 : Hid ((sB 1 2).length = 4096) := sB_len 1 2
  have H1 : Hid (choose (getSuper (sB 1 5)) (getSuper (sB 1 6)) = (⟨64, 1, 6, 0⟩, 1, true)) := ch1
  have H2 : Hid (choose (getSuper (sB 1 5)) (getSuper (sB 1 5)) = (⟨64, 1, 5, 0⟩, 0, true)) := ch2
  have H3 : Hid (choose (getSuper (nought 4096)) (getSuper (sB 1 1)) = (⟨64, 1, 1, 0⟩, 1, true)) := ch3
  have H4 : Hid (choose (getSuper (sB 1 1)) (getSuper []) = (⟨64, 1, 1, 0⟩, 0, true)) := ch4
  have H5 : Hid (choose (getSuper []) (getSuper []) = (⟨0, 0, 0, 0⟩, 0, false)) := ch5
  have H6 : Hid (choose (getSuper (sB 2 1)) (getSuper (sB 1 9)) = (⟨64, 2, 1, 0⟩, 0, true)) := ch6
  have hmk : ∀ u, (Instr.makeSlice 26 (.int .i64 4096) (.int .i64 4096)).run Try.prog u = .ok (.slice (some ⟨u.heap.size, 0, none⟩) 4096 4096) (u.alloc (.cells (Dk.bcs (nought 4096)).toArray 5)) := fun u => Dk.make_run 4096 (by decide) u
  have HZ : Hid (∀ (u : World) (g : Nat), g = u.heap.size → Su.Rd (u.alloc (.cells (Dk.bcs (nought 4096)).toArray 5)) (some ⟨g, 0, none⟩) (nought 4096)) := fun u g h => rdz g _ h
  have lz : Hid ((nought 4096).length = 4096) := Dk.nought_length 4096
  obtain ⟨N, hN⟩ : ∃ N : Nat, N = 64 * 4096 := ⟨_, rfl⟩
  have HNew : Hid (∀ u : World, Calls Try.prog 11 #[.int .i64 64] u fun e w' => ∃ g, e = .returned (.tuple #[.pointer (some ⟨g, 0, none⟩), .int .i64 0]) ∧ NewDisk u w' g (DS.new 64 (nought N))) := fun u => by
    rw [hN]
    exact Dk.new_at 64 u (by decide) (by decide)
  have HNd : Hid (∀ (a : Option Addr) (c : Nat) (m : List UInt8), m.length = 4096 → (doR (DS.new 64 (nought N)) [((30, a, 4096, c), m)] (Su.putSuper 64 1 2 0) 1).2 = 0 ∧ DoneD (doR (DS.new 64 (nought N)) [((30, a, 4096, c), m)] (Su.putSuper 64 1 2 0) 1).1 (sB 1 2) m) := fun a c m hm => num_do a c N hN m hm
  have hD0 : Hid ((DS.new 64 (nought N)).uf.length ≤ 800000 ∧ (DS.new 64 (nought N)).n ≤ 800000) := ⟨by simp [DS.new], by simp [DS.new]⟩
  clear hN
  generalize DS.new 64 (nought N) = D0 at HNew HNd hD0
  generalize nought 4096 = zs at HZ hmk H3 lz
  generalize (Dk.bcs zs).toArray = zc at HZ hmk
  generalize sB 1 5 = s15 at HB15 L15 H1 H2
  generalize sB 1 6 = s16 at HB16 L16 H1
  generalize sB 1 1 = s11 at HB11 L11 H3 H4
  generalize sB 2 1 = s21 at HB21 L21 H6
  generalize sB 1 9 = s19 at HB19 L19 H6
  generalize sB 1 2 = s12 at HB12 L12 HNd
  have M1 : ∀ (n : Int) (u : World), Calls Try.prog 10 #[.int .i64 n, .int .i64 1] u fun r w' => ∃ g, r = .returned (.agg #[.int .i64 n, .slice (some ⟨g, 0, none⟩) 4096 4096]) ∧ u.heap.size ≤ g ∧ Rc.Own w' g (madeL 1 4096) ∧ Below u.heap.size u w' := fun n u => made_at n 1 u
  have l1 : Hid ((madeL 1 4096).length = 4096) := madeL_len 1
  have M2 : ∀ (n : Int) (u : World), Calls Try.prog 10 #[.int .i64 n, .int .i64 2] u fun r w' => ∃ g, r = .returned (.agg #[.int .i64 n, .slice (some ⟨g, 0, none⟩) 4096 4096]) ∧ u.heap.size ≤ g ∧ Rc.Own w' g (madeL 2 4096) ∧ Below u.heap.size u w' := fun n u => made_at n 2 u
  have l2 : Hid ((madeL 2 4096).length = 4096) := madeL_len 2
  have Md : ∀ u : World, Calls Try.prog 16 #[.int .i64 2, .int .i64 4096] u fun e w' => e = .returned (.slice (some ⟨u.heap.size, 0, none⟩) 4096 4096) ∧ Rc.Own w' u.heap.size (madeL 2 4096) ∧ Below u.heap.size u w' := fun u => Rc.made_at 2 4096 u (by decide)
  generalize madeL 1 4096 = m1 at M1 l1
  generalize madeL 2 4096 = m2 at M2 l2 Md
  have HM1 : Hid (∀ (n : Int) (u : World), Calls Try.prog 10 #[.int .i64 n, .int .i64 1] u fun r w' => ∃ g, r = .returned (.agg #[.int .i64 n, .slice (some ⟨g, 0, none⟩) 4096 4096]) ∧ u.heap.size ≤ g ∧ Rc.Own w' g m1 ∧ Below u.heap.size u w') := M1
  have HM2 : Hid (∀ (n : Int) (u : World), Calls Try.prog 10 #[.int .i64 n, .int .i64 2] u fun r w' => ∃ g, r = .returned (.agg #[.int .i64 n, .slice (some ⟨g, 0, none⟩) 4096 4096]) ∧ u.heap.size ≤ g ∧ Rc.Own w' g m2 ∧ Below u.heap.size u w') := M2
  have HMd : Hid (∀ u : World, Calls Try.prog 16 #[.int .i64 2, .int .i64 4096] u fun e w' => e = .returned (.slice (some ⟨u.heap.size, 0, none⟩) 4096 4096) ∧ Rc.Own w' u.heap.size m2 ∧ Below u.heap.size u w') := Md
  clear M1 M2 Md
  have hE : ∀ u, (binOp .eql 23 (.agg #[.int .i64 0, .int .i64 0, .int .i64 0, .int .i64 0]) (.agg #[.int .i64 0, .int .i64 0, .int .i64 0, .int .i64 0])).run Try.prog u = .ok (.bool true) u := fun u => eqlS u 0 0 0 0 0 0 0 0
  go_enter Try.func3, Try.ntmps3
  have B0 := Below.refl w.heap.size w
  go_wp2_with fail
  refine Calls.mono (HB15.out _) ?_
  rintro r ua1 ⟨ga, ca, rfl, _, _, hca, hca2, ra, ba⟩
  have Ba1 := B0.trans (ba.mono B0.size)
  go_wp2_with fail
  refine Calls.mono (HB16.out _) ?_
  rintro r ub1 ⟨gb, cb, rfl, _, _, hcb, hcb2, rb, bb⟩
  have Bb1 := Ba1.trans (bb.mono Ba1.size)
  have cC := choose_at 4096 ca 4096 cb (some ⟨ga, 0, none⟩) (some ⟨gb, 0, none⟩) s15 s16 ub1 L15.out hca hca2 (ra.below bb (Nat.le_refl _)) L16.out hcb hcb2 rb
  rw [H1.out] at cC
  unfold supV at cC
  dsimp only at cC
  go_wp2_with fail
  refine Calls.mono cC ?_
  rintro r u1 ⟨rfl, bc⟩
  have Bc1 := Bb1.trans (bc.mono Bb1.size)
  have B1 := Bc1.alloc Bc1.size (.cells #[.int .i64 64, .int .i64 1, .int .i64 6, .int .i64 0] 23)
  clear cC bc Bc1 B0 hca hca2 ra ba Ba1 hcb hcb2 rb bb Bb1
  go_wp2_with fail
  refine Calls.mono (HB15.out _) ?_
  rintro r ua2 ⟨ga, ca, rfl, _, _, hca, hca2, ra, ba⟩
  have Ba2 := B1.trans (ba.mono B1.size)
  go_wp2_with fail
  refine Calls.mono (HB15.out _) ?_
  rintro r ub2 ⟨gb, cb, rfl, _, _, hcb, hcb2, rb, bb⟩
  have Bb2 := Ba2.trans (bb.mono Ba2.size)
  have cC := choose_at 4096 ca 4096 cb (some ⟨ga, 0, none⟩) (some ⟨gb, 0, none⟩) s15 s15 ub2 L15.out hca hca2 (ra.below bb (Nat.le_refl _)) L15.out hcb hcb2 rb
  rw [H2.out] at cC
  unfold supV at cC
  dsimp only at cC
  go_wp2_with fail
  refine Calls.mono cC ?_
  rintro r u2 ⟨rfl, bc⟩
  have Bc2 := Bb2.trans (bc.mono Bb2.size)
  have B2 := Bc2.alloc Bc2.size (.cells #[.int .i64 64, .int .i64 1, .int .i64 5, .int .i64 0] 23)
  clear cC bc Bc2 B1 hca hca2 ra ba Ba2 hcb hcb2 rb bb Bb2
  obtain ⟨U, hU⟩ : ∃ U, U = u2.alloc (.cells #[.int .i64 64, .int .i64 1, .int .i64 5, .int .i64 0] 23) := ⟨_, rfl⟩
  rw [← hU] at B2
  have HU : Hid (U = u2.alloc (.cells #[.int .i64 64, .int .i64 1, .int .i64 5, .int .i64 0] 23)) := hU
  clear hU
  go_upto_region 3 with fail
  rw [← HU.out]
  clear HU
  go_cut [7, 8, 9] from 51 (fun _ v8 v9 u => v8 = .int .i64 1 ∧ v9 = .bool true ∧ Below w.heap.size w u)
  case first =>
    as_aux_lemma =>

    have HZ1 : Hid (∀ (u v : World), Below (u.alloc (.cells zc 5)).drew.heap.size (u.alloc (.cells zc 5)).drew v → Su.Rd v (some ⟨u.heap.size, 0, none⟩) zs) := fun u v h => Su.Rd.below (w := (u.alloc (.cells zc 5)).drew) (HZ.out u _ rfl) h (Nat.le_refl _)
    have HA1 : Hid (∀ (u v : World), Below (u.alloc (.cells #[.int .i64 0, .int .i64 0, .int .i64 0, .int .i64 0] 23)).drew.heap.size (u.alloc (.cells #[.int .i64 0, .int .i64 0, .int .i64 0, .int .i64 0] 23)).drew v → Box v u.heap.size #[.int .i64 0, .int .i64 0, .int .i64 0, .int .i64 0] 23) := fun u v h => Box.below (w := (u.alloc (.cells #[.int .i64 0, .int .i64 0, .int .i64 0, .int .i64 0] 23)).drew) (Box.new u #[.int .i64 0, .int .i64 0, .int .i64 0, .int .i64 0] 23) h
    have HZA : Hid (∀ (u v : World), Below ((u.alloc (.cells zc 5)).alloc (.cells #[.int .i64 0, .int .i64 0, .int .i64 0, .int .i64 0] 23)).drew.heap.size ((u.alloc (.cells zc 5)).alloc (.cells #[.int .i64 0, .int .i64 0, .int .i64 0, .int .i64 0] 23)).drew v → Su.Rd v (some ⟨u.heap.size, 0, none⟩) zs ∧ Box v (u.heap.size + 1) #[.int .i64 0, .int .i64 0, .int .i64 0, .int .i64 0] 23) := fun u v h => ⟨Su.Rd.below (w := ((u.alloc (.cells zc 5)).alloc (.cells #[.int .i64 0, .int .i64 0, .int .i64 0, .int .i64 0] 23)).drew) (Su.Rd.below (HZ.out u _ rfl) ((Below.refl _ (u.alloc (.cells zc 5))).alloc (Nat.le_refl _) (.cells #[.int .i64 0, .int .i64 0, .int .i64 0, .int .i64 0] 23)).drew (Nat.le_refl _)) h (Nat.le_refl _), by
      have x := Box.below (w := ((u.alloc (.cells zc 5)).alloc (.cells #[.int .i64 0, .int .i64 0, .int .i64 0, .int .i64 0] 23)).drew) (Box.new (u.alloc (.cells zc 5)) #[.int .i64 0, .int .i64 0, .int .i64 0, .int .i64 0] 23) h
      rw [show (u.alloc (.cells zc 5)).heap.size = u.heap.size + 1 by simp] at x
      exact x⟩
    have HAZ : Hid (∀ (u v : World), Below ((u.alloc (.cells #[.int .i64 0, .int .i64 0, .int .i64 0, .int .i64 0] 23)).alloc (.cells zc 5)).drew.heap.size ((u.alloc (.cells #[.int .i64 0, .int .i64 0, .int .i64 0, .int .i64 0] 23)).alloc (.cells zc 5)).drew v → Su.Rd v (some ⟨u.heap.size + 1, 0, none⟩) zs ∧ Box v u.heap.size #[.int .i64 0, .int .i64 0, .int .i64 0, .int .i64 0] 23) := fun u v h => ⟨Su.Rd.below (w := ((u.alloc (.cells #[.int .i64 0, .int .i64 0, .int .i64 0, .int .i64 0] 23)).alloc (.cells zc 5)).drew) (HZ.out (u.alloc (.cells #[.int .i64 0, .int .i64 0, .int .i64 0, .int .i64 0] 23)) _ (by simp)) h (Nat.le_refl _), Box.below (w := ((u.alloc (.cells #[.int .i64 0, .int .i64 0, .int .i64 0, .int .i64 0] 23)).alloc (.cells zc 5)).drew) ((Box.new u #[.int .i64 0, .int .i64 0, .int .i64 0, .int .i64 0] 23).alloc (.cells zc 5)) h⟩
    go_region_with (first
      | (go_at_call 7; refine Calls.mono (HB11.out _) ?_; rintro e u7 ⟨gb, cb, rfl, _, _, hcb, hcb2, r7, b7⟩; have R7 : Hid (∀ v, Below u7.heap.size u7 v → Su.Rd v (some ⟨gb, 0, none⟩) s11) := fun v hv => r7.below hv (Nat.le_refl _); first | (have BX : Below w.heap.size w u7 := (by with_reducible exact ((B2.alloc B2.size (.cells zc 5)).alloc (B2.alloc B2.size (.cells zc 5)).size (.cells #[.int .i64 0, .int .i64 0, .int .i64 0, .int .i64 0] 23)).drew.trans (b7.mono ((B2.alloc B2.size (.cells zc 5)).alloc (B2.alloc B2.size (.cells zc 5)).size (.cells #[.int .i64 0, .int .i64 0, .int .i64 0, .int .i64 0] 23)).drew.size)); have rz := HZA.out U u7 (by with_reducible exact b7); have Rz : Hid (∀ v, Below u7.heap.size u7 v → Su.Rd v (some ⟨U.heap.size, 0, none⟩) zs) := fun v hv => rz.1.below hv (Nat.le_refl _); have Bx : Hid (∀ v, Below u7.heap.size u7 v → Box v (U.heap.size + 1) #[.int .i64 0, .int .i64 0, .int .i64 0, .int .i64 0] 23) := fun v hv => rz.2.below hv; clear rz; have B7 : Hid (Below w.heap.size w u7) := BX; clear BX r7 b7) | (have BX : Below w.heap.size w u7 := (by with_reducible exact ((B2.alloc B2.size (.cells #[.int .i64 0, .int .i64 0, .int .i64 0, .int .i64 0] 23)).alloc (B2.alloc B2.size (.cells #[.int .i64 0, .int .i64 0, .int .i64 0, .int .i64 0] 23)).size (.cells zc 5)).drew.trans (b7.mono ((B2.alloc B2.size (.cells #[.int .i64 0, .int .i64 0, .int .i64 0, .int .i64 0] 23)).alloc (B2.alloc B2.size (.cells #[.int .i64 0, .int .i64 0, .int .i64 0, .int .i64 0] 23)).size (.cells zc 5)).drew.size)); have rz := HAZ.out U u7 (by with_reducible exact b7); have Rz : Hid (∀ v, Below u7.heap.size u7 v → Su.Rd v (some ⟨U.heap.size + 1, 0, none⟩) zs) := fun v hv => rz.1.below hv (Nat.le_refl _); have Bx : Hid (∀ v, Below u7.heap.size u7 v → Box v U.heap.size #[.int .i64 0, .int .i64 0, .int .i64 0, .int .i64 0] 23) := fun v hv => rz.2.below hv; clear rz; have B7 : Hid (Below w.heap.size w u7) := BX; clear BX r7 b7) | (have BX : Below w.heap.size w u7 := (by with_reducible exact (B2.alloc B2.size (.cells zc 5)).drew.trans (b7.mono (B2.alloc B2.size (.cells zc 5)).drew.size)); have rz := HZ1.out U u7 (by with_reducible exact b7); have Rz : Hid (∀ v, Below u7.heap.size u7 v → Su.Rd v (some ⟨U.heap.size, 0, none⟩) zs) := fun v hv => rz.below hv (Nat.le_refl _); clear rz; have B7 : Hid (Below w.heap.size w u7) := BX; clear BX r7 b7) | (have BX : Below w.heap.size w u7 := (by with_reducible exact (B2.alloc B2.size (.cells #[.int .i64 0, .int .i64 0, .int .i64 0, .int .i64 0] 23)).drew.trans (b7.mono (B2.alloc B2.size (.cells #[.int .i64 0, .int .i64 0, .int .i64 0, .int .i64 0] 23)).drew.size)); have bx := HA1.out U u7 (by with_reducible exact b7); have Bx : Hid (∀ v, Below u7.heap.size u7 v → Box v U.heap.size #[.int .i64 0, .int .i64 0, .int .i64 0, .int .i64 0] 23) := fun v hv => bx.below hv; clear bx; have B7 : Hid (Below w.heap.size w u7) := BX; clear BX r7 b7) | (have BX : Below w.heap.size w u7 := (by with_reducible exact B2.drew.trans (b7.mono B2.drew.size)); have B7 : Hid (Below w.heap.size w u7) := BX; clear BX r7 b7))
      | (go_at_call_of 6 (Value.slice (some ⟨U.heap.size, 0, none⟩) 4096 4096); have cC := choose_at 4096 4096 4096 cb (some ⟨U.heap.size, 0, none⟩) (some ⟨gb, 0, none⟩) zs s11 u7 lz.out (Nat.le_refl _) (by decide) (Rz.out _ (Below.refl _ u7)) L11.out hcb hcb2 (R7.out _ (Below.refl _ u7)); rw [H3.out] at cC; unfold supV at cC; dsimp only at cC; (with_reducible refine Calls.mono cC ?_); rintro e u6 ⟨rfl, b6⟩; have BY : Below w.heap.size w u7 := B7.out.trans (Below.mono (Below.refl _ u7) B7.out.size); have B6 : Hid (Below w.heap.size w u6) := BY.trans (b6.mono BY.size); have hgA : w.heap.size ≤ U.heap.size + 1 := (by have := B2.size; have := B7.out.size; omega); have x6 := Box.below (Bx.out _ (Below.refl _ u7)) b6; have f0 := x6.frozen 0; have f1 := x6.frozen 1; have f2 := x6.frozen 2; have f3 := x6.frozen 3; have n0 := x6.cell 0; have n1 := x6.cell 1; have n2 := x6.cell 2; have n3 := x6.cell 3; simp only [List.getElem?_toArray, List.getElem?_cons_zero, List.getElem?_cons_succ] at n0 n1 n2 n3; clear x6; clear cC b6 BY)
      | (go_at_call_of 6 (Value.slice (some ⟨u7.heap.size, 0, none⟩) 4096 4096); have cC := choose_at 4096 4096 4096 cb (some ⟨u7.heap.size, 0, none⟩) (some ⟨gb, 0, none⟩) zs s11 (u7.alloc (.cells zc 5)) lz.out (Nat.le_refl _) (by decide) (HZ.out u7 _ rfl) L11.out hcb hcb2 (R7.out _ ((Below.refl _ u7).alloc (Nat.le_refl _) (.cells zc 5))); rw [H3.out] at cC; unfold supV at cC; dsimp only at cC; (with_reducible refine Calls.mono cC ?_); rintro e u6 ⟨rfl, b6⟩; have BY : Below w.heap.size w (u7.alloc (.cells zc 5)) := B7.out.trans (Below.mono ((Below.refl _ u7).alloc (Nat.le_refl _) (.cells zc 5)) B7.out.size); have B6 : Hid (Below w.heap.size w u6) := BY.trans (b6.mono BY.size); have hgA : w.heap.size ≤ U.heap.size := (by have := B2.size; have := B7.out.size; omega); have x6 := Box.below (Bx.out _ ((Below.refl _ u7).alloc (Nat.le_refl _) (.cells zc 5))) b6; have f0 := x6.frozen 0; have f1 := x6.frozen 1; have f2 := x6.frozen 2; have f3 := x6.frozen 3; have n0 := x6.cell 0; have n1 := x6.cell 1; have n2 := x6.cell 2; have n3 := x6.cell 3; simp only [List.getElem?_toArray, List.getElem?_cons_zero, List.getElem?_cons_succ] at n0 n1 n2 n3; clear x6; clear cC b6 BY)
      | (go_at_call_of 6 (Value.slice (some ⟨U.heap.size, 0, none⟩) 4096 4096); have cC := choose_at 4096 4096 4096 cb (some ⟨U.heap.size, 0, none⟩) (some ⟨gb, 0, none⟩) zs s11 (u7.alloc (.cells #[.int .i64 0, .int .i64 0, .int .i64 0, .int .i64 0] 23)) lz.out (Nat.le_refl _) (by decide) (Rz.out _ ((Below.refl _ u7).alloc (Nat.le_refl _) (.cells #[.int .i64 0, .int .i64 0, .int .i64 0, .int .i64 0] 23))) L11.out hcb hcb2 (R7.out _ ((Below.refl _ u7).alloc (Nat.le_refl _) (.cells #[.int .i64 0, .int .i64 0, .int .i64 0, .int .i64 0] 23))); rw [H3.out] at cC; unfold supV at cC; dsimp only at cC; (with_reducible refine Calls.mono cC ?_); rintro e u6 ⟨rfl, b6⟩; have BY : Below w.heap.size w (u7.alloc (.cells #[.int .i64 0, .int .i64 0, .int .i64 0, .int .i64 0] 23)) := B7.out.trans (Below.mono ((Below.refl _ u7).alloc (Nat.le_refl _) (.cells #[.int .i64 0, .int .i64 0, .int .i64 0, .int .i64 0] 23)) B7.out.size); have B6 : Hid (Below w.heap.size w u6) := BY.trans (b6.mono BY.size); have hgA : w.heap.size ≤ u7.heap.size := (by have := B2.size; have := B7.out.size; omega); have x6 := Box.below (Box.new u7 #[.int .i64 0, .int .i64 0, .int .i64 0, .int .i64 0] 23) b6; have f0 := x6.frozen 0; have f1 := x6.frozen 1; have f2 := x6.frozen 2; have f3 := x6.frozen 3; have n0 := x6.cell 0; have n1 := x6.cell 1; have n2 := x6.cell 2; have n3 := x6.cell 3; simp only [List.getElem?_toArray, List.getElem?_cons_zero, List.getElem?_cons_succ] at n0 n1 n2 n3; clear x6; clear cC b6 BY)
      | (go_at_call_of 6 (Value.slice (some ⟨U.heap.size, 0, none⟩) 4096 4096); have cC := choose_at 4096 4096 4096 cb (some ⟨U.heap.size, 0, none⟩) (some ⟨gb, 0, none⟩) zs s11 u7 lz.out (Nat.le_refl _) (by decide) (Rz.out _ (Below.refl _ u7)) L11.out hcb hcb2 (R7.out _ (Below.refl _ u7)); rw [H3.out] at cC; unfold supV at cC; dsimp only at cC; (with_reducible refine Calls.mono cC ?_); rintro e u6 ⟨rfl, b6⟩; have BY : Below w.heap.size w u7 := B7.out.trans (Below.mono (Below.refl _ u7) B7.out.size); have B6 : Hid (Below w.heap.size w u6) := BY.trans (b6.mono BY.size); clear cC b6 BY)
      | (go_at_call_of 6 (Value.slice (some ⟨u7.heap.size, 0, none⟩) 4096 4096); have cC := choose_at 4096 4096 4096 cb (some ⟨u7.heap.size, 0, none⟩) (some ⟨gb, 0, none⟩) zs s11 ((u7.alloc (.cells zc 5)).alloc (.cells #[.int .i64 0, .int .i64 0, .int .i64 0, .int .i64 0] 23)) lz.out (Nat.le_refl _) (by decide) (Su.Rd.below (HZ.out u7 _ rfl) ((Below.refl _ (u7.alloc (.cells zc 5))).alloc (Nat.le_refl _) (.cells #[.int .i64 0, .int .i64 0, .int .i64 0, .int .i64 0] 23)) (Nat.le_refl _)) L11.out hcb hcb2 (R7.out _ (((Below.refl _ u7).alloc (Nat.le_refl _) (.cells zc 5)).alloc (by simp) (.cells #[.int .i64 0, .int .i64 0, .int .i64 0, .int .i64 0] 23))); rw [H3.out] at cC; unfold supV at cC; dsimp only at cC; (with_reducible refine Calls.mono cC ?_); rintro e u6 ⟨rfl, b6⟩; have BY : Below w.heap.size w ((u7.alloc (.cells zc 5)).alloc (.cells #[.int .i64 0, .int .i64 0, .int .i64 0, .int .i64 0] 23)) := B7.out.trans (Below.mono (((Below.refl _ u7).alloc (Nat.le_refl _) (.cells zc 5)).alloc (by simp) (.cells #[.int .i64 0, .int .i64 0, .int .i64 0, .int .i64 0] 23)) B7.out.size); have B6 : Hid (Below w.heap.size w u6) := BY.trans (b6.mono BY.size); have hgA : w.heap.size ≤ u7.heap.size + 1 := (by have := B2.size; have := B7.out.size; omega); have x6 := Box.below (show Box ((u7.alloc (.cells zc 5)).alloc (.cells #[.int .i64 0, .int .i64 0, .int .i64 0, .int .i64 0] 23)) (u7.heap.size + 1) #[.int .i64 0, .int .i64 0, .int .i64 0, .int .i64 0] 23 from (by have x := Box.new (u7.alloc (.cells zc 5)) #[.int .i64 0, .int .i64 0, .int .i64 0, .int .i64 0] 23; rw [show (u7.alloc (.cells zc 5)).heap.size = u7.heap.size + 1 by simp] at x; exact x)) b6; have f0 := x6.frozen 0; have f1 := x6.frozen 1; have f2 := x6.frozen 2; have f3 := x6.frozen 3; have n0 := x6.cell 0; have n1 := x6.cell 1; have n2 := x6.cell 2; have n3 := x6.cell 3; simp only [List.getElem?_toArray, List.getElem?_cons_zero, List.getElem?_cons_succ] at n0 n1 n2 n3; clear x6; clear cC b6 BY)
      | (go_at_call_of 6 (Value.slice (some ⟨u7.heap.size, 0, none⟩) 4096 4096); have cC := choose_at 4096 4096 4096 cb (some ⟨u7.heap.size, 0, none⟩) (some ⟨gb, 0, none⟩) zs s11 (u7.alloc (.cells zc 5)) lz.out (Nat.le_refl _) (by decide) (HZ.out u7 _ rfl) L11.out hcb hcb2 (R7.out _ ((Below.refl _ u7).alloc (Nat.le_refl _) (.cells zc 5))); rw [H3.out] at cC; unfold supV at cC; dsimp only at cC; (with_reducible refine Calls.mono cC ?_); rintro e u6 ⟨rfl, b6⟩; have BY : Below w.heap.size w (u7.alloc (.cells zc 5)) := B7.out.trans (Below.mono ((Below.refl _ u7).alloc (Nat.le_refl _) (.cells zc 5)) B7.out.size); have B6 : Hid (Below w.heap.size w u6) := BY.trans (b6.mono BY.size); clear cC b6 BY)
      | (go_at_call 6; have cC := choose_at 4096 4096 4096 cb (some ⟨U.heap.size + 1, 0, none⟩) (some ⟨gb, 0, none⟩) zs s11 u7 lz.out (Nat.le_refl _) (by decide) (Rz.out _ (Below.refl _ u7)) L11.out hcb hcb2 (R7.out _ (Below.refl _ u7)); rw [H3.out] at cC; unfold supV at cC; dsimp only at cC; (with_reducible refine Calls.mono cC ?_); rintro e u6 ⟨rfl, b6⟩; have BY : Below w.heap.size w u7 := B7.out.trans (Below.mono (Below.refl _ u7) B7.out.size); have B6 : Hid (Below w.heap.size w u6) := BY.trans (b6.mono BY.size); have hgA : w.heap.size ≤ U.heap.size := (by have := B2.size; have := B7.out.size; omega); have x6 := Box.below (Bx.out _ (Below.refl _ u7)) b6; have f0 := x6.frozen 0; have f1 := x6.frozen 1; have f2 := x6.frozen 2; have f3 := x6.frozen 3; have n0 := x6.cell 0; have n1 := x6.cell 1; have n2 := x6.cell 2; have n3 := x6.cell 3; simp only [List.getElem?_toArray, List.getElem?_cons_zero, List.getElem?_cons_succ] at n0 n1 n2 n3; clear x6; clear cC b6 BY)
      | (go_at_call 6; have cC := choose_at 4096 4096 4096 cb (some ⟨u7.heap.size + 1, 0, none⟩) (some ⟨gb, 0, none⟩) zs s11 ((u7.alloc (.cells #[.int .i64 0, .int .i64 0, .int .i64 0, .int .i64 0] 23)).alloc (.cells zc 5)) lz.out (Nat.le_refl _) (by decide) (HZ.out (u7.alloc (.cells #[.int .i64 0, .int .i64 0, .int .i64 0, .int .i64 0] 23)) _ (by simp)) L11.out hcb hcb2 (R7.out _ (((Below.refl _ u7).alloc (Nat.le_refl _) (.cells #[.int .i64 0, .int .i64 0, .int .i64 0, .int .i64 0] 23)).alloc (by simp) (.cells zc 5))); rw [H3.out] at cC; unfold supV at cC; dsimp only at cC; (with_reducible refine Calls.mono cC ?_); rintro e u6 ⟨rfl, b6⟩; have BY : Below w.heap.size w ((u7.alloc (.cells #[.int .i64 0, .int .i64 0, .int .i64 0, .int .i64 0] 23)).alloc (.cells zc 5)) := B7.out.trans (Below.mono (((Below.refl _ u7).alloc (Nat.le_refl _) (.cells #[.int .i64 0, .int .i64 0, .int .i64 0, .int .i64 0] 23)).alloc (by simp) (.cells zc 5)) B7.out.size); have B6 : Hid (Below w.heap.size w u6) := BY.trans (b6.mono BY.size); have hgA : w.heap.size ≤ u7.heap.size := (by have := B2.size; have := B7.out.size; omega); have x6 := Box.below ((Box.new u7 #[.int .i64 0, .int .i64 0, .int .i64 0, .int .i64 0] 23).alloc (.cells zc 5)) b6; have f0 := x6.frozen 0; have f1 := x6.frozen 1; have f2 := x6.frozen 2; have f3 := x6.frozen 3; have n0 := x6.cell 0; have n1 := x6.cell 1; have n2 := x6.cell 2; have n3 := x6.cell 3; simp only [List.getElem?_toArray, List.getElem?_cons_zero, List.getElem?_cons_succ] at n0 n1 n2 n3; clear x6; clear cC b6 BY))
    all_goals go_wp2_with fail
    all_goals go_meet
    all_goals first
      | exact ⟨rfl, rfl, B6.out.alloc B6.out.size _⟩
      | exact ⟨rfl, rfl, (((B6.out.setCell (p := ⟨_, 0, none⟩) hgA _).setCell (p := ⟨_, 1, none⟩) hgA _).setCell (p := ⟨_, 2, none⟩) hgA _).setCell (p := ⟨_, 3, none⟩) hgA _⟩
  case rest =>
   as_aux_lemma =>
    obtain ⟨rfl, rfl, B3⟩ := hcut
    clear B2 hmk HZ H1 H2 H3 HB15 HB16 L15 L16 lz

    go_wp2_with fail
    refine Calls.mono (HB11.out _) ?_
    rintro r ua4 ⟨ga, ca, rfl, _, _, hca, hca2, ra, ba⟩
    have Ba4 := B3.trans (ba.mono B3.size)
    have cC := choose_at 4096 ca 0 0 (some ⟨ga, 0, none⟩) none s11 [] ua4 L11.out hca hca2 ra rfl (Nat.le_refl _) (by decide) (Su.Rd.nil _ _)
    rw [H4.out] at cC
    unfold supV at cC
    dsimp only at cC
    go_wp2_with fail
    refine Calls.mono cC ?_
    rintro r u4 ⟨rfl, bc⟩
    have Bc4 := Ba4.trans (bc.mono Ba4.size)
    have B4 := Bc4.alloc Bc4.size (.cells #[.int .i64 64, .int .i64 1, .int .i64 1, .int .i64 0] 23)
    clear cC bc Bc4 B3 hca hca2 ra ba Ba4
    have cC : ∀ u : World, Calls Try.prog 6 #[.slice none 0 0, .slice none 0 0] u fun r w' => r = .returned (.tuple #[.agg #[.int .i64 0, .int .i64 0, .int .i64 0, .int .i64 0], .int .i64 0, .bool false]) ∧ Below u.heap.size u w' := fun u => by
      have c := choose_at 0 0 0 0 none none [] [] u rfl (Nat.le_refl _) (by decide) (Su.Rd.nil _ _) rfl (Nat.le_refl _) (by decide) (Su.Rd.nil _ _)
      rw [H5.out] at c
      exact c
    go_wp2_with fail
    refine Calls.mono (cC _) ?_
    rintro r u5 ⟨rfl, bc⟩
    have Bc5 := B4.trans (bc.mono B4.size)
    have B5 := Bc5.alloc Bc5.size (.cells #[.int .i64 0, .int .i64 0, .int .i64 0, .int .i64 0] 23)
    have x5 := Box.new u5 #[.int .i64 0, .int .i64 0, .int .i64 0, .int .i64 0] 23
    clear cC bc Bc5 B4
    go_wp2_with fail
    refine Calls.mono (HB21.out _) ?_
    rintro r ua6 ⟨ga, ca, rfl, _, _, hca, hca2, ra, ba⟩
    have Ba6 := B5.trans (ba.mono B5.size)
    go_wp2_with fail
    refine Calls.mono (HB19.out _) ?_
    rintro r ub6 ⟨gb, cb, rfl, _, _, hcb, hcb2, rb, bb⟩
    have Bb6 := Ba6.trans (bb.mono Ba6.size)
    have cC := choose_at 4096 ca 4096 cb (some ⟨ga, 0, none⟩) (some ⟨gb, 0, none⟩) s21 s19 ub6 L21.out hca hca2 (ra.below bb (Nat.le_refl _)) L19.out hcb hcb2 rb
    rw [H6.out] at cC
    unfold supV at cC
    dsimp only at cC
    go_wp2_with fail
    refine Calls.mono cC ?_
    rintro r u6 ⟨rfl, bc⟩
    have Bc6 := Bb6.trans (bc.mono Bb6.size)
    have B6 := Bc6.alloc Bc6.size (.cells #[.int .i64 64, .int .i64 2, .int .i64 1, .int .i64 0] 23)
    have x6 := (((x5.below ba).below bb).below bc).alloc (.cells #[.int .i64 64, .int .i64 2, .int .i64 1, .int .i64 0] 23)
    have n0 := x6.cell 0
    have n1 := x6.cell 1
    have n2 := x6.cell 2
    have n3 := x6.cell 3
    simp only [List.getElem?_toArray, List.getElem?_cons_zero, List.getElem?_cons_succ] at n0 n1 n2 n3
    have B8 := B6.alloc B6.size (.cells #[.int .i64 17, .int .i64 64, .int .i64 0, .int .i64 (-1)] 3)
    have x8 := Box.new (u6.alloc (.cells #[.int .i64 64, .int .i64 2, .int .i64 1, .int .i64 0] 23)) #[.int .i64 17, .int .i64 64, .int .i64 0, .int .i64 (-1)] 3
    rw [show (u6.alloc (.cells #[.int .i64 64, .int .i64 2, .int .i64 1, .int .i64 0] 23)).heap.size = u6.heap.size + 1 by simp] at x8
    have HX8 : Hid (Box ((u6.alloc (.cells #[.int .i64 64, .int .i64 2, .int .i64 1, .int .i64 0] 23)).alloc (.cells #[.int .i64 17, .int .i64 64, .int .i64 0, .int .i64 (-1)] 3)) (u6.heap.size + 1) #[.int .i64 17, .int .i64 64, .int .i64 0, .int .i64 (-1)] 3) := x8
    clear cC bc Bc6 Bb6 Ba6 B5 B6 x5 x6 ba bb ra rb hca hca2 hcb hcb2 x8 H4 H5 H6 HB21 HB19 L21 L19 HB11 L11
    go_upto_block 0 with fail
    clear n0 n1 n2 n3
    go_cut [21, 22, 23] from 122 (fun _ _ _ u => Below w.heap.size w u)
    case first =>
     as_aux_lemma =>
     go_wp2_with fail
     go_loopw [124] (fun i u => ∃ j : Nat, j ≤ 4 ∧ i = .int .i64 (j : Int) ∧ Box u (u6.heap.size + 1) #[.int .i64 17, .int .i64 64, .int .i64 0, .int .i64 (-1)] 3 ∧ Below w.heap.size w u) (fun i _ => 4 - (intOf i).toNat)
     case atStart => exact ⟨0, Nat.zero_le _, rfl, HX8.out, B8⟩
     case round =>
       clear HX8 B8
       obtain ⟨j, hj, rfl, x8, B⟩ := hrel
       by_cases hlt : j < 4
       · obtain ⟨v, hv, hbad⟩ := bad_four j hlt
         have cv := x8.cell j
         rw [hv] at cv
         have hbad2 : Hid (Su.wi v 18 63 = false) := hbad
         have hji : (j : Int) < 4 := by omega
         have HX : Hid (Box wr (u6.heap.size + 1) #[.int .i64 17, .int .i64 64, .int .i64 0, .int .i64 (-1)] 3) := x8
         clear hv hbad x8
         go_wp2_with fail
         refine Calls.mono (HLy.out _) ?_
         rintro r v1 ⟨rfl, b1⟩
         have B1 := B.trans (b1.mono B.size)
         go_wp2_with fail
         refine Calls.mono (HM1.out v _) ?_
         rintro r v2 ⟨ha, rfl, _, o1, b2⟩
         have B2 := B1.trans (b2.mono B1.size)
         have al := ((Below.refl v2.heap.size v2).alloc (Nat.le_refl _) (.cells #[.int .i64 v, .slice (some ⟨ha, 0, none⟩) 4096 4096] 37)).alloc (by simp) (.cells #[.int .i64 0, .int .i64 0, .slice (some ⟨v2.heap.size, 0, none⟩) 1 1] 40)
         have xA := (Box.new v2 #[.int .i64 v, .slice (some ⟨ha, 0, none⟩) 4096 4096] 37).alloc (.cells #[.int .i64 0, .int .i64 0, .slice (some ⟨v2.heap.size, 0, none⟩) 1 1] 40)
         have xG := Box.new (v2.alloc (.cells #[.int .i64 v, .slice (some ⟨ha, 0, none⟩) 4096 4096] 37)) #[.int .i64 0, .int .i64 0, .slice (some ⟨v2.heap.size, 0, none⟩) 1 1] 40
         rw [show (v2.alloc (.cells #[.int .i64 v, .slice (some ⟨ha, 0, none⟩) 4096 4096] 37)).heap.size = v2.heap.size + 1 by simp] at xG
         have cH := home_no ((v2.alloc (.cells #[.int .i64 v, .slice (some ⟨ha, 0, none⟩) 4096 4096] 37)).alloc (.cells #[.int .i64 0, .int .i64 0, .slice (some ⟨v2.heap.size, 0, none⟩) 1 1] 40)) (some ⟨v2.heap.size + 1, 0, none⟩) 1 1 [⟨0, 0, some ⟨v2.heap.size, 0, none⟩, 1, [(v, some ⟨ha, 0, none⟩, 4096, 4096)]⟩] rfl (by decide) (cellsG_one xG rfl (by decide) (cellsI_one xA)) (by simp [allIs, rightIm, hbad2.out])
         have B3 := B2.trans (al.mono B2.size)
         have x3 : Hid (Box ((v2.alloc (.cells #[.int .i64 v, .slice (some ⟨ha, 0, none⟩) 4096 4096] 37)).alloc (.cells #[.int .i64 0, .int .i64 0, .slice (some ⟨v2.heap.size, 0, none⟩) 1 1] 40)) (u6.heap.size + 1) #[.int .i64 17, .int .i64 64, .int .i64 0, .int .i64 (-1)] 3) := (((HX.out.below b1).below b2).below al)
         unfold lay at cH
         clear al xA xG o1 b1 b2 B1 B2 HX cv
         go_wp2_with fail
         refine Calls.mono cH ?_
         rintro r v4 ⟨rfl, b4⟩
         have x4 := x3.out.below b4
         have B4 := B3.trans (b4.mono B3.size)
         clear cH x3 b4 B3
         go_wp2_with fail
         go_roundw
         case rel => exact ⟨j + 1, by omega, by push_cast; rfl, x4, B4⟩
         case measure => simp [intOf]; omega
       · have hje : j = 4 := by omega
         subst hje
         clear hj hlt x8
         go_wp2_with fail
         go_meet
         exact B
    case rest =>
     as_aux_lemma =>
        have B := hcut
        clear hcut HX8 B8
        go_wp2_with fail
        refine Calls.mono (home_bad _ 0 0 0 0 0 0 0 _ (by decide)) ?_
        rintro r v1 ⟨rfl, b1⟩
        have B1 := B.trans (b1.mono B.size)
        clear B b1
        go_wp2_with fail
        refine Calls.mono (HLy.out _) ?_
        rintro r v2 ⟨rfl, b2⟩
        have B2 := B1.trans (b2.mono B1.size)
        clear B1 b2
        go_wp2_with fail
        refine Calls.mono (HM1.out 18 _) ?_
        rintro r v3 ⟨ha, rfl, _, o1, b3⟩
        have B3 := B2.trans (b3.mono B2.size)
        clear B2 b3
        go_wp2_with fail
        refine Calls.mono (HM1.out 63 _) ?_
        rintro r v4 ⟨hb, rfl, _, o2, b4⟩
        have B4 := B3.trans (b4.mono B3.size)
        have o14 := o1.below b4 o1.lt
        have al := ((Below.refl v4.heap.size v4).alloc (Nat.le_refl _) (.cells #[.int .i64 18, .slice (some ⟨ha, 0, none⟩) 4096 4096, .int .i64 63, .slice (some ⟨hb, 0, none⟩) 4096 4096] 37)).alloc (by simp) (.cells #[.int .i64 0, .int .i64 0, .slice (some ⟨v4.heap.size, 0, none⟩) 2 2] 40)
        have xA := (Box.new v4 #[.int .i64 18, .slice (some ⟨ha, 0, none⟩) 4096 4096, .int .i64 63, .slice (some ⟨hb, 0, none⟩) 4096 4096] 37).alloc (.cells #[.int .i64 0, .int .i64 0, .slice (some ⟨v4.heap.size, 0, none⟩) 2 2] 40)
        have xG := Box.new (v4.alloc (.cells #[.int .i64 18, .slice (some ⟨ha, 0, none⟩) 4096 4096, .int .i64 63, .slice (some ⟨hb, 0, none⟩) 4096 4096] 37)) #[.int .i64 0, .int .i64 0, .slice (some ⟨v4.heap.size, 0, none⟩) 2 2] 40
        rw [show (v4.alloc (.cells #[.int .i64 18, .slice (some ⟨ha, 0, none⟩) 4096 4096, .int .i64 63, .slice (some ⟨hb, 0, none⟩) 4096 4096] 37)).heap.size = v4.heap.size + 1 by simp] at xG
        have cH := home_at ((v4.alloc (.cells #[.int .i64 18, .slice (some ⟨ha, 0, none⟩) 4096 4096, .int .i64 63, .slice (some ⟨hb, 0, none⟩) 4096 4096] 37)).alloc (.cells #[.int .i64 0, .int .i64 0, .slice (some ⟨v4.heap.size, 0, none⟩) 2 2] 40)) (some ⟨v4.heap.size + 1, 0, none⟩) 1 1 [⟨0, 0, some ⟨v4.heap.size, 0, none⟩, 2, [(18, some ⟨ha, 0, none⟩, 4096, 4096), (63, some ⟨hb, 0, none⟩, 4096, 4096)]⟩]
          [((18, some ⟨ha, 0, none⟩, 4096, 4096), m1), ((63, some ⟨hb, 0, none⟩, 4096, 4096), m1)] rfl (by decide) (cellsG_one xG rfl (by decide) (cellsI_two xA)) rfl
          (fun p hp => by
            simp only [List.mem_cons, List.not_mem_nil, or_false] at hp
            rcases hp with rfl | rfl
            · exact ⟨(o14.below al o14.lt).rd, l1.out, rfl⟩
            · exact ⟨(o2.below al o2.lt).rd, l1.out, rfl⟩)
          (fun p hp => by
            simp only [List.mem_cons, List.not_mem_nil, or_false] at hp
            rcases hp with rfl | rfl <;> (dsimp only; omega))
        have B5 := B4.trans (al.mono B4.size)
        unfold lay at cH
        clear al xA xG o1 o2 o14 b4 B3 B4
        go_wp2_with fail
        refine Calls.mono cH ?_
        rintro r v6 ⟨a6, c6, ks, qs, rfl, hR, b6⟩
        rw [last_two m1 m1 ks hR.rise hR.keys]
        have B6 := B5.trans (b6.mono B5.size)
        clear cH hR b6 B5 HLy
        go_wp2_with fail
        refine Calls.mono (HNew.out _) ?_
        rintro r v7 ⟨g, rfl, nd⟩
        have HND : Hid (NewDisk v6 v7 g D0) := nd
        clear nd HNew
        go_wp2_with fail
        refine Calls.mono (HM2.out 30 _) ?_
        rintro r v8 ⟨hc, rfl, lhc, o3, b8⟩
        have b9 := b8.alloc b8.size (.cells #[.int .i64 30, .slice (some ⟨hc, 0, none⟩) 4096 4096] 37)
        have bA := (Below.refl v8.heap.size v8).alloc (Nat.le_refl _) (.cells #[.int .i64 30, .slice (some ⟨hc, 0, none⟩) 4096 4096] 37)
        have xC := Box.new v8 #[.int .i64 30, .slice (some ⟨hc, 0, none⟩) 4096 4096] 37
        have o39 := o3.below bA o3.lt
        have z8 := b8.size
        clear bA o3 b8
        go_wp2_with fail
        refine Calls.mono (of_at 1 2 _) ?_
        rintro r v10 ⟨rfl, b10⟩
        unfold supV
        dsimp only
        have b11 := b9.trans (b10.mono b9.size)
        have xC10 := xC.below b10
        have o310 := o39.below b10 o39.lt
        obtain ⟨hd2, hdone⟩ := HNd.out (some ⟨hc, 0, none⟩) 4096 m2 l2.out
        have cD := NewDisk.does HND.out b11 (some ⟨v8.heap.size, 0, none⟩) 1 1 [((30, some ⟨hc, 0, none⟩, 4096, 4096), m2)] 64 1 2 0 1 rfl (by decide) hD0.out (cellsI_one xC10)
          (fun p hp => by
            simp only [List.mem_cons, List.not_mem_nil, or_false] at hp
            subst hp
            exact ⟨o310.rd, l2.out, fun ad e => by injection e with e; rw [← e]; exact ⟨o310.lt, lhc⟩⟩)
          (fun ad e => by injection e with e; rw [← e]; exact z8)
        rw [hd2] at cD
        generalize (doR D0 [((30, some ⟨hc, 0, none⟩, 4096, 4096), m2)] (Su.putSuper 64 1 2 0) 1).1 = D1 at cD hdone
        have HDn : Hid (DoneD D1 s12 m2) := hdone
        clear hd2 hdone b9 b10 b11 xC xC10 o39 o310 z8 lhc HNd hD0 HND HM2
        go_wp2_with fail
        refine Calls.mono cD ?_
        rintro r v11 ⟨rfl, nd⟩
        have HND : Hid (NewDisk v6 v11 g D1) := nd
        clear nd cD
        have cR1 : Calls Try.prog 14 #[.pointer (some ⟨g, 0, none⟩), .int .i64 1] v11 fun e w' => ∃ gr cr, e = .returned (.tuple #[.slice (some ⟨gr, 0, none⟩) 4096 cr, .int .i64 0]) ∧ v11.heap.size ≤ gr ∧ Dk.RowB w' gr cr s12 ∧ Below v11.heap.size v11 w' := by
          have c := NewDisk.reads HND.out 1 (by rw [HDn.out.nb]; decide) HDn.out.up (by rw [HDn.out.uf]; decide)
          rw [HDn.out.one] at c
          exact c
        go_wp2_with fail
        refine Calls.mono cR1 ?_
        rintro r v12 ⟨g1, c1, rfl, _, r1, b12⟩
        have ND2 : Hid (NewDisk v6 v12 g D1) := NewDisk.below HND.out b12
        have hr1 : Hid (Dk.RowB v12 g1 c1 s12) := r1
        clear cR1 r1 b12 HND
        have cR2 : Calls Try.prog 14 #[.pointer (some ⟨g, 0, none⟩), .int .i64 30] v12 fun e w' => ∃ gr cr, e = .returned (.tuple #[.slice (some ⟨gr, 0, none⟩) 4096 cr, .int .i64 0]) ∧ v12.heap.size ≤ gr ∧ Dk.RowB w' gr cr m2 ∧ Below v12.heap.size v12 w' := by
          have c := NewDisk.reads ND2.out 30 (by rw [HDn.out.nb]; decide) HDn.out.up (by rw [HDn.out.uf]; decide)
          rw [HDn.out.thirty] at c
          exact c
        go_wp2_with fail
        refine Calls.mono cR2 ?_
        rintro r v13 ⟨g2, c2, rfl, _, r2, b13⟩
        have ND3 : Hid (NewDisk v6 v13 g D1) := NewDisk.below ND2.out b13
        have hr13 : Hid (Dk.RowB v13 g1 c1 s12) := hr1.out.same (b13.block _ hr1.out.lt)
        have hr23 : Hid (Dk.RowB v13 g2 c2 m2) := r2
        clear cR2 r2 b13 ND2 hr1
        go_upto_region 21 with fail
        go_cut [35] from 175 (fun v35 u => v35 = .bool true ∧ NewDisk v6 u g D1)
        case first =>
         as_aux_lemma =>
          go_wp2_with fail
          refine Calls.mono (HB12.out _) ?_
          rintro r v14 ⟨g3, c3, rfl, _, _, _, _, r3, b14⟩
          have ND4 : Hid (NewDisk v6 v14 g D1) := NewDisk.below ND3.out b14
          have hr14 := hr13.out.same (b14.block _ hr13.out.lt)
          have hr24 : Hid (Dk.RowB v14 g2 c2 m2) := hr23.out.same (b14.block _ hr23.out.lt)
          have cS := Dk.same_at c1 c3 4096 4096 (some ⟨g1, 0, none⟩) (some ⟨g3, 0, none⟩) s12 s12 v14 L12.out L12.out hr14.rd r3
          rw [show (s12 == s12) = true by simp] at cS
          clear b14 ND3 hr13 hr23 hr14 r3
          go_wp2_with fail
          refine Calls.mono cS ?_
          rintro r v15 ⟨rfl, rfl⟩
          clear cS
          go_wp2_with fail
          refine Calls.mono (HMd.out _) ?_
          rintro r v16 ⟨rfl, o4, b16⟩
          have ND5 : Hid (NewDisk v6 v16 g D1) := NewDisk.below ND4.out b16
          have hr25 := hr24.out.same (b16.block _ hr24.out.lt)
          have cS := Dk.same_at c2 4096 4096 4096 (some ⟨g2, 0, none⟩) (some ⟨v14.heap.size, 0, none⟩) m2 m2 v16 l2.out l2.out hr25.rd o4.rd
          rw [show (m2 == m2) = true by simp] at cS
          clear b16 ND4 hr24 hr25 o4
          go_wp2_with fail
          refine Calls.mono cS ?_
          rintro r v17 ⟨rfl, rfl⟩
          have cW := NewDisk.writes ND5.out
          rw [HDn.out.n] at cW
          clear cS
          go_wp2_with fail
          refine Calls.mono cW ?_
          rintro r v18 ⟨rfl, rfl⟩
          have cP := NewDisk.pends ND5.out HDn.out.uf
          clear cW
          go_wp2_with fail
          refine Calls.mono cP ?_
          rintro r v19 ⟨a9, c9, rfl, b19⟩
          have ND6 : Hid (NewDisk v6 v19 g D1) := NewDisk.below ND5.out b19
          clear cP b19 ND5
          go_wp2_with fail
          go_meet
          exact ⟨rfl, ND6.out⟩
        case rest =>
         as_aux_lemma =>
          obtain ⟨rfl, nd6⟩ := hcut
          have ND6 : Hid (NewDisk v6 wc g D1) := nd6
          clear nd6 HB12 L12 HMd hr13 hr23 ND3
          have hlim : Hid (D1.uf.length ≤ 800000 ∧ D1.n ≤ 800000) := ⟨by rw [HDn.out.uf]; decide, by rw [HDn.out.n]; decide⟩
          go_upto_region 22 with fail
          go_cut [36] from 217 (fun v36 u => v36 = .bool true ∧ Below w.heap.size w u)
          case first =>
           as_aux_lemma =>
            go_wp2_with fail
            refine Calls.mono (of_at 1 1 _) ?_
            rintro r w1 ⟨rfl, bo⟩
            unfold supV
            dsimp only
            have ND7 : Hid (NewDisk v6 w1 g D1) := NewDisk.below ND6.out bo
            clear bo ND6
            go_wp2_with fail
            refine Calls.mono (do_nil (.slice none 0 0) 64 1 1 0 0 _) ?_
            rintro r w2 ⟨rfl, bo⟩
            have ND8 : Hid (NewDisk v6 w2 g D1) := NewDisk.below ND7.out bo
            clear bo ND7
            go_wp2_with fail
            refine Calls.mono (of_at 0 1 _) ?_
            rintro r w3a ⟨rfl, bo⟩
            unfold supV
            dsimp only
            have cD := NewDisk.does ND8.out bo none 0 0 [] 64 0 1 0 0 rfl (by decide) hlim.out (fun h => absurd h (by simp)) (fun p hp => by cases hp) (fun ad e => by cases e)
            rw [show doR D1 [] (Su.putSuper 64 0 1 0) 0 = (D1, 2) from (by rw [sB_none]; rfl)] at cD
            dsimp only at cD
            clear bo ND8
            go_wp2_with fail
            refine Calls.mono cD ?_
            rintro r w3b ⟨rfl, nd⟩
            have ND9 : Hid (NewDisk v6 w3b g D1) := nd
            clear nd cD
            go_wp2_with fail
            refine Calls.mono (of_at 1 1 _) ?_
            rintro r w4a ⟨rfl, bo⟩
            unfold supV
            dsimp only
            have cD := NewDisk.does ND9.out bo none 0 0 [] 64 1 1 0 2 rfl (by decide) hlim.out (fun h => absurd h (by simp)) (fun p hp => by cases hp) (fun ad e => by cases e)
            rw [show doR D1 [] (Su.putSuper 64 1 1 0) 2 = (D1, 2) from (doR_slot _ _ _ _ (by decide))] at cD
            dsimp only at cD
            clear bo ND9
            go_wp2_with fail
            refine Calls.mono cD ?_
            rintro r w4b ⟨rfl, nd⟩
            have ND10 : Hid (NewDisk v6 w4b g D1) := nd
            clear nd cD
            go_wp2_with fail
            refine Calls.mono (HM1.out 64 _) ?_
            rintro r w5a ⟨hc, rfl, lhc, o3, b8⟩
            have b9 := b8.alloc b8.size (.cells #[.int .i64 64, .slice (some ⟨hc, 0, none⟩) 4096 4096] 37)
            have bA := (Below.refl w5a.heap.size w5a).alloc (Nat.le_refl _) (.cells #[.int .i64 64, .slice (some ⟨hc, 0, none⟩) 4096 4096] 37)
            have xC := Box.new w5a #[.int .i64 64, .slice (some ⟨hc, 0, none⟩) 4096 4096] 37
            have o39 := o3.below bA o3.lt
            have z8 := b8.size
            clear bA o3 b8
            go_wp2_with fail
            refine Calls.mono (of_at 1 1 _) ?_
            rintro r w5b ⟨rfl, bo⟩
            unfold supV
            dsimp only
            have b11 := b9.trans (bo.mono b9.size)
            have xC10 := xC.below bo
            have o310 := o39.below bo o39.lt
            have cD := NewDisk.does ND10.out b11 (some ⟨w5a.heap.size, 0, none⟩) 1 1 [((64, some ⟨hc, 0, none⟩, 4096, 4096), m1)] 64 1 1 0 0 rfl (by decide) hlim.out (cellsI_one xC10)
              (fun p hp => by
                simp only [List.mem_cons, List.not_mem_nil, or_false] at hp
                subst hp
                exact ⟨o310.rd, l1.out, fun ad e => by injection e with e; rw [← e]; exact ⟨o310.lt, lhc⟩⟩)
              (fun ad e => by injection e with e; rw [← e]; exact z8)
            rw [show doR D1 [((64, some ⟨hc, 0, none⟩, 4096, 4096), m1)] (Su.putSuper 64 1 1 0) 0 = (D1, 2) from doR_fit _ _ _ _ (by rw [HDn.out.nb]; rfl)] at cD
            dsimp only at cD
            clear b9 bo b11 xC xC10 o39 o310 z8 lhc ND10
            go_wp2_with fail
            refine Calls.mono cD ?_
            rintro r w5c ⟨rfl, nd⟩
            have ND11 : Hid (NewDisk v6 w5c g D1) := nd
            clear nd cD
            go_wp2_with fail
            refine Calls.mono (HM1.out 1 _) ?_
            rintro r w6a ⟨hc, rfl, lhc, o3, b8⟩
            have b9 := b8.alloc b8.size (.cells #[.int .i64 1, .slice (some ⟨hc, 0, none⟩) 4096 4096] 37)
            have bA := (Below.refl w6a.heap.size w6a).alloc (Nat.le_refl _) (.cells #[.int .i64 1, .slice (some ⟨hc, 0, none⟩) 4096 4096] 37)
            have xC := Box.new w6a #[.int .i64 1, .slice (some ⟨hc, 0, none⟩) 4096 4096] 37
            have o39 := o3.below bA o3.lt
            have z8 := b8.size
            clear bA o3 b8
            go_wp2_with fail
            refine Calls.mono (of_at 1 1 _) ?_
            rintro r w6b ⟨rfl, bo⟩
            unfold supV
            dsimp only
            have b11 := b9.trans (bo.mono b9.size)
            have xC10 := xC.below bo
            have o310 := o39.below bo o39.lt
            have cD := NewDisk.does ND11.out b11 (some ⟨w6a.heap.size, 0, none⟩) 1 1 [((1, some ⟨hc, 0, none⟩, 4096, 4096), m1)] 64 1 1 0 0 rfl (by decide) hlim.out (cellsI_one xC10)
              (fun p hp => by
                simp only [List.mem_cons, List.not_mem_nil, or_false] at hp
                subst hp
                exact ⟨o310.rd, l1.out, fun ad e => by injection e with e; rw [← e]; exact ⟨o310.lt, lhc⟩⟩)
              (fun ad e => by injection e with e; rw [← e]; exact z8)
            rw [show doR D1 [((1, some ⟨hc, 0, none⟩, 4096, 4096), m1)] (Su.putSuper 64 1 1 0) 0 = (D1, 2) from doR_fit _ _ _ _ (by rw [HDn.out.nb]; rfl)] at cD
            dsimp only at cD
            clear b9 bo b11 xC xC10 o39 o310 z8 lhc ND11
            go_wp2_with fail
            refine Calls.mono cD ?_
            rintro r w6c ⟨rfl, nd⟩
            have ND12 : Hid (NewDisk v6 w6c g D1) := nd
            clear nd cD
            have b9 := (Below.refl w6c.heap.size w6c).alloc (Nat.le_refl _) (.cells #[.int .i64 30, .slice none 0 0] 37)
            have xC := Box.new w6c #[.int .i64 30, .slice none 0 0] 37
            go_wp2_with fail
            refine Calls.mono (of_at 1 1 _) ?_
            rintro r w7 ⟨rfl, bo⟩
            unfold supV
            dsimp only
            have b11 := b9.trans (bo.mono b9.size)
            have xC10 := xC.below bo
            have cD := NewDisk.does ND12.out b11 (some ⟨w6c.heap.size, 0, none⟩) 1 1 [((30, none, 0, 0), [])] 64 1 1 0 0 rfl (by decide) hlim.out (cellsI_one xC10)
              (fun p hp => by
                simp only [List.mem_cons, List.not_mem_nil, or_false] at hp
                subst hp
                exact ⟨Dk.Rd.nil _ _, rfl, fun ad e => by cases e⟩)
              (fun ad e => by injection e with e; rw [← e]; exact Nat.le_refl _)
            rw [show doR D1 [((30, none, 0, 0), [])] (Su.putSuper 64 1 1 0) 0 = (D1, 2) from doR_fit _ _ _ _ (by rw [HDn.out.nb]; rfl)] at cD
            dsimp only at cD
            clear b9 bo b11 xC xC10 ND12
            go_wp2_with fail
            refine Calls.mono cD ?_
            rintro r w8 ⟨rfl, nd⟩
            have ND13 : Hid (NewDisk v6 w8 g D1) := nd
            have cW := NewDisk.writes ND13.out
            rw [HDn.out.n] at cW
            clear nd cD
            go_wp2_with fail
            refine Calls.mono cW ?_
            rintro r w9 ⟨rfl, rfl⟩
            have B9 := B6.trans ((NewDisk.rbelow ND13.out).mono B6.size)
            clear cW ND13 B6
            go_wp2_with fail
            go_meet
            exact ⟨rfl, B9⟩
          case rest =>
           as_aux_lemma =>
            obtain ⟨rfl, B9⟩ := hcut
            go_wp2_with fail
            refine Calls.mono (HA.out _) ?_
            rintro r w10 ⟨rfl, b10⟩
            go_wp2_with fail
            go_ret
            exact ⟨rfl, B9.trans (b10.mono B9.size)⟩
    end Go.Proofs.Ytdkaacjeogifdaa.H
