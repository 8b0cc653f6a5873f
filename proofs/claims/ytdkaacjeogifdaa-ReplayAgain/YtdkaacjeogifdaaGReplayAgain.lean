/-
  DkBackw, DkCopy, DkStand, DkMade, HNumF, HAgainP, RcApart, RcApartWalk, HRwd, DkInts, HAgainM, HSpares, HAgainN, HLate, HAgain, HArgsC: put together.
-/
import Derived.Test.YtdkaacjeogifdaaG7
import Derived.RangeFuncNested
import Derived.RangeFuncBound
import Derived.RangeFuncCalls
import Derived.RangeFuncLeaves
import Derived.Shelf.Abstract
import Derived.Shelf.RegionOpen
import Derived.WalkKit
import Derived.OwnWalkIn
import Derived.TacticsInMore
import Derived.LoopNIn
import Derived.LoopIn
import Derived.Test.YtdkaacjeogifdaaRows
import Derived.WalkSpells
import Derived.WalkLawsBesides
import Derived.Laws.BytesArg
import Derived.ProofKit
import Derived.ArgAppend
import Derived.Deep.QuietTactic
import Derived.Deep.RegionWith
import Derived.BigQuiet
import Derived.Deep.Cut
import Derived.Deep.RegionHeld3
import Derived.Deep.AppendLies
import Derived.Deep.CutRange
import Derived.Deep.CutBlock
import Derived.OpenShut
import Derived.Deep.Grids
/-
  The library's walk through a list of writes, from its end.
-/
namespace Go.Proofs.Ytdkaacjeogifdaa.Dk
open Go.RowKit Go.Shelf
attribute [local go_sem] Oper.semAt_some

abbrev Wr := Nat × (Nat × Nat × Nat)
def encW (x : Wr) : Array Value := #[.int .i64 (x.1 : Int), .agg #[.int .i64 (x.2.1 : Int), .slice (some ⟨x.2.2.1, 0, none⟩) 4096 x.2.2.2]]
/-- what comes in round j -/
def comes (ps : List (Nat × Nat × Nat)) (j : Nat) : Wr := (ps.length - 1 - j, ps[ps.length - 1 - j]?.getD (0, 0, 0))
/-- what has come behind k rounds -/
def downs (ps : List (Nat × Nat × Nat)) (k : Nat) : List Wr := (List.range k).map (comes ps)
theorem downs_succ (ps : List (Nat × Nat × Nat)) (k : Nat) : downs ps (k + 1) = downs ps k ++ [comes ps k] := by simp [downs, List.range_succ]
theorem downs_length (ps : List (Nat × Nat × Nat)) (k : Nat) : (downs ps k).length = k := by simp [downs]

set_option maxRecDepth 100000 in
set_option maxHeartbeats 2000000 in
theorem back1_in (n : Nat) (hn : 1 ≤ n) (l Bs n₀ b len cap : Nat) (ps : List (Nat × Nat × Nat)) (hlen : ps.length = len) (hmax : len ≤ 1000000) (hb : b < n₀) (J Jx : List Wr → World → Prop)
    (hY : ∀ pre x W, J pre W → pre.length < len → YieldAt Fence.wide (n - 1) Try.prog l (encW x) W fun e W' =>
      (e = .returned (.bool true) ∧ J (pre ++ [x]) W' ∧ Below n₀ W W') ∨ (e = .returned (.bool false) ∧ Jx (pre ++ [x]) W'))
    (W : World) (hBs : W.cell? ⟨Bs, 0, none⟩ = some (.slice (some ⟨b, 0, none⟩) len cap)) (hBn : Bs < n₀)
    (hc : ∀ j (h : j < ps.length), W.cell? ⟨b, 0 + j * 2, none⟩ = some (.int .i64 (ps[j].1 : Int)) ∧ W.cell? ⟨b, 0 + j * 2 + 1, none⟩ = some (.slice (some ⟨ps[j].2.1, 0, none⟩) 4096 ps[j].2.2)) (h0 : J [] W) :
    CallsIn Fence.wide n Try.prog 77 #[.func (.yield l) #[] #[], .pointer (some ⟨Bs, 0, none⟩)] W fun e W' => (∃ v, e = .returned v) ∧
      ((∃ ys, ys = downs ps len ∧ J ys W') ∨ (∃ pre, (∃ k, k ≤ len ∧ pre = downs ps k) ∧ Jx pre W')) := by
  have Hlen : Hid _ := hlen
  have Hc : Hid _ := hc
  clear hlen hc
  refine callsIn_of_wp Try.func77 rfl trivial ?_ rfl
  simp only [Try.ntmps77, List.size_toArray, List.length_cons, List.length_nil, Nat.reduceAdd, Nat.reduceSub, Array.replicate_succ, Array.replicate_zero, List.push_toArray, List.append_toArray, List.nil_append, List.cons_append]
  gi_wp2
  gi_loopw [3] (fun i wr => ∃ k : Nat, k ≤ len ∧ i = .int .i64 ((len : Int) - 1 - (k : Int)) ∧ J (downs ps k) wr ∧ Below n₀ W wr)
    (fun i _ => (intOf i + 1).toNat)
  case atStart => exact ⟨0, Nat.zero_le _, by simp, h0, Below.refl _ _⟩
  case round =>
    obtain ⟨k, hk, rfl, hJs, hnx⟩ := hrel
    have hBs' := (hnx.cell (p := ⟨Bs, 0, none⟩) hBn).trans hBs
    by_cases hlt : k < len
    · obtain ⟨j, hj⟩ : ∃ j : Nat, j = len - 1 - k := ⟨_, rfl⟩
      have hji : (len : Int) - 1 - (k : Int) = (j : Int) := by omega
      have hjl : j < ps.length := by rw [Hlen.out]; omega
      obtain ⟨a0, a1⟩ := Hc.out j hjl
      have hcm : comes ps k = (j, ps[j]) := by
        unfold comes
        rw [Hlen.out, ← hj, List.getElem?_eq_getElem hjl]
        rfl
      obtain ⟨fn, tmps, assign, body, hy, hR⟩ := hY _ (comes ps k) wr hJs (by rw [downs_length]; exact hlt)
      rw [hcm] at hy
      dsimp only [encW] at hy
      have b0 := (hnx.cell (p := ⟨b, 0 + j * 2, none⟩) hb).trans a0
      have b1 := (hnx.cell (p := ⟨b, 0 + j * 2 + 1, none⟩) hb).trans a1
      simp only [Nat.zero_add] at b0 b1
      have hjn : (j : Int) < len := by omega
      rw [hji]
      generalize (ps[j]'hjl) = p at hy b0 b1 hcm
      obtain ⟨pb, pg, pc⟩ := p
      dsimp only at hy b0 b1
      have Hcm : Hid _ := hcm
      have Hji : Hid _ := hji
      have Hj : Hid _ := hj
      clear a0 a1 hcm hji hj
      gi_wp2
      refine hR.mono ?_
      rintro e W3 (⟨rfl, hJ3, hk3⟩ | ⟨rfl, hJx3⟩)
      · gi_wp2
        go_roundw
        case rel => exact ⟨k + 1, by omega, by congr 1; have := Hji.out; omega, by rw [downs_succ]; exact hJ3, hnx.trans hk3⟩
        case measure => simp [intOf]
      · gi_wp2
        refine bodyPost_ret (results_none rfl _ _ _) rfl ?_
        exact ⟨⟨_, rfl⟩, .inr ⟨_, ⟨k + 1, by omega, (downs_succ _ _).symm⟩, hJx3⟩⟩
    · obtain rfl : k = len := by omega
      have e1 : (k : Int) - 1 - (k : Int) = -1 := by omega
      rw [e1]
      gi_wp2
      go_end0
      exact ⟨⟨_, rfl⟩, .inl ⟨_, rfl, hJs⟩⟩

set_option maxRecDepth 100000 in
set_option maxHeartbeats 1000000 in
/-- .. of no writes: no round. -/
theorem back1_nil_in (n : Nat) (l Bs cap : Nat) (a : Option Addr) (J : List Wr → World → Prop) (W : World) (hBs : W.cell? ⟨Bs, 0, none⟩ = some (.slice a 0 cap)) (h0 : J [] W) :
    CallsIn Fence.wide n Try.prog 77 #[.func (.yield l) #[] #[], .pointer (some ⟨Bs, 0, none⟩)] W fun e W' => (∃ v, e = .returned v) ∧ J [] W' := by
  refine callsIn_of_wp Try.func77 rfl trivial ?_ rfl
  simp only [Try.ntmps77, List.size_toArray, List.length_cons, List.length_nil, Nat.reduceAdd, Nat.reduceSub, Array.replicate_succ, Array.replicate_zero, List.push_toArray, List.append_toArray, List.nil_append, List.cons_append]
  gi_wp2
  gi_loopw [3] (fun i wr => i = .int .i64 (-1) ∧ J [] wr) (fun _ _ => 0)
  case atStart => exact ⟨rfl, h0⟩
  case round =>
    obtain ⟨rfl, hJs⟩ := hrel
    gi_wp2
    go_end0
    exact ⟨⟨_, rfl⟩, hJs⟩

set_option maxHeartbeats 1000000 in
/-- slices.Backward: the list is boxed; the function captures the box. -/
theorem back_in (n : Nat) (a : Option Addr) (len cap : Nat) (w : World) :
    CallsIn Fence.wide n Try.prog 62 #[.slice a len cap] w fun e w' => e = .returned (.func (.func 77) #[] #[.pointer (some ⟨w.heap.size, 0, none⟩)]) ∧ w' = w.alloc (.cells #[.slice a len cap] 85) := by
  refine callsIn_of_wp Try.func62 rfl trivial ?_ rfl
  simp only [Try.ntmps62, List.size_toArray, List.length_cons, List.length_nil, Nat.reduceAdd, Nat.reduceSub, Array.replicate_succ, Array.replicate_zero, List.push_toArray, List.append_toArray, List.nil_append, List.cons_append]
  gi_wp2
  go_ret
  exact ⟨rfl, rfl⟩

/-- The writes ps lie where v says, below n₀. -/
def Wrs (n₀ : Nat) (w : World) (v : Value) (ps : List (Nat × Nat × Nat)) : Prop :=
  (∃ a cap, v = .slice a 0 cap ∧ ps = []) ∨ ∃ b cap, v = .slice (some ⟨b, 0, none⟩) ps.length cap ∧ b < n₀ ∧ ∀ j (h : j < ps.length), w.cell? ⟨b, 0 + j * 2, none⟩ = some (.int .i64 (ps[j].1 : Int)) ∧ w.cell? ⟨b, 0 + j * 2 + 1, none⟩ = some (.slice (some ⟨ps[j].2.1, 0, none⟩) 4096 ps[j].2.2)
theorem Wrs.below {n₀ : Nat} {A B : World} {v : Value} {ps : List (Nat × Nat × Nat)} (hb : Below n₀ A B) (h : Wrs n₀ A v ps) : Wrs n₀ B v ps := by
  rcases h with h | ⟨b, cap, hv, hlt, hc⟩
  · exact .inl h
  · refine .inr ⟨b, cap, hv, hlt, fun j hj => ?_⟩
    obtain ⟨h0, h1⟩ := hc j hj
    exact ⟨(hb.cell (p := ⟨b, 0 + j * 2, none⟩) hlt).trans h0, (hb.cell (p := ⟨b, 0 + j * 2 + 1, none⟩) hlt).trans h1⟩

theorem back_stops (n : Nat) (hn : 1 ≤ n) (Bs n₀ : Nat) (v : Value) (ps : List (Nat × Nat × Nat)) (hmax : ps.length ≤ 1000000) (w : World) (hBs : Bs < n₀) (hn₀ : n₀ ≤ w.heap.size) (hc : w.cell? ⟨Bs, 0, none⟩ = some v) (hI : Wrs n₀ w v ps) :
    SeqStopsK Fence.wide n Try.prog 77 #[.pointer (some ⟨Bs, 0, none⟩)] encW (Below n₀) (fun ys => ys = downs ps ps.length) (fun pre => ∃ k, k ≤ ps.length ∧ pre = downs ps k) ps.length w := fun l J Jx W hW _ _ hY h0 => by
  have hc' := (hW.cell (p := ⟨Bs, 0, none⟩) (Nat.lt_of_lt_of_le hBs hn₀)).trans hc
  rcases hI.below (hW.mono hn₀) with ⟨a, cap, rfl, rfl⟩ | ⟨b, cap, rfl, hb, hcs⟩
  · exact (back1_nil_in n l Bs cap a J W hc' h0).mono fun e W' ⟨he, hj⟩ => ⟨he, .inl ⟨_, rfl, hj⟩⟩
  · exact back1_in n hn l Bs n₀ b ps.length cap ps rfl hmax hb J Jx hY W hc' hBs hcs h0
end Go.Proofs.Ytdkaacjeogifdaa.Dk

/-
  Copy.
-/
namespace Go.Proofs.Ytdkaacjeogifdaa.Dk
open Go.RowKit

theorem Lies.shape {w : World} {g : Nat} {D : DS} {F : Nat → Prop} {gd cd : Nat} {vu : Value} {ps : List (Nat × Nat × Nat)} (h : Lies w g D F gd cd vu ps) : ∃ av cu, vu = .slice av D.uf.length cu := by
  have hrow := h.row
  rcases hrow.2 with ⟨h1, h2⟩ | ⟨gv, cu, cur, hv, _⟩
  · exact ⟨none, 0, by rw [h1, h2]⟩
  · exact ⟨some ⟨gv, 0, none⟩, cu, hv⟩

set_option maxRecDepth 100000 in
set_option maxHeartbeats 4000000 in
theorem copy_at {g : Nat} {w : World} {D : DS} {F : Nat → Prop} (hd : IsDisk w g D F) (hlim : D.uf.length ≤ 1000000) :
    Calls Try.prog 23 #[.pointer (some ⟨g, 0, none⟩)] w fun e w' => ∃ gc, e = .returned (.pointer (some ⟨gc, 0, none⟩)) ∧ NewDisk w w' gc D.copy := by
  obtain ⟨gd, cd, vu, ps, h⟩ := hd
  have c := isMade_at h
  obtain ⟨_, c1, c2, _⟩ := box_cells h.box
  obtain ⟨av, cu, rfl⟩ := h.shape
  obtain ⟨i0, hi, hz0, hz1, hz2⟩ := info_parts info79
  have hlo := h.ok.lo
  have hhi := h.ok.hi
  have H : Hid (Lies w g D F gd cd (.slice av D.uf.length cu) ps) := h
  obtain ⟨n, hn⟩ : ∃ n, n = D.uf.length := ⟨_, rfl⟩
  rw [← hn] at c2 hlim
  have Hn : Hid _ := hn
  have ck1 := clone_at cd (D.nb * 4096) ⟨gd, 0, none⟩ D.dur w h.ok.len (by omega) (by omega) h.dur.rd
  have hglt := h.box.lt
  clear h hn
  go_enter Try.func23, Try.ntmps23
  go_wp2_with fail
  refine c.mono ?_
  rintro e w' ⟨rfl, rfl⟩
  clear c
  go_wp2_with fail
  refine ck1.mono ?_
  rintro e w1 ⟨gd1, cd1, rfl, hgd1, r1, b1⟩
  clear ck1
  go_wp2_with fail
  refine (holding_at gd1 cd1 D.nb D.dur w1 r1 H.out.ok.len hlo hhi).mono ?_
  rintro e w2 ⟨rfl, hd2, b2⟩
  have B2 := b1.trans (b2.mono b1.size)
  have z1 := b1.size
  obtain ⟨gc, hgc⟩ : ∃ gc, gc = w1.heap.size := ⟨_, rfl⟩
  rw [← hgc] at hd2 ⊢
  have hF2 : ∀ i, (i = gc ∨ i = gd1) → w.heap.size ≤ i := fun i hi => by rcases hi with rfl | rfl; omega; exact hgd1
  have c2' := (B2.cell (p := ⟨g, 2, none⟩) hglt).trans c2
  clear b1 b2 r1 hgc c1 hgd1 z1
  go_wp2_with fail
  go_loopw [20] (fun i wr => ∃ k : Nat, k ≤ n ∧ i = .int .i64 k ∧ (∃ F2 : Nat → Prop, IsDisk wr gc { DS.new D.nb D.dur with uf := D.uf.take k } F2 ∧ ∀ i, F2 i → w.heap.size ≤ i) ∧ Below w.heap.size w wr) (fun i _ => n - (intOf i).toNat)
  case atStart => exact ⟨0, Nat.zero_le _, rfl, ⟨_, hd2, hF2⟩, B2⟩
  case round =>
    obtain ⟨k, hk, rfl, ⟨F2, hdk, hFk⟩, B⟩ := hrel
    clear hd2 hF2 B2 c2'
    by_cases hlt : k < n
    · have hk' : k < D.uf.length := by rw [← Hn.out]; exact hlt
      have hkp : k < ps.length := by rw [H.out.len]; exact hk'
      obtain ⟨gv, cu', cur, hvu, hcu, hmu, hbv, hcells⟩ := H.out.writes (by omega)
      simp only [Value.slice.injEq, true_and] at hvu
      obtain ⟨rfl, rfl⟩ := hvu
      rw [← Hn.out] at hcu
      obtain ⟨a0, a1⟩ := hcells k hk' hkp
      obtain ⟨_, hdat, _, _⟩ := H.out.each k hkp hk'
      obtain ⟨hb1, hb2⟩ := H.out.ok.at k hk'
      have htk : Hid (D.uf.take (k + 1) = D.uf.take k ++ [(D.uf[k].1, D.uf[k].2)]) := List.take_succ_eq_append_getElem hk'
      have Htl : Hid ((D.uf.take k).length = k) := by show _ = _; rw [List.length_take]; omega
      have Hb1 : Hid _ := hb1
      have Hb2 : Hid _ := hb2
      generalize (ps[k]'hkp).2.1 = gk at a1 hdat
      generalize (ps[k]'hkp).2.2 = ck at a1 hdat
      generalize (D.uf[k]'hk').2 = data at hdat Hb2 htk
      generalize (D.uf[k]'hk').1 = bn at a0 Hb1 htk
      have a0' := (B.cell (p := ⟨gv, 0 + k * 2, none⟩) hbv.lt).trans a0
      have a1' := (B.cell (p := ⟨gv, 0 + k * 2 + 1, none⟩) hbv.lt).trans a1
      simp only [Nat.zero_add] at a0' a1'
      have hdat1 := hdat.same (B.block gk hdat.lt)
      obtain ⟨gd2, cd2, vu2, ps2, hl⟩ := hdk
      obtain ⟨av2, cu2, rfl⟩ := hl.shape
      dsimp only at hl
      rw [Htl.out] at hl
      have bA := (Below.refl wr.heap.size wr).alloc (Nat.le_refl _) (.cells #[.int .i64 (bn : Int), .slice (some ⟨gk, 0, none⟩) 4096 ck] 93)
      have xb := Box.new wr #[.int .i64 (bn : Int), .slice (some ⟨gk, 0, none⟩) 4096 ck] 93
      have BA := B.alloc B.size (.cells #[.int .i64 (bn : Int), .slice (some ⟨gk, 0, none⟩) 4096 ck] 93)
      have hdat2 := hdat1.same (bA.block gk hdat1.lt)
      have hl1 := hl.below bA
      have hGF0 : ¬ F2 wr.heap.size := fun h => by have := hl.flt _ h; omega
      obtain ⟨V, hV⟩ : ∃ V, V = wr.alloc (.cells #[.int .i64 (bn : Int), .slice (some ⟨gk, 0, none⟩) 4096 ck] 93) := ⟨_, rfl⟩
      obtain ⟨G, hG⟩ : ∃ G, G = wr.heap.size := ⟨_, rfl⟩
      rw [← hV] at xb BA hdat2 hl1
      rw [← hG] at xb hGF0
      have hGF : ¬ F2 G := hGF0
      clear hGF0
      have HV : Hid _ := hV
      have HG : Hid _ := hG
      clear hV hG bA hl hdat hdat1 a0 a1 hcells hb1 hb2 B
      go_upto_region 7 with fail
      rw [← HV.out, ← HG.out]
      clear HV HG a0' a1'
      refine wp_region_any (by kernel_rfl) ?_
      change wpAny _ _ _ _ _ _ _ (World.drew _)
      refine wpAny_take (i := 0) (v := ?_) rfl (by kernel_rfl) (by kernel_rfl) (by kernel_rfl) (fun _ _ _ h => h) (Or.inl ⟨by rfl, ?_⟩) ?_
      rotate_left
      · intro w
        go_simp
        with_reducible rfl
      refine wpAny_take (i := 1) (v := ?_) rfl (by kernel_rfl) (by kernel_rfl) (by kernel_rfl) (fun _ _ _ h => h) (Or.inl ⟨by rfl, ?_⟩) ?_
      rotate_left
      · intro w
        go_simp
        with_reducible rfl
      refine wpAny_take (i := 2) (v := ?_) rfl (by kernel_rfl) (by kernel_rfl) (by kernel_rfl) (fun _ _ _ h => h) (Or.inl ⟨by rfl, ?_⟩) ?_
      rotate_left
      · intro w
        go_simp
        with_reducible rfl
      refine wpAny_take (i := 3) (v := ?_) rfl (by kernel_rfl) (by kernel_rfl) (by kernel_rfl) (fun _ _ _ h => h) (Or.inl ⟨by rfl, ?_⟩) ?_
      rotate_left
      · intro w
        go_simp
        with_reducible rfl
      refine wpAny_take (i := 5) (v := ?_) rfl (by kernel_rfl) (by kernel_rfl) (by kernel_rfl) (fun _ _ _ h => h) (Or.inl ⟨by rfl, ?_⟩) ?_
      rotate_left
      · intro w
        go_simp
        with_reducible rfl
      refine wpAny_take (i := 7) (v := ?_) rfl (by kernel_rfl) (by kernel_rfl) (by kernel_rfl) (fun _ _ _ h => h) (Or.inl ⟨by rfl, ?_⟩) ?_
      rotate_left
      · intro w
        go_simp
        with_reducible rfl
      simp only [Act.put, List.setIfInBounds_toArray, List.set_cons_zero, List.set_cons_succ, List.getElem_toArray, List.getElem_cons_zero, List.getElem_cons_succ]
      refine wpAny_of_late (C := SlotsCells [(27, .pointer (some ⟨gc, 2, none⟩)), (29, .pointer (some ⟨G, 0, none⟩)), (31, .pointer (some ⟨G, 1, none⟩))] [(⟨gc, 2, none⟩, .slice av2 k cu2), (⟨G, 0, none⟩, .int .i64 (bn : Int)), (⟨G, 1, none⟩, .slice (some ⟨gk, 0, none⟩) 4096 ck)]) (late := [13, 14, 15]) _ _ _ _ ?_
      have xd : Box V.drew G #[.int .i64 (bn : Int), .slice (some ⟨gk, 0, none⟩) 4096 ck] 93 := xb
      have Bd : Below w.heap.size w V.drew := BA.drew
      have ld : Lies V.drew gc { DS.new D.nb D.dur with uf := D.uf.take k } F2 gd2 cd2 (.slice av2 k cu2) ps2 := hl1.below (Below.refl _ _).drew
      have rd : RowB V.drew gk ck data := hdat2
      obtain ⟨W, hW⟩ : ∃ W, W = V.drew := ⟨_, rfl⟩
      rw [← hW] at xd Bd ld rd ⊢
      clear hW xb BA hl1 hdat2
      obtain ⟨_, _, k2, _⟩ := box_cells ld.box
      have y0 := xd.cell 0
      have y1 := xd.cell 1
      simp only [List.getElem?_toArray, List.getElem?_cons_zero, List.getElem?_cons_succ] at y0 y1
      refine wpAnyD_take (i := 4) (v := .slice av2 k cu2) rfl (by kernel_rfl) (by kernel_rfl) (by kernel_rfl) (by kernel_rfl) (fun _ _ _ h => h) ?_ (fun fr u h => (SlotsCells.put 28 _ (by rfl)).1 h) (fun fr u h => (SlotsCells.put 28 _ (by rfl)).2 h) ?_ ?_
      · intro fr u hh
        obtain ⟨e1, e2⟩ := hh.load (s := 27) (p := ⟨gc, 2, none⟩) (v := .slice av2 k cu2) (by simp) (by simp)
        exact ⟨rfl, by simp [execOp, e1, go_sem, e2]⟩
      · refine ⟨fun p hp => ?_, fun q hq => ?_⟩
        · simp at hp
          rcases hp with rfl | rfl | rfl <;> rfl
        · simp at hq
          rcases hq with rfl | rfl | rfl
          · exact k2
          · exact y0
          · exact y1
      simp only [Act.put, List.setIfInBounds_toArray, List.set_cons_zero, List.set_cons_succ, List.getElem_toArray, List.getElem_cons_zero, List.getElem_cons_succ]
      refine wpAnyD_take (i := 6) (v := .int .i64 (bn : Int)) rfl (by kernel_rfl) (by kernel_rfl) (by kernel_rfl) (by kernel_rfl) (fun _ _ _ h => h) ?_ (fun fr u h => (SlotsCells.put 30 _ (by rfl)).1 h) (fun fr u h => (SlotsCells.put 30 _ (by rfl)).2 h) ?_ ?_
      · intro fr u hh
        obtain ⟨e1, e2⟩ := hh.load (s := 29) (p := ⟨G, 0, none⟩) (v := .int .i64 (bn : Int)) (by simp) (by simp)
        exact ⟨rfl, by simp [execOp, e1, go_sem, e2]⟩
      · refine ⟨fun p hp => ?_, fun q hq => ?_⟩
        · simp at hp
          rcases hp with rfl | rfl | rfl <;> rfl
        · simp at hq
          rcases hq with rfl | rfl | rfl
          · exact k2
          · exact y0
          · exact y1
      simp only [Act.put, List.setIfInBounds_toArray, List.set_cons_zero, List.set_cons_succ, List.getElem_toArray, List.getElem_cons_zero, List.getElem_cons_succ]
      refine wpAnyD_take (i := 8) (v := .slice (some ⟨gk, 0, none⟩) 4096 ck) rfl (by kernel_rfl) (by kernel_rfl) (by kernel_rfl) (by kernel_rfl) (fun _ _ _ h => h) ?_ (fun fr u h => (SlotsCells.put 32 _ (by rfl)).1 h) (fun fr u h => (SlotsCells.put 32 _ (by rfl)).2 h) ?_ ?_
      · intro fr u hh
        obtain ⟨e1, e2⟩ := hh.load (s := 31) (p := ⟨G, 1, none⟩) (v := .slice (some ⟨gk, 0, none⟩) 4096 ck) (by simp) (by simp)
        exact ⟨rfl, by simp [execOp, e1, go_sem, e2]⟩
      · refine ⟨fun p hp => ?_, fun q hq => ?_⟩
        · simp at hp
          rcases hp with rfl | rfl | rfl <;> rfl
        · simp at hq
          rcases hq with rfl | rfl | rfl
          · exact k2
          · exact y0
          · exact y1
      simp only [Act.put, List.setIfInBounds_toArray, List.set_cons_zero, List.set_cons_succ, List.getElem_toArray, List.getElem_cons_zero, List.getElem_cons_succ]
      have hgW : gc < W.heap.size := ld.box.lt
      have hGW : G < W.heap.size := xd.lt
      refine wpAnyD_one (i := 9) (by kernel_rfl) rfl (fun K hK => ?_)
      go_simp
      refine (clone_at ck 4096 ⟨gk, 0, none⟩ data W Hb2.out (by omega) (by omega) rd.rd).mono ?_
      rintro e w3 ⟨gn, cn, rfl, hgn, rn, b3⟩
      have k2' := (b3.cell (p := ⟨gc, 2, none⟩) hgW).trans k2
      have y0' := (b3.cell (p := ⟨G, 0, none⟩) hGW).trans y0
      have y1' := (b3.cell (p := ⟨G, 1, none⟩) hGW).trans y1
      refine hK _ _ ⟨?_, ?_⟩
      · refine .inr ⟨fun p hp => ?_, fun q hq => ?_⟩
        · simp at hp
          rcases hp with rfl | rfl | rfl <;> rfl
        · simp at hq
          rcases hq with rfl | rfl | rfl
          · exact k2'
          · exact y0'
          · exact y1'
      clear hK K
      refine wpAnyD_one (i := 10) (by kernel_rfl) rfl (fun K hK => ?_)
      go_simp
      refine hK _ _ ⟨?_, ?_⟩
      · refine .inr ⟨fun p hp => ?_, fun q hq => ?_⟩
        · simp at hp
          rcases hp with rfl | rfl | rfl <;> rfl
        · simp at hq
          rcases hq with rfl | rfl | rfl
          · exact k2'
          · exact y0'
          · exact y1'
      clear hK K
      have bA := (Below.refl w3.heap.size w3).alloc (Nat.le_refl _) (.cells #[.int .i64 (bn : Int), .slice (some ⟨gn, 0, none⟩) 4096 cn] 93)
      have x4 := Box.new w3 #[.int .i64 (bn : Int), .slice (some ⟨gn, 0, none⟩) 4096 cn] 93
      have rn4 := rn.same (bA.block gn rn.lt)
      have B4 := b3.trans (bA.mono b3.size)
      have k2f := (B4.cell (p := ⟨gc, 2, none⟩) hgW).trans k2
      have y0f := (B4.cell (p := ⟨G, 0, none⟩) hGW).trans y0
      have y1f := (B4.cell (p := ⟨G, 1, none⟩) hGW).trans y1
      refine wpAnyD_one (i := 11) (by kernel_rfl) rfl (fun K hK => ?_)
      go_simp
      refine hK _ _ ⟨?_, ?_⟩
      · refine .inr ⟨fun p hp => ?_, fun q hq => ?_⟩
        · simp at hp
          rcases hp with rfl | rfl | rfl <;> rfl
        · simp at hq
          rcases hq with rfl | rfl | rfl
          · exact k2f
          · exact y0f
          · exact y1f
      clear hK K
      obtain ⟨V4, hV⟩ : ∃ V, V = w3.alloc (.cells #[.int .i64 (bn : Int), .slice (some ⟨gn, 0, none⟩) 4096 cn] 93) := ⟨_, rfl⟩
      obtain ⟨G4, hG⟩ : ∃ G, G = w3.heap.size := ⟨_, rfl⟩
      rw [← hV] at x4 rn4 B4 k2f y0f y1f ⊢
      have hG4W : W.heap.size ≤ G4 := by rw [hG]; exact b3.size
      rw [← hG] at x4 ⊢
      clear hV hG bA k2' y0' y1' rn b3
      have l4 := ld.below B4
      have row4 : V4.ownsRow 0 93 2 (.slice av2 k cu2) k (wcs ps2) := by
        have := l4.row
        dsimp only at this
        rw [Htl.out] at this
        exact this
      refine wpAnyD_one (i := 12) (by kernel_rfl) rfl (fun K hK => ?_)
      refine step_append_where rfl (.tmp 28) (.tmp 35) 85 rfl 93 i0 (.agg #[.int .i64 0, .slice none 0 0]) 2 32 Try.underlying85 hi hz0 hz1 hz2 rfl (by decide) (.slice av2 k cu2) k (wcs ps2) rfl row4 ⟨G4, 0, none⟩ 1 1 [.int .i64 (bn : Int), .slice (some ⟨gn, 0, none⟩) 4096 cn] rfl rfl ?_ ?_ (by unfold maxLen; omega) (by omega) ?_
      · intro j u hj
        match j, hj with
        | 0, hj => simp at hj; subst hj; rw [Addr.add_lit]; exact x4.cell 0
        | 1, hj => simp at hj; subst hj; rw [Addr.add_lit]; exact x4.cell 1
      · intro u hu
        simp at hu
        rcases hu with rfl | rfl <;> rfl
      intro v5 w5 o5 g5 hw5
      have hVs : W.heap.size ≤ V4.heap.size := B4.size
      obtain ⟨F5, hl5, hF5, hu5, hbx⟩ := ld.added B4 bn gn cn data rn4 hgn Hb1.out Hb2.out (by
        show World.ownsRow _ _ _ _ _ ((D.uf.take k).length + 1) _
        rw [wcs_snoc, Htl.out]
        exact o5) g5 (fun q hq => by rcases hw5 q hq with h | h; exact .inl h; exact .inr (by omega))
      obtain ⟨av5, cu5, rfl⟩ : ∃ av cu, v5 = .slice av (k + 1) cu := by
        rcases o5.2 with ⟨_, h2⟩ | ⟨gv, cu, cur, hv, _⟩
        · omega
        · exact ⟨some ⟨gv, 0, none⟩, cu, hv⟩
      obtain ⟨_, _, k5, _⟩ := box_cells hbx
      have hxG := xd.below B4
      have hGrow : some G ≠ (Value.slice av2 k cu2).ownBlock := by
        intro e
        rcases row4.2 with ⟨h1, _⟩ | ⟨gv', cu', cur', hv', _, hgv', _, _, hcs', htk'⟩
        · simp only [Value.slice.injEq] at h1
          rw [h1.1] at e
          simp [Value.ownBlock] at e
        · exact hGF (by rw [hv'] at e; simp [Value.ownBlock] at e; exact ld.fu G (by rw [hv']; simp [Value.ownBlock, e]))
      have y0g := (World.cell?_of_block (a := ⟨G, 0, none⟩) (g5.block G hxG.lt hGrow)).trans y0f
      have y1g := (World.cell?_of_block (a := ⟨G, 1, none⟩) (g5.block G hxG.lt hGrow)).trans y1f
      refine hK _ _ ⟨?_, ?_⟩
      · refine .inr ⟨fun p hp => ?_, fun q hq => ?_⟩
        · simp at hp
          rcases hp with rfl | rfl | rfl <;> rfl
        · simp at hq
          rcases hq with rfl | rfl | rfl
          · exact k5
          · exact y0g
          · exact y1g
      clear hK K
      simp only [Act.put, List.setIfInBounds_toArray]
      refine wpAnyD_one (i := 13) (by kernel_rfl) rfl (fun K hK => ?_)
      go_simp
      refine hK _ _ ⟨.inl rfl, ?_⟩
      clear hK K
      refine wpAnyD_one (i := 14) (by kernel_rfl) rfl (fun K hK => ?_)
      go_simp
      refine hK _ _ ⟨.inl rfl, ?_⟩
      clear hK K
      have f2 := hbx.frozen 2
      refine wpAnyD_one (i := 15) (by kernel_rfl) rfl (fun K hK => ?_)
      go_simp
      refine hK _ _ ⟨.inl rfl, ?_⟩
      clear hK K
      refine wpAnyD_done (by kernel_rfl) ?_ _
      have hsz : w.heap.size ≤ W.heap.size := Bd.size
      have B6 := Bd.trans (hu5.below (B := w.heap.size) hFk hsz)
      have hd6 : IsDisk (w5.setCell ⟨gc, 2, none⟩ (.slice av5 (k + 1) cu5)) gc { DS.new D.nb D.dur with uf := D.uf.take (k + 1) } F5 := by
        rw [htk.out]
        exact ⟨_, _, _, _, hl5⟩
      generalize w5.setCell ⟨gc, 2, none⟩ (.slice av5 (k + 1) cu5) = X at hd6 B6 ⊢
      clear hl5 hu5 hbx k5 y0g y1g hxG x4 rn4 B4 k2f y0f y1f l4 row4 o5 g5 hw5 f2 xd ld rd k2 y0 y1
      go_wp2
      go_roundw
      case rel => exact ⟨k + 1, by omega, by go_num, ⟨F5, hd6, fun i hi => by rcases hF5 i hi with h | h; exact hFk i h; omega⟩, B6⟩
      case measure => simp [intOf]; omega
    · obtain rfl : k = n := by omega
      have hall : D.uf.take k = D.uf := List.take_of_length_le (by rw [← Hn.out]; exact Nat.le_refl _)
      rw [hall] at hdk
      obtain ⟨gd2, cd2, vu2, ps2, hl⟩ := hdk
      obtain ⟨_, _, _, _, p4, p5, p6, p7, p8⟩ := box_cells (H.out.below B).box
      obtain ⟨_, _, _, _, q4, q5, q6, q7, q8⟩ := box_cells hl.box
      have f4 := hl.box.frozen 4
      have f5 := hl.box.frozen 5
      have f6 := hl.box.frozen 6
      have f7 := hl.box.frozen 7
      have f8 := hl.box.frozen 8
      have b9 := ((((hl.box.store 4 (.bool D.gone)).store 5 (.bool D.arm.set)).store 6 (.int .i64 (D.arm.left : Int))).store 7 (.bool D.fail.set)).store 8 (.int .i64 (D.fail.left : Int))
      have g9 := grown_trans (grown_trans (grown_trans (grown_trans (grown_store wr gc 4 (.bool D.gone)) (grown_store _ gc 5 (.bool D.arm.set))) (grown_store _ gc 6 (.int .i64 (D.arm.left : Int)))) (grown_store _ gc 7 (.bool D.fail.set))) (grown_store _ gc 8 (.int .i64 (D.fail.left : Int)))
      have hl9 := hl.turned (D' := D.copy) g9 b9 rfl rfl H.out.ok.copy
      have hgcw := hFk gc hl.fg
      have B9 : Below w.heap.size w _ := B.grown g9 B.size (fun q e => by cases e; exact hgcw)
      clear b9 g9 hl
      go_wp2
      go_ret
      exact ⟨gc, rfl, F2, ⟨_, _, _, _, hl9⟩, hFk, B9⟩
end Go.Proofs.Ytdkaacjeogifdaa.Dk

/-
  standing, Read.
-/
namespace Go.Proofs.Ytdkaacjeogifdaa.Dk
open Go.RowKit Go.Shelf
attribute [local go_sem] Oper.semAt_some

theorem Lies.wrs {w : World} {g : Nat} {D : DS} {F : Nat → Prop} {gd cd : Nat} {vu : Value} {ps : List (Nat × Nat × Nat)} (h : Lies w g D F gd cd vu ps) (n₀ : Nat) (hn : w.heap.size ≤ n₀) : Wrs n₀ w vu ps := by
  by_cases h0 : 0 < D.uf.length
  · obtain ⟨gv, cu, cur, rfl, _, _, hbv, hc⟩ := h.writes h0
    refine .inr ⟨gv, cu, by rw [h.len], Nat.lt_of_lt_of_le hbv.lt hn, fun j hj => ?_⟩
    have hj' : j < D.uf.length := by rw [← h.len]; exact hj
    obtain ⟨a, b⟩ := hc j hj' hj
    obtain ⟨e, _⟩ := h.each j hj hj'
    exact ⟨by rw [e]; exact a, b⟩
  · obtain ⟨av, cu, rfl⟩ := h.shape
    have e : D.uf.length = 0 := by omega
    exact .inl ⟨av, cu, by rw [e], List.eq_nil_of_length_eq_zero (by rw [h.len, e])⟩

/-- the last write of block nn, met from the end -/
theorem lastOf_met {D : DS} {ps : List (Nat × Nat × Nat)} (nn : Nat) (hl : ps.length = D.uf.length) (he : ∀ k (h : k < ps.length) (h' : k < D.uf.length), ps[k].1 = D.uf[k].1) (k : Nat) (hk : k ≤ ps.length) (hno : ∀ p ∈ downs ps k, p.2.1 ≠ nn) : lastOf D.uf nn D.uf.length = lastOf D.uf nn (D.uf.length - k) := by
  induction k with
  | zero => rfl
  | succ k ih =>
    have h1 := ih (by omega) (fun p hp => hno p (by rw [downs_succ]; exact List.mem_append_left _ hp))
    rw [h1]
    obtain ⟨m, hm⟩ : ∃ m, D.uf.length - k = m + 1 := ⟨D.uf.length - k - 1, by omega⟩
    have hm' : D.uf.length - (k + 1) = m := by omega
    have hlt : m < D.uf.length := by omega
    have hltp : m < ps.length := by omega
    rw [hm, hm', lastOf_succ D.uf nn m hlt]
    have h2 := hno (comes ps k) (by rw [downs_succ]; simp)
    have e1 : comes ps k = (m, ps[m]) := by
      unfold comes
      have : ps.length - 1 - k = m := by omega
      rw [this, List.getElem?_eq_getElem hltp]
      rfl
    rw [e1] at h2
    rw [if_neg (by rw [← he m hltp hlt]; exact h2)]

set_option maxRecDepth 100000 in
set_option maxHeartbeats 2000000 in
theorem standing_at {g : Nat} {w : World} {D : DS} {F : Nat → Prop} {gd cd : Nat} {vu : Value} {ps : List (Nat × Nat × Nat)} (h : Lies w g D F gd cd vu ps) (nn : Nat) (hn : nn < D.nb) (hlim : D.uf.length ≤ 1000000) :
    Calls Try.prog 44 #[.pointer (some ⟨g, 0, none⟩), .int .i64 (nn : Int)] w fun e w' => (∃ b o cap, e = .returned (.slice (some ⟨b, o, none⟩) 4096 cap) ∧ Rd w (some ⟨b, o, none⟩) (D.stand nn)) ∧ Below w.heap.size w w' := by
  refine (callsIn_wide (n := 3)).1 ?_
  obtain ⟨_, c1, c2, _⟩ := box_cells h.box
  have hglt := h.box.lt
  obtain ⟨av, cu, rfl⟩ := h.shape
  have B0 := ((Below.refl w.heap.size w).alloc (Nat.le_refl _) (.cells #[.int .i64 (nn : Int)] 3)).alloc (by simp) (.cells #[.slice none 0 0] 26)
  have k2 := (B0.cell (p := ⟨g, 2, none⟩) hglt).trans c2
  have hstand : Hid (D.stand nn = (lastOf D.uf nn D.uf.length).getD (blk D.dur nn)) := rfl
  have hmet : Hid _ := @lastOf_met D ps nn h.len (fun k h1 h2 => (h.each k h1 h2).1)
  have hdur : Hid (Rd w (some ⟨gd, 0 + nn * 4096, none⟩) (blk D.dur nn)) := h.dur.rd.part (nn * 4096) 4096
  have hcd : D.nb * 4096 ≤ cd ∧ cd ≤ 9223372036854775807 := by
    obtain ⟨_, _, q1, q2, _⟩ := h.dur
    rw [h.ok.len] at q1
    unfold maxLen at q2
    omega
  have hhi := h.ok.hi
  generalize D.stand nn = ST at hstand ⊢
  refine callsIn_of_wp_marks Try.func44 rfl trivial ?_ rfl
  simp only [Try.ntmps44, List.size_toArray, List.length_cons, List.length_nil, Nat.reduceAdd, Nat.reduceSub, Array.replicate_succ, Array.replicate_zero, List.push_toArray, List.append_toArray, List.nil_append, List.cons_append]
  gi_wp2_with fail
  refine ⟨trivial, ?_⟩
  refine (back_in 2 _ _ _ _).mono ?_
  rintro e w' ⟨rfl, rfl⟩
  gi_wp2_with fail
  have bN := (Box.new w #[.int .i64 (nn : Int)] 3)
  have bR := Box.new (w.alloc (.cells #[.int .i64 (nn : Int)] 3)) #[.slice none 0 0] 26
  have bS := Box.new ((w.alloc (.cells #[.int .i64 (nn : Int)] 3)).alloc (.cells #[.slice none 0 0] 26)) #[.slice av D.uf.length cu] 85
  have s1 : (w.alloc (.cells #[.int .i64 (nn : Int)] 3)).heap.size = w.heap.size + 1 := by simp
  have s2 : ((w.alloc (.cells #[.int .i64 (nn : Int)] 3)).alloc (.cells #[.slice none 0 0] 26)).heap.size = w.heap.size + 2 := by simp
  rw [s1] at bR
  rw [s2] at bS
  have B1 := B0.alloc B0.size (.cells #[.slice av D.uf.length cu] 85)
  have bN2 := (bN.alloc (.cells #[.slice none 0 0] 26)).alloc (.cells #[.slice av D.uf.length cu] 85)
  have bR2 := bR.alloc (.cells #[.slice av D.uf.length cu] 85)
  obtain ⟨W0, hW0⟩ : ∃ W, W = ((w.alloc (.cells #[.int .i64 (nn : Int)] 3)).alloc (.cells #[.slice none 0 0] 26)).alloc (.cells #[.slice av D.uf.length cu] 85) := ⟨_, rfl⟩
  have s3 : W0.heap.size = w.heap.size + 3 := by rw [hW0]; simp
  have hs3 : w.heap.size + 3 ≤ W0.heap.size := by omega
  rw [← hW0] at bN2 bR2 bS B1 ⊢
  clear bN bR s1 s2 B0 hW0 k2
  have hwr := (h.wrs (w.heap.size + 3) (by omega))
  have hwr0 : Wrs (w.heap.size + 3) W0 (.slice av D.uf.length cu) ps := by
    rcases h.wrs w.heap.size (Nat.le_refl _) with q | ⟨b, cap, hv, hlt, hc⟩
    · exact .inl q
    · exact .inr ⟨b, cap, hv, by omega, fun j hj => by
        obtain ⟨q0, q1⟩ := hc j hj
        exact ⟨(B1.cell (p := ⟨b, 0 + j * 2, none⟩) hlt).trans q0, (B1.cell (p := ⟨b, 0 + j * 2 + 1, none⟩) hlt).trans q1⟩⟩
  clear hwr
  refine wpIn_rangeFunc_ownH (α := Wr) rfl (by omega) (gf := 77) (lb := #[.pointer (some ⟨w.heap.size + 2, 0, none⟩)]) rfl trivial (enters_of Try.func77 (by kernel_rfl) rfl)
    (back_stops (3 - 1) (by omega) (w.heap.size + 2) (w.heap.size + 3) _ ps (by rw [h.len]; exact hlim) W0 (by omega) hs3 (bS.cell 0) hwr0) belowK_t (belowK_b (by omega)) (Below.refl _ _) (fun _ => rfl)
    (fun pre W => ((∀ p ∈ pre, p.2.1 ≠ nn) ∧ W.cell? ⟨w.heap.size, 0, none⟩ = some (.int .i64 (nn : Int)) ∧ W.cell? ⟨w.heap.size + 1, 0, none⟩ = some (.slice none 0 0) ∧ W.frozen? ⟨w.heap.size + 1, 0, none⟩ = false ∧ w.heap.size + 3 ≤ W.heap.size) ∧ Below w.heap.size w W)
    (fun c pre W => (c = .ret ∧ ∃ ini last, pre = ini ++ [last] ∧ (∀ p ∈ ini, p.2.1 ≠ nn) ∧ last.2.1 = nn ∧ W.cell? ⟨w.heap.size + 1, 0, none⟩ = some (.slice (some ⟨last.2.2.1, 0, none⟩) 4096 last.2.2.2)) ∧ Below w.heap.size w W)
    (OwnFrom.and (Own.from (fun s A B row hs hg hr => ⟨hs.1, cell_kept hs.2.1 hg hr, cell_kept hs.2.2.1 hg hr, (frozen_kept hs.2.2.1 hg hr).trans hs.2.2.2.1, Nat.le_trans hs.2.2.2.2 hg.size⟩) _) (ownFrom_below (Nat.le_refl _) (by omega)))
    (fun c => OwnFrom.and (Own.from (fun s A B row hs hg hr => by obtain ⟨hc, ini, last, e1, e2, e3, e4⟩ := hs; exact ⟨hc, ini, last, e1, e2, e3, cell_kept e4 hg hr⟩) _) (ownFrom_below (Nat.le_refl _) (by omega)))
    ⟨⟨by simp, bN2.cell 0, bR2.cell 0, bR2.frozen 0, hs3⟩, B1⟩
    (fun x a' W => ∃ Bx, W.cell? ⟨Bx, 0, none⟩ = some (.int .i64 (x.2.1 : Int)) ∧ W.cell? ⟨Bx, 1, none⟩ = some (.slice (some ⟨x.2.2.1, 0, none⟩) 4096 x.2.2.2) ∧ a' = { tmps := #[.pointer (some ⟨g, 0, none⟩), .int .i64 (nn : Int), undef, .pointer (some ⟨w.heap.size, 0, none⟩), .pointer (some ⟨w.heap.size + 1, 0, none⟩), undef, .pointer (some ⟨Bx, 0, none⟩), .pointer (some ⟨g, 0, none⟩), .pointer (some ⟨g, 0, none⟩), .pointer (some ⟨g, 2, none⟩), .slice av D.uf.length cu, .func (.func 77) #[] #[.pointer (some ⟨w.heap.size + 2, 0, none⟩)], .int .i64 (x.1 : Int), (.agg #[.int .i64 (x.2.1 : Int), .slice (some ⟨x.2.2.1, 0, none⟩) 4096 x.2.2.2]), undef, undef, undef, undef, undef, undef, undef, undef, undef, undef, undef, undef], defers := [] })
    (fun x a' => Own.from (fun s A B row hs hg hr => by obtain ⟨Bx, e1, e2, e3⟩ := hs; exact ⟨Bx, cell_kept e1 hg hr, cell_kept e2 hg hr, e3⟩) _) ?assign ?body ?done ?stop
  case assign =>
    rintro l pre x W K ⟨⟨hp, hcn, hcr, hfr, hsz⟩, hB⟩ hK
    dsimp only [encW]
    have bAl := (Below.refl W.heap.size W).alloc (Nat.le_refl _) (.cells #[.int .i64 (x.2.1 : Int), .slice (some ⟨x.2.2.1, 0, none⟩) 4096 x.2.2.2] 93)
    gi_wp2
    refine hK _ _ ((KeepsOthers.alloc _ _).from _) ((Below.refl _ W).alloc hsz _) ⟨⟨hp, (bAl.cell (p := ⟨w.heap.size, 0, none⟩) (by show w.heap.size < _; omega)).trans hcn, (bAl.cell (p := ⟨w.heap.size + 1, 0, none⟩) (by show w.heap.size + 1 < _; omega)).trans hcr, (bAl.frozen (p := ⟨w.heap.size + 1, 0, none⟩) (by show w.heap.size + 1 < _; omega)).trans hfr, by simp; omega⟩, hB.alloc hB.size _⟩ ⟨W.heap.size, ?_, ?_, rfl⟩
    · exact (Box.new W #[.int .i64 (x.2.1 : Int), .slice (some ⟨x.2.2.1, 0, none⟩) 4096 x.2.2.2] 93).cell 0
    · exact (Box.new W #[.int .i64 (x.2.1 : Int), .slice (some ⟨x.2.2.1, 0, none⟩) 4096 x.2.2.2] 93).cell 1
  case body =>
    rintro l pre x a' W hl ⟨r, hr⟩ ⟨⟨hp, hcn, hcr, hfr, hsz⟩, hB⟩ ⟨Bx, e1, e2, rfl⟩ hlt
    by_cases hx : x.2.1 = nn
    · have hx' : ((x.2.1 : Int) == (nn : Int)) = true := by rw [hx]; simp
      gi_wp2
      exact ⟨(KeepsOthers.setCell _ _ _).from _, ⟨rfl, pre, x, rfl, hp, hx, World.cell?_setCell_same' _ _ _ (by rw [hcr]; rfl)⟩, hB.setCell (p := ⟨w.heap.size + 1, 0, none⟩) (by simp) _⟩
    · have hx' : ((x.2.1 : Int) == (nn : Int)) = false := by simp; omega
      gi_wp2
      exact ⟨KeepsFrom.refl _ _, Below.refl _ _, ⟨fun p hp' => (List.mem_append.1 hp').elim (hp p) (fun e => by simp at e; subst e; exact hx), hcn, hcr, hfr, hsz⟩, hB⟩
  case done =>
    rintro D' ys W hD rfl ⟨⟨hne, hcn, hcr, hfr, hsz⟩, hB⟩ hK
    have hST : Hid (ST = blk D.dur nn) := by
      have h1 := hmet.out ps.length (Nat.le_refl _) hne
      rw [h.len, Nat.sub_self] at h1
      show _ = _
      rw [hstand.out, h1]
      rfl
    have d1 := (hB.cell (p := ⟨g, 1, none⟩) hglt).trans c1
    gi_wp2_with fail
    refine wpIn_wide.2 ?_
    refine wp_region_any (by kernel_rfl) ?_
    change wpAny _ _ _ _ _ _ _ (World.drew _)
    refine wpAny_of_class (C := fun _ _ => True) _ _ _ _ ?_
    have d1d : W.drew.cell? ⟨g, 1, none⟩ = some (.slice (some ⟨gd, 0, none⟩) (D.nb * 4096) cd) := d1
    have hcnd : W.drew.cell? ⟨w.heap.size, 0, none⟩ = some (.int .i64 (nn : Int)) := hcn
    have hcrd : W.drew.cell? ⟨w.heap.size + 1, 0, none⟩ = some (.slice none 0 0) := hcr
    have hfrd : W.drew.frozen? ⟨w.heap.size + 1, 0, none⟩ = false := hfr
    refine wpAnyC_two (i := 0) (j := 4) (by kernel_rfl) rfl rfl (fun K hK2 => ?_) (fun K hK2 => ?_)
    · skip
      go_simp
      refine hK2 _ _ ⟨trivial, ?_⟩
      clear hK2 K
      refine wpAnyC_two (i := 1) (j := 4) (by kernel_rfl) rfl rfl (fun K hK2 => ?_) (fun K hK2 => ?_)
      · skip
        go_simp
        refine hK2 _ _ ⟨trivial, ?_⟩
        clear hK2 K
        refine wpAnyC_two (i := 2) (j := 4) (by kernel_rfl) rfl rfl (fun K hK2 => ?_) (fun K hK2 => ?_)
        · skip
          go_simp
          refine hK2 _ _ ⟨trivial, ?_⟩
          clear hK2 K
          refine wpAnyC_two (i := 3) (j := 4) (by kernel_rfl) rfl rfl (fun K hK2 => ?_) (fun K hK2 => ?_)
          · skip
            go_simp
            refine hK2 _ _ ⟨trivial, ?_⟩
            clear hK2 K
            refine wpAnyC_one (i := 4) (by kernel_rfl) rfl (fun K hK2 => ?_)
            go_simp
            refine hK2 _ _ ⟨trivial, ?_⟩
            clear hK2 K
            refine wpAnyC_one (i := 5) (by kernel_rfl) rfl (fun K hK2 => ?_)
            go_simp
            refine (part_i gd 0 (D.nb * 4096) cd nn 4096 _ _ W.drew rfl rfl (by omega) (by omega) (by omega)).mono ?_
            rintro e w' ⟨rfl, rfl⟩
            refine hK2 _ _ ⟨trivial, ?_⟩
            clear hK2 K
            refine wpAnyC_one (i := 6) (by kernel_rfl) rfl (fun K hK2 => ?_)
            go_simp
            refine hK2 _ _ ⟨trivial, ?_⟩
            clear hK2 K
            refine wpAnyC_done (by kernel_rfl) ?_ _
            obtain ⟨V, hV⟩ : ∃ V, V = (W.setCell ⟨w.heap.size + 1, 0, none⟩ (.slice (some ⟨gd, nn * 4096, none⟩) 4096 4096)).drew := ⟨_, rfl⟩
            have hK' : V.heap[D']? = some (.deferred (some [])) := by rw [hV]; exact (KeepsOthers.setCell W ⟨w.heap.size + 1, 0, none⟩ (.slice (some ⟨gd, nn * 4096, none⟩) 4096 4096)).same D' _ hK rfl
            have hcV : V.cell? ⟨w.heap.size + 1, 0, none⟩ = some (.slice (some ⟨gd, nn * 4096, none⟩) 4096 4096) := by rw [hV]; exact World.cell?_setCell_same' W _ _ (by rw [hcr]; rfl)
            have hBV : Below w.heap.size w V := by rw [hV]; exact (hB.setCell (p := ⟨w.heap.size + 1, 0, none⟩) (by simp) _).drew
            rw [← hV]
            clear hV
            have hc5 := cell_kept hcV (grownBy_putObj' _ D' (.deferred none)) (fun r e => by cases e; exact ⟨_, hK', rfl⟩)
            gi_wp2
            refine ⟨by simp, .inl ⟨_, _, rfl, run_takeDeferred hK', ?_⟩⟩
            refine ⟨.slice (some ⟨gd, nn * 4096, none⟩) 4096 4096, ?_, ⟨gd, nn * 4096, 4096, rfl, by rw [hST.out]; have := hdur.out; rw [Nat.zero_add] at this; exact this⟩, hBV.trans (belowK_b (w := w) (Nat.le_refl _) _ D' _ _ (by omega) hK' rfl rfl)⟩
            simp [results, Try.f44, go_sem, hc5]
          · skip
            go_simp
            refine hK2 _ _ ⟨trivial, ?_⟩
            clear hK2 K
            refine wpAnyC_one (i := 3) (by kernel_rfl) rfl (fun K hK2 => ?_)
            go_simp
            refine hK2 _ _ ⟨trivial, ?_⟩
            clear hK2 K
            refine wpAnyC_one (i := 5) (by kernel_rfl) rfl (fun K hK2 => ?_)
            go_simp
            refine (part_i gd 0 (D.nb * 4096) cd nn 4096 _ _ W.drew rfl rfl (by omega) (by omega) (by omega)).mono ?_
            rintro e w' ⟨rfl, rfl⟩
            refine hK2 _ _ ⟨trivial, ?_⟩
            clear hK2 K
            refine wpAnyC_one (i := 6) (by kernel_rfl) rfl (fun K hK2 => ?_)
            go_simp
            refine hK2 _ _ ⟨trivial, ?_⟩
            clear hK2 K
            refine wpAnyC_done (by kernel_rfl) ?_ _
            obtain ⟨V, hV⟩ : ∃ V, V = (W.setCell ⟨w.heap.size + 1, 0, none⟩ (.slice (some ⟨gd, nn * 4096, none⟩) 4096 4096)).drew := ⟨_, rfl⟩
            have hK' : V.heap[D']? = some (.deferred (some [])) := by rw [hV]; exact (KeepsOthers.setCell W ⟨w.heap.size + 1, 0, none⟩ (.slice (some ⟨gd, nn * 4096, none⟩) 4096 4096)).same D' _ hK rfl
            have hcV : V.cell? ⟨w.heap.size + 1, 0, none⟩ = some (.slice (some ⟨gd, nn * 4096, none⟩) 4096 4096) := by rw [hV]; exact World.cell?_setCell_same' W _ _ (by rw [hcr]; rfl)
            have hBV : Below w.heap.size w V := by rw [hV]; exact (hB.setCell (p := ⟨w.heap.size + 1, 0, none⟩) (by simp) _).drew
            rw [← hV]
            clear hV
            have hc5 := cell_kept hcV (grownBy_putObj' _ D' (.deferred none)) (fun r e => by cases e; exact ⟨_, hK', rfl⟩)
            gi_wp2
            refine ⟨by simp, .inl ⟨_, _, rfl, run_takeDeferred hK', ?_⟩⟩
            refine ⟨.slice (some ⟨gd, nn * 4096, none⟩) 4096 4096, ?_, ⟨gd, nn * 4096, 4096, rfl, by rw [hST.out]; have := hdur.out; rw [Nat.zero_add] at this; exact this⟩, hBV.trans (belowK_b (w := w) (Nat.le_refl _) _ D' _ _ (by omega) hK' rfl rfl)⟩
            simp [results, Try.f44, go_sem, hc5]
        · skip
          go_simp
          refine hK2 _ _ ⟨trivial, ?_⟩
          clear hK2 K
          refine wpAnyC_one (i := 2) (by kernel_rfl) rfl (fun K hK2 => ?_)
          go_simp
          refine hK2 _ _ ⟨trivial, ?_⟩
          clear hK2 K
          refine wpAnyC_one (i := 3) (by kernel_rfl) rfl (fun K hK2 => ?_)
          go_simp
          refine hK2 _ _ ⟨trivial, ?_⟩
          clear hK2 K
          refine wpAnyC_one (i := 5) (by kernel_rfl) rfl (fun K hK2 => ?_)
          go_simp
          refine (part_i gd 0 (D.nb * 4096) cd nn 4096 _ _ W.drew rfl rfl (by omega) (by omega) (by omega)).mono ?_
          rintro e w' ⟨rfl, rfl⟩
          refine hK2 _ _ ⟨trivial, ?_⟩
          clear hK2 K
          refine wpAnyC_one (i := 6) (by kernel_rfl) rfl (fun K hK2 => ?_)
          go_simp
          refine hK2 _ _ ⟨trivial, ?_⟩
          clear hK2 K
          refine wpAnyC_done (by kernel_rfl) ?_ _
          obtain ⟨V, hV⟩ : ∃ V, V = (W.setCell ⟨w.heap.size + 1, 0, none⟩ (.slice (some ⟨gd, nn * 4096, none⟩) 4096 4096)).drew := ⟨_, rfl⟩
          have hK' : V.heap[D']? = some (.deferred (some [])) := by rw [hV]; exact (KeepsOthers.setCell W ⟨w.heap.size + 1, 0, none⟩ (.slice (some ⟨gd, nn * 4096, none⟩) 4096 4096)).same D' _ hK rfl
          have hcV : V.cell? ⟨w.heap.size + 1, 0, none⟩ = some (.slice (some ⟨gd, nn * 4096, none⟩) 4096 4096) := by rw [hV]; exact World.cell?_setCell_same' W _ _ (by rw [hcr]; rfl)
          have hBV : Below w.heap.size w V := by rw [hV]; exact (hB.setCell (p := ⟨w.heap.size + 1, 0, none⟩) (by simp) _).drew
          rw [← hV]
          clear hV
          have hc5 := cell_kept hcV (grownBy_putObj' _ D' (.deferred none)) (fun r e => by cases e; exact ⟨_, hK', rfl⟩)
          gi_wp2
          refine ⟨by simp, .inl ⟨_, _, rfl, run_takeDeferred hK', ?_⟩⟩
          refine ⟨.slice (some ⟨gd, nn * 4096, none⟩) 4096 4096, ?_, ⟨gd, nn * 4096, 4096, rfl, by rw [hST.out]; have := hdur.out; rw [Nat.zero_add] at this; exact this⟩, hBV.trans (belowK_b (w := w) (Nat.le_refl _) _ D' _ _ (by omega) hK' rfl rfl)⟩
          simp [results, Try.f44, go_sem, hc5]
      · skip
        go_simp
        refine hK2 _ _ ⟨trivial, ?_⟩
        clear hK2 K
        refine wpAnyC_one (i := 1) (by kernel_rfl) rfl (fun K hK2 => ?_)
        go_simp
        refine hK2 _ _ ⟨trivial, ?_⟩
        clear hK2 K
        refine wpAnyC_one (i := 2) (by kernel_rfl) rfl (fun K hK2 => ?_)
        go_simp
        refine hK2 _ _ ⟨trivial, ?_⟩
        clear hK2 K
        refine wpAnyC_one (i := 3) (by kernel_rfl) rfl (fun K hK2 => ?_)
        go_simp
        refine hK2 _ _ ⟨trivial, ?_⟩
        clear hK2 K
        refine wpAnyC_one (i := 5) (by kernel_rfl) rfl (fun K hK2 => ?_)
        go_simp
        refine (part_i gd 0 (D.nb * 4096) cd nn 4096 _ _ W.drew rfl rfl (by omega) (by omega) (by omega)).mono ?_
        rintro e w' ⟨rfl, rfl⟩
        refine hK2 _ _ ⟨trivial, ?_⟩
        clear hK2 K
        refine wpAnyC_one (i := 6) (by kernel_rfl) rfl (fun K hK2 => ?_)
        go_simp
        refine hK2 _ _ ⟨trivial, ?_⟩
        clear hK2 K
        refine wpAnyC_done (by kernel_rfl) ?_ _
        obtain ⟨V, hV⟩ : ∃ V, V = (W.setCell ⟨w.heap.size + 1, 0, none⟩ (.slice (some ⟨gd, nn * 4096, none⟩) 4096 4096)).drew := ⟨_, rfl⟩
        have hK' : V.heap[D']? = some (.deferred (some [])) := by rw [hV]; exact (KeepsOthers.setCell W ⟨w.heap.size + 1, 0, none⟩ (.slice (some ⟨gd, nn * 4096, none⟩) 4096 4096)).same D' _ hK rfl
        have hcV : V.cell? ⟨w.heap.size + 1, 0, none⟩ = some (.slice (some ⟨gd, nn * 4096, none⟩) 4096 4096) := by rw [hV]; exact World.cell?_setCell_same' W _ _ (by rw [hcr]; rfl)
        have hBV : Below w.heap.size w V := by rw [hV]; exact (hB.setCell (p := ⟨w.heap.size + 1, 0, none⟩) (by simp) _).drew
        rw [← hV]
        clear hV
        have hc5 := cell_kept hcV (grownBy_putObj' _ D' (.deferred none)) (fun r e => by cases e; exact ⟨_, hK', rfl⟩)
        gi_wp2
        refine ⟨by simp, .inl ⟨_, _, rfl, run_takeDeferred hK', ?_⟩⟩
        refine ⟨.slice (some ⟨gd, nn * 4096, none⟩) 4096 4096, ?_, ⟨gd, nn * 4096, 4096, rfl, by rw [hST.out]; have := hdur.out; rw [Nat.zero_add] at this; exact this⟩, hBV.trans (belowK_b (w := w) (Nat.le_refl _) _ D' _ _ (by omega) hK' rfl rfl)⟩
        simp [results, Try.f44, go_sem, hc5]
    · skip
      go_simp
      refine hK2 _ _ ⟨trivial, ?_⟩
      clear hK2 K
      refine wpAnyC_one (i := 0) (by kernel_rfl) rfl (fun K hK2 => ?_)
      go_simp
      refine hK2 _ _ ⟨trivial, ?_⟩
      clear hK2 K
      refine wpAnyC_one (i := 1) (by kernel_rfl) rfl (fun K hK2 => ?_)
      go_simp
      refine hK2 _ _ ⟨trivial, ?_⟩
      clear hK2 K
      refine wpAnyC_one (i := 2) (by kernel_rfl) rfl (fun K hK2 => ?_)
      go_simp
      refine hK2 _ _ ⟨trivial, ?_⟩
      clear hK2 K
      refine wpAnyC_one (i := 3) (by kernel_rfl) rfl (fun K hK2 => ?_)
      go_simp
      refine hK2 _ _ ⟨trivial, ?_⟩
      clear hK2 K
      refine wpAnyC_one (i := 5) (by kernel_rfl) rfl (fun K hK2 => ?_)
      go_simp
      refine (part_i gd 0 (D.nb * 4096) cd nn 4096 _ _ W.drew rfl rfl (by omega) (by omega) (by omega)).mono ?_
      rintro e w' ⟨rfl, rfl⟩
      refine hK2 _ _ ⟨trivial, ?_⟩
      clear hK2 K
      refine wpAnyC_one (i := 6) (by kernel_rfl) rfl (fun K hK2 => ?_)
      go_simp
      refine hK2 _ _ ⟨trivial, ?_⟩
      clear hK2 K
      refine wpAnyC_done (by kernel_rfl) ?_ _
      obtain ⟨V, hV⟩ : ∃ V, V = (W.setCell ⟨w.heap.size + 1, 0, none⟩ (.slice (some ⟨gd, nn * 4096, none⟩) 4096 4096)).drew := ⟨_, rfl⟩
      have hK' : V.heap[D']? = some (.deferred (some [])) := by rw [hV]; exact (KeepsOthers.setCell W ⟨w.heap.size + 1, 0, none⟩ (.slice (some ⟨gd, nn * 4096, none⟩) 4096 4096)).same D' _ hK rfl
      have hcV : V.cell? ⟨w.heap.size + 1, 0, none⟩ = some (.slice (some ⟨gd, nn * 4096, none⟩) 4096 4096) := by rw [hV]; exact World.cell?_setCell_same' W _ _ (by rw [hcr]; rfl)
      have hBV : Below w.heap.size w V := by rw [hV]; exact (hB.setCell (p := ⟨w.heap.size + 1, 0, none⟩) (by simp) _).drew
      rw [← hV]
      clear hV
      have hc5 := cell_kept hcV (grownBy_putObj' _ D' (.deferred none)) (fun r e => by cases e; exact ⟨_, hK', rfl⟩)
      gi_wp2
      refine ⟨by simp, .inl ⟨_, _, rfl, run_takeDeferred hK', ?_⟩⟩
      refine ⟨.slice (some ⟨gd, nn * 4096, none⟩) 4096 4096, ?_, ⟨gd, nn * 4096, 4096, rfl, by rw [hST.out]; have := hdur.out; rw [Nat.zero_add] at this; exact this⟩, hBV.trans (belowK_b (w := w) (Nat.le_refl _) _ D' _ _ (by omega) hK' rfl rfl)⟩
      simp [results, Try.f44, go_sem, hc5]
  case stop =>
    rintro D' c pre W hD ⟨k, hk, rfl⟩ ⟨⟨rfl, ini, last, e1, e2, e3, hcr⟩, hB⟩ hK
    gi_wp2
    refine ⟨by simp, .inl ⟨_, _, rfl, run_takeDeferred hK, ?_⟩⟩
    have hc5 := cell_kept hcr (grownBy_putObj' _ D' (.deferred none)) (fun r e => by cases e; exact ⟨_, hK, rfl⟩)
    obtain ⟨k', rfl⟩ : ∃ k', k = k' + 1 := by
      cases k with
      | zero => simp [downs] at e1
      | succ k' => exact ⟨k', rfl⟩
    rw [downs_succ] at e1
    obtain ⟨rfl, e5⟩ := List.append_inj' e1 rfl
    obtain rfl : comes ps k' = last := by simpa using e5
    obtain ⟨m, hm⟩ : ∃ m, m = ps.length - 1 - k' := ⟨_, rfl⟩
    have hmp : m < ps.length := by omega
    have hmu : m < D.uf.length := by rw [← h.len]; exact hmp
    have hcm : comes ps k' = (m, ps[m]) := by
      unfold comes
      rw [← hm, List.getElem?_eq_getElem hmp]
      rfl
    obtain ⟨q1, q2, _⟩ := h.each m hmp hmu
    have hST : ST = D.uf[m].2 := by
      have h1 := hmet.out k' (by omega) e2
      have h2 : D.uf.length - k' = m + 1 := by rw [← h.len]; omega
      rw [h2, lastOf_succ D.uf nn m hmu, if_pos (by rw [← q1]; rw [hcm] at e3; exact e3)] at h1
      rw [hstand.out, h1]
      rfl
    rw [hcm] at hc5
    refine ⟨.slice (some ⟨ps[m].2.1, 0, none⟩) 4096 ps[m].2.2, ?_, ⟨ps[m].2.1, 0, ps[m].2.2, rfl, by rw [hST]; exact q2.rd⟩, hB.trans (belowK_b (w := w) (Nat.le_refl _) W D' _ _ (by omega) hK rfl rfl)⟩
    simp [results, Try.f44, go_sem, hc5]

theorem stand_length {D : DS} (h : D.Ok) (nn : Nat) (hn : nn < D.nb) : (D.stand nn).length = 4096 := by
  have key : ∀ k, k ≤ D.uf.length → ∀ x, lastOf D.uf nn k = some x → x.length = 4096 := by
    intro k
    induction k with
    | zero => intro _ x hx; simp [lastOf] at hx
    | succ k ih =>
      intro hk x hx
      rw [lastOf_succ D.uf nn k (by omega)] at hx
      split at hx
      · have := (h.at k (by omega)).2
        simp at hx
        rw [← hx]; exact this
      · exact ih (by omega) x hx
  unfold DS.stand
  cases e : lastOf D.uf nn D.uf.length with
  | none => exact blk_length _ _ (h.room hn)
  | some x => exact key _ (Nat.le_refl _) x e

/-- Read -/
theorem read_at {g : Nat} {w : World} {D : DS} {F : Nat → Prop} (hd : IsDisk w g D F) (nn : Nat) (hn : nn < D.nb) (hg : D.gone = false) (hlim : D.uf.length ≤ 1000000) :
    Calls Try.prog 14 #[.pointer (some ⟨g, 0, none⟩), .int .i64 (nn : Int)] w fun e w' => ∃ gr cr, e = .returned (.tuple #[.slice (some ⟨gr, 0, none⟩) 4096 cr, .int .i64 0]) ∧ w.heap.size ≤ gr ∧ RowB w' gr cr (D.stand nn) ∧ Below w.heap.size w w' := by
  obtain ⟨gd, cd, vu, ps, h⟩ := hd
  have c := isMade_at h
  have cH := has_at h (nn : Int)
  have hhas : D.has (nn : Int) = true := by simp [DS.has]; omega
  rw [hhas] at cH
  have cS := standing_at h nn hn hlim
  obtain ⟨_, _, _, _, c4, _⟩ := box_cells h.box
  rw [hg] at c4
  have Hlen : Hid _ := stand_length h.ok nn hn
  generalize D.stand nn = ST at cS Hlen ⊢
  go_enter Try.func14, Try.ntmps14
  go_wp2_with fail
  refine c.mono ?_
  rintro e w' ⟨rfl, rfl⟩
  go_wp2_with fail
  refine cH.mono ?_
  rintro e w' ⟨rfl, rfl⟩
  go_wp2_with fail
  refine cS.mono ?_
  rintro e w1 ⟨⟨b, o, cap, rfl, hr⟩, b1⟩
  clear c cH cS
  go_wp2_with fail
  refine (clone_at cap 4096 ⟨b, o, none⟩ ST w1 Hlen.out (by omega) (by omega) (hr.below b1 (Nat.le_refl _))).mono ?_
  rintro e w2 ⟨gr, cr, rfl, hgr, r2, b2⟩
  have B2 := b1.trans (b2.mono b1.size)
  have z1 := b1.size
  clear b1 b2
  go_wp2
  go_ret2
  exact ⟨gr, cr, rfl, by omega, r2, B2⟩

theorem read_bad {g : Nat} {w : World} {D : DS} {F : Nat → Prop} (hd : IsDisk w g D F) (n : Int) (hE : D.readE n ≠ 0) :
    Calls Try.prog 14 #[.pointer (some ⟨g, 0, none⟩), .int .i64 n] w fun e w' => e = .returned (.tuple #[.slice none 0 0, .int .i64 (D.readE n : Int)]) ∧ w = w' := by
  obtain ⟨gd, cd, vu, ps, h⟩ := hd
  have c := isMade_at h
  have cH := has_at h n
  obtain ⟨_, _, _, _, c4, _⟩ := box_cells h.box
  cases hh : D.has n with
  | false =>
    have e : D.readE n = 70 := by simp [DS.readE, hh]
    rw [e]
    rw [hh] at cH
    go_enter Try.func14, Try.ntmps14
    go_wp2_with fail
    refine c.mono ?_
    rintro e w' ⟨rfl, rfl⟩
    go_wp2_with fail
    refine cH.mono ?_
    rintro e w' ⟨rfl, rfl⟩
    go_wp2
    go_ret2
    exact ⟨rfl, rfl⟩
  | true =>
    cases hg : D.gone with
    | false => exact absurd (by simp [DS.readE, hh, hg]) hE
    | true =>
      have e : D.readE n = 6 := by simp [DS.readE, hh, hg]
      rw [e]
      rw [hh] at cH
      rw [hg] at c4
      go_enter Try.func14, Try.ntmps14
      go_wp2_with fail
      refine c.mono ?_
      rintro e w' ⟨rfl, rfl⟩
      go_wp2_with fail
      refine cH.mono ?_
      rintro e w' ⟨rfl, rfl⟩
      go_wp2
      go_ret2
      exact ⟨rfl, rfl⟩
end Go.Proofs.Ytdkaacjeogifdaa.Dk

/-
  Made: so many bytes, out of a number.
-/
namespace Go.Proofs.Ytdkaacjeogifdaa.Dk
open Go.RowKit

def nx (x : Int) : Int := IntKind.u64.wrap (IntKind.u64.wrap (x * 2862933555777941757) + 3037000493)
/-- the number behind k bytes -/
def seedAt (s : Int) : Nat → Int
  | 0 => nx (IntKind.u64.wrap s)
  | k + 1 => if k % 8 = 0 then nx (seedAt s k) else seedAt s k
def byteAt (s : Int) (k : Nat) : UInt8 := UInt8.ofNat (seedAt s (k + 1) / 1099511627776 % 256).toNat
def madeK (s : Int) (n : Nat) : Nat → List UInt8
  | 0 => nought n
  | k + 1 => (madeK s n k).set k (byteAt s k)
def madeL (s : Int) (n : Nat) : List UInt8 := madeK s n n
theorem madeK_length (s : Int) (n : Nat) : ∀ k, (madeK s n k).length = n
  | 0 => nought_length n
  | k + 1 => by rw [madeK, List.length_set, madeK_length s n k]
theorem byteAt_eq (s : Int) (k : Nat) : ((byteAt s k).toNat : Int) = seedAt s (k + 1) / 1099511627776 % 256 := by
  unfold byteAt
  have h1 : 0 ≤ seedAt s (k + 1) / 1099511627776 % 256 := Int.emod_nonneg _ (by decide)
  have h2 : seedAt s (k + 1) / 1099511627776 % 256 < 256 := Int.emod_lt_of_pos _ (by decide)
  rw [UInt8.toNat_ofNat']
  omega
theorem seedAt_step (s : Int) (k : Nat) (h : k % 8 = 0) : seedAt s (k + 1) = nx (seedAt s k) := by rw [seedAt, if_pos h]
theorem seedAt_same (s : Int) (k : Nat) (h : ¬ k % 8 = 0) : seedAt s (k + 1) = seedAt s k := by rw [seedAt, if_neg h]
theorem nx_range (x : Int) : 0 ≤ nx x ∧ nx x ≤ 18446744073709551615 := by unfold nx; rw [IntKind.wrap_u64]; omega
theorem seedAt_range (s : Int) : ∀ k, 0 ≤ seedAt s k ∧ seedAt s k ≤ 18446744073709551615
  | 0 => nx_range _
  | k + 1 => by rw [seedAt]; split; exact nx_range _; exact seedAt_range s k

set_option maxRecDepth 100000 in
set_option maxHeartbeats 2000000 in
theorem made_at (s : Int) (n : Nat) (w : World) (hn : n ≤ 1000000) :
    Calls Try.prog 16 #[.int .i64 s, .int .i64 (n : Int)] w fun e w' => e = .returned (.slice (some ⟨w.heap.size, 0, none⟩) n n) ∧ Own w' w.heap.size (madeL s n) ∧ Below w.heap.size w w' := by
  have hm : ∀ u : World, (Instr.makeSlice 26 (.int .i64 (n : Int)) (.int .i64 (n : Int))).run Try.prog u = .ok (.slice (some ⟨u.heap.size, 0, none⟩) n n) (u.alloc (.cells (bcs (madeK s n 0)).toArray 5)) := make_run n (by omega)
  have o0 := own_lit w (madeK s n 0)
  have B0 := (Below.refl w.heap.size w).alloc (Nat.le_refl _) (.cells (bcs (madeK s n 0)).toArray 5)
  obtain ⟨U, hU⟩ : ∃ U, U = w.alloc (.cells (bcs (madeK s n 0)).toArray 5) := ⟨_, rfl⟩
  rw [← hU] at o0 B0
  have HU : Hid _ := hU
  clear hU
  go_enter Try.func16, Try.ntmps16
  go_wp2_with fail
  rw [← HU.out]
  go_loopw [6, 7] (fun x i wr => ∃ k : Nat, k ≤ n ∧ x = .int .u64 (seedAt s k) ∧ i = .int .i64 k ∧ Own wr w.heap.size (madeK s n k) ∧ Below w.heap.size w wr) (fun _ i _ => n - (intOf i).toNat)
  case atStart => exact ⟨0, Nat.zero_le _, rfl, rfl, o0, B0⟩
  case round =>
    obtain ⟨k, hk, rfl, rfl, o, B⟩ := hrel
    clear o0 B0 hm HU
    by_cases hlt : k < n
    · have hlt2 : (k : Int) < (n : Int) := by omega
      have c0 := o.cell k (by rw [madeK_length]; exact hlt)
      have f0 := o.frozen k
      have o1 := o.store k (byteAt s k)
      have B1 := B.setCell (p := ⟨w.heap.size, k, none⟩) (Nat.le_refl _) (.int .u8 ((byteAt s k).toNat : Int))
      generalize ((madeK s n k)[k]'(by rw [madeK_length]; exact hlt)) = q at c0
      have o1' : Own _ w.heap.size (madeK s n (k + 1)) := o1
      clear o1
      rw [byteAt_eq] at o1' B1
      have r0 := seedAt_range s k
      by_cases h8 : k % 8 = 0
      · have e8 : ((k : Int) % 8 == 0) = true := by simp; omega
        rw [seedAt_step s k h8] at o1' B1
        unfold nx at o1' B1
        have Hs : Hid _ := seedAt_step s k h8
        clear h8
        go_wp2
        go_roundw
        case rel => exact ⟨k + 1, by omega, by rw [Hs.out]; rfl, by go_num, o1', B1⟩
        case measure => simp [intOf]; omega
      · have e8 : ((k : Int) % 8 == 0) = false := by simp; omega
        rw [seedAt_same s k h8] at o1' B1
        have Hs : Hid _ := seedAt_same s k h8
        clear h8
        go_wp2
        go_roundw
        case rel => exact ⟨k + 1, by omega, by rw [Hs.out], by go_num, o1', B1⟩
        case measure => simp [intOf]; omega
    · have hkn : k = n := by omega
      subst k
      go_wp2
      go_ret
      exact ⟨rfl, o, B⟩
end Go.Proofs.Ytdkaacjeogifdaa.Dk

/-
  ReplayNumbers: plain facts; Do of no disk.
-/
namespace Go.Proofs.Ytdkaacjeogifdaa.H
open Go.RowKit
open Go.Proofs.Ytdkaacjeogifdaa.Su (wi Sup supV zeroS getSuper rightS superB)
open Go.Proofs.Ytdkaacjeogifdaa.Dk (Box DS IsDisk NewDisk nought carry blk)

theorem get_nil : getSuper [] = none := by
  cases h : getSuper [] with
  | none => rfl
  | some s =>
    have := (Su.getSuper_some h).2
    have := congrArg List.length this
    rw [Su.superB_length] at this
    cases this
theorem get_nought : getSuper (nought 4096) = none := by
  cases h : getSuper (nought 4096) with
  | none => rfl
  | some s =>
    have h2 := (Su.getSuper_some h).2
    rw [Su.superB_eq] at h2
    have h3 := congrArg (fun l => l[0]?) h2
    have h4 : (nought 4096)[0]? = some 0 := by rw [nought, List.getElem?_replicate, if_pos (by decide)]
    rw [h4] at h3
    have h5 : ∀ X : List UInt8, (Su.letters ++ X)[0]? = some 76 := fun X => rfl
    rw [h5] at h3
    cases h3
theorem ch1 : choose (getSuper (sB 1 5)) (getSuper (sB 1 6)) = (⟨64, 1, 6, 0⟩, 1, true) := by rw [sB_get 1 5 (by decide), sB_get 1 6 (by decide)]; rfl
theorem ch2 : choose (getSuper (sB 1 5)) (getSuper (sB 1 5)) = (⟨64, 1, 5, 0⟩, 0, true) := by rw [sB_get 1 5 (by decide)]; rfl
theorem ch3 : choose (getSuper (nought 4096)) (getSuper (sB 1 1)) = (⟨64, 1, 1, 0⟩, 1, true) := by rw [get_nought, sB_get 1 1 (by decide)]; rfl
theorem ch4 : choose (getSuper (sB 1 1)) (getSuper []) = (⟨64, 1, 1, 0⟩, 0, true) := by rw [get_nil, sB_get 1 1 (by decide)]; rfl
theorem ch5 : choose (getSuper []) (getSuper []) = (⟨0, 0, 0, 0⟩, 0, false) := by rw [get_nil]; rfl
theorem ch6 : choose (getSuper (sB 2 1)) (getSuper (sB 1 9)) = (⟨64, 2, 1, 0⟩, 0, true) := by rw [sB_get 2 1 (by decide), sB_get 1 9 (by decide)]; rfl

theorem do_nil (v : Value) (b e q t slot : Int) (w : World) : Calls Try.prog 12 #[.pointer none, v, .agg #[.int .i64 b, .int .i64 e, .int .i64 q, .int .i64 t], .int .i64 slot] w fun r w' => r = .returned (.int .i64 1) ∧ Below w.heap.size w w' := by
  have B0 := (Below.refl w.heap.size w).alloc (Nat.le_refl _) (.cells #[.int .i64 b, .int .i64 e, .int .i64 q, .int .i64 t] 23)
  have cS : ∀ u, Calls Try.prog 37 #[.pointer none] u fun r w' => r = .returned (.int .i64 0) ∧ u = w' := fun u => by
    have c := Dk.isMade_none u
    go_enter Try.func37, Try.ntmps37
    go_wp2_with fail
    refine Calls.mono c ?_
    rintro r u1 ⟨rfl, rfl⟩
    go_wp2_with fail
    go_ret
    exact ⟨rfl, rfl⟩
  go_enter Try.func12, Try.ntmps12
  go_wp2_with fail
  refine Calls.mono (cS _) ?_
  rintro r u1 ⟨rfl, rfl⟩
  go_wp2_with fail
  go_ret
  exact ⟨rfl, B0⟩

theorem doR_none (D : DS) (L : List ImD) (slot : Int) : doR D L none slot = (D, 2) := rfl
theorem doR_slot (D : DS) (L : List ImD) (o : Option (List UInt8)) (slot : Int) (h : wi slot 0 1 = false) : doR D L o slot = (D, 2) := by
  cases o with
  | none => rfl
  | some sb => simp [doR, h]
theorem doR_fit (D : DS) (L : List ImD) (o : Option (List UInt8)) (slot : Int) (h : (L.map (·.1)).all (fits D.nb) = false) : doR D L o slot = (D, 2) := by
  cases o with
  | none => rfl
  | some sb => simp only [doR]; rw [h, Bool.and_false]; rfl
theorem sB_none : Su.putSuper 64 0 1 0 = none := by
  unfold Su.putSuper
  rw [if_neg (by decide)]
/-- the disk behind the example's Do -/
structure DoneD (D : DS) (sb m : List UInt8) : Prop where
  nb : D.nb = 64
  uf : D.uf = []
  n : D.n = 2
  up : D.gone = false
  one : D.stand 1 = sb
  thirty : D.stand 30 = m
theorem stand_nil {D : DS} (h : D.uf = []) (n : Nat) : D.stand n = blk D.dur n := by
  unfold DS.stand
  rw [h]
  rfl
theorem put12 : Su.putSuper 64 1 2 0 = some (sB 1 2) := sB_put 1 2 (by decide)
theorem doR_eq (d0 m sb : List UInt8) (a : Option Addr) (c : Nat) : doR (DS.new 64 d0) [((30, a, 4096, c), m)] (some sb) 1 = doD [(30, m)] 1 sb (DS.new 64 d0) := by
  simp [doR, wi, fits, DS.new, pl]
theorem num_do' (d0 m sb : List UInt8) (hm : m.length = 4096) (hs : sb.length = 4096) (N : Nat) (hN : N = 64 * 4096) (hL : d0.length = N) : (doD [(30, m)] 1 sb (DS.new 64 d0)).2 = 0 ∧ DoneD (doD [(30, m)] 1 sb (DS.new 64 d0)).1 sb m := by
  have hq := doD_quiet [(30, m)] 1 sb (DS.new 64 d0) (Dk.DS.new_quiet 64 d0) (fun p hp => by simp at hp; subst hp; exact ⟨rfl, hm⟩) ⟨rfl, hs⟩
  obtain ⟨h1, h2, h3, h4⟩ := hq
  obtain ⟨h5, h6⟩ := doD_ok _ _ _ _ h1
  have h6' : (doD [(30, m)] 1 sb (DS.new 64 d0)).1.dur = carry (carry d0 30 m 255) 1 sb 255 := by
    rw [h6]
    simp [DS.new]
  have hc : (carry d0 30 m 255).length = N := by rw [Dk.carry_length _ _ _ _ (by rw [hL, hN]; omega) hm, hL]
  refine ⟨h1, h3, h5, h4, h2.1, ?_, ?_⟩
  · rw [stand_nil h5, h6']
    exact Dk.blk_carry_all _ _ _ (by rw [hc, hN]; omega) hs
  · rw [stand_nil h5, h6']
    rw [Dk.blk_carry_other _ _ _ _ _ (by rw [hc, hN]; omega) hs (by omega)]
    exact Dk.blk_carry_all _ _ _ (by rw [hL, hN]; omega) hm
theorem num_do (a : Option Addr) (c N : Nat) (hN : N = 64 * 4096) (m : List UInt8) (hm : m.length = 4096) : (doR (DS.new 64 (nought N)) [((30, a, 4096, c), m)] (Su.putSuper 64 1 2 0) 1).2 = 0 ∧ DoneD (doR (DS.new 64 (nought N)) [((30, a, 4096, c), m)] (Su.putSuper 64 1 2 0) 1).1 (sB 1 2) m := by
  rw [put12, doR_eq]
  exact num_do' (nought N) m (sB 1 2) hm (sB_len 1 2) N hN (Dk.nought_length N)
theorem last_two (A B : List UInt8) (ks : List Int) (h1 : ks.Pairwise (· < ·)) (h2 : ∀ x, x ∈ ks ↔ (lastD [(18, A), (63, B)] x).isSome = true) : ks.length = 2 := by
  have e : ks = [18, 63] := rise_ext _ _ h1 (by decide) (fun x => by
    rw [h2 x]
    simp only [lastD, List.foldl_cons, List.foldl_nil]
    by_cases h30 : (18 : Int) = x
    · subst h30; simp
    · by_cases h40 : (63 : Int) = x
      · subst h40; simp
      · simp [h30, h40]
        omega)
  rw [e]
  rfl

/-- a disk of one's own in memory -/
theorem NewDisk.below {w u u' : World} {g : Nat} {D : DS} (h : NewDisk w u g D) (b : Below u.heap.size u u') : NewDisk w u' g D := by
  obtain ⟨F, h1, h2, h3⟩ := h
  exact ⟨F, h1.below b, h2, h3.trans (b.mono h3.size)⟩
/-- Do upon it, of images that were made later: u0 is the world ahead of their making -/
theorem NewDisk.does {w u0 u : World} {g : Nat} {D : DS} (h : NewDisk w u0 g D) (b : Below u0.heap.size u0 u) (a : Option Addr) (n c : Nat) (L : List ImD) (B e q t slot : Int) (hl : L.length = n) (hn : n ≤ 1000) (hlim : D.uf.length ≤ 800000 ∧ D.n ≤ 800000)
    (hc : CellsI u a (L.map (·.1))) (hd : ∀ p ∈ L, Dk.Rd u p.1.2.1 p.2 ∧ p.2.length = p.1.2.2.1 ∧ ∀ ad, p.1.2.1 = some ad → ad.block < u.heap.size ∧ u0.heap.size ≤ ad.block) (ha : ∀ ad, a = some ad → u0.heap.size ≤ ad.block) :
    Calls Try.prog 12 #[.pointer (some ⟨g, 0, none⟩), .slice a n c, .agg #[.int .i64 B, .int .i64 e, .int .i64 q, .int .i64 t], .int .i64 slot] u fun r w' => r = .returned (.int .i64 ((doR D L (Su.putSuper B e q t) slot).2 : Int)) ∧ NewDisk w w' g (doR D L (Su.putSuper B e q t) slot).1 := by
  obtain ⟨F, h1, h2, h3⟩ := h
  have hfl := h1.flt
  refine (do_at (h1.below b) a n c L B e q t slot hl hn ⟨hc, fun p hp => ?_, fun ad e => fun hf => absurd (ha ad e) (Nat.not_le.2 (hfl _ hf))⟩ hlim).mono ?_
  · obtain ⟨k1, k2, k3⟩ := hd p hp
    exact ⟨k1, k2, fun ad e => ⟨(k3 ad e).1, fun hf => absurd (k3 ad e).2 (Nat.not_le.2 (hfl _ hf))⟩⟩
  · rintro r w' ⟨rfl, ⟨F', k1, k2⟩, U⟩
    have h3' := h3.trans (b.mono h3.size)
    refine ⟨rfl, F', k1, fun i hi => ?_, ?_⟩
    · rcases k2 i hi with q | q
      · exact h2 i q
      · exact Nat.le_trans h3'.size q
    · exact h3'.trans (U.below h2 h3'.size)
theorem NewDisk.rbelow {w u : World} {g : Nat} {D : DS} (h : NewDisk w u g D) : Below w.heap.size w u := by obtain ⟨F, _, _, h3⟩ := h; exact h3
theorem NewDisk.reads {w u : World} {g : Nat} {D : DS} (h : NewDisk w u g D) (nn : Nat) (hn : nn < D.nb) (hg : D.gone = false) (hlim : D.uf.length ≤ 1000000) :
    Calls Try.prog 14 #[.pointer (some ⟨g, 0, none⟩), .int .i64 (nn : Int)] u fun e w' => ∃ gr cr, e = .returned (.tuple #[.slice (some ⟨gr, 0, none⟩) 4096 cr, .int .i64 0]) ∧ u.heap.size ≤ gr ∧ Dk.RowB w' gr cr (D.stand nn) ∧ Below u.heap.size u w' := by
  obtain ⟨F, h1, h2, h3⟩ := h
  exact Dk.read_at h1 nn hn hg hlim
theorem NewDisk.writes {w u : World} {g : Nat} {D : DS} (h : NewDisk w u g D) : Calls Try.prog 17 #[.pointer (some ⟨g, 0, none⟩)] u fun e w' => e = .returned (.int .i64 (D.n : Int)) ∧ u = w' := by
  obtain ⟨F, h1, h2, h3⟩ := h
  exact Dk.writes_at h1
theorem NewDisk.pends {w u : World} {g : Nat} {D : DS} (h : NewDisk w u g D) (hu : D.uf = []) : Calls Try.prog 18 #[.pointer (some ⟨g, 0, none⟩)] u fun e w' => ∃ a c, e = .returned (.slice a 0 c) ∧ Below u.heap.size u w' := by
  obtain ⟨F, h1, h2, h3⟩ := h
  refine (Dk.pending_at h1 (by rw [hu]; decide)).mono ?_
  rintro r w' ⟨v, rfl, ho, b⟩
  obtain ⟨a, c, rfl⟩ := Rc.owns_shape ho
  rw [hu]
  exact ⟨a, c, rfl, b⟩
end Go.Proofs.Ytdkaacjeogifdaa.H

/-
  ReplayAgain, in plain lists: what crashes leave, and what is done in the end.
-/
namespace Go.Proofs.Ytdkaacjeogifdaa.H
open Go.Proofs.Ytdkaacjeogifdaa.Dk
open Go.Proofs.Ytdkaacjeogifdaa.Su (Sup getSuper rightS superB)

theorem blk_carry_get (d : List UInt8) (b : Nat) (x : List UInt8) (m : Nat) (hb : b * 4096 + 4096 ≤ d.length) (hx : x.length = 4096) (i : Nat) :
    (blk (carry d b x m) b)[i]? = if i < 4096 then (if bit m (i / 512) = true then x[i]? else (blk d b)[i]?) else none := by
  rw [blk_get, carry_get _ _ _ _ hb hx, blk_get]
  by_cases h : i < 4096
  · rw [if_pos h, if_pos h]
    have e : b * 4096 + i - b * 4096 = i := by omega
    rw [e]
    by_cases hbit : bit m (i / 512) = true
    · have hc : b * 4096 ≤ b * 4096 + i ∧ b * 4096 + i < b * 4096 + 4096 ∧ bit m (i / 512) = true := ⟨Nat.le_add_right _ _, Nat.add_lt_add_left h _, hbit⟩
      rw [if_pos hc, if_pos hbit]
    · have hc : ¬(b * 4096 ≤ b * 4096 + i ∧ b * 4096 + i < b * 4096 + 4096 ∧ bit m (i / 512) = true) := fun h => hbit h.2.2
      rw [if_neg hc, if_neg hbit, if_pos h]
  · rw [if_neg h, if_neg h]
/-- a superblock's last 4052 bytes are noughts -/
theorem sB_tail (e q i : Nat) (h : 44 ≤ i) (h2 : i < 4096) : (sB e q)[i]? = some 0 := by
  unfold sB Su.superB
  have hl := Su.headS_length 64 e q 0
  rw [List.getElem?_append_right (by omega), hl]
  unfold Su.noughts
  rw [List.getElem?_replicate, if_pos (by omega)]
theorem nought_at (n i : Nat) (h : i < n) : (nought n)[i]? = some 0 := by
  rw [nought, List.getElem?_replicate, if_pos h]
theorem torn_super (d s zs : List UInt8) (m : Nat) (hd : 1 * 4096 + 4096 ≤ d.length) (hs : s.length = 4096) (hz : zs.length = 4096) (ht : ∀ i, 44 ≤ i → i < 4096 → s[i]? = zs[i]?) (h : blk d 1 = zs ∨ blk d 1 = s) : blk (carry d 1 s m) 1 = zs ∨ blk (carry d 1 s m) 1 = s := by
  have hg := blk_carry_get d 1 s m hd hs
  rcases h with h | h
  · cases hb : bit m 0 with
    | true =>
      right
      apply List.ext_getElem?
      intro i
      rw [hg i, h]
      by_cases hi : i < 4096
      · rw [if_pos hi]
        by_cases h5 : i < 512
        · rw [show i / 512 = 0 by omega, if_pos hb]
        · split
          · rfl
          · exact (ht i (by omega) hi).symm
      · rw [if_neg hi, List.getElem?_eq_none (by omega)]
    | false =>
      left
      apply List.ext_getElem?
      intro i
      rw [hg i, h]
      by_cases hi : i < 4096
      · rw [if_pos hi]
        by_cases h5 : i < 512
        · rw [show i / 512 = 0 by omega, if_neg (by rw [hb]; simp)]
        · split
          · exact ht i (by omega) hi
          · rfl
      · rw [if_neg hi, List.getElem?_eq_none (by omega)]
  · right
    apply List.ext_getElem?
    intro i
    rw [hg i, h]
    by_cases hi : i < 4096
    · rw [if_pos hi]; split <;> rfl
    · rw [if_neg hi, List.getElem?_eq_none (by omega)]

/-- what the disk's bytes are, through all crashes -/
structure Qd (s17 s29 zs : List UInt8) (ks : List Int) (d : List UInt8) : Prop where
  len : d.length = 64 * 4096
  zero : blk d 0 = s17
  one : blk d 1 = zs ∨ blk d 1 = s29
  rest : ∀ n : Nat, 2 ≤ n → n < 64 → (n : Int) ∉ ks → blk d n = zs
/-- what is written -/
def Wd (s29 : List UInt8) (ks : List Int) (p : Nat × List UInt8) : Prop := p.2.length = 4096 ∧ p.1 < 64 ∧ (((p.1 : Int) ∈ ks ∧ 2 ≤ p.1) ∨ (p.1 = 1 ∧ p.2 = s29))
theorem stays {s17 s29 zs : List UInt8} {ks : List Int} (hz : zs.length = 4096) (ht : ∀ i, 44 ≤ i → i < 4096 → s29[i]? = zs[i]?) : Stays (Qd s17 s29 zs ks) (Wd s29 ks) := by
  refine ⟨fun d b x m hq hw => ?_⟩
  obtain ⟨h1, h2, h3⟩ := hw
  dsimp only at h1 h2 h3
  have hf : b * 4096 + 4096 ≤ d.length := by rw [hq.len]; omega
  refine ⟨by rw [carry_length _ _ _ _ hf h1]; exact hq.len, ?_, ?_, fun n hn hn2 hk => ?_⟩
  · rw [blk_carry_other _ _ _ _ _ hf h1 (by omega)]; exact hq.zero
  · rcases h3 with ⟨_, h4⟩ | ⟨rfl, rfl⟩
    · rw [blk_carry_other _ _ _ _ _ hf h1 (by omega)]; exact hq.one
    · exact torn_super d x zs m hf h1 hz ht hq.one
  · have hne : n ≠ b := by
      rcases h3 with ⟨h4, _⟩ | ⟨h4, _⟩
      · intro e; rw [e] at hk; exact hk h4
      · omega
    rw [blk_carry_other _ _ _ _ _ hf h1 hne]
    exact hq.rest n hn hn2 hk

/-- what stands ahead of each life -/
structure Inv (s17 s29 zs : List UInt8) (ks : List Int) (D : DS) : Prop where
  held : Held (Qd s17 s29 zs ks) (Wd s29 ks) D
  nb : D.nb = 64
  uf : D.uf = []
  quiet : D.quiet
/-- the images that are laid -/
structure Ims (ks : List Int) (ims : List (Int × List UInt8)) : Prop where
  keys : ims.map (·.1) = ks
  each : ∀ p ∈ ims, 18 ≤ p.1 ∧ p.1 ≤ 63 ∧ p.2.length = 4096
  nodup : ks.Nodup
theorem Ims.wd {ks : List Int} {ims : List (Int × List UInt8)} (h : Ims ks ims) (s29 : List UInt8) : ∀ p ∈ ims, Wd s29 ks (p.1.toNat, p.2) := fun p hp => by
  obtain ⟨h1, h2, h3⟩ := h.each p hp
  refine ⟨h3, by show p.1.toNat < 64; omega, .inl ⟨?_, by show 2 ≤ p.1.toNat; omega⟩⟩
  show ((p.1.toNat : Nat) : Int) ∈ ks
  rw [Int.toNat_of_nonneg (by omega), ← h.keys]
  exact List.mem_map.2 ⟨p, hp, rfl⟩

theorem armed_keeps (D : DS) (n : Int) : (D.armed n).dur = D.dur ∧ (D.armed n).uf = D.uf ∧ (D.armed n).nb = D.nb ∧ (D.armed n).n = D.n := by
  unfold DS.armed
  split <;> exact ⟨rfl, rfl, rfl, rfl⟩
theorem crash_nil (D : DS) (h : D.uf = []) (ks : List Bool) (t : Int) (m : Nat) : (D.crash ks t m).dur = D.dur := by
  unfold DS.crash
  rw [h]
  rfl

section
variable {s17 s29 zs : List UInt8} {ks : List Int} {ims : List (Int × List UInt8)} {D : DS}
/-- one life: Do of an armed disk, and a crash -/
theorem Inv.life (h : Inv s17 s29 zs ks D) (hi : Ims ks ims) (hz : zs.length = 4096) (h29 : s29.length = 4096) (ht : ∀ i, 44 ≤ i → i < 4096 → s29[i]? = zs[i]?) (a : Int) (kp : List Bool) (t : Int) (m : Nat) :
    Inv s17 s29 zs ks ((doD ims 1 s29 (D.armed a)).1.crash kp t m) ∧ ((doD ims 1 s29 (D.armed a)).2 = 0 → blk ((doD ims 1 s29 (D.armed a)).1.crash kp t m).dur 1 = s29) ∧ ((doD ims 1 s29 (D.armed a)).1.crash kp t m).n ≤ D.n + (ims.length + 1) := by
  obtain ⟨a1, a2, a3, a4⟩ := armed_keeps D a
  have hh : Held (Qd s17 s29 zs ks) (Wd s29 ks) (D.armed a) := ⟨by rw [a1]; exact h.held.1, by rw [a2]; exact h.held.2⟩
  have st := stays (s17 := s17) (ks := ks) hz ht
  have h1 := st.do ims 1 s29 hh (hi.wd s29) ⟨h29, by show (1 : Nat) < 64; decide, .inr ⟨rfl, rfl⟩⟩
  obtain ⟨l1, l2, l3⟩ := doD_le ims 1 s29 (D.armed a)
  refine ⟨⟨st.crash h1 kp t m, by show (doD ims 1 s29 (D.armed a)).1.nb = 64; rw [l1, a3]; exact h.nb, rfl, DS.crash_quiet _ _ _ _⟩, fun h0 => ?_, by show (doD ims 1 s29 (D.armed a)).1.n ≤ _; rw [a4] at l3; exact l3⟩
  obtain ⟨k1, k2⟩ := doD_ok _ _ _ _ h0
  rw [crash_nil _ k1, k2, a2, h.uf, List.nil_append, a1]
  refine blk_carry_all _ _ _ ?_ h29
  rw [fold_len _ _ h.held.1.len (fun p hp => by
    obtain ⟨q, hq, rfl⟩ := List.mem_map.1 hp
    obtain ⟨h1, h2, h3⟩ := hi.each q hq
    exact ⟨by show q.1.toNat < 64; omega, h3⟩)]
  decide
/-- the end: Do with the power there, and a crash -/
theorem Inv.last (h : Inv s17 s29 zs ks D) (hi : Ims ks ims) (hz : zs.length = 4096) (h29 : s29.length = 4096) (ht : ∀ i, 44 ≤ i → i < 4096 → s29[i]? = zs[i]?) (kp : List Bool) (t : Int) (m : Nat) :
    (doD ims 1 s29 D).2 = 0 ∧ Inv s17 s29 zs ks ((doD ims 1 s29 D).1.crash kp t m) ∧ blk ((doD ims 1 s29 D).1.crash kp t m).dur 1 = s29 ∧ ∀ p ∈ ims, blk ((doD ims 1 s29 D).1.crash kp t m).dur p.1.toNat = p.2 := by
  have st := stays (s17 := s17) (ks := ks) hz ht
  have h1 := st.do ims 1 s29 h.held (hi.wd s29) ⟨h29, by show (1 : Nat) < 64; decide, .inr ⟨rfl, rfl⟩⟩
  obtain ⟨l1, l2, l3⟩ := doD_le ims 1 s29 D
  have hq := doD_quiet ims 1 s29 D h.quiet (fun p hp => by
    obtain ⟨e1, e2, e3⟩ := hi.each p hp
    refine ⟨?_, e3⟩
    unfold DS.has
    rw [h.nb]
    simp
    omega) ⟨by unfold DS.has; rw [h.nb]; rfl, h29⟩
  obtain ⟨k1, k2⟩ := doD_ok _ _ _ _ hq.1
  have hl : ∀ p ∈ ims.map (fun p : Int × List UInt8 => (p.1.toNat, p.2)), p.1 < 64 ∧ p.2.length = 4096 := fun p hp => by
    obtain ⟨q, hq, rfl⟩ := List.mem_map.1 hp
    obtain ⟨h1, h2, h3⟩ := hi.each q hq
    exact ⟨by show q.1.toNat < 64; omega, h3⟩
  have hlen := fold_len _ _ h.held.1.len hl
  have hd : ((doD ims 1 s29 D).1.crash kp t m).dur = carry ((ims.map (fun p : Int × List UInt8 => (p.1.toNat, p.2))).foldl (fun d w => carry d w.1 w.2 255) D.dur) 1 s29 255 := by
    rw [crash_nil _ k1, k2, h.uf, List.nil_append]
    rfl
  refine ⟨hq.1, ⟨st.crash h1 kp t m, by show (doD ims 1 s29 D).1.nb = 64; rw [l1]; exact h.nb, rfl, DS.crash_quiet _ _ _ _⟩, ?_, fun p hp => ?_⟩
  · rw [hd]
    exact blk_carry_all _ _ _ (by rw [hlen]; decide) h29
  · obtain ⟨e1, e2, e3⟩ := hi.each p hp
    rw [hd, blk_carry_other _ _ _ _ _ (by rw [hlen]; decide) h29 (by omega)]
    refine fold_one _ _ (p.1.toNat, p.2) (List.mem_map.2 ⟨p, hp, rfl⟩) h.held.1.len hl ?_
    rw [List.map_map]
    have hk := hi.nodup
    rw [← hi.keys] at hk
    refine List.pairwise_map.2 ((List.pairwise_map.1 hk).imp_of_mem fun {x y} hx hy hne e => hne ?_)
    have q1 := hi.each x hx
    have q2 := hi.each y hy
    simp at e
    omega
end
/-- which superblock counts -/
theorem Inv.counts {ks : List Int} {D : DS} (h : Inv (sB 1 7) (sB 2 9) (nought 4096) ks D) : choose (getSuper (D.stand 0)) (getSuper (D.stand 1)) = if blk D.dur 1 = sB 2 9 then (⟨64, 2, 9, 0⟩, 1, true) else (⟨64, 1, 7, 0⟩, 0, true) := by
  rw [stand_nil h.uf, stand_nil h.uf, h.held.1.zero, sB_get 1 7 (by decide)]
  by_cases e : blk D.dur 1 = sB 2 9
  · rw [if_pos e, e, sB_get 2 9 (by decide)]
    rfl
  · rw [if_neg e, h.held.1.one.resolve_right e, get_nought]
    rfl
theorem tail29 : ∀ i, 44 ≤ i → i < 4096 → (sB 2 9)[i]? = (nought 4096)[i]? := fun i h1 h2 => by rw [sB_tail 2 9 i h1 h2, nought_at 4096 i h2]
theorem blk_nought (N n : Nat) (h : n * 4096 + 4096 ≤ N) : blk (nought N) n = nought 4096 := by
  unfold blk nought
  rw [List.drop_replicate, List.take_replicate]
  congr 1
  omega
/-- the disk at the beginning -/
theorem Inv.start (N : Nat) (hN : N = 64 * 4096) (ks : List Int) (s29 : List UInt8) :
    Inv (sB 1 7) s29 (nought 4096) ks ((DS.new 64 (nought N)).write 0 (sB 1 7)).flush ∧ ((DS.new 64 (nought N)).writeE 0 (sB 1 7)) = 0 ∧ ((DS.new 64 (nought N)).write 0 (sB 1 7)).operE = 0 ∧ (((DS.new 64 (nought N)).write 0 (sB 1 7)).flush).n = 1 ∧ ∀ n : Nat, 2 ≤ n → n < 64 → blk ((DS.new 64 (nought N)).write 0 (sB 1 7)).flush.dur n = nought 4096 := by
  have q0 := DS.new_quiet 64 (nought N)
  have hs := sB_len 1 7
  have hl := nought_length N
  have hb : ∀ n, n < 64 → blk (nought N) n = nought 4096 := fun n hn => blk_nought N n (by omega)
  have hwE := q0.writeE 0 (sB 1 7) (by show 0 < 64; decide) hs
  have hw := q0.write 0 (sB 1 7) (by show 0 < 64; decide) hs
  generalize sB 1 7 = s at hs hwE hw ⊢
  generalize nought 4096 = zs at hb ⊢
  generalize nought N = d0 at q0 hl hb hwE hw ⊢
  have hw' : (DS.new 64 d0).write 0 s = { DS.new 64 d0 with uf := [(0, s)], n := 1 } := hw
  rw [hw']
  have q1 : ({ DS.new 64 d0 with uf := [(0, s)], n := 1 } : DS).quiet := q0
  rw [q1.flush]
  have e : ({ DS.new 64 d0 with uf := [(0, s)], n := 1 } : DS).image = carry d0 0 s 255 := rfl
  rw [e]
  have hf : 0 * 4096 + 4096 ≤ d0.length := by rw [hl, hN]; decide
  have ho : ∀ n : Nat, 1 ≤ n → n < 64 → blk (carry d0 0 s 255) n = zs := fun n h1 h2 => by
    rw [blk_carry_other _ _ _ _ _ hf hs (by omega)]
    exact hb n h2
  refine ⟨⟨⟨⟨by show (carry d0 0 s 255).length = _; rw [carry_length _ _ _ _ hf hs, hl, hN], blk_carry_all _ _ _ hf hs, .inl (ho 1 (by decide) (by decide)), fun n h1 h2 _ => ho n (by omega) h2⟩, fun p hp => by cases hp⟩, rfl, rfl, q0⟩, hwE, q1.operE, rfl, fun n h1 h2 => ho n (by omega) h2⟩
end Go.Proofs.Ytdkaacjeogifdaa.H

/-
  ApartBytes: rows of bytes that lie apart, marked, then grown.
-/
namespace Go.Proofs.Ytdkaacjeogifdaa.Rc.Apart
open Go.RowKit

/-- the mark of byte i of list k -/
def mrk (k i : Nat) : Int := IntKind.u64.wrap ((1000003 * ((k : Int) + 7) + (i : Int)) * 11400714819323198485) / 72057594037927936 % 256
theorem mark_at (k i : Nat) (w : World) (hk : k ≤ 1000) (hi : i ≤ 1000000) :
    Calls Try.prog 49 #[.int .i64 k, .int .i64 i] w fun e w' => e = .returned (.int .u8 (mrk k i)) ∧ w' = w := by
  go_enter Try.func49, Try.ntmps49
  go_wp2
  go_ret
  exact ⟨rfl, rfl⟩

/-! ### blocks -/
def Box (w : World) (g : Nat) (cs : Array Value) (t : TypeId) : Prop := w.heap[g]? = some (.cells cs t (0, 0))
theorem Box.cell {w : World} {g : Nat} {cs : Array Value} {t : TypeId} (h : Box w g cs t) (j : Nat) : w.cell? ⟨g, j, none⟩ = cs[j]? := cell_of_row w g j cs t (0, 0) h
theorem Box.frozen {w : World} {g : Nat} {cs : Array Value} {t : TypeId} (h : Box w g cs t) (j : Nat) : w.frozen? ⟨g, j, none⟩ = false := frozen_of_row w g j cs t h
theorem Box.lt {w : World} {g : Nat} {cs : Array Value} {t : TypeId} (h : Box w g cs t) : g < w.heap.size := (Array.getElem?_eq_some_iff.1 h).1
theorem Box.new (w : World) (cs : Array Value) (t : TypeId) : Box (w.alloc (.cells cs t)) w.heap.size cs t := heap_alloc_new w _
theorem Box.store {w : World} {g : Nat} {cs : Array Value} {t : TypeId} (h : Box w g cs t) (j : Nat) (v : Value) : Box (w.setCell ⟨g, j, none⟩ v) g (cs.setIfInBounds j v) t := heap_setCell_same w g j cs t v h
theorem Box.ne {w : World} {g g' : Nat} {cs cs' : Array Value} {t t' : TypeId} (h : Box w g cs t) (h' : Box w g' cs' t') (ht : t ≠ t') : g ≠ g' := by
  intro e
  subst e
  unfold Box at h h'
  rw [h] at h'
  simp at h'
  exact ht h'.2
theorem grown_store (w : World) (g j : Nat) (u : Value) : w.grownBy (w.setCell ⟨g, j, none⟩ u) (some g) :=
  ⟨rfl, rfl, rfl, by simp, fun k _ hk => heap_setCell_other w ⟨g, j, none⟩ k u (fun e => hk (by simp [e]))⟩

/-- the first m bytes of block b, of cc in all, are the marks of list i -/
def Marked (w : World) (i b cc m : Nat) : Prop := ∃ cur : Array Value, Box w b cur 5 ∧ cur.size = cc ∧ m ≤ cc ∧ ∀ j, j < m → cur[j]? = some (.int .u8 (mrk i j))
theorem Marked.lt {w : World} {i b cc m : Nat} (h : Marked w i b cc m) : b < w.heap.size := by obtain ⟨_, h, _⟩ := h; exact h.lt
theorem Marked.kept {w w' : World} {i b cc m : Nat} (h : Marked w i b cc m) (hb : w'.heap[b]? = w.heap[b]?) : Marked w' i b cc m := by
  obtain ⟨cur, h, r⟩ := h
  exact ⟨cur, hb.trans h, r⟩
theorem Marked.less {w : World} {i b cc m m' : Nat} (h : Marked w i b cc m) (hm : m' ≤ m) : Marked w i b cc m' := by
  obtain ⟨cur, h, h1, h2, h3⟩ := h
  exact ⟨cur, h, h1, by omega, fun j hj => h3 j (by omega)⟩
theorem Marked.cell {w : World} {i b cc m : Nat} (h : Marked w i b cc m) (j : Nat) (hj : j < m) : w.cell? ⟨b, j, none⟩ = some (.int .u8 (mrk i j)) := by
  obtain ⟨cur, h, _, _, h3⟩ := h
  rw [h.cell j, h3 j hj]
theorem Marked.has {w : World} {i b cc m : Nat} (h : Marked w i b cc m) (j : Nat) (hj : j < cc) : ∃ v, w.cell? ⟨b, j, none⟩ = some v := by
  obtain ⟨cur, h, h1, _⟩ := h
  exact ⟨cur[j]'(by omega), by rw [h.cell j, Array.getElem?_eq_getElem]⟩
theorem Marked.frozen {w : World} {i b cc m : Nat} (h : Marked w i b cc m) (j : Nat) : w.frozen? ⟨b, j, none⟩ = false := by
  obtain ⟨cur, h, _⟩ := h
  exact h.frozen j
theorem Marked.store {w : World} {i b cc m : Nat} (h : Marked w i b cc m) (hm : m < cc) : Marked (w.setCell ⟨b, m, none⟩ (.int .u8 (mrk i m))) i b cc (m + 1) := by
  obtain ⟨cur, h, h1, h2, h3⟩ := h
  refine ⟨_, h.store m _, by rw [Array.size_setIfInBounds]; exact h1, by omega, fun j hj => ?_⟩
  rw [Array.getElem?_setIfInBounds]
  by_cases e : m = j
  · subst e
    rw [if_pos rfl, if_pos (by omega)]
  · rw [if_neg e]
    exact h3 j (by omega)
theorem Marked.ne {w : World} {i b cc m g : Nat} {cs : Array Value} (h : Marked w i b cc m) (hb : Box w g cs 26) : g ≠ b := by
  obtain ⟨cur, h, _⟩ := h
  exact hb.ne h (by decide)

theorem info5 : (Try.prog.info? 5).map (fun i => (i.zero, i.size, i.bytes)) = some (some (.int .u8 0), 1, 1) := by kernel_rfl
theorem infoB : (Try.prog.info? 26).map (fun i => (i.zero, i.size, i.bytes)) = some (some (.slice none 0 0), 1, 24) := by kernel_rfl

/-- one mark more: in place, or all of them anew -/
theorem Marked.append {w : World} {i b cc m : Nat} (h : Marked w i b cc m) (hcc : cc ≤ maxLen) (ty : TypeId) (ga : Nat) (hx : w.cell? ⟨ga, 0, none⟩ = some (.int .u8 (mrk i m))) (hm : m ≤ 1000000) :
    ∃ b' cc' w', (Builtin.append_ #[26, 26] ty #[.slice (some ⟨b, 0, none⟩) m cc, .slice (some ⟨ga, 0, none⟩) 1 1]).run Try.prog w = .ok (.slice (some ⟨b', 0, none⟩) (m + 1) cc') w' ∧ Marked w' i b' cc' (m + 1) ∧ cc' ≤ maxLen ∧
      ((b' = b ∧ cc' = cc ∧ w.grownBy w' (some b)) ∨ (w.heap.size ≤ b' ∧ Below w.heap.size w w')) := by
  obtain ⟨i0, hi, hz0, hz1, hz2⟩ := info_parts info5
  have h0 := h
  obtain ⟨cur, hb, h1, h2, h3⟩ := h
  have hnews : ∀ j u, ([.int .u8 (mrk i m)] : List Value)[j]? = some u → w.cell? ((⟨ga, 0, none⟩ : Addr).add j) = some u := by
    intro j u hj
    match j, hj with
    | 0, hj => simpa [Addr.add] using hx.trans hj
  by_cases hroom : m + 1 ≤ cc
  · have hr := run_append_room_cells (P := Try.prog) w 26 ty 5 i0 Try.underlying26 hi b 0 m cc ⟨ga, 0, none⟩ 1 1 [.int .u8 (mrk i m)] (by rw [hz1]; rfl) hnews (by simp [Value.oneCell']) hroom
      (fun j hj => by
        have : j = 0 := by simp at hj; omega
        subst this
        obtain ⟨v, hv⟩ := h0.has m (by omega)
        rw [hz1, Nat.mul_one, Nat.add_zero, Nat.zero_add, hv]
        rfl)
      (fun j hj => hb.frozen _)
    rw [hz1, Nat.mul_one, Nat.zero_add] at hr
    exact ⟨b, cc, _, hr, h0.store (by omega), hcc, .inl ⟨rfl, rfl, grown_store w b m _⟩⟩
  · have hlo : (cur.toList.take m).length = m * 1 := by simp; omega
    obtain ⟨v', w', hr, ho, gr⟩ := run_append_arg_grows (P := Try.prog) w 26 ty 5 i0 (.int .u8 0) 1 1 Try.underlying26 hi hz0 hz1 hz2 rfl (by decide) ⟨b, 0, none⟩ m cc (cur.toList.take m) hlo
      (fun j u hj => by
        rw [List.getElem?_take] at hj
        split at hj
        · rw [Addr.add_lit, Nat.zero_add, hb.cell]
          simpa using hj
        · cases hj) ⟨ga, 0, none⟩ 1 1 [.int .u8 (mrk i m)] rfl hnews (by omega) (by unfold maxLen; omega) (by omega)
    rcases ho.2 with ⟨_, h0⟩ | ⟨g', cap', cur', rfl, hB, hg', hnc, hcm, hcs, ht⟩
    · omega
    refine ⟨g', cap', w', hr, ⟨cur', hg', by omega, by omega, fun j hj => ?_⟩, hcm, .inr ⟨hB, ⟨gr.os, gr.tape, gr.output, gr.size, fun q hq => gr.block q hq (by simp)⟩⟩⟩
    have e : cur'[j]? = (cur.toList.take m ++ [.int .u8 (mrk i m)])[j]? := by
      rw [← ht, List.getElem?_take, if_pos (by omega)]
      simp
    rw [e]
    have ll : (cur.toList.take m).length = m := by omega
    by_cases hjm : j < m
    · rw [List.getElem?_append_left (by omega), List.getElem?_take, if_pos hjm]
      have := h3 j hjm
      simpa using this
    · have hje : j = m := by omega
      subst hje
      rw [List.getElem?_append_right (by omega), ll]
      simp

/-! ### what is kept -/
/-- the list of lists: list i lies in block g i -/
def LS (w : World) (N gl : Nat) (g n c : Nat → Nat) : Prop := ∃ LA : Array Value, Box w gl LA 26 ∧ ∀ i, i < N → LA[i]? = some (.slice (some ⟨g i, 0, none⟩) (n i) (c i))
theorem LS.kept {w w' : World} {N gl : Nat} {g n c : Nat → Nat} (h : LS w N gl g n c) (hb : w'.heap[gl]? = w.heap[gl]?) : LS w' N gl g n c := by
  obtain ⟨LA, h, r⟩ := h
  exact ⟨LA, hb.trans h, r⟩
theorem LS.lt {w : World} {N gl : Nat} {g n c : Nat → Nat} (h : LS w N gl g n c) : gl < w.heap.size := by obtain ⟨_, h, _⟩ := h; exact h.lt
theorem LS.cell {w : World} {N gl : Nat} {g n c : Nat → Nat} (h : LS w N gl g n c) (i : Nat) (hi : i < N) : w.cell? ⟨gl, i, none⟩ = some (.slice (some ⟨g i, 0, none⟩) (n i) (c i)) := by
  obtain ⟨LA, h, r⟩ := h
  rw [h.cell i, r i hi]
/-- all but the lists' blocks stays -/
structure But (N : Nat) (g : Nat → Nat) (w w' : World) : Prop where
  os : w'.os = w.os
  tape : w'.tape = w.tape
  output : w'.output = w.output
  size : w.heap.size ≤ w'.heap.size
  block : ∀ k, k < w.heap.size → (∀ q, q < N → k ≠ g q) → w'.heap[k]? = w.heap[k]?
theorem But.refl (N : Nat) (g : Nat → Nat) (w : World) : But N g w w := ⟨rfl, rfl, rfl, Nat.le_refl _, fun _ _ _ => rfl⟩
theorem But.grown {N : Nat} {g : Nat → Nat} {a w w' : World} {row : Nat} (h : But N g a w) (gr : w.grownBy w' (some row)) (hr : (∃ q, q < N ∧ row = g q) ∨ a.heap.size ≤ row) : But N g a w' :=
  ⟨gr.os.trans h.os, gr.tape.trans h.tape, gr.output.trans h.output, Nat.le_trans h.size gr.size, fun k hk hq => (gr.block k (Nat.lt_of_lt_of_le hk h.size) (fun e => by
    have e' : k = row := by simpa using e
    rcases hr with ⟨q, hqN, e2⟩ | h2
    · exact hq q hqN (e'.trans e2)
    · omega)).trans (h.block k hk hq)⟩
theorem But.below {N : Nat} {g : Nat → Nat} {a w w' : World} (h : But N g a w) (b : Below w.heap.size w w') : But N g a w' :=
  ⟨b.os.trans h.os, b.tape.trans h.tape, b.output.trans h.output, Nat.le_trans h.size b.size, fun k hk hq => (b.block k (Nat.lt_of_lt_of_le hk h.size)).trans (h.block k hk hq)⟩

/-- while the lists are marked: k of them are, and j bytes of the next -/
structure P1 (w0 w : World) (N gl gg : Nat) (g n c : Nat → Nat) (k j : Nat) : Prop where
  ls : LS w N gl g n c
  gs : ∃ cs : Array Value, Box w gg cs 26 ∧ cs.size = N
  gg0 : w0.heap.size ≤ gg
  gl0 : gl < w0.heap.size
  row : ∀ i, i < N → Marked w i (g i) (c i) (if i < k then n i else if i = k then j else 0)
  but : But N g w0 w
theorem P1.below {w0 w w' : World} {N gl gg : Nat} {g n c : Nat → Nat} {k j : Nat} (h : P1 w0 w N gl gg g n c k j) (b : Below w.heap.size w w') : P1 w0 w' N gl gg g n c k j where
  ls := h.ls.kept (b.block _ h.ls.lt)
  gs := by
    obtain ⟨cs, hb, hs⟩ := h.gs
    exact ⟨cs, (b.block _ hb.lt).trans hb, hs⟩
  gg0 := h.gg0
  gl0 := h.gl0
  row := fun i hi => (h.row i hi).kept (b.block _ (h.row i hi).lt)
  but := h.but.below b
theorem P1.next {w0 w : World} {N gl gg : Nat} {g n c : Nat → Nat} {k : Nat} (h : P1 w0 w N gl gg g n c k (n k)) : P1 w0 w N gl gg g n c (k + 1) 0 where
  ls := h.ls
  gs := h.gs
  gg0 := h.gg0
  gl0 := h.gl0
  row := fun i hi => by
    have := h.row i hi
    by_cases e : i < k
    · rw [if_pos (by omega)]
      rw [if_pos e] at this
      exact this
    · rw [if_neg e] at this
      by_cases e2 : i = k
      · subst e2
        rw [if_pos rfl] at this
        rw [if_pos (by omega)]
        exact this
      · rw [if_neg e2] at this
        rw [if_neg (by omega)]
        split
        · exact this
        · exact this
  but := h.but
theorem P1.here {w0 w : World} {N gl gg : Nat} {g n c : Nat → Nat} {k j : Nat} (h : P1 w0 w N gl gg g n c k j) (hk : k < N) : Marked w k (g k) (c k) j := by
  have := h.row k hk
  rw [if_neg (Nat.lt_irrefl _), if_pos rfl] at this
  exact this
theorem P1.step {w0 w : World} {N gl gg : Nat} {g n c : Nat → Nat} {k j : Nat} (h : P1 w0 w N gl gg g n c k j) (hk : k < N) (hj : j < c k) (hap : ∀ i, i < N → ∀ q, q < N → i ≠ q → g i ≠ g q) : P1 w0 (w.setCell ⟨g k, j, none⟩ (.int .u8 (mrk k j))) N gl gg g n c k (j + 1) where
  ls := by
    obtain ⟨LA, hb, r⟩ := h.ls
    exact ⟨LA, (heap_setCell_other w ⟨g k, j, none⟩ gl _ ((h.here hk).ne hb)).trans hb, r⟩
  gs := by
    obtain ⟨cs, hb, hs⟩ := h.gs
    exact ⟨cs, (heap_setCell_other w ⟨g k, j, none⟩ gg _ ((h.here hk).ne hb)).trans hb, hs⟩
  gg0 := h.gg0
  gl0 := h.gl0
  row := fun i hi => by
    by_cases e : i = k
    · subst e
      rw [if_neg (Nat.lt_irrefl _), if_pos rfl]
      exact (h.here hk).store hj
    · have := (h.row i hi).kept (heap_setCell_other w ⟨g k, j, none⟩ (g i) (.int .u8 (mrk k j)) (hap i hi k hk e))
      rw [if_neg e] at this ⊢
      exact this
  but := h.but.grown (grown_store w (g k) j _) (.inl ⟨k, hk, rfl⟩)

/-- while they are grown: k of them are, in blocks b -/
structure P2 (w0 w : World) (N gl gg : Nat) (g n c : Nat → Nat) (k : Nat) (b cb : Nat → Nat) : Prop where
  ls : LS w N gl g n c
  gs : ∃ cs : Array Value, Box w gg cs 26 ∧ cs.size = N ∧ ∀ i, i < k → cs[i]? = some (.slice (some ⟨b i, 0, none⟩) (n i + 40) (cb i))
  gg0 : w0.heap.size ≤ gg
  gl0 : gl < w0.heap.size
  row : ∀ i, i < N → Marked w i (g i) (c i) (n i)
  big : ∀ i, i < k → Marked w i (b i) (cb i) (n i + 40)
  off : ∀ i, i < k → ∀ q, q < N → q ≠ i → b i ≠ g q
  but : But N g w0 w
theorem P1.grow {w0 w : World} {N gl gg : Nat} {g n c : Nat → Nat} (h : P1 w0 w N gl gg g n c N 0) (b cb : Nat → Nat) : P2 w0 w N gl gg g n c 0 b cb where
  ls := h.ls
  gs := by
    obtain ⟨cs, hb, hs⟩ := h.gs
    exact ⟨cs, hb, hs, fun i hi => by omega⟩
  gg0 := h.gg0
  gl0 := h.gl0
  row := fun i hi => by
    have := h.row i hi
    rw [if_pos hi] at this
    exact this
  big := fun i hi => by omega
  off := fun i hi => by omega
  but := h.but
theorem P2.below {w0 w w' : World} {N gl gg : Nat} {g n c : Nat → Nat} {k : Nat} {b cb : Nat → Nat} (h : P2 w0 w N gl gg g n c k b cb) (bl : Below w.heap.size w w') : P2 w0 w' N gl gg g n c k b cb where
  ls := h.ls.kept (bl.block _ h.ls.lt)
  gs := by
    obtain ⟨cs, hb, hs⟩ := h.gs
    exact ⟨cs, (bl.block _ hb.lt).trans hb, hs⟩
  gg0 := h.gg0
  gl0 := h.gl0
  row := fun i hi => (h.row i hi).kept (bl.block _ (h.row i hi).lt)
  big := fun i hi => (h.big i hi).kept (bl.block _ (h.big i hi).lt)
  off := h.off
  but := h.but.below bl

/-- .. and of list k so many, in block bb -/
structure P3 (w0 w : World) (N gl gg : Nat) (g n c : Nat → Nat) (k : Nat) (b cb : Nat → Nat) (bb cc m : Nat) : Prop where
  p2 : P2 w0 w N gl gg g n c k b cb
  cur : Marked w k bb cc m
  same : bb = g k → cc = c k
  place : bb = g k ∨ w0.heap.size ≤ bb
  off : ∀ q, q < N → q ≠ k → bb ≠ g q
  old : ∀ i, i < k → b i ≠ bb
  lim : cc ≤ maxLen
theorem P3.below {w0 w w' : World} {N gl gg : Nat} {g n c : Nat → Nat} {k : Nat} {b cb : Nat → Nat} {bb cc m : Nat} (h : P3 w0 w N gl gg g n c k b cb bb cc m) (bl : Below w.heap.size w w') : P3 w0 w' N gl gg g n c k b cb bb cc m :=
  ⟨h.p2.below bl, h.cur.kept (bl.block _ h.cur.lt), h.same, h.place, h.off, h.old, h.lim⟩
theorem P2.start {w0 w : World} {N gl gg : Nat} {g n c : Nat → Nat} {k : Nat} {b cb : Nat → Nat} (h : P2 w0 w N gl gg g n c k b cb) (hk : k < N) (hc : c k ≤ maxLen) (hap : ∀ i, i < N → ∀ q, q < N → i ≠ q → g i ≠ g q) : P3 w0 w N gl gg g n c k b cb (g k) (c k) (n k) :=
  ⟨h, h.row k hk, fun _ => rfl, .inl rfl, fun q hq hqk => hap k hk q hq (fun e => hqk e.symm), fun i hi => h.off i hi k hk (by omega), hc⟩
/-- one more -/
theorem P3.grown {w0 w w' : World} {N gl gg : Nat} {g n c : Nat → Nat} {k : Nat} {b cb : Nat → Nat} {bb cc m : Nat} (h : P3 w0 w N gl gg g n c k b cb bb cc m) (hk : k < N) (hm : n k ≤ m) (b' cc' : Nat) (mrk' : Marked w' k b' cc' (m + 1)) (hl : cc' ≤ maxLen)
    (hw : (b' = bb ∧ cc' = cc ∧ w.grownBy w' (some bb)) ∨ (w.heap.size ≤ b' ∧ Below w.heap.size w w')) : P3 w0 w' N gl gg g n c k b cb b' cc' (m + 1) := by
  rcases hw with ⟨rfl, rfl, gr⟩ | ⟨hb, bl⟩
  · have kp : ∀ q, q < w.heap.size → q ≠ b' → w'.heap[q]? = w.heap[q]? := fun q hq hn => gr.block q hq (fun e => hn (by simpa using e))
    refine ⟨⟨?_, ?_, h.p2.gg0, h.p2.gl0, fun i hi => ?_, fun i hi => ?_, h.p2.off, ?_⟩, mrk', h.same, h.place, h.off, h.old, hl⟩
    · obtain ⟨LA, hb, r⟩ := h.p2.ls
      exact ⟨LA, (kp gl hb.lt (h.cur.ne hb)).trans hb, r⟩
    · obtain ⟨cs, hb, hs⟩ := h.p2.gs
      exact ⟨cs, (kp gg hb.lt (h.cur.ne hb)).trans hb, hs⟩
    · by_cases e : i = k
      · subst e
        by_cases e2 : b' = g i
        · have := mrk'.less (show n i ≤ m + 1 by omega)
          rw [h.same e2, e2] at this
          exact this
        · exact (h.p2.row i hi).kept (kp _ (h.p2.row i hi).lt (fun e => e2 e.symm))
      · exact (h.p2.row i hi).kept (kp _ (h.p2.row i hi).lt (fun e2 => h.off i hi e e2.symm))
    · exact (h.p2.big i hi).kept (kp _ (h.p2.big i hi).lt (h.old i hi))
    · refine h.p2.but.grown gr ?_
      rcases h.place with e | e
      · exact .inl ⟨k, hk, e⟩
      · exact .inr e
  · have hp := h.p2.below bl
    have z := h.p2.but.size
    exact ⟨hp, mrk', fun e => by have := (h.p2.row k hk).lt; omega, .inr (by omega), fun q hq hqk e => by have := (h.p2.row q hq).lt; omega, fun i hi e => by have := (h.p2.big i hi).lt; omega, hl⟩
def at_ {α : Type} (f : Nat → α) (k : Nat) (x : α) : Nat → α := fun i => if i = k then x else f i
theorem at_same {α : Type} (f : Nat → α) (k : Nat) (x : α) : at_ f k x k = x := if_pos rfl
theorem at_other {α : Type} (f : Nat → α) (k i : Nat) (x : α) (h : i ≠ k) : at_ f k x i = f i := if_neg h
/-- it is put into its place -/
theorem P3.put {w0 w : World} {N gl gg : Nat} {g n c : Nat → Nat} {k : Nat} {b cb : Nat → Nat} {bb cc : Nat} (h : P3 w0 w N gl gg g n c k b cb bb cc (n k + 40)) (hk : k < N) :
    P2 w0 (w.setCell ⟨gg, k, none⟩ (.slice (some ⟨bb, 0, none⟩) (n k + 40) cc)) N gl gg g n c (k + 1) (at_ b k bb) (at_ cb k cc) := by
  obtain ⟨cs, hb, hs, he⟩ := h.p2.gs
  have kp : ∀ q, q ≠ gg → (w.setCell ⟨gg, k, none⟩ (.slice (some ⟨bb, 0, none⟩) (n k + 40) cc)).heap[q]? = w.heap[q]? := fun q hn => heap_setCell_other w ⟨gg, k, none⟩ q _ hn
  have hgl : gl ≠ gg := by
    have := h.p2.gl0
    have := h.p2.gg0
    omega
  refine ⟨h.p2.ls.kept (kp gl hgl), ⟨_, hb.store k _, by rw [Array.size_setIfInBounds]; exact hs, fun i hi => ?_⟩, h.p2.gg0, h.p2.gl0, fun i hi => (h.p2.row i hi).kept (kp _ (fun e => (h.p2.row i hi).ne hb e.symm)), fun i hi => ?_, fun i hi q hq hqi => ?_, h.p2.but.grown (grown_store w gg k _) (.inr h.p2.gg0)⟩
  · rw [Array.getElem?_setIfInBounds]
    by_cases e : i = k
    · subst e
      rw [if_pos rfl, if_pos (by omega), at_same, at_same]
    · rw [if_neg (fun e2 => e e2.symm), at_other _ _ _ _ e, at_other _ _ _ _ e]
      exact he i (by omega)
  · by_cases e : i = k
    · subst e
      rw [at_same, at_same]
      exact h.cur.kept (kp _ (fun e => h.cur.ne hb e.symm))
    · rw [at_other _ _ _ _ e, at_other _ _ _ _ e]
      exact (h.p2.big i (by omega)).kept (kp _ (fun e2 => (h.p2.big i (by omega)).ne hb e2.symm))
  · by_cases e : i = k
    · subst e
      rw [at_same]
      exact h.off q hq hqi
    · rw [at_other _ _ _ _ e]
      exact h.p2.off i (by omega) q hq hqi
theorem P2.gsCell {w0 w : World} {N gl gg : Nat} {g n c : Nat → Nat} {k : Nat} {b cb : Nat → Nat} (h : P2 w0 w N gl gg g n c k b cb) (i : Nat) (hi : i < k) : w.cell? ⟨gg, i, none⟩ = some (.slice (some ⟨b i, 0, none⟩) (n i + 40) (cb i)) := by
  obtain ⟨cs, hb, _, he⟩ := h.gs
  rw [hb.cell i, he i hi]
end Go.Proofs.Ytdkaacjeogifdaa.Rc.Apart

/-
  The walk of ApartBytes.
-/
namespace Go.Proofs.Ytdkaacjeogifdaa.Rc.Apart
open Go.RowKit

/-- an append whose run is known, in the walk -/
theorem wpList_append_ran {w : World} {ops : Array Oper} {rest : List Oper} {o : Oper} {a : Act} {Q : Exit → Act → World → Prop} (hgd : o.guard = none) (sl x : Operand) (t u : TypeId)
    (ho : o.op = .call { callee := .builtin .append, args := #[sl, x], argTypes := #[t, u] }) (v s v' : Value) (W : World) (hs : a.eval sl = v) (hx : a.eval x = s)
    (hrun : (Builtin.append_ #[t, u] o.type #[v, s]).run Try.prog w = .ok v' W) (h : wpList Try.prog ops Q rest (a.put o.dst v') W) : wpList Try.prog ops Q (o :: rest) a w := by
  refine wpList_plain hgd fun K hK => ?_
  unfold Oper.wp execOp
  simp only [ho, resolve, invoke, builtin, Sem.run_bind, Sem.run_pure, Result.andThen_ok, List.map_toArray, List.map_cons, List.map_nil, hs, hx, hrun]
  exact hK _ _ h

theorem make_lists (N : Nat) (hN : N ≤ 1000) (u : World) : ∃ cs : Array Value, cs.size = N ∧ (Instr.makeSlice 65 (.int .i64 (N : Int)) (.int .i64 (N : Int))).run Try.prog u = .ok (.slice (some ⟨u.heap.size, 0, none⟩) N N) (u.alloc (.cells cs 26)) := by
  obtain ⟨i0, hi, hz0, hz1, hz2⟩ := info_parts infoB
  have h := run_make (P := Try.prog) u 65 26 i0 (.slice none 0 0) Try.underlying65 hi hz0 .i64 .i64 (N : Int) (N : Int) (by omega) (Int.le_refl _) (by rw [hz2]; omega) (by omega)
  have e : ((N : Int)).toNat = N := by omega
  rw [e, hz1, Nat.mul_one] at h
  exact ⟨_, by simp [madeCells, Value.cells], h⟩

theorem below_drawn (w : World) (n : Nat) : Below w.heap.size w (w.drewN n) := ⟨rfl, rfl, rfl, Nat.le_refl _, fun _ _ => rfl⟩

set_option maxRecDepth 100000 in
set_option maxHeartbeats 8000000 in
theorem apart_at (N gl cl : Nat) (g n c : Nat → Nat) (w : World) (hN : N ≤ 400) (hls : LS w N gl g n c) (hrow : ∀ i, i < N → ∃ cur : Array Value, Box w (g i) cur 5 ∧ cur.size = c i) (hsz : ∀ i, i < N → n i ≤ c i ∧ c i ≤ maxLen ∧ n i ≤ 100000)
    (hap : ∀ i, i < N → ∀ q, q < N → i ≠ q → g i ≠ g q) :
    Calls Try.prog 27 #[.slice (some ⟨gl, 0, none⟩) N cl] w fun e w' => e = .returned (.bool true) ∧ But N g w w' := by
  obtain ⟨cs0, hcs0, hmk⟩ := make_lists N (by omega) w
  have bA := (Below.refl w.heap.size w).alloc (Nat.le_refl _) (.cells cs0 26)
  have I0 : P1 w (w.alloc (.cells cs0 26)) N gl w.heap.size g n c 0 0 := ⟨hls.kept (bA.block _ hls.lt), ⟨cs0, Box.new _ _ _, hcs0⟩, Nat.le_refl _, hls.lt, fun i hi => by
    obtain ⟨cur, hb, hs⟩ := hrow i hi
    have : (if i < 0 then n i else if i = 0 then 0 else 0) = 0 := by split <;> (try split) <;> omega
    rw [this]
    exact ⟨cur, (bA.block _ hb.lt).trans hb, hs, by omega, fun j hj => by omega⟩, (But.refl N g w).below bA⟩
  obtain ⟨gg, hgg⟩ : ∃ gg, gg = w.heap.size := ⟨_, rfl⟩
  obtain ⟨W0, hW0⟩ : ∃ W0, W0 = w.alloc (.cells cs0 26) := ⟨_, rfl⟩
  rw [← hW0] at I0
  rw [← hgg] at I0
  have HW0 : Hid _ := hW0
  have Hgg : Hid _ := hgg
  have Hsz : Hid _ := hsz
  have Hap : Hid _ := hap
  clear hW0 hgg hsz hap bA hcs0 hls hrow
  go_enter Try.func27, Try.ntmps27
  go_wp2_with fail
  rw [← HW0.out, ← Hgg.out]
  clear HW0 Hgg hmk
  go_loopw [4] (fun i wr => ∃ k : Nat, k ≤ N ∧ i = .int .i64 k ∧ P1 w wr N gl gg g n c k 0) (fun i _ => N - (intOf i).toNat)
  case atStart => exact ⟨0, by omega, rfl, I0⟩
  case round =>
    clear I0
    obtain ⟨k, hk, rfl, I⟩ := hrel
    by_cases hlt : k < N
    · have HI : Hid (P1 w wr N gl gg g n c k 0) := I
      obtain ⟨s1, s2, s3⟩ := Hsz.out k hlt
      have gN : (k : Int) < (N : Int) := by omega
      clear I
      go_wp2_with fail
      go_loopw [5] (fun i wr => ∃ j : Nat, j ≤ n k ∧ i = .int .i64 j ∧ P1 w wr N gl gg g n c k j) (fun i _ => n k - (intOf i).toNat)
      case atStart => exact ⟨0, by omega, rfl, HI.out⟩
      case round =>
        clear HI
        obtain ⟨j, hj, rfl, I⟩ := hrel
        have cls := I.ls.cell k hlt
        by_cases hjl : j < n k
        · have HI : Hid (P1 w wr N gl gg g n c k j) := I
          clear I
          go_upto_region 8 with fail
          clear cls
          refine wp_region_any (by kernel_rfl) ?_
          change wpAny _ _ _ _ _ _ _ (World.drew _)
          refine wpAny_take (i := 0) (v := ?_) rfl (by kernel_rfl) (by kernel_rfl) (by kernel_rfl) (fun _ _ _ h => h) (Or.inl ⟨by rfl, ?_⟩) ?_
          rotate_left
          · intro w
            go_simp
            with_reducible rfl
          refine wpAny_take (i := 1) (v := ?_) rfl (by kernel_rfl) (by kernel_rfl) (by kernel_rfl) (fun _ _ _ h => h) (Or.inl ⟨by rfl, ?_⟩) ?_
          rotate_left
          · intro w
            go_simp
            with_reducible rfl
          refine wpAny_take (i := 4) (v := ?_) rfl (by kernel_rfl) (by kernel_rfl) (by kernel_rfl) (fun _ _ _ h => h) (Or.inl ⟨by rfl, ?_⟩) ?_
          rotate_left
          · intro w
            go_simp
            with_reducible rfl
          refine wpAny_take (i := 5) (v := ?_) rfl (by kernel_rfl) (by kernel_rfl) (by kernel_rfl) (fun _ _ _ h => h) (Or.inl ⟨by rfl, ?_⟩) ?_
          rotate_left
          · intro w
            go_simp
            with_reducible rfl
          refine wpAny_take (i := 6) (v := ?_) rfl (by kernel_rfl) (by kernel_rfl) (by kernel_rfl) (fun _ _ _ h => h) (Or.inl ⟨by rfl, ?_⟩) ?_
          rotate_left
          · intro w
            go_simp
            with_reducible rfl
          simp only [Act.put, List.setIfInBounds_toArray, List.set_cons_zero, List.set_cons_succ, List.getElem_toArray, List.getElem_cons_zero, List.getElem_cons_succ]
          have I : P1 w wr.drew N gl gg g n c k j := P1.below HI.out (Below.refl _ _).drew
          clear HI
          obtain ⟨W, hW⟩ : ∃ W, W = wr.drew := ⟨_, rfl⟩
          rw [← hW] at I ⊢
          clear hW
          have cls := I.ls.cell k hlt
          obtain ⟨v0, c0⟩ := (I.here hlt).has j (by omega)
          have f0 := (I.here hlt).frozen j
          have hN9 : N ≤ 400 := hN
          refine wpAny_take (i := 2) (v := ?_) rfl (by kernel_rfl) (by kernel_rfl) (by kernel_rfl) (fun _ _ _ h => h) (Or.inl ⟨by rfl, ?_⟩) ?_
          rotate_left
          · intro w
            go_simp
            with_reducible rfl
          simp only [Act.put, List.setIfInBounds_toArray, List.set_cons_zero, List.set_cons_succ, List.getElem_toArray, List.getElem_cons_zero, List.getElem_cons_succ]
          refine wpAny_of_late (C := SlotsCells [(31, .pointer (some ⟨gl, k, none⟩))] [(⟨gl, k, none⟩, .slice (some ⟨g k, 0, none⟩) (n k) (c k))]) (late := [8, 9]) _ _ _ _ ?_
          refine wpAnyD_take (i := 3) (v := .slice (some ⟨g k, 0, none⟩) (n k) (c k)) rfl (by kernel_rfl) (by kernel_rfl) (by kernel_rfl) (by kernel_rfl) (fun _ _ _ h => h) ?_ (fun fr u h => (SlotsCells.put 32 _ (by rfl)).1 h) (fun fr u h => (SlotsCells.put 32 _ (by rfl)).2 h) ?_ ?_
          · intro fr u hh
            obtain ⟨e1, e2⟩ := hh.load (s := 31) (p := ⟨gl, k, none⟩) (v := .slice (some ⟨g k, 0, none⟩) (n k) (c k)) (by simp) (by simp)
            exact ⟨rfl, by simp [execOp, e1, go_sem, e2]⟩
          · refine ⟨fun p hp => ?_, fun q hq => ?_⟩
            · simp at hp
              subst hp
              rfl
            · simp at hq
              subst hq
              exact cls
          simp only [Act.put, List.setIfInBounds_toArray, List.set_cons_zero, List.set_cons_succ, List.getElem_toArray, List.getElem_cons_zero, List.getElem_cons_succ]
          refine wpAnyD_one (i := 7) (by kernel_rfl) rfl (fun K hK => ?_)
          go_simp
          refine (mark_at k j W (by omega) (by omega)).mono ?_
          rintro e w3 ⟨rfl, rfl⟩
          refine hK _ _ ⟨?_, ?_⟩
          · refine .inr ⟨fun p hp => ?_, fun q hq => ?_⟩
            · simp at hp
              subst hp
              rfl
            · simp at hq
              subst hq
              exact cls
          clear hK K
          refine wpAnyD_one (i := 8) (by kernel_rfl) rfl (fun K hK => ?_)
          go_simp
          refine hK _ _ ⟨.inl rfl, ?_⟩
          clear hK K
          refine wpAnyD_one (i := 9) (by kernel_rfl) rfl (fun K hK => ?_)
          go_simp
          refine hK _ _ ⟨.inl rfl, ?_⟩
          clear hK K
          refine wpAnyD_done (by kernel_rfl) ?_ _
          have I2 := I.step hlt (by omega) Hap.out
          generalize w3.setCell ⟨g k, j, none⟩ (.int .u8 (mrk k j)) = X at I2 ⊢
          clear I cls c0 f0
          go_wp2
          go_roundw
          case rel => exact ⟨j + 1, by omega, by go_num, I2⟩
          case measure => simp [intOf]; omega
        · have hjn : j = n k := by omega
          subst hjn
          have I2 := I.next
          go_wp2
          go_roundw
          case rel => exact ⟨k + 1, by omega, by go_num, I2⟩
          case measure => simp [intOf]; omega
    · have hkN : k = N := by omega
      rw [hkN] at I ⊢
      have J0 := I.grow (fun _ => 0) (fun _ => 0)
      clear I hkN hlt hk
      go_wp2_with fail
      go_loopw [6] (fun i wr => ∃ (k : Nat) (b cb : Nat → Nat), k ≤ N ∧ i = .int .i64 k ∧ P2 w wr N gl gg g n c k b cb) (fun i _ => N - (intOf i).toNat)
      case atStart => exact ⟨0, _, _, by omega, rfl, J0⟩
      case round =>
        clear J0
        obtain ⟨k, b, cb, hk, rfl, J⟩ := hrel
        by_cases hlt : k < N
        · obtain ⟨s1, s2, s3⟩ := Hsz.out k hlt
          have gN : (k : Int) < (N : Int) := by omega
          have cls := J.ls.cell k hlt
          have K0 := J.start hlt s2 Hap.out
          have HK : Hid _ := K0
          clear J K0
          go_wp2_with fail
          clear cls
          go_loopw [7, 8] (fun v i wr => ∃ (j bb cc : Nat), j ≤ 40 ∧ v = .slice (some ⟨bb, 0, none⟩) (n k + j) cc ∧ i = .int .i64 j ∧ P3 w wr N gl gg g n c k b cb bb cc (n k + j)) (fun _ i _ => 40 - (intOf i).toNat)
          case atStart => exact ⟨0, g k, c k, by omega, rfl, rfl, HK.out⟩
          case round =>
            clear HK
            obtain ⟨j, bb, cc, hj, rfl, rfl, J⟩ := hrel
            by_cases hj40 : j < 40
            · have hj2 : (j : Int) < 40 := by omega
              have cls := J.p2.ls.cell k hlt
              have cM := mark_at k (n k + j) wr (by omega) (by omega)
              rw [show ((n k + j : Nat) : Int) = (n k : Int) + (j : Int) by omega] at cM
              have HJ : Hid _ := J
              clear J
              go_wp2_with fail
              refine cM.mono ?_
              rintro e w3 ⟨rfl, rfl⟩
              clear cM cls
              obtain ⟨ga, hga⟩ : ∃ ga, ga = w3.heap.size := ⟨_, rfl⟩
              obtain ⟨V, hV⟩ : ∃ V, V = w3.alloc (.cells #[.int .u8 (mrk k (n k + j))] 5) := ⟨_, rfl⟩
              have bA : Below w3.heap.size w3 V := by rw [hV]; exact (Below.refl _ _).alloc (Nat.le_refl _) _
              have xV : V.cell? ⟨ga, 0, none⟩ = some (.int .u8 (mrk k (n k + j))) := by rw [hV, hga]; exact (Box.new w3 #[.int .u8 (mrk k (n k + j))] 5).cell 0
              have JV := P3.below HJ.out bA
              obtain ⟨b', cc', w4, hrun, m4, l4, hw4⟩ := JV.cur.append JV.lim 26 ga xV (by omega)
              have J4 := JV.grown hlt (by omega) b' cc' m4 l4 hw4
              have HV : Hid _ := hV
              have HG : Hid _ := hga
              have HJ4 : Hid _ := J4
              clear hV hga J4 JV m4 l4 hw4 xV bA HJ
              go_wp2_with (rw [← HG.out, ← HV.out]; at_builtin; refine wpList_append_ran rfl _ _ 26 26 rfl _ _ _ w4 rfl rfl hrun ?_)
              go_roundw
              case rel => exact ⟨j + 1, b', cc', by omega, rfl, by go_num, HJ4.out⟩
              case measure => simp [intOf]; omega
            · have hj4 : j = 40 := by omega
              subst j
              have J2 := J.put hlt
              obtain ⟨cs, hb, hs, _⟩ := J.p2.gs
              have cg : wr.cell? ⟨gg, k, none⟩ = some (cs[k]'(by omega)) := by rw [hb.cell k, Array.getElem?_eq_getElem]
              have fg := hb.frozen k
              generalize (cs[k]'(by omega)) = vg at cg
              clear J hb
              go_wp2
              go_roundw
              case rel => exact ⟨k + 1, _, _, by omega, by go_num, J2⟩
              case measure => simp [intOf]; omega
        · have hkN : k = N := by omega
          rw [hkN] at J ⊢
          clear hkN hlt hk
          go_wp2_with fail
          go_loopw [9] (fun i wr => ∃ k : Nat, k ≤ N ∧ i = .int .i64 k ∧ P2 w wr N gl gg g n c N b cb) (fun i _ => N - (intOf i).toNat)
          case atStart => exact ⟨0, by omega, rfl, J⟩
          case round =>
            clear J
            obtain ⟨k, hk, rfl, J⟩ := hrel
            by_cases hlt : k < N
            · obtain ⟨s1, s2, s3⟩ := Hsz.out k hlt
              have gN : (k : Int) < (N : Int) := by omega
              have HJ : Hid _ := J
              clear J
              go_wp2_with fail
              go_loopw [10] (fun i wr => ∃ j : Nat, j ≤ n k + 40 ∧ i = .int .i64 j ∧ P2 w wr N gl gg g n c N b cb) (fun i _ => n k + 40 - (intOf i).toNat)
              case atStart => exact ⟨0, by omega, rfl, HJ.out⟩
              case round =>
                clear HJ
                obtain ⟨j, hj, rfl, J⟩ := hrel
                have cg := J.gsCell k hlt
                have cl0 := J.ls.cell k hlt
                by_cases hjl : j < n k + 40
                · have c1 := (J.big k hlt).cell j hjl
                  obtain ⟨_, _, _, bl, _⟩ := J.big k hlt
                  have cM := fun q => mark_at k j (wr.drewN q) (by omega) (by omega)
                  have HJ : Hid (P2 w wr N gl gg g n c N b cb) := J
                  by_cases hjn : j < n k
                  · have c2 := (J.row k hlt).cell j hjn
                    clear J
                    go_upto_region 24 with fail
                    go_quiet (exact Calls.quiet_of_same (cM _))
                    have J5 := P2.below HJ.out (below_drawn wr nq)
                    generalize wr.drewN nq = X at J5 ⊢
                    clear HJ cM c1 c2 cg cl0
                    go_wp2
                    go_roundw
                    case rel => exact ⟨j + 1, by omega, by go_num, J5⟩
                    case measure => simp [intOf]; omega
                  · have hjn2 : ¬ (j : Int) < (n k : Int) := by omega
                    clear J
                    go_upto_region 24 with fail
                    go_quiet (exact Calls.quiet_of_same (cM _))
                    have J5 := P2.below HJ.out (below_drawn wr nq)
                    generalize wr.drewN nq = X at J5 ⊢
                    clear HJ cM c1 cg cl0
                    go_wp2
                    go_roundw
                    case rel => exact ⟨j + 1, by omega, by go_num, J5⟩
                    case measure => simp [intOf]; omega
                · have hjn : j = n k + 40 := by omega
                  subst hjn
                  go_wp2
                  go_roundw
                  case rel => exact ⟨k + 1, by omega, by go_num, J⟩
                  case measure => simp [intOf]; omega
            · have hkN : k = N := by omega
              rw [hkN]
              have hb := J.but
              clear J
              go_wp2
              go_ret
              exact ⟨rfl, hb⟩
end Go.Proofs.Ytdkaacjeogifdaa.Rc.Apart

/-
  Rows of 4096 bytes that lie apart, gathered: no walk here.
-/
namespace Go.Proofs.Ytdkaacjeogifdaa.H
open Go.RowKit
open Go.Proofs.Ytdkaacjeogifdaa.Rc (GG GetJ RowB imgC)

def rcC (rs : List (Nat × Nat)) : List Value := rs.map fun p => .slice (some ⟨p.1, 0, none⟩) 4096 p.2
/-- rows of 4096 bytes between two blocks, apart -/
structure Rw (B T : Nat) (W : World) (rs : List (Nat × Nat)) : Prop where
  rows : ∀ p ∈ rs, (∃ ys, RowB W p.1 p.2 ys ∧ ys.length = 4096) ∧ B ≤ p.1 ∧ p.1 < T
  apart : (rs.map Prod.fst).Nodup
theorem Rw.below {B T : Nat} {W W' : World} {rs : List (Nat × Nat)} (h : Rw B T W rs) (b : Below W.heap.size W W') : Rw B T W' rs :=
  ⟨fun p hp => by
    obtain ⟨⟨ys, h1, h2⟩, h3⟩ := h.rows p hp
    exact ⟨⟨ys, h1.same (b.block _ h1.lt), h2⟩, h3⟩, h.apart⟩
theorem Rw.join {B T T' : Nat} {W : World} {rs qs : List (Nat × Nat)} (h : Rw B T W rs) (k : Rw T T' W qs) (hB : B ≤ T) (hT : T ≤ T') : Rw B T' W (rs ++ qs) := by
  refine ⟨fun p hp => ?_, ?_⟩
  · rcases List.mem_append.1 hp with q | q
    · obtain ⟨h1, h2, h3⟩ := h.rows p q
      exact ⟨h1, h2, by omega⟩
    · obtain ⟨h1, h2, h3⟩ := k.rows p q
      exact ⟨h1, by omega, h3⟩
  · rw [List.map_append, List.nodup_append]
    refine ⟨h.apart, k.apart, fun x hx y hy e => ?_⟩
    obtain ⟨p, hp, rfl⟩ := List.mem_map.1 hx
    obtain ⟨q, hq, rfl⟩ := List.mem_map.1 hy
    have h1 := (h.rows p hp).2.2
    have h2 := (k.rows q hq).2.1
    omega
theorem rw_get {B : Nat} {W : World} {qs : List GG} (h : GetJ B W qs) : Rw B W.heap.size W (qs.map fun p => (p.h, p.c)) := by
  refine ⟨fun p hp => ?_, ?_⟩
  · obtain ⟨q, hq, rfl⟩ := List.mem_map.1 hp
    obtain ⟨h1, h2, h3⟩ := h.rows q hq
    exact ⟨⟨q.xs, h1, h3⟩, h2, h1.lt⟩
  · rw [List.map_map]
    exact h.apart
theorem own_rowB {w : World} {g : Nat} {ys : List UInt8} (h : Rc.Own w g ys) (hl : ys.length = 4096) : RowB w g 4096 ys :=
  ⟨(Rc.bcs ys).toArray, h, by omega, by unfold maxLen; omega, by simp [Rc.bcs_length, hl], by simp [List.take_of_length_le, Rc.bcs_length]⟩
theorem rw_two {B T g1 g2 : Nat} {W : World} {xs ys : List UInt8} (h1 : Rc.Own W g1 xs) (h2 : Rc.Own W g2 ys) (hx : xs.length = 4096) (hy : ys.length = 4096) (hB : B ≤ g1) (hlt : g1 < g2) (hT : g2 < T) : Rw B T W [(g1, 4096), (g2, 4096)] := by
  refine ⟨fun p hp => ?_, by simp; omega⟩
  simp only [List.mem_cons, List.not_mem_nil, or_false] at hp
  rcases hp with rfl | rfl
  · exact ⟨⟨xs, own_rowB h1 hx, hx⟩, hB, by omega⟩
  · exact ⟨⟨ys, own_rowB h2 hy, hy⟩, by omega, hT⟩
def duo (X Y : List (Nat × Nat)) (k : Nat) : List (Nat × Nat) := (List.range k).flatMap fun i => [X.getD i (0, 0), Y.getD i (0, 0)]
theorem duo_succ (X Y : List (Nat × Nat)) (k : Nat) : duo X Y (k + 1) = duo X Y k ++ [X.getD k (0, 0), Y.getD k (0, 0)] := by simp [duo, List.range_succ]
theorem duo_mem {X Y : List (Nat × Nat)} {k : Nat} {p : Nat × Nat} (h : p ∈ duo X Y k) : ∃ i, i < k ∧ (p = X.getD i (0, 0) ∨ p = Y.getD i (0, 0)) := by
  unfold duo at h
  obtain ⟨i, hi, hp⟩ := List.mem_flatMap.1 h
  exact ⟨i, by simpa using hi, by simpa using hp⟩
theorem duo_length (X Y : List (Nat × Nat)) (k : Nat) : (duo X Y k).length = k * 2 := by
  induction k with
  | zero => rfl
  | succ k ih => rw [duo_succ, List.length_append, ih]; simp; omega
theorem getD_mem {C : List (Nat × Nat)} {i : Nat} (h : i < C.length) : C.getD i (0, 0) ∈ C := by
  rw [List.getD_eq_getElem?_getD, List.getElem?_eq_getElem h]
  exact List.getElem_mem h
theorem getD_inj {C : List (Nat × Nat)} (hc : (C.map Prod.fst).Nodup) {i j : Nat} (hi : i < C.length) (hj : j < C.length) (e : (C.getD i (0, 0)).1 = (C.getD j (0, 0)).1) : i = j := by
  rw [List.getD_eq_getElem?_getD, List.getD_eq_getElem?_getD, List.getElem?_eq_getElem hi, List.getElem?_eq_getElem hj] at e
  have h1 : (C.map Prod.fst)[i]'(by simpa using hi) = (C.map Prod.fst)[j]'(by simpa using hj) := by simpa using e
  exact (List.getElem_inj hc).1 h1
theorem rw_duo {B1 B2 B3 : Nat} {W : World} {X Y : List (Nat × Nat)} {n : Nat} (hX : Rw B1 B2 W X) (hY : Rw B2 B3 W Y) (lx : X.length = n) (ly : Y.length = n) : ∀ k, k ≤ n → Rw B1 B3 W (duo X Y k) := by
  intro k
  induction k with
  | zero => exact fun _ => ⟨fun p hp => (by cases hp), List.nodup_nil⟩
  | succ k ih =>
    intro hk
    have h := ih (by omega)
    obtain ⟨x1, x2, x3⟩ := hX.rows _ (getD_mem (show k < X.length by omega))
    obtain ⟨y1, y2, y3⟩ := hY.rows _ (getD_mem (show k < Y.length by omega))
    rw [duo_succ]
    refine ⟨fun p hp => ?_, ?_⟩
    · rcases List.mem_append.1 hp with hp | hp
      · exact h.rows p hp
      · simp only [List.mem_cons, List.not_mem_nil, or_false] at hp
        rcases hp with rfl | rfl
        · exact ⟨x1, x2, by omega⟩
        · exact ⟨y1, by omega, y3⟩
    · rw [List.map_append, List.nodup_append]
      refine ⟨h.apart, by simp only [List.map_cons, List.map_nil, List.nodup_cons, List.mem_cons, List.not_mem_nil, or_false, not_false_eq_true, List.nodup_nil, and_true]; omega, fun a ha b hb e => ?_⟩
      obtain ⟨p, hp, rfl⟩ := List.mem_map.1 ha
      obtain ⟨i, hi, hpi⟩ := duo_mem hp
      simp only [List.map_cons, List.map_nil, List.mem_cons, List.not_mem_nil, or_false] at hb
      obtain ⟨_, xi2, xi3⟩ := hX.rows _ (getD_mem (show i < X.length by omega))
      obtain ⟨_, yi2, yi3⟩ := hY.rows _ (getD_mem (show i < Y.length by omega))
      rcases hpi with rfl | rfl <;> rcases hb with rfl | rfl
      · have := getD_inj hX.apart (by omega) (by omega) e
        omega
      · omega
      · omega
      · have := getD_inj hY.apart (by omega) (by omega) e
        omega
theorem img_cells {w : World} {B m : Nat} {g n c : Nat} {qs : List GG} (ho : w.ownsRow B 37 2 (.slice (some ⟨g, 0, none⟩) n c) m (imgC qs)) (hm : qs.length = m) (h0 : 0 < m) : g < w.heap.size ∧ ∀ i, i < m → w.cell? ⟨g, i * 2 + 1, none⟩ = some (.slice (some ⟨((qs.map fun p => (p.h, p.c)).getD i (0, 0)).1, 0, none⟩) 4096 ((qs.map fun p => (p.h, p.c)).getD i (0, 0)).2) := by
  obtain ⟨g', he, _, ⟨cur, hb⟩, hc⟩ := owns_cells ho h0
  obtain rfl : g = g' := by simpa using he
  refine ⟨hb.lt, fun i hi => ?_⟩
  have hi' : i < qs.length := by omega
  rw [hc _ (by omega), (Rc.imgC_at qs i hi').2]
  simp [hi']
end Go.Proofs.Ytdkaacjeogifdaa.H

/-
  SameInts.
-/
namespace Go.Proofs.Ytdkaacjeogifdaa.Dk
open Go.RowKit

/-- These whole numbers lie where a says (of none nothing is asked). -/
def RdI (w : World) (a : Option Addr) (zs : List Int) : Prop :=
  0 < zs.length → ∃ b o, a = some ⟨b, o, none⟩ ∧ ∀ j (h : j < zs.length), w.cell? ⟨b, o + j, none⟩ = some (.int .i64 zs[j])
theorem RdI.below {B : Nat} {w w' : World} {a : Option Addr} {zs : List Int} (h : RdI w a zs) (hb : Below B w w') (hB : w.heap.size ≤ B) : RdI w' a zs := fun hp => by
  obtain ⟨b, o, ha, hc⟩ := h hp
  refine ⟨b, o, ha, fun j hj => ?_⟩
  have hlt : b < w.heap.size := block_lt_of_cell (hc j hj)
  rw [hb.cell (p := ⟨b, o + j, none⟩) (Nat.lt_of_lt_of_le hlt hB)]
  exact hc j hj

end Go.Proofs.Ytdkaacjeogifdaa.Dk

/-
  ReplayAgain: what lies in memory.
-/
namespace Go.Proofs.Ytdkaacjeogifdaa.H
open Go.RowKit
open Go.Proofs.Ytdkaacjeogifdaa.Rc (GG GetJ imgC RowB)
open Go.Proofs.Ytdkaacjeogifdaa.Dk (Box)

/-- a cut, and where it lies -/
structure CutV where
  arm : Int
  ak : Option Addr
  nk : Nat
  ck : Nat
  keep : List Bool
  torn : Int
  m : Nat
structure CutAt (w : World) (b o : Nat) (c : CutV) : Prop where
  c0 : w.cell? ⟨b, o, none⟩ = some (.int .i64 c.arm)
  c1 : w.cell? ⟨b, o + 1, none⟩ = some (.slice c.ak c.nk c.ck)
  c2 : w.cell? ⟨b, o + 2, none⟩ = some (.int .i64 c.torn)
  c3 : w.cell? ⟨b, o + 3, none⟩ = some (.int .u8 (c.m : Int))
  hm : c.m < 256
  len : c.keep.length = c.nk
  big : c.nk ≤ 9223372036854775807
  rd : Dk.RdBl w c.ak c.keep
def RdCut (w : World) (a : Option Addr) (cs : List CutV) : Prop := 0 < cs.length → ∃ b o, a = some ⟨b, o, none⟩ ∧ ∀ j (h : j < cs.length), CutAt w b (o + j * 4) cs[j]

/-- the group as it is gathered -/
structure L1 (v u : World) (k : Nat) (av : Option Addr) (cv : Nat) (qs : List GG) : Prop where
  box : Box u v.heap.size #[.int .i64 0, .int .i64 0, .slice av k cv] 40
  row : u.ownsRow (v.heap.size + 1) 37 2 (.slice av k cv) k (imgC qs)
  get : GetJ (v.heap.size + 1) u qs
  len : qs.length = k
  ok : ∀ p ∈ qs, 18 ≤ p.b ∧ p.b ≤ 63
  bel : Below v.heap.size v u
theorem L1.start (v : World) : L1 v (v.alloc (.cells #[.int .i64 0, .int .i64 0, .slice none 0 0] 40)) 0 none 0 [] :=
  ⟨Box.new v _ 40, World.ownsRow_nil _ _ _ _, ⟨fun p hp => (by cases hp), List.nodup_nil⟩, rfl, fun p hp => (by cases hp), (Below.refl _ v).alloc (Nat.le_refl _) _⟩
theorem L1.below {v u u' : World} {k : Nat} {av : Option Addr} {cv : Nat} {qs : List GG} (h : L1 v u k av cv qs) (b : Below u.heap.size u u') : L1 v u' k av cv qs :=
  ⟨h.box.below b, Rc.owns_below h.row b, h.get.below b, h.len, h.ok, h.bel.trans (b.mono h.bel.size)⟩
/-- one image more -/
theorem L1.more {v u u1 u2 : World} {k : Nat} {av : Option Addr} {cv : Nat} {qs : List GG} (h : L1 v u k av cv qs) (b1 : Below u.heap.size u u1) {n : Int} {ha : Nat} {xs : List UInt8} (hn : 18 ≤ n ∧ n ≤ 63) (lha : u.heap.size ≤ ha) (ox : Rc.Own u1 ha xs) (lx : xs.length = 4096) {gg gc : Nat}
    (hown : u2.ownsRow (v.heap.size + 1) 37 2 (.slice (some ⟨gg, 0, none⟩) (k + 1) gc) (k + 1) (imgC qs ++ [.int .i64 n, .slice (some ⟨ha, 0, none⟩) 4096 4096])) (hg : (u1.alloc (.cells #[.int .i64 n, .slice (some ⟨ha, 0, none⟩) 4096 4096] 37)).grownBy u2 (Value.slice av k cv).ownBlock) :
    Box u2 v.heap.size #[.int .i64 0, .int .i64 0, .slice av k cv] 40 ∧ L1 v (u2.setCell ⟨v.heap.size, 2, none⟩ (.slice (some ⟨gg, 0, none⟩) (k + 1) gc)) (k + 1) (some ⟨gg, 0, none⟩) gc (qs ++ [⟨n, xs, ha, 4096⟩]) := by
  have al := (Below.refl u1.heap.size u1).alloc (Nat.le_refl _) (.cells #[.int .i64 n, .slice (some ⟨ha, 0, none⟩) 4096 4096] 37)
  have h1 := (h.below b1).below al
  have hb : Below u1.heap.size u1 (u1.alloc (.cells #[.int .i64 n, .slice (some ⟨ha, 0, none⟩) 4096 4096] 37)) := al
  have J1 : GetJ (v.heap.size + 1) u1 (qs ++ [⟨n, xs, ha, 4096⟩]) := h.get.snoc b1 ⟨n, xs, ha, 4096⟩ (own_rowB ox lx) lha lx (by have := h.box.lt; omega)
  have J2 := (J1.below al).grown h1.row (by decide) hg
  have bx2 : Box u2 v.heap.size #[.int .i64 0, .int .i64 0, .slice av k cv] 40 := (hg.block _ h1.box.lt (fun e => by
    obtain ⟨_, cur, hb⟩ := Rc.owns_block h1.row v.heap.size e.symm
    exact Box.ne h1.box hb (by decide) rfl)).trans h1.box
  have B2 : Below v.heap.size v u2 := h1.bel.grown hg h1.bel.size (fun j e => Nat.le_of_succ_le (Rc.owns_block h1.row j e).1)
  refine ⟨bx2, ?_, ?_, J2.store bx2 (by decide) _, by simp [h.len], fun p hp => ?_, B2.setCell (p := ⟨v.heap.size, 2, none⟩) (Nat.le_refl _) _⟩
  · have := bx2.store 2 (.slice (some ⟨gg, 0, none⟩) (k + 1) gc)
    simpa using this
  · have e : imgC (qs ++ [⟨n, xs, ha, 4096⟩]) = imgC qs ++ [.int .i64 n, .slice (some ⟨ha, 0, none⟩) 4096 4096] := by simp [imgC]
    rw [e]
    refine ⟨hown.1, hown.2.imp id fun ⟨g, cap, cur, a, b, r, rest⟩ => ⟨g, cap, cur, a, b, ?_, rest⟩⟩
    rw [heap_setCell_other]
    · exact r
    · exact fun e => by simp at e; omega
  · rcases List.mem_append.1 hp with hp | hp
    · exact h.ok p hp
    · simp at hp
      subst hp
      exact hn
end Go.Proofs.Ytdkaacjeogifdaa.H

/-
  ReplaySpares' walk.
-/
namespace Go.Proofs.Ytdkaacjeogifdaa.H
open Go.RowKit
open Go.Proofs.Ytdkaacjeogifdaa.Rc (madeL Imgs GG GetJ imgC)
open Go.Proofs.Ytdkaacjeogifdaa.Dk (Box)

theorem pick46 (x : Int) (w : World) : Calls Try.prog 22 #[.int .i64 x, .int .i64 46] w fun e w' => ∃ p : Nat, p < 46 ∧ e = .returned (.int .i64 p) ∧ w = w' := Su.pick_at x 46 w (by decide) (by decide)
/-- the law's two groups, in memory -/
structure Two (w u : World) (n m : Int) (ha hb gA gB gG : Nat) (m1 m2 : List UInt8) : Prop where
  bel : Below w.heap.size w u
  xA : Box u gA #[.int .i64 n, .slice (some ⟨ha, 0, none⟩) 4096 4096] 37
  xB : Box u gB #[.int .i64 m, .slice (some ⟨hb, 0, none⟩) 4096 4096] 37
  xG : Box u gG #[.int .i64 0, .int .i64 0, .slice (some ⟨gA, 0, none⟩) 1 1, .int .i64 0, .int .i64 0, .slice (some ⟨gB, 0, none⟩) 1 1] 40
  o1 : Rc.Own u ha m1
  o2 : Rc.Own u hb m2
  lo : w.heap.size ≤ ha
  lt : ha < hb
theorem Two.below {w u u' : World} {n m : Int} {ha hb gA gB gG : Nat} {m1 m2 : List UInt8} (h : Two w u n m ha hb gA gB gG m1 m2) (b : Below u.heap.size u u') : Two w u' n m ha hb gA gB gG m1 m2 :=
  ⟨h.bel.trans (b.mono h.bel.size), h.xA.below b, h.xB.below b, h.xG.below b, h.o1.below b h.o1.lt, h.o2.below b h.o2.lt, h.lo, h.lt⟩
theorem Two.home {w u : World} {n m : Int} {ha hb gA gB gG : Nat} {m1 m2 : List UInt8} (h : Two w u n m ha hb gA gB gG m1 m2) (l1 : m1.length = 4096) (l2 : m2.length = 4096) (hn : 18 ≤ n ∧ n ≤ 63) (hm : 18 ≤ m ∧ m ≤ 63) :
    Calls Try.prog 8 #[.agg lay, .slice (some ⟨gG, 0, none⟩) 2 2] u fun r w' => ∃ a c ks qs, r = .returned (.tuple #[.slice a (List.length ks) c, .int .i64 0]) ∧ HomeR u.heap.size [(n, m1), (m, m2)] ks qs a c w' ∧ Below u.heap.size u w' :=
  home_at u (some ⟨gG, 0, none⟩) 2 2 [⟨0, 0, some ⟨gA, 0, none⟩, 1, [(n, some ⟨ha, 0, none⟩, 4096, 4096)]⟩, ⟨0, 0, some ⟨gB, 0, none⟩, 1, [(m, some ⟨hb, 0, none⟩, 4096, 4096)]⟩]
    [((n, some ⟨ha, 0, none⟩, 4096, 4096), m1), ((m, some ⟨hb, 0, none⟩, 4096, 4096), m2)] rfl (by decide) (cellsG_two h.xG rfl (by decide) (cellsI_one h.xA) rfl (by decide) (cellsI_one h.xB)) rfl
    (fun p hp => by
      simp only [List.mem_cons, List.not_mem_nil, or_false] at hp
      rcases hp with rfl | rfl
      · exact ⟨h.o1.rd, l1, rfl⟩
      · exact ⟨h.o2.rd, l2, rfl⟩)
    (fun p hp => by
      simp only [List.mem_cons, List.not_mem_nil, or_false] at hp
      rcases hp with rfl | rfl <;> (dsimp only; omega))
theorem two_keys {n m : Int} {m1 m2 : List UInt8} {ks : List Int} (h1 : ks.Pairwise (· < ·)) (h2 : ∀ x, x ∈ ks ↔ (lastD [(n, m1), (m, m2)] x).isSome = true) : ks.length ≤ 2 ∧ 0 < ks.length := by
  have hm : ∀ x, x ∈ ks ↔ x = n ∨ x = m := fun x => by
    rw [h2 x]
    simp only [lastD, List.foldl_cons, List.foldl_nil]
    by_cases e1 : n = x
    · subst e1
      by_cases e2 : m = n <;> simp [e2]
    · by_cases e2 : m = x
      · subst e2; simp
      · simp [e1, e2]
        exact ⟨fun h => e1 h.symm, fun h => e2 h.symm⟩
  refine ⟨nodup_le ks [n, m] (h1.imp (fun {a b} h => by omega)) (fun x hx => by simpa using (hm x).1 hx), List.length_pos_of_mem ((hm n).2 (.inl rfl))⟩
/-- what stands ahead of the gathering -/
structure SpS (w W : World) (n m : Int) (ha hb gA gB gG gx gy k c c' T : Nat) (X Y : List (Nat × Nat)) (m1 m2 : List UInt8) : Prop where
  two : Two w W n m ha hb gA gB gG m1 m2
  cx : ∀ i, i < k → W.cell? ⟨gx, i * 2 + 1, none⟩ = some (.slice (some ⟨(X.getD i (0, 0)).1, 0, none⟩) 4096 (X.getD i (0, 0)).2)
  cy : ∀ i, i < k → W.cell? ⟨gy, i * 2 + 1, none⟩ = some (.slice (some ⟨(Y.getD i (0, 0)).1, 0, none⟩) 4096 (Y.getD i (0, 0)).2)
  lx : gx < W.heap.size
  ly : gy < W.heap.size
  rows : Rw w.heap.size T W ([(ha, 4096), (hb, 4096)] ++ duo X Y k)
theorem SpS.below {w W W' : World} {n m : Int} {ha hb gA gB gG gx gy k c c' T : Nat} {X Y : List (Nat × Nat)} {m1 m2 : List UInt8} (h : SpS w W n m ha hb gA gB gG gx gy k c c' T X Y m1 m2) (b : Below W.heap.size W W') : SpS w W' n m ha hb gA gB gG gx gy k c c' T X Y m1 m2 where
  two := h.two.below b
  cx := fun i hi => (b.cell (p := ⟨gx, i * 2 + 1, none⟩) h.lx).trans (h.cx i hi)
  cy := fun i hi => (b.cell (p := ⟨gy, i * 2 + 1, none⟩) h.ly).trans (h.cy i hi)
  lx := Nat.lt_of_lt_of_le h.lx b.size
  ly := Nat.lt_of_lt_of_le h.ly b.size
  rows := h.rows.below b

set_option maxRecDepth 100000 in
set_option maxHeartbeats 8000000 in
theorem spares_at (n0 m0 : Int) (w : World) : Calls Try.prog 5 #[.int .i64 n0, .int .i64 m0] w fun r w' => r = .returned (.bool true) ∧ Below w.heap.size w w' := by
  obtain ⟨j0, ji, jz0, jz1, jz2⟩ := info_parts Rc.Apart.infoB
  have HA : Hid (∀ u : World, Calls Try.prog 19 #[] u fun r w' => r = .returned (.bool true) ∧ Below u.heap.size u w') := awake_at
  have HLy : Hid (∀ u : World, Calls Try.prog 9 #[] u fun r w' => r = .returned (.agg #[.int .i64 64, .int .i64 2, .int .i64 16, .int .i64 18, .int .i64 19, .int .i64 4, .int .i64 23]) ∧ Below u.heap.size u w') := fun u => layout64_at u
  have M1 : ∀ (n : Int) (u : World), Calls Try.prog 10 #[.int .i64 n, .int .i64 1] u fun r w' => ∃ g, r = .returned (.agg #[.int .i64 n, .slice (some ⟨g, 0, none⟩) 4096 4096]) ∧ u.heap.size ≤ g ∧ Rc.Own w' g (madeL 1 4096) ∧ Below u.heap.size u w' := fun n u => made_at n 1 u
  have M2 : ∀ (n : Int) (u : World), Calls Try.prog 10 #[.int .i64 n, .int .i64 2] u fun r w' => ∃ g, r = .returned (.agg #[.int .i64 n, .slice (some ⟨g, 0, none⟩) 4096 4096]) ∧ u.heap.size ≤ g ∧ Rc.Own w' g (madeL 2 4096) ∧ Below u.heap.size u w' := fun n u => made_at n 2 u
  have l1 : Hid ((madeL 1 4096).length = 4096) := madeL_len 1
  have l2 : Hid ((madeL 2 4096).length = 4096) := madeL_len 2
  generalize madeL 1 4096 = m1 at M1 l1
  generalize madeL 2 4096 = m2 at M2 l2
  have HM1 : Hid (∀ (n : Int) (u : World), Calls Try.prog 10 #[.int .i64 n, .int .i64 1] u fun r w' => ∃ g, r = .returned (.agg #[.int .i64 n, .slice (some ⟨g, 0, none⟩) 4096 4096]) ∧ u.heap.size ≤ g ∧ Rc.Own w' g m1 ∧ Below u.heap.size u w') := M1
  have HM2 : Hid (∀ (n : Int) (u : World), Calls Try.prog 10 #[.int .i64 n, .int .i64 2] u fun r w' => ∃ g, r = .returned (.agg #[.int .i64 n, .slice (some ⟨g, 0, none⟩) 4096 4096]) ∧ u.heap.size ≤ g ∧ Rc.Own w' g m2 ∧ Below u.heap.size u w') := M2
  clear M1 M2
  go_enter Try.func5, Try.ntmps5
  go_wp2_with fail
  refine Calls.mono (pick46 n0 _) ?_
  rintro r u0 ⟨p, hp, rfl, rfl⟩
  go_wp2_with fail
  refine Calls.mono (pick46 m0 _) ?_
  rintro r u0 ⟨q, hq, rfl, rfl⟩
  have hwp : IntKind.i64.wrap (18 + (p : Int)) = 18 + p := by rw [IntKind.wrap_i64]; omega
  have hwq : IntKind.i64.wrap (18 + (q : Int)) = 18 + q := by rw [IntKind.wrap_i64]; omega
  go_wp2_with fail
  have hn : Hid (18 ≤ (18 + p : Int) ∧ (18 + p : Int) ≤ 63) := by show _ ∧ _; omega
  have hm : Hid (18 ≤ (18 + q : Int) ∧ (18 + q : Int) ≤ 63) := by show _ ∧ _; omega
  generalize (18 + (p : Int)) = n at hn ⊢
  generalize (18 + (q : Int)) = m at hm ⊢
  clear hwp hwq hp hq
  refine Calls.mono (HM1.out n _) ?_
  rintro r u1 ⟨ha, rfl, lha, o1, b1⟩
  have bA := (Below.refl u1.heap.size u1).alloc (Nat.le_refl _) (.cells #[.int .i64 n, .slice (some ⟨ha, 0, none⟩) 4096 4096] 37)
  have xA := Box.new u1 #[.int .i64 n, .slice (some ⟨ha, 0, none⟩) 4096 4096] 37
  have B2 := b1.alloc b1.size (.cells #[.int .i64 n, .slice (some ⟨ha, 0, none⟩) 4096 4096] 37)
  have o12 := o1.below bA o1.lt
  have lt1 := o1.lt
  obtain ⟨w2, hw2⟩ : ∃ u, u = u1.alloc (.cells #[.int .i64 n, .slice (some ⟨ha, 0, none⟩) 4096 4096] 37) := ⟨_, rfl⟩
  obtain ⟨gA, hgA⟩ : ∃ u, u = u1.heap.size := ⟨_, rfl⟩
  have z2 := bA.size
  rw [← hw2] at B2 xA o12 z2
  rw [← hgA] at xA z2 lt1
  have HW2 : Hid (w2 = u1.alloc (.cells #[.int .i64 n, .slice (some ⟨ha, 0, none⟩) 4096 4096] 37)) := hw2
  have HGA : Hid (gA = u1.heap.size) := hgA
  clear bA hw2 hgA o1 b1
  go_wp2_with fail
  rw [← HW2.out, ← HGA.out]
  clear HW2 HGA
  refine Calls.mono (HM2.out m _) ?_
  rintro r u3 ⟨hb, rfl, lhb, o2, b3⟩
  have al := ((Below.refl u3.heap.size u3).alloc (Nat.le_refl _) (.cells #[.int .i64 m, .slice (some ⟨hb, 0, none⟩) 4096 4096] 37)).alloc (by simp) (.cells #[.int .i64 0, .int .i64 0, .slice (some ⟨gA, 0, none⟩) 1 1, .int .i64 0, .int .i64 0, .slice (some ⟨u3.heap.size, 0, none⟩) 1 1] 40)
  have xB := (Box.new u3 #[.int .i64 m, .slice (some ⟨hb, 0, none⟩) 4096 4096] 37).alloc (.cells #[.int .i64 0, .int .i64 0, .slice (some ⟨gA, 0, none⟩) 1 1, .int .i64 0, .int .i64 0, .slice (some ⟨u3.heap.size, 0, none⟩) 1 1] 40)
  have xG := Box.new (u3.alloc (.cells #[.int .i64 m, .slice (some ⟨hb, 0, none⟩) 4096 4096] 37)) #[.int .i64 0, .int .i64 0, .slice (some ⟨gA, 0, none⟩) 1 1, .int .i64 0, .int .i64 0, .slice (some ⟨u3.heap.size, 0, none⟩) 1 1] 40
  have hz : (u3.alloc (.cells #[.int .i64 m, .slice (some ⟨hb, 0, none⟩) 4096 4096] 37)).heap.size = u3.heap.size + 1 := by simp
  rw [hz] at xG
  clear hz
  have B3 := B2.trans (b3.mono B2.size)
  have S4 : Two w ((u3.alloc (.cells #[.int .i64 m, .slice (some ⟨hb, 0, none⟩) 4096 4096] 37)).alloc (.cells #[.int .i64 0, .int .i64 0, .slice (some ⟨gA, 0, none⟩) 1 1, .int .i64 0, .int .i64 0, .slice (some ⟨u3.heap.size, 0, none⟩) 1 1] 40)) n m ha hb gA u3.heap.size (u3.heap.size + 1) m1 m2 :=
    ⟨B3.trans (al.mono B3.size), (xA.below b3).below al, xB, xG, (o12.below b3 o12.lt).below al (Nat.lt_of_lt_of_le o12.lt b3.size), o2.below al o2.lt, lha, by omega⟩
  obtain ⟨w4, hw4⟩ : ∃ u, u = (u3.alloc (.cells #[.int .i64 m, .slice (some ⟨hb, 0, none⟩) 4096 4096] 37)).alloc (.cells #[.int .i64 0, .int .i64 0, .slice (some ⟨gA, 0, none⟩) 1 1, .int .i64 0, .int .i64 0, .slice (some ⟨u3.heap.size, 0, none⟩) 1 1] 40) := ⟨_, rfl⟩
  obtain ⟨gG, hgG⟩ : ∃ u, u = u3.heap.size + 1 := ⟨_, rfl⟩
  rw [← hw4, ← hgG] at S4
  have HW4 : Hid (w4 = (u3.alloc (.cells #[.int .i64 m, .slice (some ⟨hb, 0, none⟩) 4096 4096] 37)).alloc (.cells #[.int .i64 0, .int .i64 0, .slice (some ⟨gA, 0, none⟩) 1 1, .int .i64 0, .int .i64 0, .slice (some ⟨u3.heap.size, 0, none⟩) 1 1] 40)) := hw4
  have HGG : Hid (gG = u3.heap.size + 1) := hgG
  have HS4 : Hid (Two w w4 n m ha hb gA u3.heap.size gG m1 m2) := S4
  clear hw4 hgG al xB xG B3 B2 b3 o12 o2 xA lt1 z2 lha lhb S4
  go_wp2_with fail
  rw [← HW4.out, ← HGG.out]
  clear HW4 HGG
  refine Calls.mono (HLy.out _) ?_
  rintro r u5 ⟨rfl, b5⟩
  have S5 := HS4.out.below b5
  have cH := S5.home l1.out l2.out hn.out hm.out
  have HS5 : Hid (Two w u5 n m ha hb gA u3.heap.size gG m1 m2) := S5
  unfold lay at cH
  clear HS4 b5 S5
  go_wp2_with fail
  refine Calls.mono cH ?_
  rintro r u6 ⟨ax, cx, ks, qs, rfl, R6, b6⟩
  have S6 : Hid (Two w u6 n m ha hb gA u3.heap.size gG m1 m2) := HS5.out.below b6
  have HR6 : Hid (HomeR u5.heap.size [(n, m1), (m, m2)] ks qs ax cx u6) := R6
  obtain ⟨hk2, hk0⟩ := two_keys R6.rise R6.keys
  obtain ⟨k, hk⟩ : ∃ k, k = ks.length := ⟨_, rfl⟩
  have HK : Hid (k = ks.length) := hk
  rw [← hk] at hk2 hk0 ⊢
  have z6 : Hid (hb < u5.heap.size) := HS5.out.o2.lt
  clear cH hk b6 R6 HS5
  go_wp2_with fail
  refine Calls.mono (HLy.out _) ?_
  rintro r u7 ⟨rfl, b7⟩
  have S7 := S6.out.below b7
  have cH := S7.home l1.out l2.out hn.out hm.out
  have HS7 : Hid (Two w u7 n m ha hb gA u3.heap.size gG m1 m2) := S7
  have HB7 : Hid (Below u6.heap.size u6 u7) := b7
  unfold lay at cH
  clear S6 b7 S7
  go_wp2_with fail
  refine Calls.mono cH ?_
  rintro r u8 ⟨ay, cy, ks', qs', rfl, R8, b8⟩
  have hke : ks' = ks := rise_ext _ _ R8.rise HR6.out.rise (fun x => (R8.keys x).trans (HR6.out.keys x).symm)
  subst hke
  rw [← HK.out]
  have S8 := HS7.out.below b8
  have b68 := HB7.out.trans (b8.mono HB7.out.size)
  have I6 := HR6.out.imgs.below b68
  have I8 := R8.imgs
  have cS := Rc.sameImages_at ax ay k cx k cy _ _ u8 (by rw [List.length_map, HK.out]) (by rw [List.length_map, HK.out]) (by omega) I6 I8
  rw [decide_eq_true rfl] at cS
  have lq : qs.length = k := by rw [HK.out]; simpa using congrArg List.length HR6.out.bytes
  have lq' : qs'.length = k := by rw [HK.out]; simpa using congrArg List.length R8.bytes
  have row6 := HR6.out.row
  have row8 := R8.row
  rw [← HK.out] at row6 row8
  obtain ⟨gx, rfl, _, _, _⟩ := owns_cells row6 hk0
  obtain ⟨gy, rfl, _, _, _⟩ := owns_cells row8 hk0
  obtain ⟨lgx, CX⟩ := img_cells row6 lq hk0
  obtain ⟨lgy, CY⟩ := img_cells row8 lq' hk0
  have hS : SpS w u8 n m ha hb gA u3.heap.size gG gx gy k cx cy u8.heap.size (qs.map fun p => (p.h, p.c)) (qs'.map fun p => (p.h, p.c)) m1 m2 := by
    have r1 := rw_two (B := w.heap.size) (T := u5.heap.size) S8.o1 S8.o2 l1.out l2.out S8.lo S8.lt z6.out
    have r2 := (rw_get HR6.out.get).below b68
    have r3 := rw_get R8.get
    have r2' : Rw u5.heap.size u7.heap.size u8 (qs.map fun p => (p.h, p.c)) := ⟨fun p hp => ⟨(r2.rows p hp).1, (r2.rows p hp).2.1, Nat.lt_of_lt_of_le (r2.rows p hp).2.2 HB7.out.size⟩, r2.apart⟩
    have r4 := rw_duo r2' r3 (by simpa using lq) (by simpa using lq') k (Nat.le_refl _)
    exact ⟨S8, fun i hi => (b68.cell (p := ⟨gx, i * 2 + 1, none⟩) lgx).trans (CX i hi), CY, Nat.lt_of_lt_of_le lgx b68.size, lgy, r1.join r4 (Nat.le_trans (Nat.le_trans S8.lo (Nat.le_of_lt S8.lt)) (Nat.le_of_lt z6.out)) (by
      have := r4.rows
      have h1 := HR6.out
      have h2 := b8.size
      have h3 := HB7.out.size
      obtain ⟨_, h4, h5⟩ := r2.rows _ (getD_mem (i := 0) (C := qs.map fun p => (p.h, p.c)) (by simp; omega))
      omega)⟩
  generalize (qs.map fun p => (p.h, p.c)) = X at hS
  generalize (qs'.map fun p => (p.h, p.c)) = Y at hS
  clear cH S8 I6 I8 row6 row8 CX CY lgx lgy lq lq' b8 b68 HB7 HS7 R8 HR6 z6
  have HS : Hid (SpS w u8 n m ha hb gA u3.heap.size gG gx gy k cx cy u8.heap.size X Y m1 m2) := hS
  clear hS
  go_wp2_with fail
  refine Calls.mono cS ?_
  rintro r u9 ⟨rfl, b9⟩
  clear cS
  have hS9 := HS.out.below b9
  have HS9 : Hid (SpS w u9 n m ha hb gA u3.heap.size gG gx gy k cx cy u8.heap.size X Y m1 m2) := hS9
  clear HS b9
  go_upto_region 7 with fail
  have HC : Hid (∀ u : World, Below u9.heap.size u9 u → u.cell? ⟨gG, 2, none⟩ = some (.slice (some ⟨gA, 0, none⟩) 1 1) ∧ u.cell? ⟨gG, 5, none⟩ = some (.slice (some ⟨u3.heap.size, 0, none⟩) 1 1) ∧ u.cell? ⟨gA, 1, none⟩ = some (.slice (some ⟨ha, 0, none⟩) 4096 4096) ∧ u.cell? ⟨u3.heap.size, 1, none⟩ = some (.slice (some ⟨hb, 0, none⟩) 4096 4096)) := fun u hu =>
    ⟨(HS9.out.two.xG.below hu).cell 2, (HS9.out.two.xG.below hu).cell 5, (HS9.out.two.xA.below hu).cell 1, (HS9.out.two.xB.below hu).cell 1⟩
  have b0 := Below.refl u9.heap.size u9
  go_region_held3 (fun u => u.cell? ⟨gG, 2, none⟩ = some (.slice (some ⟨gA, 0, none⟩) 1 1) ∧ u.cell? ⟨gG, 5, none⟩ = some (.slice (some ⟨u3.heap.size, 0, none⟩) 1 1) ∧ u.cell? ⟨gA, 1, none⟩ = some (.slice (some ⟨ha, 0, none⟩) 4096 4096) ∧ u.cell? ⟨u3.heap.size, 1, none⟩ = some (.slice (some ⟨hb, 0, none⟩) 4096 4096))
    (first | with_reducible exact HC.out _ b0.drew | with_reducible exact HC.out _ ((b0.alloc (Nat.le_refl _) _).drew))
    (fail)
  clear HC
  have bB : Below u9.heap.size u9 ((u9.alloc (.cells #[.slice (some ⟨ha, 0, none⟩) 4096 4096, .slice (some ⟨hb, 0, none⟩) 4096 4096] 26)).drew) := (b0.alloc (Nat.le_refl _) _).drew
  have OB : Hid (((u9.alloc (.cells #[.slice (some ⟨ha, 0, none⟩) 4096 4096, .slice (some ⟨hb, 0, none⟩) 4096 4096] 26)).drew).ownsRow u9.heap.size 26 1 (.slice (some ⟨u9.heap.size, 0, none⟩) 2 2) (2 + 2 * 0) (rcC ([(ha, 4096), (hb, 4096)] ++ duo X Y 0))) :=
    ⟨by simp [rcC, duo], .inr ⟨u9.heap.size, 2, #[.slice (some ⟨ha, 0, none⟩) 4096 4096, .slice (some ⟨hb, 0, none⟩) 4096 4096], rfl, Nat.le_refl _, heap_alloc_new u9 _, by omega, by unfold maxLen; omega, rfl, rfl⟩⟩
  clear b0 hS9
  go_wp2_with fail
  go_loopw [10, 11] (fun v10 v11 u => ∃ j : Nat, j ≤ k ∧ v11 = .int .i64 (j : Int) ∧ u.ownsRow u9.heap.size 26 1 v10 (2 + 2 * j) (rcC ([(ha, 4096), (hb, 4096)] ++ duo X Y j)) ∧ Below u9.heap.size u9 u) (fun _ i _ => k - (intOf i).toNat)
  case atStart => exact ⟨0, Nat.zero_le _, rfl, OB.out, bB⟩
  case round =>
    clear OB bB
    obtain ⟨j, hj, rfl, own, b⟩ := hrel
    obtain ⟨av, cv, rfl⟩ := Rc.owns_shape own
    have OWN : Hid (wr.ownsRow u9.heap.size 26 1 (.slice av (2 + 2 * j) cv) (2 + 2 * j) (rcC ([(ha, 4096), (hb, 4096)] ++ duo X Y j))) := own
    clear own
    by_cases hlt : j < k
    · have cX := HS9.out.cx j hlt
      have cY := HS9.out.cy j hlt
      have hts : Hid (duo X Y (j + 1) = duo X Y j ++ [X.getD j (0, 0), Y.getD j (0, 0)]) := duo_succ _ _ _
      generalize X.getD j (0, 0) = px at cX hts
      generalize Y.getD j (0, 0) = py at cY hts
      obtain ⟨hx, cx1⟩ := px
      obtain ⟨hy, cy1⟩ := py
      dsimp only at cX cY
      have HC : Hid (∀ u : World, Below u9.heap.size u9 u → u.cell? ⟨gx, j * 2 + 1, none⟩ = some (.slice (some ⟨hx, 0, none⟩) 4096 cx1) ∧ u.cell? ⟨gy, j * 2 + 1, none⟩ = some (.slice (some ⟨hy, 0, none⟩) 4096 cy1)) := fun u hu =>
        ⟨(hu.cell (p := ⟨gx, j * 2 + 1, none⟩) HS9.out.lx).trans cX, (hu.cell (p := ⟨gy, j * 2 + 1, none⟩) HS9.out.ly).trans cY⟩
      have hki : (j : Int) < (k : Int) := by omega
      have hk0' : (0 : Int) ≤ (j : Int) := by omega
      clear cX cY
      go_upto_region 11 with fail
      have BD : Below u9.heap.size u9 ((wr.alloc (.cells #[.slice (some ⟨hx, 0, none⟩) 4096 cx1, .slice (some ⟨hy, 0, none⟩) 4096 cy1] 26)).drew) := (b.alloc b.size _).drew
      have OD : Hid (((wr.alloc (.cells #[.slice (some ⟨hx, 0, none⟩) 4096 cx1, .slice (some ⟨hy, 0, none⟩) 4096 cy1] 26)).drew).ownsRow u9.heap.size 26 1 (.slice av (2 + 2 * j) cv) (2 + 2 * j) (rcC ([(ha, 4096), (hb, 4096)] ++ duo X Y j))) := Rc.owns_below OWN.out ((((Below.refl wr.heap.size wr)).alloc (Nat.le_refl _) _).drew)
      go_region_held3 (fun u => u.cell? ⟨gx, j * 2 + 1, none⟩ = some (.slice (some ⟨hx, 0, none⟩) 4096 cx1) ∧ u.cell? ⟨gy, j * 2 + 1, none⟩ = some (.slice (some ⟨hy, 0, none⟩) 4096 cy1))
        (first | with_reducible exact HC.out _ b.drew | with_reducible exact HC.out _ BD | with_reducible exact HC.out _ BE)
        ((refine step_append_lies _ (by rfl) _ _ _ (by rfl) u9.heap.size 26 j0 (.slice none 0 0) 1 24 Try.underlying65 ji jz0 jz1 jz2 rfl (by omega) (.slice av (2 + 2 * j) cv) (2 + 2 * j) (rcC ([(ha, 4096), (hb, 4096)] ++ duo X Y j)) (by rfl) OD.out
              ⟨wr.heap.size, 0, none⟩ 2 2 [.slice (some ⟨hx, 0, none⟩) 4096 cx1, .slice (some ⟨hy, 0, none⟩) 4096 cy1] (by rfl) (by rfl) (World.news_of_block (cs := #[.slice (some ⟨hx, 0, none⟩) 4096 cx1, .slice (some ⟨hy, 0, none⟩) 4096 cy1]) (t := 26) (fr := (0, 0)) (heap_alloc_new wr.drew _)) (by intro u hu; simp at hu; rcases hu with rfl | rfl <;> rfl)
              (by omega) (by unfold maxLen; omega) (by omega) BD.size (wr.heap.size + 1) (by simp) ?_
          intro gg gc w1 hown1 hgrow hat hlt1
          have BE := BD.grown hgrow BD.size (fun j e => (Rc.owns_block OD.out j e).1)
          clear hgrow hat hlt1))
      have OE : Hid (w1.ownsRow u9.heap.size 26 1 (.slice (some ⟨gg, 0, none⟩) (2 + 2 * j + 2) gc) (2 + 2 * (j + 1)) (rcC ([(ha, 4096), (hb, 4096)] ++ duo X Y (j + 1)))) := by
        have e1 : rcC ([(ha, 4096), (hb, 4096)] ++ duo X Y (j + 1)) = rcC ([(ha, 4096), (hb, 4096)] ++ duo X Y j) ++ [.slice (some ⟨hx, 0, none⟩) 4096 cx1, .slice (some ⟨hy, 0, none⟩) 4096 cy1] := by
          rw [hts.out]
          simp [rcC]
        rw [e1]
        exact hown1
      clear hown1 OD BD
      go_wp2_with fail
      go_roundw
      case rel => exact ⟨j + 1, by omega, by push_cast; rfl, OE.out, BE⟩
      case measure => simp [intOf]; omega
    · have hke : j = k := by omega
      rw [hke] at OWN ⊢
      clear hke hlt hj
      obtain ⟨N, hN⟩ : ∃ N, N = 2 + 2 * k := ⟨_, rfl⟩
      have HN : Hid (N ≤ 400) := by show _ ≤ _; omega
      rw [← hN] at OWN ⊢
      have HNN : Hid (N = 2 + 2 * k) := hN
      clear hN
      have hS := HS9.out.below b
      obtain ⟨gz, hgz, lgz, ⟨LA, bxz⟩, hcz⟩ := owns_cells OWN.out (by rw [HNN.out]; omega)
      subst hgz
      have hall := hS.rows
      have hBS := hS.two.bel
      have lenA : ([(ha, 4096), (hb, 4096)] ++ duo X Y k).length = N := by
        rw [HNN.out, List.length_append, duo_length]
        simp
        omega
      generalize ([(ha, 4096), (hb, 4096)] ++ duo X Y k) = A at hall hcz lenA OWN
      have cAp := Rc.Apart.apart_at N gz cv (fun i => (A.getD i (0, 0)).1) (fun _ => 4096) (fun i => (A.getD i (0, 0)).2) wr HN.out
        ⟨LA, bxz, fun i hi => by
          have h1 := hcz i (by omega)
          rw [bxz.cell i] at h1
          rw [h1]
          simp [rcC, show i < A.length by omega]⟩
        (fun i hi => by
          obtain ⟨⟨ys, hr, _⟩, _⟩ := hall.rows _ (getD_mem (show i < A.length by omega))
          obtain ⟨cur, hb, _, _, hc, _⟩ := hr
          exact ⟨cur, hb, hc⟩)
        (fun i hi => by
          obtain ⟨⟨ys, hr, hy4⟩, _⟩ := hall.rows _ (getD_mem (show i < A.length by omega))
          obtain ⟨cur, hb, h1, h2, _⟩ := hr
          exact ⟨by rw [← hy4]; exact h1, h2, by omega⟩)
        (fun i hi q hq hne e => hne (getD_inj hall.apart (by omega) (by omega) e))
      have HF : Hid (∀ i, i < N → w.heap.size ≤ (A.getD i (0, 0)).1) := fun i hi => (hall.rows _ (getD_mem (show i < A.length by omega))).2.1
      clear hall hcz lenA bxz OWN HNN
      go_wp2_with fail
      refine Calls.mono cAp ?_
      rintro r w9 ⟨rfl, hbut⟩
      have B9 : Below w.heap.size w w9 := ⟨hbut.os.trans hBS.os, hbut.tape.trans hBS.tape, hbut.output.trans hBS.output, Nat.le_trans hBS.size hbut.size, fun i hi => (hbut.block i (Nat.lt_of_lt_of_le hi hBS.size) (fun q hq e => by have := HF.out q hq; omega)).trans (hBS.block i hi)⟩
      clear cAp hbut hS
      go_wp2_with fail
      refine Calls.mono (HA.out _) ?_
      rintro r w10 ⟨rfl, b10⟩
      have B10 := B9.trans (b10.mono B9.size)
      go_wp2_with fail
      go_ret
      exact ⟨rfl, B10⟩
end Go.Proofs.Ytdkaacjeogifdaa.H

/-
  ReplayAgain: Home of what was gathered; the state between two crashes.
-/
namespace Go.Proofs.Ytdkaacjeogifdaa.H
open Go.RowKit
open Go.Proofs.Ytdkaacjeogifdaa.Rc (GG GetJ imgC RowB)
open Go.Proofs.Ytdkaacjeogifdaa.Dk (Box Upd IsDisk DS Rd nought)

def lq (qs : List GG) : List (Int × List UInt8) := qs.map fun p => (p.b, p.xs)
theorem pl_qD (qs : List GG) : pl (qD qs) = lq qs := by simp [pl, qD, lq]
theorem row_cellsI {w : World} {B k : Nat} {av : Option Addr} {cv : Nat} {qs : List GG} (ho : w.ownsRow B 37 2 (.slice av k cv) k (imgC qs)) (hl : qs.length = k) : CellsI w av ((qD qs).map (·.1)) := fun hp => by
  have hp2 : 0 < qs.length := by simpa [qD] using hp
  obtain ⟨g, rfl, _, _, hc⟩ := owns_cells ho (by omega)
  refine ⟨g, 0, rfl, fun j hj => ?_⟩
  have hj : j < qs.length := by simpa [qD] using hj
  obtain ⟨e1, e2⟩ := Rc.imgC_at qs j hj
  simp only [qD, List.getElem_map, List.map_map]
  refine ⟨?_, ?_⟩
  · rw [Nat.zero_add, hc _ (by omega), e1]
    rfl
  · rw [Nat.zero_add, hc _ (by omega), e2]
    rfl
theorem L1.home {v u : World} {k : Nat} {av : Option Addr} {cv : Nat} {qs : List GG} (h : L1 v u k av cv qs) (hk : k ≤ 10) (gl : Nat) (bx : Box u gl #[.int .i64 0, .int .i64 0, .slice av k cv] 40) :
    Calls Try.prog 8 #[.agg lay, .slice (some ⟨gl, 0, none⟩) 1 1] u fun r w' => ∃ a c ks qs', r = .returned (.tuple #[.slice a (List.length ks) c, .int .i64 0]) ∧ HomeR u.heap.size (lq qs) ks qs' a c w' ∧ Below u.heap.size u w' := by
  have c := home_at u (some ⟨gl, 0, none⟩) 1 1 [⟨0, 0, av, cv, (qD qs).map (·.1)⟩] (qD qs) rfl (by decide) (cellsG_one bx (by simp [qD, h.len]) (by omega) (row_cellsI h.row h.len)) (by simp [allIs])
    (fun p hp => by
      obtain ⟨q, hq, rfl⟩ := List.mem_map.1 hp
      obtain ⟨r1, r2, r3⟩ := h.get.rows q hq
      exact ⟨r1.rd, r3, rfl⟩)
    (fun p hp => by
      obtain ⟨q, hq, rfl⟩ := List.mem_map.1 hp
      exact h.ok q hq)
  rw [pl_qD] at c
  exact c
theorem last_mem : ∀ (L : List (Int × List UInt8)) (o : Option (List UInt8)) (k : Int) (x : List UInt8), L.foldl (fun o p => if p.1 = k then some p.2 else o) o = some x → (∃ p ∈ L, p.1 = k ∧ p.2 = x) ∨ o = some x
  | [], o, k, x, h => .inr h
  | p :: r, o, k, x, h => by
    rw [List.foldl_cons] at h
    rcases last_mem r _ k x h with ⟨q, hq, h1⟩ | h
    · exact .inl ⟨q, List.mem_cons_of_mem _ hq, h1⟩
    · by_cases e : p.1 = k
      · rw [if_pos e] at h
        injection h with h
        exact .inl ⟨p, List.mem_cons_self .., e, h⟩
      · rw [if_neg e] at h
        exact .inr h
theorem lastD_mem {L : List (Int × List UInt8)} {k : Int} {x : List UInt8} (h : lastD L k = some x) : ∃ p ∈ L, p.1 = k ∧ p.2 = x := by
  rcases last_mem L none k x h with h | h
  · exact h
  · cases h
theorem lastD_snoc (L : List (Int × List UInt8)) (p : Int × List UInt8) (k : Int) : lastD (L ++ [p]) k = if p.1 = k then some p.2 else lastD L k := by simp [lastD, List.foldl_append]
/-- what is laid -/
theorem ims_of {L : List (Int × List UInt8)} {ks : List Int} (h1 : ks.Pairwise (· < ·)) (h2 : ∀ x, x ∈ ks ↔ (lastD L x).isSome = true) (hL : ∀ p ∈ L, 18 ≤ p.1 ∧ p.1 ≤ 63 ∧ p.2.length = 4096) : Ims ks (ks.map fun k => (k, datD L k)) := by
  refine ⟨by rw [List.map_map]; exact List.map_id ks, fun p hp => ?_, h1.imp (fun {a b} h => by omega)⟩
  obtain ⟨k, hk, rfl⟩ := List.mem_map.1 hp
  obtain ⟨x, hx⟩ := Option.isSome_iff_exists.1 ((h2 k).1 hk)
  obtain ⟨q, hq, rfl, rfl⟩ := lastD_mem hx
  obtain ⟨a, b, c⟩ := hL q hq
  refine ⟨a, b, ?_⟩
  show (datD L q.1).length = 4096
  rw [datD, hx]
  exact c
theorem doR_good (D : DS) (qs : List GG) (ims : List (Int × List UInt8)) (ks : List Int) (s29 : List UInt8) (hp : Su.putSuper 64 2 9 0 = some s29) (hn : D.nb = 64) (he : pl (qD qs) = ims) (hi : Ims ks ims) : doR D (qD qs) (Su.putSuper 64 2 9 0) 1 = doD ims 1 s29 D := by
  rw [hp]
  have hall : ((qD qs).map (·.1)).all (fits D.nb) = true := by
    rw [List.all_eq_true]
    intro q hq
    obtain ⟨p, hp, rfl⟩ := List.mem_map.1 hq
    obtain ⟨r, hr, rfl⟩ := List.mem_map.1 hp
    have := hi.each (r.b, r.xs) (by rw [← he, pl_qD]; exact List.mem_map.2 ⟨r, hr, rfl⟩)
    rw [hn]
    simp [fits, Su.wi]
    omega
  simp only [doR]
  rw [hall, he]
  rfl
theorem put29 : Su.putSuper 64 2 9 0 = some (sB 2 9) := sB_put 2 9 (by decide)

theorem ImsD.upd {v u : World} {a : Option Addr} {L : List ImD} {F G : Nat → Prop} (h : ImsD v a L G) (hu : Upd G v u) (hF : ∀ i, F i → G i ∨ v.heap.size ≤ i) (ha : ∀ ad, a = some ad → ad.block < v.heap.size) : ImsD u a L F := by
  refine ⟨fun hp => ?_, fun p hp => ?_, fun ad e hf => ?_⟩
  · obtain ⟨b, o, rfl, hc⟩ := h.cells hp
    have nb := h.out _ rfl
    refine ⟨b, o, rfl, fun j hj => ?_⟩
    have l0 := block_lt_of_cell (hc j hj).1
    exact ⟨(World.cell?_of_block (a := ⟨b, o + j * 2, none⟩) (hu.block b l0 nb)).trans (hc j hj).1, (World.cell?_of_block (a := ⟨b, o + j * 2 + 1, none⟩) (hu.block b l0 nb)).trans (hc j hj).2⟩
  · obtain ⟨h1, h2, h3⟩ := h.data p hp
    refine ⟨rd_upd h1 hu (fun ad e => (h3 ad e).2), h2, fun ad e => ⟨Nat.lt_of_lt_of_le (h3 ad e).1 hu.size, fun hf => ?_⟩⟩
    rcases hF _ hf with q | q
    · exact (h3 ad e).2 q
    · exact absurd (h3 ad e).1 (Nat.not_lt.2 q)
  · rcases hF _ hf with q | q
    · exact h.out ad e q
    · exact absurd (ha ad e) (Nat.not_lt.2 q)
theorem owns_addr {w : World} {B e z n c m : Nat} {a : Option Addr} {xs : List Value} (h : w.ownsRow B e z (.slice a n c) m xs) : ∀ ad, a = some ad → B ≤ ad.block ∧ ad.block < w.heap.size := fun ad e => by
  rcases h.2 with ⟨h1, _⟩ | ⟨g, cap, cur, h1, hBg, hg, _⟩
  · injection h1 with h1
    rw [h1] at e
    cases e
  · injection h1 with h1
    rw [h1] at e
    injection e with e
    rw [← e]
    exact ⟨hBg, (Array.getElem?_eq_some_iff.1 hg).1⟩

/-- what stands between two crashes: G is what may turn of what was there at v -/
structure L2 (v u : World) (g : Nat) (G : Nat → Prop) (s17 s29 zs : List UInt8) (ks : List Int) (i : Nat) (D : DS) (F : Nat → Prop) : Prop where
  disk : IsDisk u g D F
  own : ∀ i, F i → G i ∨ v.heap.size ≤ i
  upd : Upd G v u
  inv : Inv s17 s29 zs ks D
  cnt : D.n ≤ 1 + 600 * i
theorem HomeR.le {B B' : Nat} {L : List (Int × List UInt8)} {ks : List Int} {qs : List GG} {a : Option Addr} {c : Nat} {w : World} (h : HomeR B L ks qs a c w) (hb : B' ≤ B) : HomeR B' L ks qs a c w :=
  ⟨h.rise, h.keys, h.len, owns_le h.row hb, GetJ.le h.get hb, h.bytes⟩
theorem HomeR.below {B : Nat} {L : List (Int × List UInt8)} {ks : List Int} {qs : List GG} {a : Option Addr} {c : Nat} {w w' : World} (h : HomeR B L ks qs a c w) (b : Below w.heap.size w w') : HomeR B L ks qs a c w' :=
  ⟨h.rise, h.keys, h.len, Rc.owns_below h.row b, h.get.below b, h.bytes⟩
/-- the group's cells, and all that was gathered -/
@[reducible] def L1S (v : World) (k : Nat) (av : Option Addr) (cv : Nat) (qs : List GG) (u : World) : Prop :=
  u.cell? ⟨v.heap.size, 0, none⟩ = some (.int .i64 0) ∧ u.cell? ⟨v.heap.size, 1, none⟩ = some (.int .i64 0) ∧ u.cell? ⟨v.heap.size, 2, none⟩ = some (.slice av k cv) ∧ Hid (L1 v u k av cv qs)
theorem L1S.new {v u : World} {k : Nat} {av : Option Addr} {cv : Nat} {qs : List GG} (h : L1 v u k av cv qs) : L1S v k av cv qs u := ⟨h.box.cell 0, h.box.cell 1, h.box.cell 2, h⟩
theorem L1S.below {v u u' : World} {k : Nat} {av : Option Addr} {cv : Nat} {qs : List GG} (b : Below u.heap.size u u') (h : L1S v k av cv qs u) : L1S v k av cv qs u' := L1S.new (h.2.2.2.out.below b)
theorem L1S.alloc {v u : World} {k : Nat} {av : Option Addr} {cv : Nat} {qs : List GG} {o : Obj} (h : L1S v k av cv qs u) : L1S v k av cv qs (u.alloc o) := L1S.below ((Below.refl _ u).alloc (Nat.le_refl _) _) h
theorem L1S.one {v u : World} {k : Nat} {av : Option Addr} {cv : Nat} {qs : List GG} (h : L1S v k av cv qs u) : L1 v u k av cv qs := h.2.2.2.out
theorem L2.below {v u u' : World} {g : Nat} {G : Nat → Prop} {s17 s29 zs : List UInt8} {ks : List Int} {i : Nat} {D : DS} {F : Nat → Prop} (h : L2 v u g G s17 s29 zs ks i D F) (b : Below u.heap.size u u') : L2 v u' g G s17 s29 zs ks i D F :=
  ⟨h.disk.below b, h.own, h.upd.thenB b, h.inv, h.cnt⟩
theorem pick15 (x : Int) (w : World) : Calls Try.prog 22 #[.int .i64 x, .int .i64 15] w fun e w' => ∃ p : Nat, p < 15 ∧ e = .returned (.int .i64 p) ∧ w = w' := Su.pick_at x 15 w (by decide) (by decide)
theorem L2.reads {v u : World} {g : Nat} {G : Nat → Prop} {s17 s29 zs : List UInt8} {ks : List Int} {i : Nat} {D : DS} {F : Nat → Prop} (h : L2 v u g G s17 s29 zs ks i D F) (n : Nat) (hn : n < 64) :
    Calls Try.prog 14 #[.pointer (some ⟨g, 0, none⟩), .int .i64 (n : Int)] u fun e w' => ∃ gr cr, e = .returned (.tuple #[.slice (some ⟨gr, 0, none⟩) 4096 cr, .int .i64 0]) ∧ u.heap.size ≤ gr ∧ Dk.RowB w' gr cr (D.stand n) ∧ Below u.heap.size u w' :=
  Dk.read_at h.disk n (by rw [h.inv.nb]; exact hn) h.inv.quiet.1 (by rw [h.inv.uf]; decide)
/-- the state's Do and crash, in one: G-blocks alone have turned -/
theorem L2.life {v u u1 u2 u3 : World} {g : Nat} {G : Nat → Prop} {s17 s29 zs : List UInt8} {ks : List Int} {ims : List (Int × List UInt8)} {i : Nat} {D : DS} {F F1 : Nat → Prop} (h : L2 v u g G s17 s29 zs ks i D F) (hi : Ims ks ims) (hl : ims.length ≤ 512) (hz : zs.length = 4096) (h29 : s29.length = 4096) (ht : ∀ i, 44 ≤ i → i < 4096 → s29[i]? = zs[i]?)
    (p : Int) (kp : List Bool) (t : Int) (m : Nat) (hd : IsDisk u3 g ((doD ims 1 s29 (D.armed p)).1.crash kp t m) F1) (hF1 : ∀ i, F1 i → F i ∨ u1.heap.size ≤ i) (U1 : Upd F u u1) (U2 : Upd F u1 u2) (U3 : Upd F1 u2 u3) :
    L2 v u3 g G s17 s29 zs ks (i + 1) ((doD ims 1 s29 (D.armed p)).1.crash kp t m) F1 ∧ ((doD ims 1 s29 (D.armed p)).2 = 0 → Dk.blk ((doD ims 1 s29 (D.armed p)).1.crash kp t m).dur 1 = s29) := by
  obtain ⟨k1, k2, k3⟩ := h.inv.life hi hz h29 ht p kp t m
  have z1 := Nat.le_trans h.upd.size U1.size
  have o1 : ∀ i, F1 i → G i ∨ v.heap.size ≤ i := fun i hi => by
    rcases hF1 i hi with q | q
    · exact h.own i q
    · exact .inr (Nat.le_trans z1 q)
  exact ⟨⟨hd, o1, ((h.upd.trans U1 h.own).trans U2 h.own).trans U3 o1, k1, by have := h.cnt; omega⟩, k2⟩
theorem stand01 {D : DS} {ks : List Int} (h : Inv (sB 1 7) (sB 2 9) (nought 4096) ks D) : (D.stand 0).length = 4096 ∧ (D.stand 1).length = 4096 := by
  rw [stand_nil h.uf, stand_nil h.uf, h.held.1.zero]
  refine ⟨sB_len 1 7, ?_⟩
  rcases h.held.1.one with e | e
  · rw [e]; exact Dk.nought_length 4096
  · rw [e]; exact sB_len 2 9
/-- a super's cells, and the state -/
@[reducible] def L3S (v : World) (g : Nat) (G : Nat → Prop) (s17 s29 zs : List UInt8) (ks : List Int) (i : Nat) (D : DS) (F : Nat → Prop) (gb : Nat) (e q : Int) (u : World) : Prop :=
  u.cell? ⟨gb, 0, none⟩ = some (.int .i64 64) ∧ u.cell? ⟨gb, 1, none⟩ = some (.int .i64 e) ∧ u.cell? ⟨gb, 2, none⟩ = some (.int .i64 q) ∧ u.cell? ⟨gb, 3, none⟩ = some (.int .i64 0) ∧ Hid (Box u gb #[.int .i64 64, .int .i64 e, .int .i64 q, .int .i64 0] 23 ∧ L2 v u g G s17 s29 zs ks i D F)
theorem L3S.new {v u : World} {g : Nat} {G : Nat → Prop} {s17 s29 zs : List UInt8} {ks : List Int} {i : Nat} {D : DS} {F : Nat → Prop} {gb : Nat} {e q : Int} (h1 : Box u gb #[.int .i64 64, .int .i64 e, .int .i64 q, .int .i64 0] 23) (h2 : L2 v u g G s17 s29 zs ks i D F) : L3S v g G s17 s29 zs ks i D F gb e q u := ⟨h1.cell 0, h1.cell 1, h1.cell 2, h1.cell 3, ⟨h1, h2⟩⟩
theorem L3S.below {v u u' : World} {g : Nat} {G : Nat → Prop} {s17 s29 zs : List UInt8} {ks : List Int} {i : Nat} {D : DS} {F : Nat → Prop} {gb : Nat} {e q : Int} (b : Below u.heap.size u u') (h : L3S v g G s17 s29 zs ks i D F gb e q u) : L3S v g G s17 s29 zs ks i D F gb e q u' := L3S.new (h.2.2.2.2.out.1.below b) (h.2.2.2.2.out.2.below b)
theorem L3S.two {v u : World} {g : Nat} {G : Nat → Prop} {s17 s29 zs : List UInt8} {ks : List Int} {i : Nat} {D : DS} {F : Nat → Prop} {gb : Nat} {e q : Int} (h : L3S v g G s17 s29 zs ks i D F gb e q u) : L2 v u g G s17 s29 zs ks i D F := h.2.2.2.2.out.2
/-- what was gathered, as it stands in the end -/
structure L4 (v u : World) (k : Nat) (av : Option Addr) (cv : Nat) (qs : List GG) : Prop where
  box : Box u v.heap.size #[.int .i64 0, .int .i64 0, .slice av k cv] 40
  row : u.ownsRow (v.heap.size + 1) 37 2 (.slice av k cv) k (imgC qs)
  get : GetJ (v.heap.size + 1) u qs
  len : qs.length = k
theorem L1.four {v u u' : World} {k : Nat} {av : Option Addr} {cv : Nat} {qs : List GG} {G : Nat → Prop} (h : L1 v u k av cv qs) (hu : Upd G u u') (hG : ∀ i, G i → i < v.heap.size) : L4 v u' k av cv qs := by
  have hn : ∀ i, v.heap.size ≤ i → ¬ G i := fun i hi hg => by have := hG i hg; omega
  refine ⟨hu.box h.box (hn _ (Nat.le_refl _)), ⟨h.row.1, ?_⟩, ⟨fun p hp => ?_, h.get.apart⟩, h.len⟩
  · rcases h.row.2 with q | ⟨g, cap, cur, a, b, r, rest⟩
    · exact .inl q
    · exact .inr ⟨g, cap, cur, a, b, (hu.block g (Array.getElem?_eq_some_iff.1 r).1 (hn g (by omega))).trans r, rest⟩
  · obtain ⟨r1, r2, r3⟩ := h.get.rows p hp
    exact ⟨r1.same (hu.block _ r1.lt (hn _ (by omega))), r2, r3⟩
theorem L4.below {v u u' : World} {k : Nat} {av : Option Addr} {cv : Nat} {qs : List GG} (h : L4 v u k av cv qs) (b : Below u.heap.size u u') : L4 v u' k av cv qs :=
  ⟨h.box.below b, Rc.owns_below h.row b, h.get.below b, h.len⟩
/-- image j -/
theorem L4.img {v u : World} {k : Nat} {av : Option Addr} {cv : Nat} {qs : List GG} (h : L4 v u k av cv qs) (j : Nat) (hj : j < k) : ∃ (ga : Nat) (p : GG), av = some ⟨ga, 0, none⟩ ∧ qs[j]? = some p ∧ u.cell? ⟨ga, j * 2, none⟩ = some (.int .i64 p.b) ∧ u.cell? ⟨ga, j * 2 + 1, none⟩ = some (.slice (some ⟨p.h, 0, none⟩) 4096 p.c) ∧ Dk.Rd u (some ⟨p.h, 0, none⟩) p.xs ∧ p.xs.length = 4096 ∧ lq (qs.take (j + 1)) = lq (qs.take j) ++ [(p.b, p.xs)] := by
  have hj' : j < qs.length := by rw [h.len]; exact hj
  obtain ⟨ga, rfl, _, _, hc⟩ := owns_cells h.row (by omega)
  obtain ⟨e1, e2⟩ := Rc.imgC_at qs j hj'
  obtain ⟨r1, r2, r3⟩ := h.get.rows qs[j] (List.getElem_mem hj')
  refine ⟨ga, qs[j], rfl, List.getElem?_eq_getElem hj', ?_, ?_, r1.rd, r3, ?_⟩
  · rw [hc _ (by omega), e1]
  · rw [hc _ (by omega), e2]
  · rw [List.take_succ_eq_append_getElem hj']
    show List.map _ (qs.take j ++ [qs[j]]) = _
    rw [List.map_append]
    rfl
/-- what is wanted of block n -/
def wantD (L : List (Int × List UInt8)) (zs : List UInt8) (n : Int) : List UInt8 := (lastD L n).getD zs
theorem wantD_snoc (L : List (Int × List UInt8)) (zs : List UInt8) (n b : Int) (x : List UInt8) : wantD (L ++ [(b, x)]) zs n = if b = n then x else wantD L zs n := by
  unfold wantD
  rw [lastD_snoc]
  by_cases e : b = n
  · rw [if_pos e, if_pos e]; rfl
  · rw [if_neg e, if_neg e]
/-- the end -/
theorem last_blocks {s17 s29 zs : List UInt8} {ks : List Int} {ims : List (Int × List UInt8)} {L : List (Int × List UInt8)} {D : DS} (h : Inv s17 s29 zs ks D) (he : ims = ks.map fun k => (k, datD L k)) (hk : ∀ x, x ∈ ks ↔ (lastD L x).isSome = true) (hall : ∀ p ∈ ims, Dk.blk D.dur p.1.toNat = p.2) (n : Nat) (h1 : 2 ≤ n) (h2 : n < 64) : D.stand n = wantD L zs n := by
  rw [stand_nil h.uf]
  by_cases hm : (n : Int) ∈ ks
  · have := hall (n, datD L n) (by rw [he]; exact List.mem_map.2 ⟨n, hm, rfl⟩)
    rw [show ((n : Int), datD L n).1.toNat = n by simp] at this
    rw [this]
    obtain ⟨x, hx⟩ := Option.isSome_iff_exists.1 ((hk n).1 hm)
    show datD L n = wantD L zs n
    unfold datD wantD
    rw [hx]
    rfl
  · rw [h.held.1.rest n h1 h2 hm]
    have : lastD L n = none := by
      cases hx : lastD L n with
      | none => rfl
      | some x => exact absurd ((hk n).2 (by rw [hx]; rfl)) hm
    unfold wantD
    rw [this]
    rfl
/-- a super's cells, a row, in the end -/
@[reducible] def L5S (w : World) (gb g0 c0 : Nat) (s17 : List UInt8) (u : World) : Prop :=
  u.cell? ⟨gb, 0, none⟩ = some (.int .i64 64) ∧ u.cell? ⟨gb, 1, none⟩ = some (.int .i64 2) ∧ u.cell? ⟨gb, 2, none⟩ = some (.int .i64 9) ∧ u.cell? ⟨gb, 3, none⟩ = some (.int .i64 0) ∧ Hid (Box u gb #[.int .i64 64, .int .i64 2, .int .i64 9, .int .i64 0] 23 ∧ Dk.RowB u g0 c0 s17 ∧ Below w.heap.size w u)
theorem L5S.new {w u : World} {gb g0 c0 : Nat} {s17 : List UInt8} (h1 : Box u gb #[.int .i64 64, .int .i64 2, .int .i64 9, .int .i64 0] 23) (h2 : Dk.RowB u g0 c0 s17) (h3 : Below w.heap.size w u) : L5S w gb g0 c0 s17 u := ⟨h1.cell 0, h1.cell 1, h1.cell 2, h1.cell 3, ⟨h1, h2, h3⟩⟩
theorem L5S.below {w u u' : World} {gb g0 c0 : Nat} {s17 : List UInt8} (b : Below u.heap.size u u') (h : L5S w gb g0 c0 s17 u) : L5S w gb g0 c0 s17 u' := L5S.new (h.2.2.2.2.out.1.below b) (h.2.2.2.2.out.2.1.same (b.block _ h.2.2.2.2.out.2.1.lt)) (h.2.2.2.2.out.2.2.trans (b.mono h.2.2.2.2.out.2.2.size))
theorem L5S.row {w u : World} {gb g0 c0 : Nat} {s17 : List UInt8} (h : L5S w gb g0 c0 s17 u) : Dk.RowB u g0 c0 s17 := h.2.2.2.2.out.2.1
theorem L5S.bel {w u : World} {gb g0 c0 : Nat} {s17 : List UInt8} (h : L5S w gb g0 c0 s17 u) : Below w.heap.size w u := h.2.2.2.2.out.2.2
end Go.Proofs.Ytdkaacjeogifdaa.H

/-
  Loads are taken first in a region that draws, though later operations, which wait for them, write into the cells that were loaded.
-/
namespace Go.Proofs.Ytdkaacjeogifdaa.H
open Go.Proofs.Ytdkaacjeogifdaa.Dk (Gives waits standIn standIn_apart standIn_yields)

section
variable {P : Program} {ops : Array Oper} {Q : Exit → Act → World → Prop} {md : Region.Mode} {C : Act → World → Prop} {late : List Nat}

/-- one of the late ones has come up -/
def anyLate (late : List Nat) (listed : Array Bool) : Bool := late.any fun j => listed.getD j false
/-- Whatever order the draw gives: it ends in Q, and every step stays in the class as long as no late one has come up. -/
def wpAnyE (P : Program) (md : Region.Mode) (ops : Array Oper) (Q : Exit → Act → World → Prop) (C : Act → World → Prop) (late : List Nat) : Nat → Array Bool → Act → World → Prop
  | 0, listed, a, w => Region.ready md ops listed = [] ∧ Q .normal a w
  | fuel + 1, listed, a, w => (Region.ready md ops listed = [] → Q .normal a w) ∧
    ∀ i ∈ Region.ready md ops listed, wpOp P ops Q i (fun a' w' => (anyLate late listed = true ∨ late.contains i = true ∨ C a' w') ∧ wpAnyE P md ops Q C late fuel (listed.setIfInBounds i true) a' w') a w

theorem wpAny_of_E : ∀ (fuel : Nat) (listed : Array Bool) (a : Act) (w : World), wpAnyE P md ops Q C late fuel listed a w → wpAny P md ops Q fuel listed a w
  | 0, _, _, _, h => h
  | fuel + 1, _, _, _, h => ⟨h.1, fun i hi => wpOp_mono (fun a' w' h' => wpAny_of_E fuel _ a' w' h'.2) (h.2 i hi)⟩

theorem anyLate_set {listed : Array Bool} {j : Nat} (h : anyLate late listed = false) (hj : late.contains j = false) : anyLate late (listed.setIfInBounds j true) = false := by
  unfold anyLate at h ⊢
  rw [List.any_eq_false] at h ⊢
  intro k hk
  have hkj : j ≠ k := fun e => by
    subst e
    rw [List.contains_eq_mem, decide_eq_false_iff_not] at hj
    exact hj hk
  rw [getD_set_ne false hkj]
  exact h k hk

theorem wpAnyE_first {i : Nat} {oi : Oper} {v : Value} (hi : ops[i]? = some oi) (hs : Region.noSelect ops = true) (hl : waits md ops late i = true) (hli : late.contains i = false)
    (hQ : ∀ c a w, Q (.panic c) (a.put oi.dst v) w → Q (.panic c) a w) (hg : Gives P ops C oi v) (hdn : ∀ a w, C (a.put oi.dst v) w → C a w) (hup : ∀ a w, C a w → C (a.put oi.dst v) w) :
    ∀ (fuel : Nat) (listed : Array Bool) (a : Act) (w : World), anyLate late listed = false →
      (∀ j oj, ops[j]? = some oj → j ≠ i → listed.getD j true = false → (∀ e ∈ oj.after, Region.binds md e = true → e.on ≠ i) → oi.apart ops oj = true) →
      i ∈ Region.ready md ops listed → C a w →
      wpAnyE P md ops Q C late fuel (listed.setIfInBounds i true) (a.put oi.dst v) w → wpAnyE P md ops Q C late (fuel + 1) listed a w
  | fuel, listed, a, w, hn, hfree, hr, hc, H => by
    refine ⟨fun h => (by rw [h] at hr; cases hr), fun j hj => ?_⟩
    by_cases hji : j = i
    · subst hji
      exact hg.wpOp hi hc ⟨.inr (.inr (hup a w hc)), H⟩
    · have hm := ready_mono hj hji
      cases fuel with
      | zero =>
        rw [H.1] at hm
        cases hm
      | succ fuel =>
        obtain ⟨hjun, oj, hoj, hall⟩ := mem_ready.1 hj
        have hnot : ∀ e ∈ oj.after, Region.binds md e = true → e.on ≠ i := fun e he hb heq => by
          have h1 := hall e he hb
          have h0 := (mem_ready.1 hr).1
          rw [heq] at h1
          rcases Nat.lt_or_ge i listed.size with h' | h'
          · simp [h'] at h0 h1; rw [h0] at h1; cases h1
          · simp [Array.getElem?_eq_none h'] at h1
        have hnl : ¬ late.contains j = true := fun hc => by
          have h1 := (List.all_eq_true.1 hl) j (by simpa using hc)
          rw [hoj] at h1
          simp only [Array.any_eq_true, Bool.and_eq_true, beq_iff_eq] at h1
          obtain ⟨k, hk, hb, he⟩ := h1
          exact hnot _ (Array.getElem_mem hk) hb he
        have h2 := wpOp_put (oi := standIn oi v) (v := v) hoj (standIn_apart (hfree j oj hoj hji hjun hnot)) (fun cs b h => by cases h) (fun cs b => Region.noSelect_spec hs j oj cs b hoj) hQ (standIn_yields oi v a) (H.2 j hm)
        have hfree' : ∀ k ok, ops[k]? = some ok → k ≠ i → (listed.setIfInBounds j true).getD k true = false →
            (∀ e ∈ ok.after, Region.binds md e = true → e.on ≠ i) → oi.apart ops ok = true := fun k ok hk hki hun hno => by
          refine hfree k ok hk hki ?_ hno
          by_cases hjk : j = k
          · subst hjk; exact hjun
          · rw [getD_set_ne true hjk] at hun; exact hun
        have hnj : late.contains j = false := by simpa using hnl
        refine wpOp_mono (fun a' w' h3 => ?_) h2
        have hc' := hdn a' w' ((h3.2.1.resolve_left (by rw [anyLate_set hn hli]; decide)).resolve_left hnl)
        refine ⟨.inr (.inr hc'), wpAnyE_first hi hs hl hli hQ hg hdn hup fuel (listed.setIfInBounds j true) a' w' (anyLate_set hn hnj) hfree' (ready_mono hr (Ne.symm hji)) hc' ?_⟩
        rw [Array.setIfInBounds_comm _ _ hji]
        exact h3.2.2

/-- A load is taken first. -/
theorem wpAnyE_take {i : Nat} {oi : Oper} {v : Value} {fuel : Nat} {listed : Array Bool} {a : Act} {w : World} (hi : ops[i]? = some oi) (hs : Region.noSelect ops = true) (hl : waits md ops late i = true) (hli : late.contains i = false) (hn : anyLate late listed = false)
    (hf : Region.free md ops listed i = true) (hr : (Region.ready md ops listed).contains i = true)
    (hQ : ∀ c a w, Q (.panic c) (a.put oi.dst v) w → Q (.panic c) a w) (hg : Gives P ops C oi v) (hdn : ∀ a w, C (a.put oi.dst v) w → C a w) (hup : ∀ a w, C a w → C (a.put oi.dst v) w)
    (hc : C a w) (h : wpAnyE P md ops Q C late fuel (listed.setIfInBounds i true) (a.put oi.dst v) w) : wpAnyE P md ops Q C late (fuel + 1) listed a w :=
  wpAnyE_first hi hs hl hli hQ hg hdn hup fuel listed a w hn (Region.free_spec hi hf) (by simpa using hr) hc h

theorem anyLate_eq {listed : Array Bool} {j : Nat} (hj : late.contains j = false) : anyLate late (listed.setIfInBounds j true) = anyLate late listed := by
  unfold anyLate
  rw [Bool.eq_iff_iff, List.any_eq_true, List.any_eq_true]
  have hne : ∀ k, k ∈ late → j ≠ k := fun k hk e => by
    subst e
    rw [List.contains_eq_mem, decide_eq_false_iff_not] at hj
    exact hj hk
  constructor
  · rintro ⟨k, hk, h⟩
    rw [getD_set_ne false (hne k hk)] at h
    exact ⟨k, hk, h⟩
  · rintro ⟨k, hk, h⟩
    exact ⟨k, hk, by rw [getD_set_ne false (hne k hk)]; exact h⟩
theorem anyLate_mono {listed : Array Bool} {j : Nat} (h : anyLate late listed = true) : anyLate late (listed.setIfInBounds j true) = true := by
  unfold anyLate at *
  rw [List.any_eq_true] at *
  obtain ⟨k, hk, h1⟩ := h
  exact ⟨k, hk, getD_set_true h1⟩
theorem anyLate_new {listed : Array Bool} {j : Nat} (h : late.contains j = true) (hj : listed.getD j true = false) : anyLate late (listed.setIfInBounds j true) = true := by
  unfold anyLate
  rw [List.any_eq_true]
  refine ⟨j, by simpa using h, ?_⟩
  have hlt : j < listed.size := by
    rcases Nat.lt_or_ge j listed.size with h' | h'
    · exact h'
    · simp [Array.getElem?_eq_none h'] at hj
  simp [hlt]

theorem wpAnyE_pureFirst {i : Nat} {oi : Oper} {v : Value} (hi : ops[i]? = some oi) (hs : Region.noSelect ops = true) (hli : late.contains i = false)
    (hQ : ∀ c a w, Q (.panic c) (a.put oi.dst v) w → Q (.panic c) a w) (hdn : ∀ a w, C (a.put oi.dst v) w → C a w) (hup : ∀ a w, C a w → C (a.put oi.dst v) w) :
    ∀ (fuel : Nat) (listed : Array Bool) (a : Act) (w : World), (anyLate late listed = true ∨ C a w) →
      (∀ j oj, ops[j]? = some oj → j ≠ i → listed.getD j true = false → (∀ e ∈ oj.after, Region.binds md e = true → e.on ≠ i) → oi.apart ops oj = true) →
      i ∈ Region.ready md ops listed → Yields P ops oi v a →
      wpAnyE P md ops Q C late fuel (listed.setIfInBounds i true) (a.put oi.dst v) w → wpAnyE P md ops Q C late (fuel + 1) listed a w
  | fuel, listed, a, w, hI, hfree, hr, hy, H => by
    have hsel := Region.noSelect_spec hs
    refine ⟨fun h => (by rw [h] at hr; cases hr), fun j hj => ?_⟩
    by_cases hji : j = i
    · subst hji
      refine hy.wpOp hi ⟨?_, H⟩
      rcases hI with h | h
      · exact .inl h
      · exact .inr (.inr (hup a w h))
    · have hm := ready_mono hj hji
      cases fuel with
      | zero =>
        rw [H.1] at hm
        cases hm
      | succ fuel =>
        obtain ⟨hjun, oj, hoj, hall⟩ := mem_ready.1 hj
        have hnot : ∀ e ∈ oj.after, Region.binds md e = true → e.on ≠ i := fun e he hb heq => by
          have h1 := hall e he hb
          have h0 := (mem_ready.1 hr).1
          rw [heq] at h1
          rcases Nat.lt_or_ge i listed.size with h' | h'
          · simp [h'] at h0 h1; rw [h0] at h1; cases h1
          · simp [Array.getElem?_eq_none h'] at h1
        have h2 := wpOp_put hoj (hfree j oj hoj hji hjun hnot) (fun cs b => hsel i oi cs b hi) (fun cs b => hsel j oj cs b hoj) hQ hy (H.2 j hm)
        have hfree' : ∀ k ok, ops[k]? = some ok → k ≠ i → (listed.setIfInBounds j true).getD k true = false →
            (∀ e ∈ ok.after, Region.binds md e = true → e.on ≠ i) → oi.apart ops ok = true := fun k ok hk hki hun hno => by
          refine hfree k ok hk hki ?_ hno
          by_cases hjk : j = k
          · subst hjk; exact hjun
          · rw [getD_set_ne true hjk] at hun; exact hun
        refine wpOp_mono (fun a' w' h3 => ?_) h2
        have hob : anyLate late listed = true ∨ late.contains j = true ∨ C a' w' := by
          rcases h3.2.1 with h | h | h
          · rw [anyLate_eq hli] at h; exact .inl h
          · exact .inr (.inl h)
          · exact .inr (.inr (hdn a' w' h))
        have hI' : anyLate late (listed.setIfInBounds j true) = true ∨ C a' w' := by
          rcases hob with h | h | h
          · exact .inl (anyLate_mono h)
          · exact .inl (anyLate_new h hjun)
          · exact .inr h
        refine ⟨hob, wpAnyE_pureFirst hi hs hli hQ hdn hup fuel (listed.setIfInBounds j true) a' w' hI' hfree' (ready_mono hr (Ne.symm hji)) h3.1 ?_⟩
        rw [Array.setIfInBounds_comm _ _ hji]
        exact h3.2.2
/-- An operation that asks the world nothing is taken first. -/
theorem wpAnyE_pure {i : Nat} {oi : Oper} {v : Value} {fuel : Nat} {listed : Array Bool} {a : Act} {w : World} (hi : ops[i]? = some oi) (hs : Region.noSelect ops = true) (hli : late.contains i = false)
    (hf : Region.free md ops listed i = true) (hr : (Region.ready md ops listed).contains i = true)
    (hQ : ∀ c a w, Q (.panic c) (a.put oi.dst v) w → Q (.panic c) a w) (hdn : ∀ a w, C (a.put oi.dst v) w → C a w) (hup : ∀ a w, C a w → C (a.put oi.dst v) w)
    (hI : anyLate late listed = true ∨ C a w) (hy : Yields P ops oi v a) (h : wpAnyE P md ops Q C late fuel (listed.setIfInBounds i true) (a.put oi.dst v) w) : wpAnyE P md ops Q C late (fuel + 1) listed a w :=
  wpAnyE_pureFirst hi hs hli hQ hdn hup fuel listed a w hI (Region.free_spec hi hf) (by simpa using hr) hy h

/-- These may come up. -/
theorem wpAnyE_some {rs : List Nat} {fuel : Nat} {listed : Array Bool} {a : Act} {w : World} (hr : Region.ready md ops listed = rs) (h0 : rs ≠ [])
    (h : ∀ i ∈ rs, wpOp P ops Q i (fun a' w' => (anyLate late listed = true ∨ late.contains i = true ∨ C a' w') ∧ wpAnyE P md ops Q C late fuel (listed.setIfInBounds i true) a' w') a w) :
    wpAnyE P md ops Q C late (fuel + 1) listed a w := ⟨fun e => absurd (hr.symm.trans e) h0, fun i hi => h i (hr ▸ hi)⟩
theorem wpAnyE_done {listed : Array Bool} {a : Act} {w : World} (hr : Region.ready md ops listed = []) (h : Q .normal a w) : ∀ fuel, wpAnyE P md ops Q C late fuel listed a w
  | 0 => ⟨hr, h⟩
  | _ + 1 => ⟨fun _ => h, by rw [hr]; simp⟩
end
end Go.Proofs.Ytdkaacjeogifdaa.H

/-
  ReplayAgain's walk.
-/
namespace Go.Proofs.Ytdkaacjeogifdaa.H
open Go.RowKit
open Go.Proofs.Ytdkaacjeogifdaa.Rc (madeL Imgs GG GetJ imgC)
open Go.Proofs.Ytdkaacjeogifdaa.Su (supV getSuper)
open Go.Proofs.Ytdkaacjeogifdaa.Dk (Box DS IsDisk NewDisk nought Upd)

set_option maxRecDepth 100000 in
set_option maxHeartbeats 16000000 in
theorem again_at (ab : Option Addr) (nb cb : Nat) (zl : List Int) (ac : Option Addr) (nc cc : Nat) (cl : List CutV) (w : World) (hzl : zl.length = nb) (hzr : Dk.RdI w ab zl) (hcl : cl.length = nc) (hcr : RdCut w ac cl) (hnb : nb ≤ 9223372036854775807) (_hnc : nc ≤ 9223372036854775807) :
    Calls Try.prog 4 #[.slice ab nb cb, .slice ac nc cc] w fun r w' => r = .returned (.bool true) ∧ Below w.heap.size w w' := by
  obtain ⟨i0, hi, hz0, hz1, hz2⟩ := info_parts Rc.info38
  have HA : Hid (∀ u : World, Calls Try.prog 19 #[] u fun r w' => r = .returned (.bool true) ∧ Below u.heap.size u w') := awake_at
  have HLy : Hid (∀ u : World, Calls Try.prog 9 #[] u fun r w' => r = .returned (.agg #[.int .i64 64, .int .i64 2, .int .i64 16, .int .i64 18, .int .i64 19, .int .i64 4, .int .i64 23]) ∧ Below u.heap.size u w') := fun u => layout64_at u
  have HB17 : Hid (∀ u : World, Calls Try.prog 7 #[.int .i64 1, .int .i64 7] u fun r w' => ∃ g c, r = .returned (.slice (some ⟨g, 0, none⟩) 4096 c) ∧ u.heap.size ≤ g ∧ g < w'.heap.size ∧ 4096 ≤ c ∧ c ≤ 9223372036854775807 ∧ Su.Rd w' (some ⟨g, 0, none⟩) (sB 1 7) ∧ Below u.heap.size u w') := fun u => bytes_good 1 7 u (by decide)
  have L17 : Hid ((sB 1 7).length = 4096) := sB_len 1 7
  have HMk : Hid (∀ (n z : Int) (u : World), Calls Try.prog 10 #[.int .i64 n, .int .i64 z] u fun r w' => ∃ g, r = .returned (.agg #[.int .i64 n, .slice (some ⟨g, 0, none⟩) 4096 4096]) ∧ u.heap.size ≤ g ∧ (∃ xs : List UInt8, Rc.Own w' g xs ∧ xs.length = 4096) ∧ Below u.heap.size u w') := fun n z u => (made_at n z u).mono (by rintro r w' ⟨g, h1, h2, h3, h4⟩; exact ⟨g, h1, h2, ⟨_, h3, madeL_len z⟩, h4⟩)
  have HZL : Hid (zl.length = nb) := hzl
  have HZR : Hid (Dk.RdI w ab zl) := hzr
  have HCL : Hid (cl.length = nc) := hcl
  have HCR : Hid (RdCut w ac cl) := hcr
  obtain ⟨N, hN⟩ : ∃ N : Nat, N = 64 * 4096 := ⟨_, rfl⟩
  have HNew : Hid (∀ u : World, Calls Try.prog 11 #[.int .i64 64] u fun e w' => ∃ g, e = .returned (.tuple #[.pointer (some ⟨g, 0, none⟩), .int .i64 0]) ∧ NewDisk u w' g (DS.new 64 (nought N))) := fun u => by
    rw [hN]
    exact Dk.new_at 64 u (by decide) (by decide)
  have HSt : Hid (∀ ks, Inv (sB 1 7) (sB 2 9) (nought 4096) ks ((DS.new 64 (nought N)).write 0 (sB 1 7)).flush ∧ ((DS.new 64 (nought N)).writeE 0 (sB 1 7)) = 0 ∧ ((DS.new 64 (nought N)).write 0 (sB 1 7)).operE = 0 ∧ (((DS.new 64 (nought N)).write 0 (sB 1 7)).flush).n = 1 ∧ ∀ n : Nat, 2 ≤ n → n < 64 → Dk.blk ((DS.new 64 (nought N)).write 0 (sB 1 7)).flush.dur n = nought 4096) := fun ks => Inv.start N hN ks _
  have hWF : Hid (Dk.writeF (DS.new 64 (nought N))) := ⟨by simp [DS.new], by simp [DS.new]⟩
  clear hN hzl hzr hcl hcr
  generalize DS.new 64 (nought N) = D0 at HNew HSt hWF
  have hE1 : D0.writeE 0 (sB 1 7) = 0 := (HSt.out []).2.1
  have hE2 : (D0.write 0 (sB 1 7)).operE = 0 := (HSt.out []).2.2.1
  have HI0 : Hid (∀ ks, Inv (sB 1 7) (sB 2 9) (nought 4096) ks (D0.write 0 (sB 1 7)).flush) := fun ks => (HSt.out ks).1
  have HN0 : Hid ((D0.write 0 (sB 1 7)).flush.n = 1 ∧ ∀ n : Nat, 2 ≤ n → n < 64 → Dk.blk (D0.write 0 (sB 1 7)).flush.dur n = nought 4096) := (HSt.out []).2.2.2
  clear HSt
  go_enter Try.func4, Try.ntmps4
  go_wp2_with fail
  refine Calls.mono (HNew.out _) ?_
  rintro r v1 ⟨g, rfl, F, hd, hF, B1⟩
  have HD : Hid (IsDisk v1 g D0 F) := hd
  have HF : Hid (∀ i, F i → w.heap.size ≤ i) := hF
  clear hd hF HNew
  go_wp2_with fail
  refine Calls.mono (HB17.out _) ?_
  rintro r v2 ⟨gs, cs, rfl, hgs, _, _, _, rs, b2⟩
  have hflt := HD.out.flt
  have cW := Dk.write_at (HD.out.below b2) 0 (some ⟨gs, 0, none⟩) 4096 cs (sB 1 7) L17.out hWF.out rs (fun ad e hf => by injection e with e; rw [← e] at hf; exact absurd hgs (Nat.not_le.2 (hflt _ hf)))
  rw [hE1] at cW
  have B2 := B1.trans (b2.mono B1.size)
  generalize D0.write 0 (sB 1 7) = D0w at cW hE2 HI0 HN0
  clear hE1 hflt rs hgs b2 HD hWF B1
  go_wp2_with fail
  refine Calls.mono cW ?_
  rintro r v3 ⟨rfl, ⟨F3, hd3, hF3⟩, U3⟩
  have HF3 : Hid (∀ i, F3 i → w.heap.size ≤ i) := fun i hi => by
    rcases hF3 i hi with h | h
    · exact HF.out i h
    · exact Nat.le_trans B2.size h
  have B3 : Below w.heap.size w v3 := B2.trans (U3.below HF.out B2.size)
  have cF := Dk.flush_at hd3
  rw [hE2] at cF
  generalize D0w.flush = D1 at cF HI0 HN0
  clear cW hE2 hF3 U3 B2 HF hd3
  go_wp2_with fail
  refine Calls.mono cF ?_
  rintro r v4 ⟨rfl, hd4, U4⟩
  have HD4 : Hid (IsDisk v4 g D1 F3) := hd4
  have B4 : Below w.heap.size w v4 := B3.trans (U4.below HF3.out B3.size)
  clear cF U4 B3 hd4
  have S0 : L1 v4 (v4.alloc (.cells #[.int .i64 0, .int .i64 0, .slice none 0 0] 40)) 0 none 0 [] := L1.start v4
  have HS0 : Hid (L1 v4 (v4.alloc (.cells #[.int .i64 0, .int .i64 0, .slice none 0 0] 40)) 0 none 0 []) := S0
  clear S0
  go_upto_block 0 with fail
  go_cut [8] from 51 (fun _ u => ∃ (k : Nat) (av : Option Addr) (cv : Nat) (qs : List GG), k ≤ 10 ∧ L1 v4 u k av cv qs)
  case first =>
   as_aux_lemma =>
   go_wp2_with fail
   go_loopw [8] (fun i u => ∃ (k : Nat) (av : Option Addr) (cv : Nat) (qs : List GG), k ≤ nb ∧ k ≤ 10 ∧ i = .int .i64 (k : Int) ∧ L1 v4 u k av cv qs) (fun i _ => nb - (intOf i).toNat)
   case atStart => exact ⟨0, none, 0, [], Nat.zero_le _, Nat.zero_le _, rfl, HS0.out⟩
   case round =>
    clear HS0
    obtain ⟨k, av, cv, qs, hk, hk10, rfl, hS⟩ := hrel
    have HS : Hid (L1 v4 wr k av cv qs) := hS
    clear hS
    by_cases hgo : k < nb ∧ k < 10
    · obtain ⟨hlt, hlt10⟩ := hgo
      have hki : (k : Int) < (nb : Int) := by omega
      have hk10i : (k : Int) < 10 := by omega
      have hk0i : (0 : Int) ≤ (k : Int) := by omega
      have hkl : k < zl.length := by rw [HZL.out]; exact hlt
      have Bwr : Below w.heap.size w wr := B4.trans (HS.out.bel.mono B4.size)
      obtain ⟨zb, zo, rfl, hzc⟩ := HZR.out (by omega)
      have cz0 := hzc k hkl
      generalize (zl[k]'hkl) = z at cz0
      have cz := (Bwr.cell (p := ⟨zb, zo + k, none⟩) (block_lt_of_cell cz0)).trans cz0
      clear cz0 hzc Bwr
      have cg := HS.out.box.cell 2
      simp only [List.getElem?_toArray, List.getElem?_cons_zero, List.getElem?_cons_succ] at cg
      have HCZ : Hid (wr.cell? ⟨zb, zo + k, none⟩ = some (.int .i64 z)) := cz
      have HCS : Hid (∀ q ∈ [((⟨v4.heap.size, 2, none⟩ : Addr), Value.slice av k cv)], (World.drew wr).cell? q.1 = some q.2) := fun q hq => by
        simp only [List.mem_cons, List.not_mem_nil, or_false] at hq
        subst hq
        exact cg
      clear cg
      go_upto_region 8 with fail
      refine wp_region_any (by kernel_rfl) ?_
      change wpAny _ _ _ _ _ _ _ (World.drew _)
      refine wpAny_take (i := 0) (v := ?_) rfl (by kernel_rfl) (by kernel_rfl) (by kernel_rfl) (fun _ _ _ h => h) (Or.inl ⟨by rfl, ?_⟩) ?_
      rotate_left
      · intro w
        go_simp
        with_reducible rfl
      simp only [Act.put, List.setIfInBounds_toArray, List.set_cons_zero, List.set_cons_succ, List.getElem_toArray, List.getElem_cons_zero]
      refine wpAny_take (i := 2) (v := ?_) rfl (by kernel_rfl) (by kernel_rfl) (by kernel_rfl) (fun _ _ _ h => h) (Or.inl ⟨by rfl, ?_⟩) ?_
      rotate_left
      · intro w
        go_simp
        with_reducible rfl
      simp only [Act.put, List.setIfInBounds_toArray, List.set_cons_zero, List.set_cons_succ, List.getElem_toArray, List.getElem_cons_zero, List.getElem_cons_succ]
      refine wpAny_take (i := 3) (v := ?_) rfl (by kernel_rfl) (by kernel_rfl) (by kernel_rfl) (fun _ _ _ h => h) (Or.inl ⟨by rfl, ?_⟩) ?_
      rotate_left
      · intro w
        go_simp
        with_reducible rfl
      simp only [Act.put, List.setIfInBounds_toArray, List.set_cons_zero, List.set_cons_succ, List.getElem_toArray, List.getElem_cons_zero, List.getElem_cons_succ]
      refine wpAny_take (i := 4) (v := ?_) rfl (by kernel_rfl) (by kernel_rfl) (by kernel_rfl) (fun _ _ _ h => h) (Or.inl ⟨by rfl, ?_⟩) ?_
      rotate_left
      · intro w
        go_simp
        with_reducible rfl
      simp only [Act.put, List.setIfInBounds_toArray, List.set_cons_zero, List.set_cons_succ, List.getElem_toArray, List.getElem_cons_zero, List.getElem_cons_succ]
      refine wpAny_take (i := 8) (v := ?_) rfl (by kernel_rfl) (by kernel_rfl) (by kernel_rfl) (fun _ _ _ h => h) (Or.inl ⟨by rfl, ?_⟩) ?_
      rotate_left
      · intro w
        go_simp
        with_reducible rfl
      simp only [Act.put, List.setIfInBounds_toArray, List.set_cons_zero, List.set_cons_succ, List.getElem_toArray, List.getElem_cons_zero, List.getElem_cons_succ]
      refine wpAny_of_E (C := Dk.SlotsCells [(61, .pointer (some ⟨v4.heap.size, 2, none⟩))] [(⟨v4.heap.size, 2, none⟩, .slice av k cv)]) (late := [11, 13]) _ _ _ _ ?_
      refine wpAnyE_take (i := 1) (v := .slice av k cv) rfl (by kernel_rfl) (by kernel_rfl) (by kernel_rfl) (by kernel_rfl) (by kernel_rfl) (by kernel_rfl) (fun _ _ _ h => h) ?_ (fun fr u h => (Dk.SlotsCells.put 62 _ (by rfl)).1 h) (fun fr u h => (Dk.SlotsCells.put 62 _ (by rfl)).2 h) ?_ ?_
      · intro fr u hh
        obtain ⟨e1, e2⟩ := hh.load (s := 61) (p := ⟨v4.heap.size, 2, none⟩) (v := .slice av k cv) (by simp) (by simp)
        exact ⟨rfl, by simp [execOp, e1, go_sem, e2]⟩
      · exact ⟨fun p hp => by simp at hp; subst hp; rfl, HCS.out⟩
      simp only [Act.put, List.setIfInBounds_toArray, List.set_cons_zero, List.set_cons_succ, List.getElem_toArray, List.getElem_cons_zero, List.getElem_cons_succ]

      have czd : (World.drew wr).cell? ⟨zb, zo + k, none⟩ = some (.int .i64 z) := HCZ.out
      refine wpAnyE_some (rs := [5]) (by kernel_rfl) (by simp) (fun i hi => ?_)
      simp only [List.mem_cons, List.not_mem_nil, or_false] at hi
      subst hi
      refine wpOp_step rfl (fun K hK => ?_)
      go_simp
      refine hK _ _ ⟨.inr (.inr ⟨fun p hp => by simp at hp; subst hp; rfl, HCS.out⟩), ?_⟩
      clear hK K czd
      refine wpAnyE_some (rs := [6]) (by kernel_rfl) (by simp) (fun i hi => ?_)
      simp only [List.mem_cons, List.not_mem_nil, or_false] at hi
      subst hi
      refine wpOp_step rfl (fun K hK => ?_)
      go_simp
      refine Calls.mono (pick46 z _) ?_
      rintro r W0 ⟨p, hp, rfl, rfl⟩
      refine hK _ _ ⟨.inr (.inr ⟨fun p hp => by simp at hp; subst hp; rfl, HCS.out⟩), ?_⟩
      clear hK K
      have hwp : IntKind.i64.wrap (18 + (p : Int)) = 18 + p := by rw [IntKind.wrap_i64]; omega
      refine wpAnyE_pure (i := 7) (v := ?_) rfl (by kernel_rfl) (by kernel_rfl) (by kernel_rfl) (by kernel_rfl) (fun _ _ _ h => h) (fun fr u h => (Dk.SlotsCells.put 68 _ (by rfl)).1 h) (fun fr u h => (Dk.SlotsCells.put 68 _ (by rfl)).2 h) (.inr ⟨fun p hp => by simp at hp; subst hp; rfl, HCS.out⟩) (Or.inl ⟨by rfl, ?_⟩) ?_
      rotate_left
      · intro w
        go_simp
        with_reducible rfl
      simp only [Act.put, List.setIfInBounds_toArray, List.set_cons_zero, List.set_cons_succ, List.getElem_toArray, List.getElem_cons_zero, List.getElem_cons_succ]
      refine wpAnyE_some (rs := [9]) (by kernel_rfl) (by simp) (fun i hi => ?_)
      simp only [List.mem_cons, List.not_mem_nil, or_false] at hi
      subst hi
      refine wpOp_step rfl (fun K hK => ?_)
      go_simp
      have hn : Hid (18 ≤ (18 + p : Int) ∧ (18 + p : Int) ≤ 63) := by show _ ∧ _; omega
      generalize (18 + (p : Int)) = n at hn ⊢
      clear hwp hp
      refine Calls.mono (HMk.out n k _) ?_
      rintro r W1 ⟨ha, rfl, lha, ⟨xs, ox, lx⟩, b10⟩
      have b10' : Below wr.heap.size wr W1 := ((Below.refl wr.heap.size wr).drew).trans b10
      have c1 := (HS.out.box.below b10').cell 2
      have al := (Below.refl W1.heap.size W1).alloc (Nat.le_refl _) (.cells #[.int .i64 n, .slice (some ⟨ha, 0, none⟩) 4096 4096] 37)
      have c2 := ((HS.out.box.below b10').below al).cell 2
      simp only [List.getElem?_toArray, List.getElem?_cons_zero, List.getElem?_cons_succ] at c1 c2
      have HC1 : Hid (∀ q ∈ [((⟨v4.heap.size, 2, none⟩ : Addr), Value.slice av k cv)], W1.cell? q.1 = some q.2) := fun q hq => by
        simp only [List.mem_cons, List.not_mem_nil, or_false] at hq
        subst hq
        exact c1
      have HC2 : Hid (∀ q ∈ [((⟨v4.heap.size, 2, none⟩ : Addr), Value.slice av k cv)], (W1.alloc (.cells #[.int .i64 n, .slice (some ⟨ha, 0, none⟩) 4096 4096] 37)).cell? q.1 = some q.2) := fun q hq => by
        simp only [List.mem_cons, List.not_mem_nil, or_false] at hq
        subst hq
        exact c2
      have hrow2 := Rc.owns_below (Rc.owns_below HS.out.row b10') al
      have hz3 : v4.heap.size + 1 ≤ (W1.alloc (.cells #[.int .i64 n, .slice (some ⟨ha, 0, none⟩) 4096 4096] 37)).heap.size := by
        have h1 := HS.out.box.lt
        have h2 := b10'.size
        simp
        omega
      clear c1 c2 b10 al
      refine hK _ _ ⟨.inr (.inr ⟨fun p hp => by simp at hp; subst hp; rfl, HC1.out⟩), ?_⟩
      clear hK K
      refine wpAnyE_some (rs := [10]) (by kernel_rfl) (by simp) (fun i hi => ?_)
      simp only [List.mem_cons, List.not_mem_nil, or_false] at hi
      subst hi
      refine wpOp_step rfl (fun K hK => ?_)
      go_simp
      refine hK _ _ ⟨.inr (.inr ⟨fun p hp => by simp at hp; subst hp; rfl, HC2.out⟩), ?_⟩
      clear hK K
      refine wpAnyE_some (rs := [11]) (by kernel_rfl) (by simp) (fun i hi => ?_)
      simp only [List.mem_cons, List.not_mem_nil, or_false] at hi
      subst hi
      refine wpOp_step rfl (fun K hK => ?_)
      refine step_append_lies _ (by rfl) _ _ _ (by rfl) (v4.heap.size + 1) 37 i0 _ 2 32 Try.underlying29 hi hz0 hz1 hz2 rfl (by omega) (.slice av k cv) k (imgC qs) (by rfl) hrow2 ⟨W1.heap.size, 0, none⟩ 1 1 [.int .i64 n, .slice (some ⟨ha, 0, none⟩) 4096 4096] (by rfl) (by rfl) (World.news_of_block (cs := #[.int .i64 n, .slice (some ⟨ha, 0, none⟩) 4096 4096]) (t := 37) (fr := (0, 0)) (heap_alloc_new W1 _)) (by intro u hu; simp at hu; rcases hu with rfl | rfl <;> rfl) (by omega) (by unfold maxLen; omega) (by omega) hz3 (W1.heap.size + 1) (by simp) ?_
      intro gg gc W2 hown hgrow hat hlt1
      obtain ⟨bx2, hS2⟩ := HS.out.more b10' hn.out lha ox lx hown hgrow
      have f2 := bx2.frozen 2
      have g2 := bx2.cell 2
      simp only [List.getElem?_toArray, List.getElem?_cons_zero, List.getElem?_cons_succ] at g2
      have HS2 : Hid (L1 v4 (W2.setCell ⟨v4.heap.size, 2, none⟩ (.slice (some ⟨gg, 0, none⟩) (k + 1) gc)) (k + 1) (some ⟨gg, 0, none⟩) gc (qs ++ [⟨n, xs, ha, 4096⟩])) := hS2
      clear hown hgrow hat hlt1 hrow2 bx2 hS2 HC1 HC2
      refine hK _ _ ⟨.inr (.inl (by rfl)), ?_⟩
      clear hK K
      refine wpAnyE_some (rs := [12]) (by kernel_rfl) (by simp) (fun i hi => ?_)
      simp only [List.mem_cons, List.not_mem_nil, or_false] at hi
      subst hi
      refine wpOp_step rfl (fun K hK => ?_)
      go_simp
      refine hK _ _ ⟨.inl (by rfl), ?_⟩
      clear hK K
      refine wpAnyE_some (rs := [13]) (by kernel_rfl) (by simp) (fun i hi => ?_)
      simp only [List.mem_cons, List.not_mem_nil, or_false] at hi
      subst hi
      refine wpOp_step rfl (fun K hK => ?_)
      go_simp
      refine hK _ _ ⟨.inl (by rfl), ?_⟩
      clear hK K
      refine wpAnyE_done (by kernel_rfl) ?_ _
      go_wp2_with fail
      go_roundw
      case rel => exact ⟨k + 1, _, _, _, by omega, by omega, by push_cast; rfl, HS2.out⟩
      case measure => simp [intOf]; omega
    · have HL : Hid (L1 v4 wr k av cv qs ∧ k ≤ 10) := ⟨HS.out, hk10⟩
      by_cases hlt : k < nb
      · have hke : k = 10 := by omega
        have hki : (k : Int) < (nb : Int) := by omega
        have hk10i : ((k : Int) < 10) = False := by simp; omega
        go_wp2_with fail
        go_meet
        exact ⟨k, av, cv, qs, HL.out.2, HL.out.1⟩
      · have hki : ((k : Int) < (nb : Int)) = False := by simp; omega
        go_wp2_with fail
        go_meet
        exact ⟨k, av, cv, qs, HL.out.2, HL.out.1⟩
  case rest =>
   obtain ⟨k, av, cv, qs, hk10, hS⟩ := hcut
   have HS : Hid (L1 v4 wc k av cv qs) := hS
   clear hS HS0 HMk HZL HZR hnb i0 hi hz0 hz1 hz2
   go_upto_region 9 with fail
   have HBN : Hid (∀ u : World, Box (u.alloc (.cells #[.int .i64 0, .int .i64 0, .slice av k cv] 40)).drew u.heap.size #[.int .i64 0, .int .i64 0, .slice av k cv] 40) := fun u => Box.new u #[.int .i64 0, .int .i64 0, .slice av k cv] 40
   go_cut [6, 9] from 74 (fun v6 v9 u => ∃ (a9 : Option Addr) (c9 : Nat) (ks : List Int) (qs' : List GG), v6 = .int .i64 0 ∧ v9 = .slice a9 (List.length ks) c9 ∧ HomeR v4.heap.size (lq qs) ks qs' a9 c9 u ∧ L1 v4 u k av cv qs)
   case first =>
    as_aux_lemma =>
    have q0 := (HS.out.below ((Below.refl _ wc).drew)).box.cell 0
    have q1 := (HS.out.below ((Below.refl _ wc).drew)).box.cell 1
    have q2 := (HS.out.below ((Below.refl _ wc).drew)).box.cell 2
    simp only [List.getElem?_toArray, List.getElem?_cons_zero, List.getElem?_cons_succ] at q0 q1 q2
    go_region_with (first
      | (go_at_call 9; refine Calls.mono (HLy.out _) ?_; rintro e u9 ⟨rfl, b⟩; first
          | (have b9 : Below wc.heap.size wc u9 := (by with_reducible exact ((Below.refl wc.heap.size wc).drew).trans (b.mono ((Below.refl wc.heap.size wc).drew).size)); have l9 := HS.out.below b9; have z0 := l9.box.cell 0; have z1 := l9.box.cell 1; have z2 := l9.box.cell 2; simp only [List.getElem?_toArray, List.getElem?_cons_zero, List.getElem?_cons_succ] at z0 z1 z2; have HL9 : Hid (L1 v4 u9 k av cv qs) := l9; clear l9 b b9)
          | (have b9 : Below wc.heap.size wc u9 := (by with_reducible exact (((Below.refl wc.heap.size wc).alloc (Nat.le_refl _) (.cells #[.int .i64 0, .int .i64 0, .slice av k cv] 40)).drew).trans (b.mono (((Below.refl wc.heap.size wc).alloc (Nat.le_refl _) (.cells #[.int .i64 0, .int .i64 0, .slice av k cv] 40)).drew).size)); have x9 : Box u9 wc.heap.size #[.int .i64 0, .int .i64 0, .slice av k cv] 40 := (by with_reducible exact Box.below (w := (wc.alloc (.cells #[.int .i64 0, .int .i64 0, .slice av k cv] 40)).drew) (HBN.out wc) b); have l9 := HS.out.below b9; have HL9 : Hid (L1 v4 u9 k av cv qs) := l9; have HX9 : Hid (Box u9 wc.heap.size #[.int .i64 0, .int .i64 0, .slice av k cv] 40) := x9; clear l9 b b9 x9))
      | (go_at_call_of 8 (Value.agg #[.int .i64 64, .int .i64 2, .int .i64 16, .int .i64 18, .int .i64 19, .int .i64 4, .int .i64 23]); first
          | (have cH := L1.home HL9.out hk10 wc.heap.size HX9.out; unfold lay at cH; (with_reducible refine Calls.mono cH ?_); rintro e u8' ⟨a9, c9, ks, qs', rfl, hR, b8⟩; have HL8 : Hid (L1 v4 u8' k av cv qs) := HL9.out.below b8; have HR8 : Hid (HomeR v4.heap.size (lq qs) ks qs' a9 c9 u8') := hR.le HL9.out.bel.size; clear cH hR b8)
          | (have cH := L1.home (HL9.out.below ((Below.refl _ u9).alloc (Nat.le_refl _) (.cells #[.int .i64 0, .int .i64 0, .slice av k cv] 40))) hk10 u9.heap.size (Box.new u9 #[.int .i64 0, .int .i64 0, .slice av k cv] 40); unfold lay at cH; (with_reducible refine Calls.mono cH ?_); rintro e u8' ⟨a9, c9, ks, qs', rfl, hR, b8⟩; have HL8 : Hid (L1 v4 u8' k av cv qs) := (HL9.out.below ((Below.refl _ u9).alloc (Nat.le_refl _) (.cells #[.int .i64 0, .int .i64 0, .slice av k cv] 40))).below b8; have HR8 : Hid (HomeR v4.heap.size (lq qs) ks qs' a9 c9 u8') := hR.le (HL9.out.below ((Below.refl _ u9).alloc (Nat.le_refl _) (.cells #[.int .i64 0, .int .i64 0, .slice av k cv] 40))).bel.size; clear cH hR b8)))
    all_goals go_wp2_with fail
    all_goals go_meet
    all_goals exact ⟨a9, c9, ks, qs', rfl, rfl, HR8.out, HL8.out⟩
   case rest =>
    obtain ⟨a9, c9, ks, qs', rfl, rfl, hR, hS⟩ := hcut
    have HS2 : Hid (L1 v4 wc k av cv qs) := hS
    have HR : Hid (HomeR v4.heap.size (lq qs) ks qs' a9 c9 wc) := hR
    have cC := Dk.copy_at (HD4.out.below hS.bel) (by rw [(HI0.out []).uf]; decide)
    clear hS hR HS HLy HBN
    go_wp2_with fail
    refine Calls.mono cC ?_
    rintro r v12 ⟨gw, rfl, Fc, hdc, hFc, b12⟩
    have b4c : Below v4.heap.size v4 v12 := HS2.out.bel.trans (b12.mono HS2.out.bel.size)
    have HDC : Hid (IsDisk v12 gw D1.copy Fc ∧ ∀ i, Fc i → v4.heap.size ≤ i) := ⟨hdc, fun i hi => Nat.le_trans HS2.out.bel.size (hFc i hi)⟩
    have HS12 : Hid (L1 v4 v12 k av cv qs) := HS2.out.below b12
    have hIm : Ims ks (ks.map fun k => (k, datD (lq qs) k)) := ims_of HR.out.rise HR.out.keys (fun p hp => by
      obtain ⟨q, hq, rfl⟩ := List.mem_map.1 hp
      exact ⟨(HS2.out.ok q hq).1, (HS2.out.ok q hq).2, (HS2.out.get.rows q hq).2.2⟩)
    obtain ⟨G, hG⟩ : ∃ G : Nat → Prop, G = fun i => w.heap.size ≤ i ∧ i < v4.heap.size := ⟨_, rfl⟩
    have HG : Hid (∀ i, G i ↔ w.heap.size ≤ i ∧ i < v4.heap.size) := fun i => by rw [hG]
    have hR12 := HR.out.below b12
    have hX := hR12.imsD G (fun i hi => ((HG.out i).1 hi).2)
    have hKL : Hid (ks.length ≤ 512) := hR12.len
    have HKeys : Hid (∀ x, x ∈ ks ↔ (lastD (lq qs) x).isSome = true) := hR12.keys
    obtain ⟨ims, hims⟩ : ∃ ims, ims = ks.map fun k => (k, datD (lq qs) k) := ⟨_, rfl⟩
    rw [← hims] at hX hIm
    have HX : Hid (ImsD v12 a9 (qD qs') G ∧ (qD qs').length = ks.length ∧ pl (qD qs') = ims ∧ ∀ ad, a9 = some ad → ad.block < v12.heap.size) := ⟨hX.1, hX.2.1, hX.2.2, fun ad e => (owns_addr hR12.row ad e).2⟩
    have HIm : Hid (Ims ks ims ∧ ims.length ≤ 512) := ⟨hIm, by rw [hims, List.length_map]; exact hKL.out⟩
    have HImE : Hid (ims = ks.map fun k => (k, datD (lq qs) k)) := hims
    have BW : Below w.heap.size w v12 := B4.trans (b4c.mono B4.size)
    have HL0 : Hid (L2 v12 v12 g G (sB 1 7) (sB 2 9) (nought 4096) ks 0 D1 F3) := ⟨HD4.out.below b4c, fun i hi => .inl ((HG.out i).2 ⟨HF3.out i hi, HD4.out.flt i hi⟩), Upd.refl _ _, HI0.out ks, by rw [HN0.out.1]; decide⟩
    have HB01 : Hid (∀ n : Nat, 2 ≤ n → n < 64 → D1.copy.stand n = nought 4096) := fun n h1 h2 => by
      have e : D1.copy.stand n = Dk.blk D1.dur n := stand_nil (D := D1.copy) (HI0.out []).uf n
      rw [e]
      exact HN0.out.2 n h1 h2
    have HCf : Hid (D1.copy.nb = 64 ∧ D1.copy.gone = false ∧ D1.copy.uf = []) := ⟨(HI0.out []).nb, (HI0.out []).quiet.1, (HI0.out []).uf⟩
    have hT29 : Hid (∀ i, 44 ≤ i → i < 4096 → (sB 2 9)[i]? = (nought 4096)[i]?) := tail29
    have L29 : Hid ((sB 2 9).length = 4096) := sB_len 2 9
    have LZ : Hid ((nought 4096).length = 4096) := Dk.nought_length 4096
    have HCnt : Hid (∀ D : DS, Inv (sB 1 7) (sB 2 9) (nought 4096) ks D → choose (getSuper (D.stand 0)) (getSuper (D.stand 1)) = if Dk.blk D.dur 1 = sB 2 9 then (⟨64, 2, 9, 0⟩, 1, true) else (⟨64, 1, 7, 0⟩, 0, true)) := fun D h => h.counts
    have HSl : Hid (∀ D : DS, Inv (sB 1 7) (sB 2 9) (nought 4096) ks D → (D.stand 0).length = 4096 ∧ (D.stand 1).length = 4096 ∧ D.stand 0 = sB 1 7) := fun D h => ⟨(stand01 h).1, (stand01 h).2, by rw [stand_nil h.uf]; exact h.held.1.zero⟩
    have HP29 : Hid (Su.putSuper 64 2 9 0 = some (sB 2 9)) := put29
    generalize sB 1 7 = s17 at HL0 HCnt HSl HI0 HB17 L17
    generalize sB 2 9 = s29 at HL0 HCnt HSl HI0 hT29 L29 HP29
    generalize nought 4096 = zs at HL0 HCnt HSl HI0 hT29 LZ HB01 HN0
    have hE29 : ∀ u, (binOp .neq 23 (.agg #[.int .i64 64, .int .i64 2, .int .i64 9, .int .i64 0]) (.agg #[.int .i64 64, .int .i64 2, .int .i64 9, .int .i64 0])).run Try.prog u = .ok (.bool false) u := fun u => neqS u 64 2 9 0 64 2 9 0
    have hE17 : ∀ u, (binOp .neq 23 (.agg #[.int .i64 64, .int .i64 1, .int .i64 7, .int .i64 0]) (.agg #[.int .i64 64, .int .i64 1, .int .i64 7, .int .i64 0])).run Try.prog u = .ok (.bool false) u := fun u => neqS u 64 1 7 0 64 1 7 0
    have hE12 : ∀ u, (binOp .neq 23 (.agg #[.int .i64 64, .int .i64 1, .int .i64 7, .int .i64 0]) (.agg #[.int .i64 64, .int .i64 2, .int .i64 9, .int .i64 0])).run Try.prog u = .ok (.bool true) u := fun u => neqS u 64 1 7 0 64 2 9 0
    have HOf : Hid (∀ (e q : Int) (u : World), Calls Try.prog 13 #[.int .i64 e, .int .i64 q] u fun r w' => r = .returned (.agg #[.int .i64 64, .int .i64 e, .int .i64 q, .int .i64 0]) ∧ Below u.heap.size u w') := fun e q u => of_at e q u
    clear cC hdc hFc b12 HS2 HR hIm hG hX hR12 hims HD4 HF3 HN0 HI0 b4c B4
    go_upto_block 2 with fail
    go_cut [11, 12, 13, 14, 15, 16, 17, 18, 19, 20] from 85 (fun _ _ _ _ _ _ _ _ _ _ u => ∃ (i : Nat) (D : DS) (F : Nat → Prop), i ≤ 6 ∧ L2 v12 u g G s17 s29 zs ks i D F)
    case first =>
     as_aux_lemma =>
     go_wp2_with fail
     go_loopw [11] (fun v u => ∃ (i : Nat) (D : DS) (F : Nat → Prop), i ≤ nc ∧ i ≤ 6 ∧ v = .int .i64 (i : Int) ∧ L2 v12 u g G s17 s29 zs ks i D F) (fun i _ => nc - (intOf i).toNat)
     case atStart => exact ⟨0, D1, F3, Nat.zero_le _, Nat.zero_le _, rfl, HL0.out⟩
     case round =>
      clear HL0 HDC HS12 HB01 HCf HA HImE HKeys
      obtain ⟨i, D, F, hin, hi6, rfl, hL⟩ := hrel
      have HL : Hid (L2 v12 wr g G s17 s29 zs ks i D F) := hL
      clear hL
      by_cases hgo : i < nc ∧ i < 6
      · obtain ⟨hlt, hlt6⟩ := hgo
        have hii : (i : Int) < (nc : Int) := by omega
        have hi6i : (i : Int) < 6 := by omega
        have hi0 : (0 : Int) ≤ (i : Int) := by omega
        have hil : i < cl.length := by rw [HCL.out]; exact hlt
        have BU : Below w.heap.size w wr := BW.trans (HL.out.upd.below (fun i hi => ((HG.out i).1 hi).1) BW.size)
        obtain ⟨cb0, co, rfl, hcc⟩ := HCR.out (by omega)
        have hc := hcc i hil
        generalize (cl[i]'hil) = c at hc
        obtain ⟨arm, ak, nk, ck, keep, torn, m⟩ := c
        obtain ⟨c0, c1, c2, c3, hm, hlen, hbig, hrd⟩ := hc
        dsimp only at c0 c1 c2 c3 hm hlen hbig hrd
        have lb := block_lt_of_cell c0
        have y0 := (BU.cell (p := ⟨cb0, co + i * 4, none⟩) lb).trans c0
        have y1 := (BU.cell (p := ⟨cb0, co + i * 4 + 1, none⟩) lb).trans c1
        have y2 := (BU.cell (p := ⟨cb0, co + i * 4 + 2, none⟩) lb).trans c2
        have y3 := (BU.cell (p := ⟨cb0, co + i * 4 + 3, none⟩) lb).trans c3
        have bx := Box.new wr #[.int .i64 arm, .slice ak nk ck, .int .i64 torn, .int .u8 (m : Int)] 60
        have bA := (Below.refl wr.heap.size wr).alloc (Nat.le_refl _) (.cells #[.int .i64 arm, .slice ak nk ck, .int .i64 torn, .int .u8 (m : Int)] 60)
        have n0 := bx.cell 0
        simp only [List.getElem?_toArray, List.getElem?_cons_zero] at n0
        have HRD : Hid (Dk.RdBl w ak keep ∧ keep.length = nk ∧ nk ≤ 9223372036854775807 ∧ m < 256) := ⟨hrd, hlen, hbig, hm⟩
        have HBx : Hid (Box (wr.alloc (.cells #[.int .i64 arm, .slice ak nk ck, .int .i64 torn, .int .u8 (m : Int)] 60)) wr.heap.size #[.int .i64 arm, .slice ak nk ck, .int .i64 torn, .int .u8 (m : Int)] 60) := bx
        have HBA : Hid (Below wr.heap.size wr (wr.alloc (.cells #[.int .i64 arm, .slice ak nk ck, .int .i64 torn, .int .u8 (m : Int)] 60))) := bA
        clear hcc c0 c1 c2 c3 lb bx bA hrd hlen hbig hm
        go_wp2_with fail
        refine Calls.mono (pick15 arm _) ?_
        rintro r u0 ⟨p, hp, rfl, rfl⟩
        have cA := Dk.arm_at (HL.out.disk.below HBA.out) p (by omega)
        rw [show Dk.armE (p : Int) = 0 by unfold Dk.armE; rw [if_neg (by omega)]] at cA
        clear y0 y1 y2 y3 n0 hp
        go_wp2_with fail
        refine Calls.mono cA ?_
        rintro r u1 ⟨rfl, hd1, U1⟩
        have HD1 : Hid (IsDisk u1 g (D.armed p) F) := hd1
        have HU1 : Hid (Upd F wr u1) := ((Upd.refl F wr).alloc _).trans U1 (fun i h => .inl h)
        have hnF : ¬ F wr.heap.size := fun hf => absurd (HL.out.disk.flt _ hf) (Nat.lt_irrefl _)
        have HB1 : Hid (Box u1 wr.heap.size #[.int .i64 arm, .slice ak nk ck, .int .i64 torn, .int .u8 (m : Int)] 60) := U1.box HBx.out hnF
        clear cA hd1 U1 HBx HBA
        go_wp2_with fail
        refine Calls.mono (HOf.out 2 9 _) ?_
        rintro r u2 ⟨rfl, b2⟩
        have HU2 : Hid (Upd F wr u2) := HU1.out.thenB b2
        have hI2 := HX.out.1.upd (HL.out.upd.trans HU2.out HL.out.own) HL.out.own HX.out.2.2.2
        have cD := do_at (HD1.out.below b2) a9 ks.length c9 (qD qs') 64 2 9 0 1 HX.out.2.1 (by have := hKL.out; omega) hI2 ⟨by rw [(armed_keeps D p).2.1, HL.out.inv.uf]; decide, by rw [(armed_keeps D p).2.2.2]; have := HL.out.cnt; omega⟩
        rw [doR_good (D.armed p) qs' ims ks s29 HP29.out (by rw [(armed_keeps D p).2.2.1]; exact HL.out.inv.nb) HX.out.2.2.1 HIm.out.1] at cD
        have HB2 : Hid (Box u2 wr.heap.size #[.int .i64 arm, .slice ak nk ck, .int .i64 torn, .int .u8 (m : Int)] 60) := HB1.out.below b2
        have hK : ∀ kp : List Bool, ∀ F1 : Nat → Prop, ∀ u3 u4 : World, IsDisk u4 g ((doD ims 1 s29 (D.armed p)).1.crash kp torn m) F1 → (∀ i, F1 i → F i ∨ u2.heap.size ≤ i) → Upd F u2 u3 → Upd F1 u3 u4 → L2 v12 u4 g G s17 s29 zs ks (i + 1) ((doD ims 1 s29 (D.armed p)).1.crash kp torn m) F1 ∧ ((doD ims 1 s29 (D.armed p)).2 = 0 → Dk.blk ((doD ims 1 s29 (D.armed p)).1.crash kp torn m).dur 1 = s29) := fun kp F1 u3 u4 h1 h2 h3 h4 => HL.out.life HIm.out.1 HIm.out.2 LZ.out L29.out hT29.out p kp torn m h1 h2 HU2.out h3 h4
        generalize doD ims 1 s29 (D.armed p) = R at cD hK
        obtain ⟨DR, e⟩ := R
        dsimp only at cD hK
        have HK : Hid (∀ kp : List Bool, ∀ F1 : Nat → Prop, ∀ u3 u4 : World, IsDisk u4 g (DR.crash kp torn m) F1 → (∀ i, F1 i → F i ∨ u2.heap.size ≤ i) → Upd F u2 u3 → Upd F1 u3 u4 → L2 v12 u4 g G s17 s29 zs ks (i + 1) (DR.crash kp torn m) F1 ∧ (e = 0 → Dk.blk (DR.crash kp torn m).dur 1 = s29)) := hK
        have hz2 : Hid (wr.heap.size < u2.heap.size) := HB2.out.lt
        clear hK hI2 HB1 HD1 HU1 b2
        go_wp2_with fail
        refine Calls.mono cD ?_
        rintro r u3 ⟨rfl, ⟨F1, hd3, hF1⟩, U3⟩
        have hB3 : Box u3 wr.heap.size #[.int .i64 arm, .slice ak nk ck, .int .i64 torn, .int .u8 (m : Int)] 60 := U3.box HB2.out hnF
        have n1 := hB3.cell 1
        have n2 := hB3.cell 2
        have n3 := hB3.cell 3
        simp only [List.getElem?_toArray, List.getElem?_cons_zero, List.getElem?_cons_succ] at n1 n2 n3
        have HF1 : Hid (∀ i, F1 i → F i ∨ u2.heap.size ≤ i) := hF1
        have HU3 : Hid (Upd F u2 u3) := U3
        have hFw : ∀ i, F1 i → w.heap.size ≤ i := fun i hi => by
          rcases hF1 i hi with q | q
          · rcases HL.out.own i q with q | q
            · exact ((HG.out i).1 q).1
            · exact Nat.le_trans BW.size q
          · exact Nat.le_trans (Nat.le_trans BU.size HU2.out.size) q
        have BU3 : Below w.heap.size w u3 := by
          have q : Upd F wr u3 := HU2.out.trans U3 (fun i h => .inl h)
          exact BU.trans (q.below (fun i hi => by
            rcases HL.out.own i hi with q | q
            · exact ((HG.out i).1 q).1
            · exact Nat.le_trans BW.size q) BU.size)
        have hrd3 : Dk.RdBl u3 ak keep := fun hp => by
          obtain ⟨b', o', e', hc'⟩ := HRD.out.1 hp
          exact ⟨b', o', e', fun j hj => (BU3.cell (p := ⟨b', o' + j, none⟩) (block_lt_of_cell (hc' j hj))).trans (hc' j hj)⟩
        have cK := Dk.crash_at hd3 ak nk ck keep torn m HRD.out.2.2.2 HRD.out.2.1 HRD.out.2.2.1 hrd3 (fun ad e' h0 hf => by
          obtain ⟨b', o', e2, hc'⟩ := HRD.out.1 (by rw [HRD.out.2.1]; exact h0)
          rw [e'] at e2
          injection e2 with e2
          have h1 := hFw _ hf
          rw [e2] at h1
          exact absurd (block_lt_of_cell (hc' 0 (by rw [HRD.out.2.1]; exact h0))) (Nat.not_lt.2 h1))
        clear cD hd3 hF1 U3 hB3 HB2 hFw hrd3 BU3
        go_wp2_with fail
        refine Calls.mono cK ?_
        rintro r u4 ⟨rfl, hd4, U4⟩
        obtain ⟨hL4, hdone⟩ := HK.out keep F1 u3 u4 hd4 HF1.out HU3.out U4
        generalize DR.crash keep torn m = D2 at hL4 hdone
        have HL4 : Hid (L2 v12 u4 g G s17 s29 zs ks (i + 1) D2 F1) := hL4
        have HDn : Hid (e = 0 → Dk.blk D2.dur 1 = s29) := hdone
        have cR : Calls Try.prog 14 #[.pointer (some ⟨g, 0, none⟩), .int .i64 0] u4 fun e w' => ∃ gr cr, e = .returned (.tuple #[.slice (some ⟨gr, 0, none⟩) 4096 cr, .int .i64 0]) ∧ u4.heap.size ≤ gr ∧ Dk.RowB w' gr cr (D2.stand 0) ∧ Below u4.heap.size u4 w' := hL4.reads 0 (by decide)
        clear cK hd4 U4 hL4 hdone HK HF1 HU3 n1 n2 n3
        go_wp2_with fail
        refine Calls.mono cR ?_
        rintro r u5 ⟨g0, cr0, rfl, _, r0, b5⟩
        have HL5 : Hid (L2 v12 u5 g G s17 s29 zs ks (i + 1) D2 F1) := HL4.out.below b5
        have cR : Calls Try.prog 14 #[.pointer (some ⟨g, 0, none⟩), .int .i64 1] u5 fun e w' => ∃ gr cr, e = .returned (.tuple #[.slice (some ⟨gr, 0, none⟩) 4096 cr, .int .i64 0]) ∧ u5.heap.size ≤ gr ∧ Dk.RowB w' gr cr (D2.stand 1) ∧ Below u5.heap.size u5 w' := HL5.out.reads 1 (by decide)
        have hr0 : Hid (Dk.RowB u5 g0 cr0 (D2.stand 0)) := r0
        clear r0 b5 HL4
        go_wp2_with fail
        refine Calls.mono cR ?_
        rintro r u6 ⟨g1, cr1, rfl, _, r1, b6⟩
        have HL6 : Hid (L2 v12 u6 g G s17 s29 zs ks (i + 1) D2 F1) := HL5.out.below b6
        have r06 := hr0.out.same (b6.block _ hr0.out.lt)
        obtain ⟨e00, e01, _⟩ := HSl.out D2 HL6.out.inv
        obtain ⟨_, _, q1, q2, _⟩ := id r06
        obtain ⟨_, _, q3, q4, _⟩ := id r1
        have cC := choose_at 4096 cr0 4096 cr1 (some ⟨g0, 0, none⟩) (some ⟨g1, 0, none⟩) (D2.stand 0) (D2.stand 1) u6 e00 (by omega) (by unfold maxLen at q2; omega) r06.rd e01 (by omega) (by unfold maxLen at q4; omega) r1.rd
        rw [HCnt.out D2 HL6.out.inv] at cC
        clear cR r1 r06 q1 q2 q3 q4 e00 e01 hr0 b6 HL5
        by_cases hone : Dk.blk D2.dur 1 = s29
        · rw [if_pos hone] at cC
          unfold supV at cC
          dsimp only at cC
          clear hone
          go_wp2_with fail
          refine Calls.mono cC ?_
          rintro r u7 ⟨rfl, b7⟩
          have hA0 : Hid (L3S v12 g G s17 s29 zs ks (i + 1) D2 F1 u7.heap.size 2 9 (u7.alloc (.cells #[.int .i64 64, .int .i64 2, .int .i64 9, .int .i64 0] 23)).drew) := L3S.below ((Below.refl _ _).drew) (L3S.new (Box.new u7 _ 23) ((HL6.out.below b7).below ((Below.refl _ u7).alloc (Nat.le_refl _) _)))
          clear cC HL6 b7 HB17 L17 HCL HCR HG hKL HX HIm BW HCnt HSl hT29 L29 LZ HP29 HL BU HRD HU2 hz2 hnF HDn
          obtain ⟨q0, q1, q2, q3, _⟩ := hA0.out
          go_upto_region 25 with fail
          refine wp_region_any (by kernel_rfl) ?_
          change wpAny _ _ _ _ _ _ _ (World.drew _)
          refine wpAny_take (i := 0) (v := ?_) rfl (by kernel_rfl) (by kernel_rfl) (by kernel_rfl) (fun _ _ _ h => h) (Or.inl ⟨by rfl, ?_⟩) ?_
          rotate_left
          · intro w
            go_simp
            with_reducible rfl
          simp only [Act.put, List.setIfInBounds_toArray, List.set_cons_zero, List.set_cons_succ, List.getElem_toArray, List.getElem_cons_zero]
          refine wpAny_take (i := 1) (v := ?_) rfl (by kernel_rfl) (by kernel_rfl) (by kernel_rfl) (fun _ _ _ h => h) (Or.inl ⟨by rfl, ?_⟩) ?_
          rotate_left
          · intro w
            go_simp
            with_reducible rfl
          simp only [Act.put, List.setIfInBounds_toArray, List.set_cons_zero, List.set_cons_succ, List.getElem_toArray, List.getElem_cons_zero, List.getElem_cons_succ]
          refine wpAny_take (i := 2) (v := ?_) rfl (by kernel_rfl) (by kernel_rfl) (by kernel_rfl) (fun _ _ _ h => h) (Or.inl ⟨by rfl, ?_⟩) ?_
          rotate_left
          · intro w
            go_simp
            with_reducible rfl
          simp only [Act.put, List.setIfInBounds_toArray, List.set_cons_zero, List.set_cons_succ, List.getElem_toArray, List.getElem_cons_zero, List.getElem_cons_succ]
          refine wpAny_of_E (C := fun _ _ => True) (late := []) _ _ _ _ ?_
          refine wpAnyE_some (rs := [3, 4]) (by kernel_rfl) (by simp) (fun i' hi' => ?_)
          simp only [List.mem_cons, List.not_mem_nil, or_false] at hi'
          rcases hi' with rfl | rfl
          · refine wpOp_step rfl (fun K hK => ?_)
            go_simp
            refine hK _ _ ⟨.inr (.inr trivial), ?_⟩
            clear hK K
            refine wpAnyE_some (rs := [4]) (by kernel_rfl) (by simp) (fun i' hi' => ?_)
            simp only [List.mem_cons, List.not_mem_nil, or_false] at hi'
            subst hi'
            refine wpOp_step rfl (fun K hK => ?_)
            go_simp
            refine Calls.mono (HOf.out 2 9 _) ?_
            rintro r' lAw ⟨rfl, b'⟩
            have lA : Hid (L3S v12 g G s17 s29 zs ks (i + 1) D2 F1 u7.heap.size 2 9 lAw) := L3S.below b' hA0.out
            obtain ⟨lA0, lA1, lA2, lA3, _⟩ := lA.out
            clear b'
            refine hK _ _ ⟨.inr (.inr trivial), ?_⟩
            clear hK K
            refine wpAnyE_pure (i := 5) (v := ?_) rfl (by kernel_rfl) (by kernel_rfl) (by kernel_rfl) (by kernel_rfl) (fun _ _ _ h => h) (fun _ _ h => h) (fun _ _ h => h) (.inr trivial) (Or.inl ⟨by rfl, ?_⟩) ?_
            rotate_left
            · intro w
              go_simp
              with_reducible rfl
            simp only [Act.put, List.setIfInBounds_toArray, List.set_cons_zero, List.set_cons_succ, List.getElem_toArray, List.getElem_cons_zero, List.getElem_cons_succ]
            refine wpAnyE_pure (i := 6) (v := ?_) rfl (by kernel_rfl) (by kernel_rfl) (by kernel_rfl) (by kernel_rfl) (fun _ _ _ h => h) (fun _ _ h => h) (fun _ _ h => h) (.inr trivial) (Or.inl ⟨by rfl, ?_⟩) ?_
            rotate_left
            · intro w
              go_simp
              with_reducible rfl
            simp only [Act.put, List.setIfInBounds_toArray, List.set_cons_zero, List.set_cons_succ, List.getElem_toArray, List.getElem_cons_zero, List.getElem_cons_succ]
            refine wpAnyE_pure (i := 7) (v := undef) rfl (by kernel_rfl) (by kernel_rfl) (by kernel_rfl) (by kernel_rfl) (fun _ _ _ h => h) (fun _ _ h => h) (fun _ _ h => h) (.inr trivial) (Or.inr ⟨by rfl, rfl⟩) ?_
            simp only [Act.put, List.setIfInBounds_toArray, List.set_cons_zero, List.set_cons_succ, List.getElem_toArray, List.getElem_cons_zero, List.getElem_cons_succ]
            refine wpAnyE_pure (i := 8) (v := undef) rfl (by kernel_rfl) (by kernel_rfl) (by kernel_rfl) (by kernel_rfl) (fun _ _ _ h => h) (fun _ _ h => h) (fun _ _ h => h) (.inr trivial) (Or.inr ⟨by rfl, rfl⟩) ?_
            simp only [Act.put, List.setIfInBounds_toArray, List.set_cons_zero, List.set_cons_succ, List.getElem_toArray, List.getElem_cons_zero, List.getElem_cons_succ]
            refine wpAnyE_pure (i := 9) (v := undef) rfl (by kernel_rfl) (by kernel_rfl) (by kernel_rfl) (by kernel_rfl) (fun _ _ _ h => h) (fun _ _ h => h) (fun _ _ h => h) (.inr trivial) (Or.inr ⟨by rfl, rfl⟩) ?_
            simp only [Act.put, List.setIfInBounds_toArray, List.set_cons_zero, List.set_cons_succ, List.getElem_toArray, List.getElem_cons_zero, List.getElem_cons_succ]
            refine wpAnyE_pure (i := 10) (v := undef) rfl (by kernel_rfl) (by kernel_rfl) (by kernel_rfl) (by kernel_rfl) (fun _ _ _ h => h) (fun _ _ h => h) (fun _ _ h => h) (.inr trivial) (Or.inr ⟨by rfl, rfl⟩) ?_
            simp only [Act.put, List.setIfInBounds_toArray, List.set_cons_zero, List.set_cons_succ, List.getElem_toArray, List.getElem_cons_zero, List.getElem_cons_succ]
            refine wpAnyE_pure (i := 11) (v := undef) rfl (by kernel_rfl) (by kernel_rfl) (by kernel_rfl) (by kernel_rfl) (fun _ _ _ h => h) (fun _ _ h => h) (fun _ _ h => h) (.inr trivial) (Or.inr ⟨by rfl, rfl⟩) ?_
            simp only [Act.put, List.setIfInBounds_toArray, List.set_cons_zero, List.set_cons_succ, List.getElem_toArray, List.getElem_cons_zero, List.getElem_cons_succ]
            refine wpAnyE_pure (i := 12) (v := undef) rfl (by kernel_rfl) (by kernel_rfl) (by kernel_rfl) (by kernel_rfl) (fun _ _ _ h => h) (fun _ _ h => h) (fun _ _ h => h) (.inr trivial) (Or.inr ⟨by rfl, rfl⟩) ?_
            simp only [Act.put, List.setIfInBounds_toArray, List.set_cons_zero, List.set_cons_succ, List.getElem_toArray, List.getElem_cons_zero, List.getElem_cons_succ]
            refine wpAnyE_pure (i := 13) (v := ?_) rfl (by kernel_rfl) (by kernel_rfl) (by kernel_rfl) (by kernel_rfl) (fun _ _ _ h => h) (fun _ _ h => h) (fun _ _ h => h) (.inr trivial) (Or.inl ⟨by rfl, ?_⟩) ?_
            rotate_left
            · intro w
              go_simp
              with_reducible rfl
            simp only [Act.put, List.setIfInBounds_toArray, List.set_cons_zero, List.set_cons_succ, List.getElem_toArray, List.getElem_cons_zero, List.getElem_cons_succ]
            refine wpAnyE_pure (i := 14) (v := ?_) rfl (by kernel_rfl) (by kernel_rfl) (by kernel_rfl) (by kernel_rfl) (fun _ _ _ h => h) (fun _ _ h => h) (fun _ _ h => h) (.inr trivial) (Or.inl ⟨by rfl, ?_⟩) ?_
            rotate_left
            · intro w
              go_simp
              with_reducible rfl
            simp only [Act.put, List.setIfInBounds_toArray, List.set_cons_zero, List.set_cons_succ, List.getElem_toArray, List.getElem_cons_zero, List.getElem_cons_succ]
            refine wpAnyE_done (by kernel_rfl) ?_ _
            go_wp2_with fail
            go_roundw
            case rel => exact ⟨i + 1, D2, F1, by omega, by omega, by push_cast; rfl, L3S.two lA.out⟩
            case measure => simp [intOf]; omega
          · refine wpOp_step rfl (fun K hK => ?_)
            go_simp
            refine Calls.mono (HOf.out 2 9 _) ?_
            rintro r' lAw ⟨rfl, b'⟩
            have lA : Hid (L3S v12 g G s17 s29 zs ks (i + 1) D2 F1 u7.heap.size 2 9 lAw) := L3S.below b' hA0.out
            obtain ⟨lA0, lA1, lA2, lA3, _⟩ := lA.out
            clear b'
            refine hK _ _ ⟨.inr (.inr trivial), ?_⟩
            clear hK K
            refine wpAnyE_some (rs := [3]) (by kernel_rfl) (by simp) (fun i' hi' => ?_)
            simp only [List.mem_cons, List.not_mem_nil, or_false] at hi'
            subst hi'
            refine wpOp_step rfl (fun K hK => ?_)
            go_simp
            refine hK _ _ ⟨.inr (.inr trivial), ?_⟩
            clear hK K
            refine wpAnyE_pure (i := 5) (v := ?_) rfl (by kernel_rfl) (by kernel_rfl) (by kernel_rfl) (by kernel_rfl) (fun _ _ _ h => h) (fun _ _ h => h) (fun _ _ h => h) (.inr trivial) (Or.inl ⟨by rfl, ?_⟩) ?_
            rotate_left
            · intro w
              go_simp
              with_reducible rfl
            simp only [Act.put, List.setIfInBounds_toArray, List.set_cons_zero, List.set_cons_succ, List.getElem_toArray, List.getElem_cons_zero, List.getElem_cons_succ]
            refine wpAnyE_pure (i := 6) (v := ?_) rfl (by kernel_rfl) (by kernel_rfl) (by kernel_rfl) (by kernel_rfl) (fun _ _ _ h => h) (fun _ _ h => h) (fun _ _ h => h) (.inr trivial) (Or.inl ⟨by rfl, ?_⟩) ?_
            rotate_left
            · intro w
              go_simp
              with_reducible rfl
            simp only [Act.put, List.setIfInBounds_toArray, List.set_cons_zero, List.set_cons_succ, List.getElem_toArray, List.getElem_cons_zero, List.getElem_cons_succ]
            refine wpAnyE_pure (i := 7) (v := undef) rfl (by kernel_rfl) (by kernel_rfl) (by kernel_rfl) (by kernel_rfl) (fun _ _ _ h => h) (fun _ _ h => h) (fun _ _ h => h) (.inr trivial) (Or.inr ⟨by rfl, rfl⟩) ?_
            simp only [Act.put, List.setIfInBounds_toArray, List.set_cons_zero, List.set_cons_succ, List.getElem_toArray, List.getElem_cons_zero, List.getElem_cons_succ]
            refine wpAnyE_pure (i := 8) (v := undef) rfl (by kernel_rfl) (by kernel_rfl) (by kernel_rfl) (by kernel_rfl) (fun _ _ _ h => h) (fun _ _ h => h) (fun _ _ h => h) (.inr trivial) (Or.inr ⟨by rfl, rfl⟩) ?_
            simp only [Act.put, List.setIfInBounds_toArray, List.set_cons_zero, List.set_cons_succ, List.getElem_toArray, List.getElem_cons_zero, List.getElem_cons_succ]
            refine wpAnyE_pure (i := 9) (v := undef) rfl (by kernel_rfl) (by kernel_rfl) (by kernel_rfl) (by kernel_rfl) (fun _ _ _ h => h) (fun _ _ h => h) (fun _ _ h => h) (.inr trivial) (Or.inr ⟨by rfl, rfl⟩) ?_
            simp only [Act.put, List.setIfInBounds_toArray, List.set_cons_zero, List.set_cons_succ, List.getElem_toArray, List.getElem_cons_zero, List.getElem_cons_succ]
            refine wpAnyE_pure (i := 10) (v := undef) rfl (by kernel_rfl) (by kernel_rfl) (by kernel_rfl) (by kernel_rfl) (fun _ _ _ h => h) (fun _ _ h => h) (fun _ _ h => h) (.inr trivial) (Or.inr ⟨by rfl, rfl⟩) ?_
            simp only [Act.put, List.setIfInBounds_toArray, List.set_cons_zero, List.set_cons_succ, List.getElem_toArray, List.getElem_cons_zero, List.getElem_cons_succ]
            refine wpAnyE_pure (i := 11) (v := undef) rfl (by kernel_rfl) (by kernel_rfl) (by kernel_rfl) (by kernel_rfl) (fun _ _ _ h => h) (fun _ _ h => h) (fun _ _ h => h) (.inr trivial) (Or.inr ⟨by rfl, rfl⟩) ?_
            simp only [Act.put, List.setIfInBounds_toArray, List.set_cons_zero, List.set_cons_succ, List.getElem_toArray, List.getElem_cons_zero, List.getElem_cons_succ]
            refine wpAnyE_pure (i := 12) (v := undef) rfl (by kernel_rfl) (by kernel_rfl) (by kernel_rfl) (by kernel_rfl) (fun _ _ _ h => h) (fun _ _ h => h) (fun _ _ h => h) (.inr trivial) (Or.inr ⟨by rfl, rfl⟩) ?_
            simp only [Act.put, List.setIfInBounds_toArray, List.set_cons_zero, List.set_cons_succ, List.getElem_toArray, List.getElem_cons_zero, List.getElem_cons_succ]
            refine wpAnyE_pure (i := 13) (v := ?_) rfl (by kernel_rfl) (by kernel_rfl) (by kernel_rfl) (by kernel_rfl) (fun _ _ _ h => h) (fun _ _ h => h) (fun _ _ h => h) (.inr trivial) (Or.inl ⟨by rfl, ?_⟩) ?_
            rotate_left
            · intro w
              go_simp
              with_reducible rfl
            simp only [Act.put, List.setIfInBounds_toArray, List.set_cons_zero, List.set_cons_succ, List.getElem_toArray, List.getElem_cons_zero, List.getElem_cons_succ]
            refine wpAnyE_pure (i := 14) (v := ?_) rfl (by kernel_rfl) (by kernel_rfl) (by kernel_rfl) (by kernel_rfl) (fun _ _ _ h => h) (fun _ _ h => h) (fun _ _ h => h) (.inr trivial) (Or.inl ⟨by rfl, ?_⟩) ?_
            rotate_left
            · intro w
              go_simp
              with_reducible rfl
            simp only [Act.put, List.setIfInBounds_toArray, List.set_cons_zero, List.set_cons_succ, List.getElem_toArray, List.getElem_cons_zero, List.getElem_cons_succ]
            refine wpAnyE_done (by kernel_rfl) ?_ _
            go_wp2_with fail
            go_roundw
            case rel => exact ⟨i + 1, D2, F1, by omega, by omega, by push_cast; rfl, L3S.two lA.out⟩
            case measure => simp [intOf]; omega
        · rw [if_neg hone] at cC
          unfold supV at cC
          dsimp only at cC
          have hne : ((e : Int) == 0) = false := by
            have : e ≠ 0 := fun h => hone (HDn.out h)
            simp
            omega
          clear hone
          rw [hne]
          go_wp2_with fail
          refine Calls.mono cC ?_
          rintro r u7 ⟨rfl, b7⟩
          have hA0 : Hid (L3S v12 g G s17 s29 zs ks (i + 1) D2 F1 u7.heap.size 1 7 (u7.alloc (.cells #[.int .i64 64, .int .i64 1, .int .i64 7, .int .i64 0] 23)).drew) := L3S.below ((Below.refl _ _).drew) (L3S.new (Box.new u7 _ 23) ((HL6.out.below b7).below ((Below.refl _ u7).alloc (Nat.le_refl _) _)))
          clear cC HL6 b7 HB17 L17 HCL HCR HG hKL HX HIm BW HCnt HSl hT29 L29 LZ HP29 HL BU HRD HU2 hz2 hnF HDn
          obtain ⟨q0, q1, q2, q3, _⟩ := hA0.out
          go_upto_region 25 with fail
          refine wp_region_any (by kernel_rfl) ?_
          change wpAny _ _ _ _ _ _ _ (World.drew _)
          refine wpAny_take (i := 0) (v := ?_) rfl (by kernel_rfl) (by kernel_rfl) (by kernel_rfl) (fun _ _ _ h => h) (Or.inl ⟨by rfl, ?_⟩) ?_
          rotate_left
          · intro w
            go_simp
            with_reducible rfl
          simp only [Act.put, List.setIfInBounds_toArray, List.set_cons_zero, List.set_cons_succ, List.getElem_toArray, List.getElem_cons_zero]
          refine wpAny_take (i := 1) (v := ?_) rfl (by kernel_rfl) (by kernel_rfl) (by kernel_rfl) (fun _ _ _ h => h) (Or.inl ⟨by rfl, ?_⟩) ?_
          rotate_left
          · intro w
            go_simp
            with_reducible rfl
          simp only [Act.put, List.setIfInBounds_toArray, List.set_cons_zero, List.set_cons_succ, List.getElem_toArray, List.getElem_cons_zero, List.getElem_cons_succ]
          refine wpAny_take (i := 2) (v := ?_) rfl (by kernel_rfl) (by kernel_rfl) (by kernel_rfl) (fun _ _ _ h => h) (Or.inl ⟨by rfl, ?_⟩) ?_
          rotate_left
          · intro w
            go_simp
            with_reducible rfl
          simp only [Act.put, List.setIfInBounds_toArray, List.set_cons_zero, List.set_cons_succ, List.getElem_toArray, List.getElem_cons_zero, List.getElem_cons_succ]
          refine wpAny_of_E (C := fun _ _ => True) (late := []) _ _ _ _ ?_
          refine wpAnyE_some (rs := [3, 4]) (by kernel_rfl) (by simp) (fun i' hi' => ?_)
          simp only [List.mem_cons, List.not_mem_nil, or_false] at hi'
          rcases hi' with rfl | rfl
          · refine wpOp_step rfl (fun K hK => ?_)
            go_simp
            refine hK _ _ ⟨.inr (.inr trivial), ?_⟩
            clear hK K
            refine wpAnyE_some (rs := [4]) (by kernel_rfl) (by simp) (fun i' hi' => ?_)
            simp only [List.mem_cons, List.not_mem_nil, or_false] at hi'
            subst hi'
            refine wpOp_step rfl (fun K hK => ?_)
            go_simp
            refine Calls.mono (HOf.out 2 9 _) ?_
            rintro r' lAw ⟨rfl, b'⟩
            have lA : Hid (L3S v12 g G s17 s29 zs ks (i + 1) D2 F1 u7.heap.size 1 7 lAw) := L3S.below b' hA0.out
            obtain ⟨lA0, lA1, lA2, lA3, _⟩ := lA.out
            clear b'
            refine hK _ _ ⟨.inr (.inr trivial), ?_⟩
            clear hK K
            refine wpAnyE_pure (i := 5) (v := ?_) rfl (by kernel_rfl) (by kernel_rfl) (by kernel_rfl) (by kernel_rfl) (fun _ _ _ h => h) (fun _ _ h => h) (fun _ _ h => h) (.inr trivial) (Or.inl ⟨by rfl, ?_⟩) ?_
            rotate_left
            · intro w
              go_simp
              with_reducible rfl
            simp only [Act.put, List.setIfInBounds_toArray, List.set_cons_zero, List.set_cons_succ, List.getElem_toArray, List.getElem_cons_zero, List.getElem_cons_succ]
            refine wpAnyE_pure (i := 6) (v := ?_) rfl (by kernel_rfl) (by kernel_rfl) (by kernel_rfl) (by kernel_rfl) (fun _ _ _ h => h) (fun _ _ h => h) (fun _ _ h => h) (.inr trivial) (Or.inl ⟨by rfl, ?_⟩) ?_
            rotate_left
            · intro w
              go_simp
              with_reducible rfl
            simp only [Act.put, List.setIfInBounds_toArray, List.set_cons_zero, List.set_cons_succ, List.getElem_toArray, List.getElem_cons_zero, List.getElem_cons_succ]
            refine wpAnyE_pure (i := 7) (v := ?_) rfl (by kernel_rfl) (by kernel_rfl) (by kernel_rfl) (by kernel_rfl) (fun _ _ _ h => h) (fun _ _ h => h) (fun _ _ h => h) (.inr trivial) (Or.inl ⟨by rfl, ?_⟩) ?_
            rotate_left
            · intro w
              go_simp
              with_reducible rfl
            simp only [Act.put, List.setIfInBounds_toArray, List.set_cons_zero, List.set_cons_succ, List.getElem_toArray, List.getElem_cons_zero, List.getElem_cons_succ]
            refine wpAnyE_pure (i := 8) (v := ?_) rfl (by kernel_rfl) (by kernel_rfl) (by kernel_rfl) (by kernel_rfl) (fun _ _ _ h => h) (fun _ _ h => h) (fun _ _ h => h) (.inr trivial) (Or.inl ⟨by rfl, ?_⟩) ?_
            rotate_left
            · intro w
              go_simp
              with_reducible rfl
            simp only [Act.put, List.setIfInBounds_toArray, List.set_cons_zero, List.set_cons_succ, List.getElem_toArray, List.getElem_cons_zero, List.getElem_cons_succ]
            refine wpAnyE_some (rs := [9, 10]) (by kernel_rfl) (by simp) (fun i' hi' => ?_)
            simp only [List.mem_cons, List.not_mem_nil, or_false] at hi'
            rcases hi' with rfl | rfl
            · refine wpOp_step rfl (fun K hK => ?_)
              go_simp
              refine hK _ _ ⟨.inr (.inr trivial), ?_⟩
              clear hK K
              refine wpAnyE_some (rs := [10]) (by kernel_rfl) (by simp) (fun i' hi' => ?_)
              simp only [List.mem_cons, List.not_mem_nil, or_false] at hi'
              subst hi'
              refine wpOp_step rfl (fun K hK => ?_)
              go_simp
              refine Calls.mono (HOf.out 1 7 _) ?_
              rintro r' lBw ⟨rfl, b'⟩
              have lB : Hid (L3S v12 g G s17 s29 zs ks (i + 1) D2 F1 u7.heap.size 1 7 lBw) := L3S.below b' lA.out
              obtain ⟨lB0, lB1, lB2, lB3, _⟩ := lB.out
              clear b'
              refine hK _ _ ⟨.inr (.inr trivial), ?_⟩
              clear hK K
              refine wpAnyE_pure (i := 11) (v := ?_) rfl (by kernel_rfl) (by kernel_rfl) (by kernel_rfl) (by kernel_rfl) (fun _ _ _ h => h) (fun _ _ h => h) (fun _ _ h => h) (.inr trivial) (Or.inl ⟨by rfl, ?_⟩) ?_
              rotate_left
              · intro w
                go_simp
                with_reducible rfl
              simp only [Act.put, List.setIfInBounds_toArray, List.set_cons_zero, List.set_cons_succ, List.getElem_toArray, List.getElem_cons_zero, List.getElem_cons_succ]
              refine wpAnyE_pure (i := 12) (v := ?_) rfl (by kernel_rfl) (by kernel_rfl) (by kernel_rfl) (by kernel_rfl) (fun _ _ _ h => h) (fun _ _ h => h) (fun _ _ h => h) (.inr trivial) (Or.inl ⟨by rfl, ?_⟩) ?_
              rotate_left
              · intro w
                go_simp
                with_reducible rfl
              simp only [Act.put, List.setIfInBounds_toArray, List.set_cons_zero, List.set_cons_succ, List.getElem_toArray, List.getElem_cons_zero, List.getElem_cons_succ]
              refine wpAnyE_pure (i := 13) (v := ?_) rfl (by kernel_rfl) (by kernel_rfl) (by kernel_rfl) (by kernel_rfl) (fun _ _ _ h => h) (fun _ _ h => h) (fun _ _ h => h) (.inr trivial) (Or.inl ⟨by rfl, ?_⟩) ?_
              rotate_left
              · intro w
                go_simp
                with_reducible rfl
              simp only [Act.put, List.setIfInBounds_toArray, List.set_cons_zero, List.set_cons_succ, List.getElem_toArray, List.getElem_cons_zero, List.getElem_cons_succ]
              refine wpAnyE_pure (i := 14) (v := ?_) rfl (by kernel_rfl) (by kernel_rfl) (by kernel_rfl) (by kernel_rfl) (fun _ _ _ h => h) (fun _ _ h => h) (fun _ _ h => h) (.inr trivial) (Or.inl ⟨by rfl, ?_⟩) ?_
              rotate_left
              · intro w
                go_simp
                with_reducible rfl
              simp only [Act.put, List.setIfInBounds_toArray, List.set_cons_zero, List.set_cons_succ, List.getElem_toArray, List.getElem_cons_zero, List.getElem_cons_succ]
              refine wpAnyE_done (by kernel_rfl) ?_ _
              go_wp2_with fail
              go_roundw
              case rel => exact ⟨i + 1, D2, F1, by omega, by omega, by push_cast; rfl, L3S.two lB.out⟩
              case measure => simp [intOf]; omega
            · refine wpOp_step rfl (fun K hK => ?_)
              go_simp
              refine Calls.mono (HOf.out 1 7 _) ?_
              rintro r' lBw ⟨rfl, b'⟩
              have lB : Hid (L3S v12 g G s17 s29 zs ks (i + 1) D2 F1 u7.heap.size 1 7 lBw) := L3S.below b' lA.out
              obtain ⟨lB0, lB1, lB2, lB3, _⟩ := lB.out
              clear b'
              refine hK _ _ ⟨.inr (.inr trivial), ?_⟩
              clear hK K
              refine wpAnyE_some (rs := [9]) (by kernel_rfl) (by simp) (fun i' hi' => ?_)
              simp only [List.mem_cons, List.not_mem_nil, or_false] at hi'
              subst hi'
              refine wpOp_step rfl (fun K hK => ?_)
              go_simp
              refine hK _ _ ⟨.inr (.inr trivial), ?_⟩
              clear hK K
              refine wpAnyE_pure (i := 11) (v := ?_) rfl (by kernel_rfl) (by kernel_rfl) (by kernel_rfl) (by kernel_rfl) (fun _ _ _ h => h) (fun _ _ h => h) (fun _ _ h => h) (.inr trivial) (Or.inl ⟨by rfl, ?_⟩) ?_
              rotate_left
              · intro w
                go_simp
                with_reducible rfl
              simp only [Act.put, List.setIfInBounds_toArray, List.set_cons_zero, List.set_cons_succ, List.getElem_toArray, List.getElem_cons_zero, List.getElem_cons_succ]
              refine wpAnyE_pure (i := 12) (v := ?_) rfl (by kernel_rfl) (by kernel_rfl) (by kernel_rfl) (by kernel_rfl) (fun _ _ _ h => h) (fun _ _ h => h) (fun _ _ h => h) (.inr trivial) (Or.inl ⟨by rfl, ?_⟩) ?_
              rotate_left
              · intro w
                go_simp
                with_reducible rfl
              simp only [Act.put, List.setIfInBounds_toArray, List.set_cons_zero, List.set_cons_succ, List.getElem_toArray, List.getElem_cons_zero, List.getElem_cons_succ]
              refine wpAnyE_pure (i := 13) (v := ?_) rfl (by kernel_rfl) (by kernel_rfl) (by kernel_rfl) (by kernel_rfl) (fun _ _ _ h => h) (fun _ _ h => h) (fun _ _ h => h) (.inr trivial) (Or.inl ⟨by rfl, ?_⟩) ?_
              rotate_left
              · intro w
                go_simp
                with_reducible rfl
              simp only [Act.put, List.setIfInBounds_toArray, List.set_cons_zero, List.set_cons_succ, List.getElem_toArray, List.getElem_cons_zero, List.getElem_cons_succ]
              refine wpAnyE_pure (i := 14) (v := ?_) rfl (by kernel_rfl) (by kernel_rfl) (by kernel_rfl) (by kernel_rfl) (fun _ _ _ h => h) (fun _ _ h => h) (fun _ _ h => h) (.inr trivial) (Or.inl ⟨by rfl, ?_⟩) ?_
              rotate_left
              · intro w
                go_simp
                with_reducible rfl
              simp only [Act.put, List.setIfInBounds_toArray, List.set_cons_zero, List.set_cons_succ, List.getElem_toArray, List.getElem_cons_zero, List.getElem_cons_succ]
              refine wpAnyE_done (by kernel_rfl) ?_ _
              go_wp2_with fail
              go_roundw
              case rel => exact ⟨i + 1, D2, F1, by omega, by omega, by push_cast; rfl, L3S.two lB.out⟩
              case measure => simp [intOf]; omega
          · refine wpOp_step rfl (fun K hK => ?_)
            go_simp
            refine Calls.mono (HOf.out 2 9 _) ?_
            rintro r' lAw ⟨rfl, b'⟩
            have lA : Hid (L3S v12 g G s17 s29 zs ks (i + 1) D2 F1 u7.heap.size 1 7 lAw) := L3S.below b' hA0.out
            obtain ⟨lA0, lA1, lA2, lA3, _⟩ := lA.out
            clear b'
            refine hK _ _ ⟨.inr (.inr trivial), ?_⟩
            clear hK K
            refine wpAnyE_some (rs := [3]) (by kernel_rfl) (by simp) (fun i' hi' => ?_)
            simp only [List.mem_cons, List.not_mem_nil, or_false] at hi'
            subst hi'
            refine wpOp_step rfl (fun K hK => ?_)
            go_simp
            refine hK _ _ ⟨.inr (.inr trivial), ?_⟩
            clear hK K
            refine wpAnyE_pure (i := 5) (v := ?_) rfl (by kernel_rfl) (by kernel_rfl) (by kernel_rfl) (by kernel_rfl) (fun _ _ _ h => h) (fun _ _ h => h) (fun _ _ h => h) (.inr trivial) (Or.inl ⟨by rfl, ?_⟩) ?_
            rotate_left
            · intro w
              go_simp
              with_reducible rfl
            simp only [Act.put, List.setIfInBounds_toArray, List.set_cons_zero, List.set_cons_succ, List.getElem_toArray, List.getElem_cons_zero, List.getElem_cons_succ]
            refine wpAnyE_pure (i := 6) (v := ?_) rfl (by kernel_rfl) (by kernel_rfl) (by kernel_rfl) (by kernel_rfl) (fun _ _ _ h => h) (fun _ _ h => h) (fun _ _ h => h) (.inr trivial) (Or.inl ⟨by rfl, ?_⟩) ?_
            rotate_left
            · intro w
              go_simp
              with_reducible rfl
            simp only [Act.put, List.setIfInBounds_toArray, List.set_cons_zero, List.set_cons_succ, List.getElem_toArray, List.getElem_cons_zero, List.getElem_cons_succ]
            refine wpAnyE_pure (i := 7) (v := ?_) rfl (by kernel_rfl) (by kernel_rfl) (by kernel_rfl) (by kernel_rfl) (fun _ _ _ h => h) (fun _ _ h => h) (fun _ _ h => h) (.inr trivial) (Or.inl ⟨by rfl, ?_⟩) ?_
            rotate_left
            · intro w
              go_simp
              with_reducible rfl
            simp only [Act.put, List.setIfInBounds_toArray, List.set_cons_zero, List.set_cons_succ, List.getElem_toArray, List.getElem_cons_zero, List.getElem_cons_succ]
            refine wpAnyE_pure (i := 8) (v := ?_) rfl (by kernel_rfl) (by kernel_rfl) (by kernel_rfl) (by kernel_rfl) (fun _ _ _ h => h) (fun _ _ h => h) (fun _ _ h => h) (.inr trivial) (Or.inl ⟨by rfl, ?_⟩) ?_
            rotate_left
            · intro w
              go_simp
              with_reducible rfl
            simp only [Act.put, List.setIfInBounds_toArray, List.set_cons_zero, List.set_cons_succ, List.getElem_toArray, List.getElem_cons_zero, List.getElem_cons_succ]
            refine wpAnyE_some (rs := [9, 10]) (by kernel_rfl) (by simp) (fun i' hi' => ?_)
            simp only [List.mem_cons, List.not_mem_nil, or_false] at hi'
            rcases hi' with rfl | rfl
            · refine wpOp_step rfl (fun K hK => ?_)
              go_simp
              refine hK _ _ ⟨.inr (.inr trivial), ?_⟩
              clear hK K
              refine wpAnyE_some (rs := [10]) (by kernel_rfl) (by simp) (fun i' hi' => ?_)
              simp only [List.mem_cons, List.not_mem_nil, or_false] at hi'
              subst hi'
              refine wpOp_step rfl (fun K hK => ?_)
              go_simp
              refine Calls.mono (HOf.out 1 7 _) ?_
              rintro r' lBw ⟨rfl, b'⟩
              have lB : Hid (L3S v12 g G s17 s29 zs ks (i + 1) D2 F1 u7.heap.size 1 7 lBw) := L3S.below b' lA.out
              obtain ⟨lB0, lB1, lB2, lB3, _⟩ := lB.out
              clear b'
              refine hK _ _ ⟨.inr (.inr trivial), ?_⟩
              clear hK K
              refine wpAnyE_pure (i := 11) (v := ?_) rfl (by kernel_rfl) (by kernel_rfl) (by kernel_rfl) (by kernel_rfl) (fun _ _ _ h => h) (fun _ _ h => h) (fun _ _ h => h) (.inr trivial) (Or.inl ⟨by rfl, ?_⟩) ?_
              rotate_left
              · intro w
                go_simp
                with_reducible rfl
              simp only [Act.put, List.setIfInBounds_toArray, List.set_cons_zero, List.set_cons_succ, List.getElem_toArray, List.getElem_cons_zero, List.getElem_cons_succ]
              refine wpAnyE_pure (i := 12) (v := ?_) rfl (by kernel_rfl) (by kernel_rfl) (by kernel_rfl) (by kernel_rfl) (fun _ _ _ h => h) (fun _ _ h => h) (fun _ _ h => h) (.inr trivial) (Or.inl ⟨by rfl, ?_⟩) ?_
              rotate_left
              · intro w
                go_simp
                with_reducible rfl
              simp only [Act.put, List.setIfInBounds_toArray, List.set_cons_zero, List.set_cons_succ, List.getElem_toArray, List.getElem_cons_zero, List.getElem_cons_succ]
              refine wpAnyE_pure (i := 13) (v := ?_) rfl (by kernel_rfl) (by kernel_rfl) (by kernel_rfl) (by kernel_rfl) (fun _ _ _ h => h) (fun _ _ h => h) (fun _ _ h => h) (.inr trivial) (Or.inl ⟨by rfl, ?_⟩) ?_
              rotate_left
              · intro w
                go_simp
                with_reducible rfl
              simp only [Act.put, List.setIfInBounds_toArray, List.set_cons_zero, List.set_cons_succ, List.getElem_toArray, List.getElem_cons_zero, List.getElem_cons_succ]
              refine wpAnyE_pure (i := 14) (v := ?_) rfl (by kernel_rfl) (by kernel_rfl) (by kernel_rfl) (by kernel_rfl) (fun _ _ _ h => h) (fun _ _ h => h) (fun _ _ h => h) (.inr trivial) (Or.inl ⟨by rfl, ?_⟩) ?_
              rotate_left
              · intro w
                go_simp
                with_reducible rfl
              simp only [Act.put, List.setIfInBounds_toArray, List.set_cons_zero, List.set_cons_succ, List.getElem_toArray, List.getElem_cons_zero, List.getElem_cons_succ]
              refine wpAnyE_done (by kernel_rfl) ?_ _
              go_wp2_with fail
              go_roundw
              case rel => exact ⟨i + 1, D2, F1, by omega, by omega, by push_cast; rfl, L3S.two lB.out⟩
              case measure => simp [intOf]; omega
            · refine wpOp_step rfl (fun K hK => ?_)
              go_simp
              refine Calls.mono (HOf.out 1 7 _) ?_
              rintro r' lBw ⟨rfl, b'⟩
              have lB : Hid (L3S v12 g G s17 s29 zs ks (i + 1) D2 F1 u7.heap.size 1 7 lBw) := L3S.below b' lA.out
              obtain ⟨lB0, lB1, lB2, lB3, _⟩ := lB.out
              clear b'
              refine hK _ _ ⟨.inr (.inr trivial), ?_⟩
              clear hK K
              refine wpAnyE_some (rs := [9]) (by kernel_rfl) (by simp) (fun i' hi' => ?_)
              simp only [List.mem_cons, List.not_mem_nil, or_false] at hi'
              subst hi'
              refine wpOp_step rfl (fun K hK => ?_)
              go_simp
              refine hK _ _ ⟨.inr (.inr trivial), ?_⟩
              clear hK K
              refine wpAnyE_pure (i := 11) (v := ?_) rfl (by kernel_rfl) (by kernel_rfl) (by kernel_rfl) (by kernel_rfl) (fun _ _ _ h => h) (fun _ _ h => h) (fun _ _ h => h) (.inr trivial) (Or.inl ⟨by rfl, ?_⟩) ?_
              rotate_left
              · intro w
                go_simp
                with_reducible rfl
              simp only [Act.put, List.setIfInBounds_toArray, List.set_cons_zero, List.set_cons_succ, List.getElem_toArray, List.getElem_cons_zero, List.getElem_cons_succ]
              refine wpAnyE_pure (i := 12) (v := ?_) rfl (by kernel_rfl) (by kernel_rfl) (by kernel_rfl) (by kernel_rfl) (fun _ _ _ h => h) (fun _ _ h => h) (fun _ _ h => h) (.inr trivial) (Or.inl ⟨by rfl, ?_⟩) ?_
              rotate_left
              · intro w
                go_simp
                with_reducible rfl
              simp only [Act.put, List.setIfInBounds_toArray, List.set_cons_zero, List.set_cons_succ, List.getElem_toArray, List.getElem_cons_zero, List.getElem_cons_succ]
              refine wpAnyE_pure (i := 13) (v := ?_) rfl (by kernel_rfl) (by kernel_rfl) (by kernel_rfl) (by kernel_rfl) (fun _ _ _ h => h) (fun _ _ h => h) (fun _ _ h => h) (.inr trivial) (Or.inl ⟨by rfl, ?_⟩) ?_
              rotate_left
              · intro w
                go_simp
                with_reducible rfl
              simp only [Act.put, List.setIfInBounds_toArray, List.set_cons_zero, List.set_cons_succ, List.getElem_toArray, List.getElem_cons_zero, List.getElem_cons_succ]
              refine wpAnyE_pure (i := 14) (v := ?_) rfl (by kernel_rfl) (by kernel_rfl) (by kernel_rfl) (by kernel_rfl) (fun _ _ _ h => h) (fun _ _ h => h) (fun _ _ h => h) (.inr trivial) (Or.inl ⟨by rfl, ?_⟩) ?_
              rotate_left
              · intro w
                go_simp
                with_reducible rfl
              simp only [Act.put, List.setIfInBounds_toArray, List.set_cons_zero, List.set_cons_succ, List.getElem_toArray, List.getElem_cons_zero, List.getElem_cons_succ]
              refine wpAnyE_done (by kernel_rfl) ?_ _
              go_wp2_with fail
              go_roundw
              case rel => exact ⟨i + 1, D2, F1, by omega, by omega, by push_cast; rfl, L3S.two lB.out⟩
              case measure => simp [intOf]; omega
      · by_cases hlt : i < nc
        · have hii : (i : Int) < (nc : Int) := by omega
          have hi6i : ((i : Int) < 6) = False := by simp; omega
          go_wp2_with fail
          go_meet
          exact ⟨i, D, F, hi6, HL.out⟩
        · have hii : ((i : Int) < (nc : Int)) = False := by simp; omega
          go_wp2_with fail
          go_meet
          exact ⟨i, D, F, hi6, HL.out⟩
    case rest =>
     as_aux_lemma =>
     obtain ⟨i, D, F, hi6, hL⟩ := hcut
     have HL : Hid (L2 v12 wc g G s17 s29 zs ks i D F) := hL
     clear hL HL0 HCR HCL hE29 hE17 hE12
     go_wp2_with fail
     refine Calls.mono (HOf.out 2 9 _) ?_
     rintro r u1 ⟨rfl, b1⟩
     have hL1 := HL.out.below b1
     have cD := do_at hL1.disk a9 ks.length c9 (qD qs') 64 2 9 0 1 HX.out.2.1 (by have := hKL.out; omega) (HX.out.1.upd hL1.upd hL1.own HX.out.2.2.2) ⟨by rw [hL1.inv.uf]; decide, by have := hL1.cnt; omega⟩
     rw [doR_good D qs' ims ks s29 HP29.out hL1.inv.nb HX.out.2.2.1 HIm.out.1] at cD
     obtain ⟨e0, hinv, hone, hall⟩ := hL1.inv.last HIm.out.1 LZ.out L29.out hT29.out [] (-1) 0
     rw [e0] at cD
     generalize (doD ims 1 s29 D).1 = D3 at cD hinv hone hall
     have HO1 : Hid ((∀ i, F i → G i ∨ v12.heap.size ≤ i) ∧ Upd G v12 u1) := ⟨hL1.own, hL1.upd⟩
     have HInv : Hid (Inv s17 s29 zs ks (D3.crash [] (-1) 0) ∧ Dk.blk (D3.crash [] (-1) 0).dur 1 = s29 ∧ ∀ p ∈ ims, Dk.blk (D3.crash [] (-1) 0).dur p.1.toNat = p.2) := ⟨hinv, hone, hall⟩
     clear hL1 e0 hinv hone hall b1 HL HX HP29 LZ hT29
     go_wp2_with fail
     refine Calls.mono cD ?_
     rintro r u2 ⟨rfl, ⟨F1, hd2, hF1⟩, U2⟩
     have cK : Calls Try.prog 25 #[.pointer (some ⟨g, 0, none⟩), .slice none 0 0, .int .i64 (-1), .int .u8 0] u2 fun e w' => e = .returned (.int .i64 0) ∧ IsDisk w' g (D3.crash [] (-1) 0) F1 ∧ Upd F1 u2 w' := Dk.crash_at hd2 none 0 0 [] (-1) 0 (by decide) rfl (by decide) (Dk.RdBl.nil _ _) (fun ad e => by cases e)
     have hO2 : (∀ i, F1 i → G i ∨ v12.heap.size ≤ i) := fun i hi => by
       rcases hF1 i hi with q | q
       · exact HO1.out.1 i q
       · exact .inr (Nat.le_trans HO1.out.2.size q)
     have HO2 : Hid ((∀ i, F1 i → G i ∨ v12.heap.size ≤ i) ∧ Upd G v12 u2) := ⟨hO2, HO1.out.2.trans U2 HO1.out.1⟩
     generalize D3.crash [] (-1) 0 = D4 at cK HInv
     clear cD hd2 hF1 U2 hO2 HO1
     go_wp2_with fail
     refine Calls.mono cK ?_
     rintro r u3 ⟨rfl, hd3, U3⟩
     have hU3 : Upd G v12 u3 := HO2.out.2.trans U3 HO2.out.1
     have HD3 : Hid (IsDisk u3 g D4 F1) := hd3
     have HDW : Hid (IsDisk u3 gw D1.copy Fc) := HDC.out.1.upd hU3 (fun i hi hg => by have h1 := HDC.out.2 i hi; have h2 := ((HG.out i).1 hg).2; omega)
     have HL4 : Hid (L4 v4 u3 k av cv qs) := HS12.out.four hU3 (fun i hg => ((HG.out i).1 hg).2)
     have B3 : Below w.heap.size w u3 := BW.trans (hU3.below (fun i hg => ((HG.out i).1 hg).1) BW.size)
     have HBl : Hid (∀ n : Nat, 2 ≤ n → n < 64 → D4.stand n = wantD (lq qs) zs n) := fun n h1 h2 => last_blocks HInv.out.1 HImE.out HKeys.out HInv.out.2.2 n h1 h2
     have HQ : Hid (D4.nb = 64 ∧ D4.gone = false ∧ D4.uf = []) := ⟨HInv.out.1.nb, HInv.out.1.quiet.1, HInv.out.1.uf⟩
     have HWL : Hid (∀ n : Nat, 2 ≤ n → n < 64 → (D4.stand n).length = 4096) := fun n h1 h2 => Dk.stand_length hd3.ok n (by rw [HInv.out.1.nb]; exact h2)
     have HCL0 : Hid (∀ n : Nat, n < 64 → (D1.copy.stand n).length = 4096) := fun n h2 => Dk.stand_length HDC.out.1.ok n (by rw [HCf.out.1]; exact h2)
     clear cK hd3 U3 hU3 HO2 HDC HS12 BW HImE HKeys HG HIm hKL
     go_upto_block 4 with fail
     go_cut [21, 22, 23, 24, 25, 26] from 161 (fun _ _ _ _ _ _ u => Below u3.heap.size u3 u)
     case first =>
      as_aux_lemma =>
      go_wp2_with fail
      go_loopw [21] (fun v u => ∃ n : Nat, 2 ≤ n ∧ n ≤ 64 ∧ v = .int .i64 (n : Int) ∧ Below u3.heap.size u3 u) (fun v _ => 64 - (intOf v).toNat)
      case atStart => exact ⟨2, by omega, by omega, rfl, Below.refl _ _⟩
      case round =>
       obtain ⟨n, hn2, hn64, rfl, bu⟩ := hrel
       by_cases hlt : n < 64
       · have hni : (n : Int) < 64 := by omega
         have cR1 := Dk.read_at (HD3.out.below bu) n (by rw [HQ.out.1]; exact hlt) HQ.out.2.1 (by rw [HQ.out.2.2]; decide)
         rw [HBl.out n hn2 hlt] at cR1
         have hwl : Hid ((wantD (lq qs) zs n).length = 4096) := by rw [← HBl.out n hn2 hlt]; exact HWL.out n hn2 hlt
         go_wp2_with fail
         refine Calls.mono cR1 ?_
         rintro r w1 ⟨gr, cr, rfl, _, r1, b1⟩
         have bu1 := bu.trans (b1.mono bu.size)
         have cR2 := Dk.read_at (HDW.out.below bu1) n (by rw [HCf.out.1]; exact hlt) HCf.out.2.1 (by rw [HCf.out.2.2]; decide)
         have hzl := HCL0.out n hlt
         rw [HB01.out n hn2 hlt] at cR2 hzl
         have HZ : Hid (zs.length = 4096) := hzl
         have hr1 : Hid (Dk.RowB w1 gr cr (wantD (lq qs) zs n)) := r1
         clear cR1 r1 b1 hzl bu
         go_wp2_with fail
         refine Calls.mono cR2 ?_
         rintro r w2 ⟨gr2, cr2, rfl, _, r2, b2⟩
         have bu2 := bu1.trans (b2.mono bu1.size)
         have hr2 : Hid (Dk.RowB w2 gr cr (wantD (lq qs) zs n)) := hr1.out.same (b2.block _ hr1.out.lt)
         have hr3 : Hid (Dk.RowB w2 gr2 cr2 zs) := r2
         have H4 : Hid (L4 v4 w2 k av cv qs) := HL4.out.below bu2
         clear cR2 r2 b2 bu1 hr1
         go_wp2_with fail
         go_loopw [24, 26] (fun v24 v26 u => ∃ (j : Nat) (aw : Option Addr) (cw : Nat), j ≤ k ∧ v26 = .int .i64 (j : Int) ∧ v24 = .slice aw 4096 cw ∧ Dk.Rd u aw (wantD (lq (qs.take j)) zs n) ∧ (wantD (lq (qs.take j)) zs n).length = 4096 ∧ u = w2) (fun _ v _ => k - (intOf v).toNat)
         case atStart => exact ⟨0, some ⟨gr2, 0, none⟩, cr2, Nat.zero_le _, rfl, rfl, hr3.out.rd, HZ.out, rfl⟩
         case round =>
          obtain ⟨j, aw, cw, hjk, rfl, rfl, hrd, hwn, rfl⟩ := hrel
          have HRd : Hid (Dk.Rd wr aw (wantD (lq (qs.take j)) zs n) ∧ (wantD (lq (qs.take j)) zs n).length = 4096) := ⟨hrd, hwn⟩
          clear hrd hwn
          have cg := H4.out.box.cell 2
          simp only [List.getElem?_toArray, List.getElem?_cons_zero, List.getElem?_cons_succ] at cg
          by_cases hjl : j < k
          · have hji : (j : Int) < (k : Int) := by omega
            have hj0 : (0 : Int) ≤ (j : Int) := by omega
            obtain ⟨ga, pq, rfl, _, c0, c1, rd, lx, hsn⟩ := H4.out.img j hjl
            obtain ⟨pb, px, ph, pc⟩ := pq
            dsimp only at c0 c1 rd lx hsn
            have hw := wantD_snoc (lq (qs.take j)) zs n pb px
            rw [← hsn] at hw
            have HW : Hid (wantD (lq (qs.take (j + 1))) zs n = if pb = (n : Int) then px else wantD (lq (qs.take j)) zs n) := hw
            have HPd : Hid (Dk.Rd wr (some ⟨ph, 0, none⟩) px ∧ px.length = 4096) := ⟨rd, lx⟩
            clear hw hsn rd lx
            by_cases hbn : pb = (n : Int)
            · have hb : (pb == (n : Int)) = true := by simp [hbn]
              have hW2 : Hid (wantD (lq (qs.take (j + 1))) zs n = px) := by show _ = _; rw [HW.out, if_pos hbn]
              clear HW hbn
              go_wp2_with fail
              go_roundw
              case rel => exact ⟨j + 1, some ⟨ph, 0, none⟩, pc, by omega, by push_cast; rfl, rfl, by rw [hW2.out]; exact HPd.out.1, by rw [hW2.out]; exact HPd.out.2, (by first | rfl | trivial)⟩
              case measure => simp [intOf]; omega
            · have hb : (pb == (n : Int)) = false := by simp [hbn]
              have hW2 : Hid (wantD (lq (qs.take (j + 1))) zs n = wantD (lq (qs.take j)) zs n) := by show _ = _; rw [HW.out, if_neg hbn]
              clear HW hbn
              go_wp2_with fail
              go_roundw
              case rel => exact ⟨j + 1, aw, cw, by omega, by push_cast; rfl, rfl, by rw [hW2.out]; exact HRd.out.1, by rw [hW2.out]; exact HRd.out.2, (by first | rfl | trivial)⟩
              case measure => simp [intOf]; omega
          · have hje : j = k := by omega
            have hw : wantD (lq (qs.take j)) zs n = wantD (lq qs) zs n := by rw [hje, ← H4.out.len, List.take_length]
            have rd2 := HRd.out.1
            rw [hw] at rd2
            have cS := Dk.same_at cr cw 4096 4096 (some ⟨gr, 0, none⟩) aw (wantD (lq qs) zs n) (wantD (lq qs) zs n) wr hwl.out hwl.out hr2.out.rd rd2
            rw [show (wantD (lq qs) zs n == wantD (lq qs) zs n) = true by simp] at cS
            clear rd2 hw HRd
            subst hje
            go_wp2_with fail
            refine Calls.mono cS ?_
            rintro r w5 ⟨rfl, rfl⟩
            go_wp2_with fail
            go_roundw
            case rel => exact ⟨n + 1, by omega, by omega, by push_cast; rfl, bu2⟩
            case measure => simp [intOf]; omega
       · have hne : n = 64 := by omega
         subst hne
         go_wp2_with fail
         go_meet
         exact bu
     case rest =>
      as_aux_lemma =>
      have bu := hcut
      have cR : Calls Try.prog 14 #[.pointer (some ⟨g, 0, none⟩), .int .i64 0] wc fun e w' => ∃ gr cr, e = .returned (.tuple #[.slice (some ⟨gr, 0, none⟩) 4096 cr, .int .i64 0]) ∧ wc.heap.size ≤ gr ∧ Dk.RowB w' gr cr (D4.stand 0) ∧ Below wc.heap.size wc w' := Dk.read_at (HD3.out.below bu) 0 (by rw [HQ.out.1]; decide) HQ.out.2.1 (by rw [HQ.out.2.2]; decide)
      clear hcut HL4 HDW HBl HWL HCL0 HCf HB01
      go_wp2_with fail
      refine Calls.mono cR ?_
      rintro r w1 ⟨g0, c0, rfl, _, r0, b1⟩
      have bu1 := bu.trans (b1.mono bu.size)
      have hr0 : Hid (Dk.RowB w1 g0 c0 (D4.stand 0)) := r0
      have cR : Calls Try.prog 14 #[.pointer (some ⟨g, 0, none⟩), .int .i64 1] w1 fun e w' => ∃ gr cr, e = .returned (.tuple #[.slice (some ⟨gr, 0, none⟩) 4096 cr, .int .i64 0]) ∧ w1.heap.size ≤ gr ∧ Dk.RowB w' gr cr (D4.stand 1) ∧ Below w1.heap.size w1 w' := Dk.read_at (HD3.out.below bu1) 1 (by rw [HQ.out.1]; decide) HQ.out.2.1 (by rw [HQ.out.2.2]; decide)
      clear r0 b1 bu
      go_wp2_with fail
      refine Calls.mono cR ?_
      rintro r w2 ⟨g1, c1, rfl, _, r1, b2⟩
      have bu2 := bu1.trans (b2.mono bu1.size)
      have r02 := hr0.out.same (b2.block _ hr0.out.lt)
      obtain ⟨e00, e01, e02⟩ := HSl.out D4 HInv.out.1
      obtain ⟨_, _, q1, q2, _⟩ := id r02
      obtain ⟨_, _, q3, q4, _⟩ := id r1
      have cC := choose_at 4096 c0 4096 c1 (some ⟨g0, 0, none⟩) (some ⟨g1, 0, none⟩) (D4.stand 0) (D4.stand 1) w2 e00 (by omega) (by unfold maxLen at q2; omega) r02.rd e01 (by omega) (by unfold maxLen at q4; omega) r1.rd
      rw [HCnt.out D4 HInv.out.1, if_pos HInv.out.2.1] at cC
      unfold supV at cC
      dsimp only at cC
      have hr02 : Hid (Dk.RowB w2 g0 c0 s17) := by rw [e02] at r02; exact r02
      have BW2 : Below w.heap.size w w2 := B3.trans (bu2.mono B3.size)
      have hE29 : ∀ u, (binOp .eql 23 (.agg #[.int .i64 64, .int .i64 2, .int .i64 9, .int .i64 0]) (.agg #[.int .i64 64, .int .i64 2, .int .i64 9, .int .i64 0])).run Try.prog u = .ok (.bool true) u := fun u => eqlS u 64 2 9 0 64 2 9 0
      clear cR r1 r02 q1 q2 q3 q4 e00 e01 e02 hr0 bu1 bu2 b2 HInv HSl HCnt HD3 HQ B3
      go_wp2_with fail
      refine Calls.mono cC ?_
      rintro r w3 ⟨rfl, b3⟩
      have al := (Below.refl w3.heap.size w3).alloc (Nat.le_refl _) (.cells #[.int .i64 64, .int .i64 2, .int .i64 9, .int .i64 0] 23)
      have hA0 : Hid (L5S w w3.heap.size g0 c0 s17 (w3.alloc (.cells #[.int .i64 64, .int .i64 2, .int .i64 9, .int .i64 0] 23)).drew) := L5S.below ((Below.refl _ _).drew) (L5S.new (Box.new w3 _ 23) (((hr02.out.same (b3.block _ hr02.out.lt))).same (al.block _ (Nat.lt_of_lt_of_le hr02.out.lt b3.size))) ((BW2.trans (b3.mono BW2.size)).trans (al.mono (BW2.trans (b3.mono BW2.size)).size)))
      clear cC b3 hr02 BW2 al
      obtain ⟨q0, q1, q2, q3, _⟩ := hA0.out
      go_upto_region 44 with fail
      refine wp_region_any (by kernel_rfl) ?_
      change wpAny _ _ _ _ _ _ _ (World.drew _)
      refine wpAny_take (i := 0) (v := ?_) rfl (by kernel_rfl) (by kernel_rfl) (by kernel_rfl) (fun _ _ _ h => h) (Or.inl ⟨by rfl, ?_⟩) ?_
      rotate_left
      · intro w
        go_simp
        with_reducible rfl
      simp only [Act.put, List.setIfInBounds_toArray, List.set_cons_zero, List.set_cons_succ, List.getElem_toArray, List.getElem_cons_zero]
      refine wpAny_take (i := 1) (v := ?_) rfl (by kernel_rfl) (by kernel_rfl) (by kernel_rfl) (fun _ _ _ h => h) (Or.inl ⟨by rfl, ?_⟩) ?_
      rotate_left
      · intro w
        go_simp
        with_reducible rfl
      simp only [Act.put, List.setIfInBounds_toArray, List.set_cons_zero, List.set_cons_succ, List.getElem_toArray, List.getElem_cons_zero, List.getElem_cons_succ]
      refine wpAny_of_E (C := fun _ _ => True) (late := []) _ _ _ _ ?_
      refine wpAnyE_some (rs := [2, 3]) (by kernel_rfl) (by simp) (fun i' hi' => ?_)
      simp only [List.mem_cons, List.not_mem_nil, or_false] at hi'
      rcases hi' with rfl | rfl
      · refine wpOp_step rfl (fun K hK => ?_)
        go_simp
        refine hK _ _ ⟨.inr (.inr trivial), ?_⟩
        clear hK K
        refine wpAnyE_some (rs := [3]) (by kernel_rfl) (by simp) (fun i' hi' => ?_)
        simp only [List.mem_cons, List.not_mem_nil, or_false] at hi'
        subst hi'
        refine wpOp_step rfl (fun K hK => ?_)
        go_simp
        refine Calls.mono (HOf.out 2 9 _) ?_
        rintro r' lAw ⟨rfl, b'⟩
        have lA : Hid (L5S w w3.heap.size g0 c0 s17 lAw) := L5S.below b' hA0.out
        obtain ⟨lA0, lA1, lA2, lA3, _⟩ := lA.out
        clear b'
        refine hK _ _ ⟨.inr (.inr trivial), ?_⟩
        clear hK K
        refine wpAnyE_pure (i := 4) (v := ?_) rfl (by kernel_rfl) (by kernel_rfl) (by kernel_rfl) (by kernel_rfl) (fun _ _ _ h => h) (fun _ _ h => h) (fun _ _ h => h) (.inr trivial) (Or.inl ⟨by rfl, ?_⟩) ?_
        rotate_left
        · intro w
          go_simp
          with_reducible rfl
        simp only [Act.put, List.setIfInBounds_toArray, List.set_cons_zero, List.set_cons_succ, List.getElem_toArray, List.getElem_cons_zero, List.getElem_cons_succ]
        refine wpAnyE_pure (i := 5) (v := ?_) rfl (by kernel_rfl) (by kernel_rfl) (by kernel_rfl) (by kernel_rfl) (fun _ _ _ h => h) (fun _ _ h => h) (fun _ _ h => h) (.inr trivial) (Or.inl ⟨by rfl, ?_⟩) ?_
        rotate_left
        · intro w
          go_simp
          with_reducible rfl
        simp only [Act.put, List.setIfInBounds_toArray, List.set_cons_zero, List.set_cons_succ, List.getElem_toArray, List.getElem_cons_zero, List.getElem_cons_succ]
        refine wpAnyE_pure (i := 6) (v := ?_) rfl (by kernel_rfl) (by kernel_rfl) (by kernel_rfl) (by kernel_rfl) (fun _ _ _ h => h) (fun _ _ h => h) (fun _ _ h => h) (.inr trivial) (Or.inl ⟨by rfl, ?_⟩) ?_
        rotate_left
        · intro w
          go_simp
          with_reducible rfl
        simp only [Act.put, List.setIfInBounds_toArray, List.set_cons_zero, List.set_cons_succ, List.getElem_toArray, List.getElem_cons_zero, List.getElem_cons_succ]
        refine wpAnyE_pure (i := 7) (v := ?_) rfl (by kernel_rfl) (by kernel_rfl) (by kernel_rfl) (by kernel_rfl) (fun _ _ _ h => h) (fun _ _ h => h) (fun _ _ h => h) (.inr trivial) (Or.inl ⟨by rfl, ?_⟩) ?_
        rotate_left
        · intro w
          go_simp
          with_reducible rfl
        simp only [Act.put, List.setIfInBounds_toArray, List.set_cons_zero, List.set_cons_succ, List.getElem_toArray, List.getElem_cons_zero, List.getElem_cons_succ]
        refine wpAnyE_pure (i := 8) (v := ?_) rfl (by kernel_rfl) (by kernel_rfl) (by kernel_rfl) (by kernel_rfl) (fun _ _ _ h => h) (fun _ _ h => h) (fun _ _ h => h) (.inr trivial) (Or.inl ⟨by rfl, ?_⟩) ?_
        rotate_left
        · intro w
          go_simp
          with_reducible rfl
        simp only [Act.put, List.setIfInBounds_toArray, List.set_cons_zero, List.set_cons_succ, List.getElem_toArray, List.getElem_cons_zero, List.getElem_cons_succ]
        refine wpAnyE_pure (i := 9) (v := ?_) rfl (by kernel_rfl) (by kernel_rfl) (by kernel_rfl) (by kernel_rfl) (fun _ _ _ h => h) (fun _ _ h => h) (fun _ _ h => h) (.inr trivial) (Or.inl ⟨by rfl, ?_⟩) ?_
        rotate_left
        · intro w
          go_simp
          with_reducible rfl
        simp only [Act.put, List.setIfInBounds_toArray, List.set_cons_zero, List.set_cons_succ, List.getElem_toArray, List.getElem_cons_zero, List.getElem_cons_succ]
        refine wpAnyE_pure (i := 10) (v := ?_) rfl (by kernel_rfl) (by kernel_rfl) (by kernel_rfl) (by kernel_rfl) (fun _ _ _ h => h) (fun _ _ h => h) (fun _ _ h => h) (.inr trivial) (Or.inl ⟨by rfl, ?_⟩) ?_
        rotate_left
        · intro w
          go_simp
          with_reducible rfl
        simp only [Act.put, List.setIfInBounds_toArray, List.set_cons_zero, List.set_cons_succ, List.getElem_toArray, List.getElem_cons_zero, List.getElem_cons_succ]
        refine wpAnyE_pure (i := 11) (v := ?_) rfl (by kernel_rfl) (by kernel_rfl) (by kernel_rfl) (by kernel_rfl) (fun _ _ _ h => h) (fun _ _ h => h) (fun _ _ h => h) (.inr trivial) (Or.inl ⟨by rfl, ?_⟩) ?_
        rotate_left
        · intro w
          go_simp
          with_reducible rfl
        simp only [Act.put, List.setIfInBounds_toArray, List.set_cons_zero, List.set_cons_succ, List.getElem_toArray, List.getElem_cons_zero, List.getElem_cons_succ]
        refine wpAnyE_some (rs := [12]) (by kernel_rfl) (by simp) (fun i' hi' => ?_)
        simp only [List.mem_cons, List.not_mem_nil, or_false] at hi'
        subst hi'
        refine wpOp_step rfl (fun K hK => ?_)
        go_simp
        refine Calls.mono (HB17.out _) ?_
        rintro r' lBw ⟨g7, c7, rfl, _, _, _, _, r7, b'⟩
        have lB : Hid (L5S w w3.heap.size g0 c0 s17 lBw) := L5S.below b' lA.out
        have cS := Dk.same_at c0 c7 4096 4096 (some ⟨g0, 0, none⟩) (some ⟨g7, 0, none⟩) s17 s17 lBw L17.out L17.out (L5S.row lB.out).rd r7
        rw [show (s17 == s17) = true by simp] at cS
        clear b' r7
        refine hK _ _ ⟨.inr (.inr trivial), ?_⟩
        clear hK K
        refine wpAnyE_some (rs := [13]) (by kernel_rfl) (by simp) (fun i' hi' => ?_)
        simp only [List.mem_cons, List.not_mem_nil, or_false] at hi'
        subst hi'
        refine wpOp_step rfl (fun K hK => ?_)
        go_simp
        refine Calls.mono cS ?_
        rintro r' lCw ⟨rfl, rfl⟩
        refine hK _ _ ⟨.inr (.inr trivial), ?_⟩
        clear hK K
        refine wpAnyE_pure (i := 14) (v := ?_) rfl (by kernel_rfl) (by kernel_rfl) (by kernel_rfl) (by kernel_rfl) (fun _ _ _ h => h) (fun _ _ h => h) (fun _ _ h => h) (.inr trivial) (Or.inl ⟨by rfl, ?_⟩) ?_
        rotate_left
        · intro w
          go_simp
          with_reducible rfl
        simp only [Act.put, List.setIfInBounds_toArray, List.set_cons_zero, List.set_cons_succ, List.getElem_toArray, List.getElem_cons_zero, List.getElem_cons_succ]
        refine wpAnyE_pure (i := 15) (v := ?_) rfl (by kernel_rfl) (by kernel_rfl) (by kernel_rfl) (by kernel_rfl) (fun _ _ _ h => h) (fun _ _ h => h) (fun _ _ h => h) (.inr trivial) (Or.inl ⟨by rfl, ?_⟩) ?_
        rotate_left
        · intro w
          go_simp
          with_reducible rfl
        simp only [Act.put, List.setIfInBounds_toArray, List.set_cons_zero, List.set_cons_succ, List.getElem_toArray, List.getElem_cons_zero, List.getElem_cons_succ]
        refine wpAnyE_some (rs := [16]) (by kernel_rfl) (by simp) (fun i' hi' => ?_)
        simp only [List.mem_cons, List.not_mem_nil, or_false] at hi'
        subst hi'
        refine wpOp_step rfl (fun K hK => ?_)
        go_simp
        refine Calls.mono (HA.out _) ?_
        rintro r' lDw ⟨rfl, b'⟩
        have lD : Hid (L5S w w3.heap.size g0 c0 s17 lDw) := L5S.below b' lB.out
        clear b'
        refine hK _ _ ⟨.inr (.inr trivial), ?_⟩
        clear hK K
        refine wpAnyE_pure (i := 17) (v := ?_) rfl (by kernel_rfl) (by kernel_rfl) (by kernel_rfl) (by kernel_rfl) (fun _ _ _ h => h) (fun _ _ h => h) (fun _ _ h => h) (.inr trivial) (Or.inl ⟨by rfl, ?_⟩) ?_
        rotate_left
        · intro w
          go_simp
          with_reducible rfl
        simp only [Act.put, List.setIfInBounds_toArray, List.set_cons_zero, List.set_cons_succ, List.getElem_toArray, List.getElem_cons_zero, List.getElem_cons_succ]
        refine wpAnyE_pure (i := 18) (v := ?_) rfl (by kernel_rfl) (by kernel_rfl) (by kernel_rfl) (by kernel_rfl) (fun _ _ _ h => h) (fun _ _ h => h) (fun _ _ h => h) (.inr trivial) (Or.inl ⟨by rfl, ?_⟩) ?_
        rotate_left
        · intro w
          go_simp
          with_reducible rfl
        simp only [Act.put, List.setIfInBounds_toArray, List.set_cons_zero, List.set_cons_succ, List.getElem_toArray, List.getElem_cons_zero, List.getElem_cons_succ]
        refine wpAnyE_done (by kernel_rfl) ?_ _
        go_wp2_with fail
        go_ret
        exact ⟨rfl, L5S.bel lD.out⟩
      · refine wpOp_step rfl (fun K hK => ?_)
        go_simp
        refine Calls.mono (HOf.out 2 9 _) ?_
        rintro r' lAw ⟨rfl, b'⟩
        have lA : Hid (L5S w w3.heap.size g0 c0 s17 lAw) := L5S.below b' hA0.out
        obtain ⟨lA0, lA1, lA2, lA3, _⟩ := lA.out
        clear b'
        refine hK _ _ ⟨.inr (.inr trivial), ?_⟩
        clear hK K
        refine wpAnyE_some (rs := [2]) (by kernel_rfl) (by simp) (fun i' hi' => ?_)
        simp only [List.mem_cons, List.not_mem_nil, or_false] at hi'
        subst hi'
        refine wpOp_step rfl (fun K hK => ?_)
        go_simp
        refine hK _ _ ⟨.inr (.inr trivial), ?_⟩
        clear hK K
        refine wpAnyE_pure (i := 4) (v := ?_) rfl (by kernel_rfl) (by kernel_rfl) (by kernel_rfl) (by kernel_rfl) (fun _ _ _ h => h) (fun _ _ h => h) (fun _ _ h => h) (.inr trivial) (Or.inl ⟨by rfl, ?_⟩) ?_
        rotate_left
        · intro w
          go_simp
          with_reducible rfl
        simp only [Act.put, List.setIfInBounds_toArray, List.set_cons_zero, List.set_cons_succ, List.getElem_toArray, List.getElem_cons_zero, List.getElem_cons_succ]
        refine wpAnyE_pure (i := 5) (v := ?_) rfl (by kernel_rfl) (by kernel_rfl) (by kernel_rfl) (by kernel_rfl) (fun _ _ _ h => h) (fun _ _ h => h) (fun _ _ h => h) (.inr trivial) (Or.inl ⟨by rfl, ?_⟩) ?_
        rotate_left
        · intro w
          go_simp
          with_reducible rfl
        simp only [Act.put, List.setIfInBounds_toArray, List.set_cons_zero, List.set_cons_succ, List.getElem_toArray, List.getElem_cons_zero, List.getElem_cons_succ]
        refine wpAnyE_pure (i := 6) (v := ?_) rfl (by kernel_rfl) (by kernel_rfl) (by kernel_rfl) (by kernel_rfl) (fun _ _ _ h => h) (fun _ _ h => h) (fun _ _ h => h) (.inr trivial) (Or.inl ⟨by rfl, ?_⟩) ?_
        rotate_left
        · intro w
          go_simp
          with_reducible rfl
        simp only [Act.put, List.setIfInBounds_toArray, List.set_cons_zero, List.set_cons_succ, List.getElem_toArray, List.getElem_cons_zero, List.getElem_cons_succ]
        refine wpAnyE_pure (i := 7) (v := ?_) rfl (by kernel_rfl) (by kernel_rfl) (by kernel_rfl) (by kernel_rfl) (fun _ _ _ h => h) (fun _ _ h => h) (fun _ _ h => h) (.inr trivial) (Or.inl ⟨by rfl, ?_⟩) ?_
        rotate_left
        · intro w
          go_simp
          with_reducible rfl
        simp only [Act.put, List.setIfInBounds_toArray, List.set_cons_zero, List.set_cons_succ, List.getElem_toArray, List.getElem_cons_zero, List.getElem_cons_succ]
        refine wpAnyE_pure (i := 8) (v := ?_) rfl (by kernel_rfl) (by kernel_rfl) (by kernel_rfl) (by kernel_rfl) (fun _ _ _ h => h) (fun _ _ h => h) (fun _ _ h => h) (.inr trivial) (Or.inl ⟨by rfl, ?_⟩) ?_
        rotate_left
        · intro w
          go_simp
          with_reducible rfl
        simp only [Act.put, List.setIfInBounds_toArray, List.set_cons_zero, List.set_cons_succ, List.getElem_toArray, List.getElem_cons_zero, List.getElem_cons_succ]
        refine wpAnyE_pure (i := 9) (v := ?_) rfl (by kernel_rfl) (by kernel_rfl) (by kernel_rfl) (by kernel_rfl) (fun _ _ _ h => h) (fun _ _ h => h) (fun _ _ h => h) (.inr trivial) (Or.inl ⟨by rfl, ?_⟩) ?_
        rotate_left
        · intro w
          go_simp
          with_reducible rfl
        simp only [Act.put, List.setIfInBounds_toArray, List.set_cons_zero, List.set_cons_succ, List.getElem_toArray, List.getElem_cons_zero, List.getElem_cons_succ]
        refine wpAnyE_pure (i := 10) (v := ?_) rfl (by kernel_rfl) (by kernel_rfl) (by kernel_rfl) (by kernel_rfl) (fun _ _ _ h => h) (fun _ _ h => h) (fun _ _ h => h) (.inr trivial) (Or.inl ⟨by rfl, ?_⟩) ?_
        rotate_left
        · intro w
          go_simp
          with_reducible rfl
        simp only [Act.put, List.setIfInBounds_toArray, List.set_cons_zero, List.set_cons_succ, List.getElem_toArray, List.getElem_cons_zero, List.getElem_cons_succ]
        refine wpAnyE_pure (i := 11) (v := ?_) rfl (by kernel_rfl) (by kernel_rfl) (by kernel_rfl) (by kernel_rfl) (fun _ _ _ h => h) (fun _ _ h => h) (fun _ _ h => h) (.inr trivial) (Or.inl ⟨by rfl, ?_⟩) ?_
        rotate_left
        · intro w
          go_simp
          with_reducible rfl
        simp only [Act.put, List.setIfInBounds_toArray, List.set_cons_zero, List.set_cons_succ, List.getElem_toArray, List.getElem_cons_zero, List.getElem_cons_succ]
        refine wpAnyE_some (rs := [12]) (by kernel_rfl) (by simp) (fun i' hi' => ?_)
        simp only [List.mem_cons, List.not_mem_nil, or_false] at hi'
        subst hi'
        refine wpOp_step rfl (fun K hK => ?_)
        go_simp
        refine Calls.mono (HB17.out _) ?_
        rintro r' lBw ⟨g7, c7, rfl, _, _, _, _, r7, b'⟩
        have lB : Hid (L5S w w3.heap.size g0 c0 s17 lBw) := L5S.below b' lA.out
        have cS := Dk.same_at c0 c7 4096 4096 (some ⟨g0, 0, none⟩) (some ⟨g7, 0, none⟩) s17 s17 lBw L17.out L17.out (L5S.row lB.out).rd r7
        rw [show (s17 == s17) = true by simp] at cS
        clear b' r7
        refine hK _ _ ⟨.inr (.inr trivial), ?_⟩
        clear hK K
        refine wpAnyE_some (rs := [13]) (by kernel_rfl) (by simp) (fun i' hi' => ?_)
        simp only [List.mem_cons, List.not_mem_nil, or_false] at hi'
        subst hi'
        refine wpOp_step rfl (fun K hK => ?_)
        go_simp
        refine Calls.mono cS ?_
        rintro r' lCw ⟨rfl, rfl⟩
        refine hK _ _ ⟨.inr (.inr trivial), ?_⟩
        clear hK K
        refine wpAnyE_pure (i := 14) (v := ?_) rfl (by kernel_rfl) (by kernel_rfl) (by kernel_rfl) (by kernel_rfl) (fun _ _ _ h => h) (fun _ _ h => h) (fun _ _ h => h) (.inr trivial) (Or.inl ⟨by rfl, ?_⟩) ?_
        rotate_left
        · intro w
          go_simp
          with_reducible rfl
        simp only [Act.put, List.setIfInBounds_toArray, List.set_cons_zero, List.set_cons_succ, List.getElem_toArray, List.getElem_cons_zero, List.getElem_cons_succ]
        refine wpAnyE_pure (i := 15) (v := ?_) rfl (by kernel_rfl) (by kernel_rfl) (by kernel_rfl) (by kernel_rfl) (fun _ _ _ h => h) (fun _ _ h => h) (fun _ _ h => h) (.inr trivial) (Or.inl ⟨by rfl, ?_⟩) ?_
        rotate_left
        · intro w
          go_simp
          with_reducible rfl
        simp only [Act.put, List.setIfInBounds_toArray, List.set_cons_zero, List.set_cons_succ, List.getElem_toArray, List.getElem_cons_zero, List.getElem_cons_succ]
        refine wpAnyE_some (rs := [16]) (by kernel_rfl) (by simp) (fun i' hi' => ?_)
        simp only [List.mem_cons, List.not_mem_nil, or_false] at hi'
        subst hi'
        refine wpOp_step rfl (fun K hK => ?_)
        go_simp
        refine Calls.mono (HA.out _) ?_
        rintro r' lDw ⟨rfl, b'⟩
        have lD : Hid (L5S w w3.heap.size g0 c0 s17 lDw) := L5S.below b' lB.out
        clear b'
        refine hK _ _ ⟨.inr (.inr trivial), ?_⟩
        clear hK K
        refine wpAnyE_pure (i := 17) (v := ?_) rfl (by kernel_rfl) (by kernel_rfl) (by kernel_rfl) (by kernel_rfl) (fun _ _ _ h => h) (fun _ _ h => h) (fun _ _ h => h) (.inr trivial) (Or.inl ⟨by rfl, ?_⟩) ?_
        rotate_left
        · intro w
          go_simp
          with_reducible rfl
        simp only [Act.put, List.setIfInBounds_toArray, List.set_cons_zero, List.set_cons_succ, List.getElem_toArray, List.getElem_cons_zero, List.getElem_cons_succ]
        refine wpAnyE_pure (i := 18) (v := ?_) rfl (by kernel_rfl) (by kernel_rfl) (by kernel_rfl) (by kernel_rfl) (fun _ _ _ h => h) (fun _ _ h => h) (fun _ _ h => h) (.inr trivial) (Or.inl ⟨by rfl, ?_⟩) ?_
        rotate_left
        · intro w
          go_simp
          with_reducible rfl
        simp only [Act.put, List.setIfInBounds_toArray, List.set_cons_zero, List.set_cons_succ, List.getElem_toArray, List.getElem_cons_zero, List.getElem_cons_succ]
        refine wpAnyE_done (by kernel_rfl) ?_ _
        go_wp2_with fail
        go_ret
        exact ⟨rfl, L5S.bel lD.out⟩
end Go.Proofs.Ytdkaacjeogifdaa.H

/-
  What ReplayAgain's arguments are, as they come in: whole numbers, cuts.
-/
namespace Go.Proofs.Ytdkaacjeogifdaa.H
open Go.ChangeShapes Go.WideShapes Go.ChangeAt Go.RowKit Go.Deep
open Go.Proofs.Ytdkaacjeogifdaa.Dk (RdI RdBl)

theorem cells60 : Try.prog.cellsOf 60 = 4 := by kernel_rfl
theorem cells3' : Try.prog.cellsOf 3 = 1 := by kernel_rfl
theorem cells58' : Try.prog.cellsOf 58 = 1 := by kernel_rfl
theorem cells5' : Try.prog.cellsOf 5 = 1 := by kernel_rfl
theorem list4 {α : Type} {l : List α} (h : l.length = 4) : ∃ a b c d, l = [a, b, c, d] := by
  match l, h with
  | [a, b, c, d], _ => exact ⟨a, b, c, d, rfl⟩
theorem choose_below {α : Type} {P : Nat → α → Prop} {n : Nat} (z : α) (h : ∀ i, i < n → ∃ x, P i x) : ∃ f : Nat → α, ∀ i, i < n → P i (f i) := by
  classical
  refine ⟨fun i => if hi : i < n then Classical.choose (h i hi) else z, fun i hi => ?_⟩
  simp only [dif_pos hi]
  exact Classical.choose_spec (h i hi)

section
variable {H : Type} {enc : TypeId × Value → H} {w : World} {base : Nat} {held : Bool}

theorem open_introw {fuel : Nat} {cs : List Value} {x : DataW H × List MemPlace} (h : DataW.trod enc Try.prog w base (fun _ => true) held fuel 28 cs = some x) :
    ∃ (a : Option Addr) (n cap : Nat) (zs : List Int), cs = [.slice a n cap] ∧ zs.length = n ∧ RdI w a zs ∧ n ≤ 9223372036854775807 := by
  rcases open_ints Try.underlying28 Try.underlying3 (by kernel_rfl) h with ⟨rfl, _⟩ | ⟨⟨b, o, sp⟩, l, c, zs, rfl, _, hl, hm, hz, _, hcell, hwz⟩
  · exact ⟨none, 0, 0, [], rfl, rfl, fun h => by simp at h, by omega⟩
  · simp only [if_true] at hz
    refine ⟨_, l, c, zs.take l, rfl, by simp; omega, fun hp => ?_, by unfold maxLen at hm; omega⟩
    have h0 := hcell 0 (by simp at hp; omega)
    have hsp : sp = none := by simpa [Addr.add] using World.cell?_spot h0
    subst hsp
    refine ⟨b, o, rfl, fun j hj => ?_⟩
    have hj' : j < zs.length := by simp at hj; omega
    have h := hcell j hj'
    rw [Addr.add_lit] at h
    rw [h]
    simp [List.getD, List.getElem?_eq_getElem hj']

theorem open_boolrow {fuel : Nat} {cs : List Value} {x : DataW H × List MemPlace} (h : DataW.trod enc Try.prog w base (fun _ => true) held fuel 58 cs = some x) :
    ∃ (a : Option Addr) (n cap : Nat) (ks : List Bool), cs = [.slice a n cap] ∧ ks.length = n ∧ RdBl w a ks ∧ n ≤ 9223372036854775807 := by
  rcases open_bools Try.underlying58 Try.underlying4 (by kernel_rfl) h with ⟨rfl, _⟩ | ⟨⟨b, o, sp⟩, l, c, B, rfl, _, hl, hm, _, hcell⟩
  · exact ⟨none, 0, 0, [], rfl, rfl, Dk.RdBl.nil _ _, by omega⟩
  · refine ⟨_, l, c, (List.range l).map B, rfl, by simp, fun hp => ?_, by unfold maxLen at hm; omega⟩
    have h0 := hcell 0 (by simp at hp; omega)
    have hsp : sp = none := by simpa [Addr.add] using World.cell?_spot h0
    subst hsp
    refine ⟨b, o, rfl, fun j hj => ?_⟩
    have hj' : j < l := by simpa using hj
    have h := hcell j (by omega)
    rw [Addr.add_lit] at h
    rw [h]
    simp

theorem open_cut {fuel : Nat} {cs : List Value} {x : DataW H × List MemPlace} (h : DataW.trod enc Try.prog w base (fun _ => true) held fuel 60 cs = some x) :
    ∃ o : CutV, (o.m < 256 ∧ o.keep.length = o.nk ∧ o.nk ≤ 9223372036854775807 ∧ RdBl w o.ak o.keep) ∧ cs = [.int .i64 o.arm, .slice o.ak o.nk o.ck, .int .i64 o.torn, .int .u8 (o.m : Int)] := by
  obtain ⟨xs, n, _, _, hl, hlen, hf⟩ := DataW.trod_struct Try.underlying60 h
  rw [cells60] at hl
  obtain ⟨v0, v1, v2, v3, rfl⟩ := list4 hl
  obtain ⟨y0, y1, y2, y3, rfl⟩ := list4 (show xs.length = 4 from hlen)
  have g0 := hf 0 _ rfl
  have g1 := hf 1 _ rfl
  have g2 := hf 2 _ rfl
  have g3 := hf 3 _ rfl
  simp [cells3', cells58', cells5'] at g0 g1 g2 g3
  obtain ⟨n0, h0, _⟩ := DataW.trod_int Try.underlying3 g0
  obtain ⟨a, m, cap, ks, h1, hk, hr, hm⟩ := open_boolrow g1
  obtain ⟨n2, h2, _⟩ := DataW.trod_int Try.underlying3 g2
  obtain ⟨n3, h3, _, w3⟩ := DataW.trod_int Try.underlying5 g3
  simp at h0 h1 h2 h3
  have b3 := Dk.u8_bounds w3
  obtain ⟨k3, rfl⟩ := Int.eq_ofNat_of_zero_le b3.1
  subst h0 h1 h2 h3
  exact ⟨⟨n0, a, m, cap, ks, n2, k3⟩, ⟨by have := b3.2; show k3 < 256; omega, hk, hm, hr⟩, rfl⟩

theorem open_cuts {fuel : Nat} {cs : List Value} {x : DataW H × List MemPlace} (h : DataW.trod enc Try.prog w base (fun _ => true) held fuel 53 cs = some x) :
    ∃ (a : Option Addr) (n cap : Nat) (os : List CutV), cs = [.slice a n cap] ∧ os.length = n ∧ RdCut w a os ∧ n ≤ 9223372036854775807 := by
  rcases open_slice Try.underlying53 h with ⟨rfl, _⟩ | ⟨a, len, cap, m, n, D, Pl, rfl, hb, hl, hm, hmm, _, hx⟩
  · exact ⟨none, 0, 0, [], rfl, rfl, fun h => by simp at h, by omega⟩
  have hlm : len ≤ m := by rw [hmm]; split <;> omega
  have each : ∀ i, i < len → ∃ o : CutV, (o.m < 256 ∧ o.keep.length = o.nk ∧ o.nk ≤ 9223372036854775807 ∧ RdBl w o.ak o.keep) ∧ w.cell? (a.add (i * 4)) = some (.int .i64 o.arm) ∧ w.cell? (a.add (i * 4 + 1)) = some (.slice o.ak o.nk o.ck) ∧ w.cell? (a.add (i * 4 + 2)) = some (.int .i64 o.torn) ∧ w.cell? (a.add (i * 4 + 3)) = some (.int .u8 (o.m : Int)) := by
    intro i hi
    obtain ⟨cs', h1, h2⟩ := hx i (by omega)
    rw [cells60] at h1
    obtain ⟨o, hw, rfl⟩ := open_cut h2
    obtain ⟨_, hlen, hcell⟩ := World.cells?_some h1
    have e0 := hcell 0 (by omega)
    have e1 := hcell 1 (by omega)
    have e2 := hcell 2 (by omega)
    have e3 := hcell 3 (by omega)
    rw [add_add] at e0 e1 e2 e3
    exact ⟨o, hw, by simpa using e0, by simpa using e1, by simpa using e2, by simpa using e3⟩
  obtain ⟨f, hf⟩ := choose_below ⟨0, none, 0, 0, [], 0, 0⟩ each
  refine ⟨some a, len, cap, (List.range len).map f, rfl, by simp, fun hp => ?_, by unfold maxLen at hm; omega⟩
  have hl0 : 0 < len := by simpa using hp
  have h0 := (hf 0 hl0).2.1
  obtain ⟨b, o, sp⟩ := a
  have hsp : sp = none := by simpa [Addr.add] using World.cell?_spot h0
  subst hsp
  refine ⟨b, o, rfl, fun j hj => ?_⟩
  have hj' : j < len := by simpa using hj
  obtain ⟨⟨hw1, hw2, hw3, hw4⟩, g0, g1, g2, g3⟩ := hf j hj'
  rw [Addr.add_lit] at g0 g1 g2 g3
  simp only [List.getElem_map, List.getElem_range]
  exact ⟨g0, by rw [Nat.add_assoc]; exact g1, by rw [Nat.add_assoc]; exact g2, by rw [Nat.add_assoc]; exact g3, hw1, hw2, hw3, hw4⟩
end
end Go.Proofs.Ytdkaacjeogifdaa.H
