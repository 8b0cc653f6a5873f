/-
  bodyOf.
-/
import Derived.Test.YtghcmlkgpedkkaaHideM
namespace Go.Proofs.Ytghcmlkgpedkkaa
open Go.RowKit Go.Shelf
attribute [local go_sem] Oper.semAt_some

/-- what stands behind the stamps of these sectors -/
def bodyTo (xs : List UInt8) (pre : List (Fin 8)) : List UInt8 := pre.flatMap fun x => (sec xs x.val).drop 8
theorem bodyTo_snoc (xs : List UInt8) (pre : List (Fin 8)) (x : Fin 8) : bodyTo xs (pre ++ [x]) = bodyTo xs pre ++ (sec xs x.val).drop 8 := by simp [bodyTo]

/-- one round's work on memory -/
theorem bodyOf_round (w W : World) (k0 k1 : Nat) (cs : Array Value) (xs : List UInt8) (pre : List (Fin 8)) (v : Value) (x : Fin 8) (h01 : k0 < k1) (hw : w.heap.size < k0) (hB : Below w.heap.size w W)
    (hv : Box W k0 #[v] 31) (hown : W.ownsRow w.heap.size 5 1 v (pre.length * 504) (bcs (bodyTo xs pre))) (hk : Box W k1 cs 31)
    (v' : Value) (w2 : World) (hown2 : w2.ownsRow w.heap.size 5 1 v' (pre.length * 504 + 504) (bcs (bodyTo xs pre) ++ bcs ((sec xs x.val).drop 8))) (hg2 : W.drew.grownBy w2 v.ownBlock) :
    w2.cell? ⟨k0, 0, none⟩ = some v ∧ w2.frozen? ⟨k0, 0, none⟩ = false ∧ KeepsOthers W (w2.setCell ⟨k0, 0, none⟩ v') ∧ (w2.setCell ⟨k0, 0, none⟩ v').heap[k1]? = W.heap[k1]? ∧
      Box (w2.setCell ⟨k0, 0, none⟩ v') k0 #[v'] 31 ∧ ((w2.setCell ⟨k0, 0, none⟩ v').ownsRow w.heap.size 5 1 v' ((pre ++ [x]).length * 504) (bcs (bodyTo xs (pre ++ [x]))) ∧ Box (w2.setCell ⟨k0, 0, none⟩ v') k1 cs 31) ∧ Below w.heap.size w (w2.setCell ⟨k0, 0, none⟩ v') := by
  have hne : ∀ g', v.ownBlock = some g' → w.heap.size ≤ g' ∧ g' ≠ k0 ∧ g' ≠ k1 := fun g' e => by
    obtain ⟨q1, cur, q2⟩ := owns_block hown g' e
    exact ⟨q1, q2.ne hv (by decide), q2.ne hk (by decide)⟩
  have hv2 : Box w2 k0 #[v] 31 := Box.grown (w := W.drew) hv hg2 (fun e => (hne _ e).2.1 rfl)
  have hk2 : Box w2 k1 cs 31 := Box.grown (w := W.drew) hk hg2 (fun e => (hne _ e).2.2 rfl)
  have hB2 : Below w.heap.size w w2 := (hB.drew).grown hg2 hB.size (fun k e => (hne _ e).1)
  have a1 : w2.heap[k1]? = W.heap[k1]? := hg2.block k1 hk.lt (fun e => (hne _ e.symm).2.2 rfl)
  have a2 : (w2.setCell ⟨k0, 0, none⟩ v').heap[k1]? = w2.heap[k1]? := heap_setCell_other w2 ⟨k0, 0, none⟩ k1 v' (by show k1 ≠ k0; omega)
  refine ⟨hv2.cell 0, hv2.frozen 0, ((KeepsOthers.drew W).trans (keeps_owns (w := W.drew) hown hg2)).trans (KeepsOthers.setCell w2 _ _), a2.trans a1, ?_, ⟨?_, a2.trans hk2⟩, hB2.setCell (p := ⟨k0, 0, none⟩) (by show w.heap.size ≤ k0; omega) v'⟩
  · have := hv2.store 0 v'; simpa using this
  · have e1 : (pre ++ [x]).length * 504 = pre.length * 504 + 504 := by simp; omega
    rw [e1, bodyTo_snoc, bcs_append]
    refine owns_grown hown2 (grown_store w2 k0 0 v') (fun g' e => ?_)
    obtain ⟨_, cur, q⟩ := owns_block hown2 g' e
    intro e2
    cases e2
    exact q.ne hv2 (by decide) rfl

set_option maxRecDepth 100000 in
set_option maxHeartbeats 4000000 in
theorem bodyOf_in (g o cap : Nat) (xs : List UInt8) (w : World) (hl : xs.length = 4096) (hcap : 4096 ≤ cap) (hmax : cap ≤ 9223372036854775807) (hr : Rd w (some ⟨g, o, none⟩) xs) :
    Calls Try.prog 53 #[.slice (some ⟨g, o, none⟩) 4096 cap] w fun r w' => ∃ v, r = .returned v ∧ w'.ownsRow w.heap.size 5 1 v 4032 (bcs (bodyTo xs (List.finRange 8))) ∧ Below w.heap.size w w' := by
  refine (callsIn_wide (n := 3)).1 ?_
  obtain ⟨i0, hi, hz0, hz1, hz2⟩ := info_parts info5
  obtain ⟨w1, hmk, ow1, hg1⟩ := run_makeSlice_owned (P := Try.prog) w w.heap.size 31 5 i0 (.int .u8 0) 1 Try.underlying31 hi hz0 hz1 .i64 .i64 4032 (by omega) (by rw [hz2]; omega) (by unfold maxLen; omega) (Nat.le_refl _)
  have hmk' : (Instr.makeSlice 31 (.int .i64 0) (.int .i64 4032)).run Try.prog w = .ok (.slice (some ⟨w.heap.size, 0, none⟩) 0 4032) w1 := hmk
  clear hmk hi hz0 hz1 hz2
  have B1 : Below w.heap.size w w1 := (Below.refl _ _).grown hg1 (Nat.le_refl _) (fun k e => by cases e)
  refine callsIn_of_wp_marks Try.func53 rfl trivial ?_ rfl
  simp only [Try.ntmps53, List.size_toArray, List.length_cons, List.length_nil, Nat.reduceAdd, Nat.reduceSub, Array.replicate_succ, Array.replicate_zero, List.push_toArray, List.append_toArray, List.nil_append, List.cons_append]
  gi_wp2_with fail
  refine ⟨trivial, ?_⟩
  refine (sectors_in 2 _ _ _ _).mono ?_
  rintro r w' ⟨rfl, rfl⟩
  gi_wp2_with fail
  have hlt : w.heap.size < w1.heap.size := by
    obtain ⟨_, cur, q⟩ := owns_block ow1 w.heap.size rfl
    exact q.lt
  have b0 := (Box.new w1 #[.slice (some ⟨w.heap.size, 0, none⟩) 0 4032] 31)
  have b0' := b0.alloc (.cells #[.slice (some ⟨g, o, none⟩) 4096 cap] 31)
  have b1 := Box.new (w1.alloc (.cells #[.slice (some ⟨w.heap.size, 0, none⟩) 0 4032] 31)) #[.slice (some ⟨g, o, none⟩) 4096 cap] 31
  have s1 : (w1.alloc (.cells #[.slice (some ⟨w.heap.size, 0, none⟩) 0 4032] 31)).heap.size = w1.heap.size + 1 := by simp
  rw [s1] at b1
  have B2 := (B1.alloc B1.size (.cells #[.slice (some ⟨w.heap.size, 0, none⟩) 0 4032] 31)).alloc (by simp; omega) (.cells #[.slice (some ⟨g, o, none⟩) 4096 cap] 31)
  have ow2 := owns_grown (owns_grown ow1 (World.grownBy_alloc w1 (.cells #[.slice (some ⟨w.heap.size, 0, none⟩) 0 4032] 31) none) (fun _ _ e => by cases e)) (World.grownBy_alloc _ (.cells #[.slice (some ⟨g, o, none⟩) 4096 cap] 31) none) (fun _ _ e => by cases e)
  obtain ⟨W0, hW0⟩ : ∃ W, W = (w1.alloc (.cells #[.slice (some ⟨w.heap.size, 0, none⟩) 0 4032] 31)).alloc (.cells #[.slice (some ⟨g, o, none⟩) 4096 cap] 31) := ⟨_, rfl⟩
  have s3 : W0.heap.size = w1.heap.size + 2 := by rw [hW0]; simp
  rw [← hW0] at b0' b1 B2 ow2 ⊢
  clear hW0 b0 s1 B1 hmk' ow1 hg1
  obtain ⟨k0, hk0⟩ : ∃ k, k = w1.heap.size := ⟨_, rfl⟩
  rw [← hk0] at b0' b1 s3 hlt ⊢
  clear hk0
  obtain ⟨k1, hk1⟩ : ∃ k, k = k0 + 1 := ⟨_, rfl⟩
  rw [← hk1] at b1 ⊢
  have h01 : k0 < k1 := by omega
  have hs3 : k1 + 1 ≤ W0.heap.size := by omega
  have hs4 : w.heap.size < W0.heap.size := by omega
  clear s3 hk1
  have HL : Hid _ := hl
  clear hl
  refine wpIn_rangeFunc_ownH (α := Fin 8) rfl (by omega) (gf := 56) (lb := #[.pointer (some ⟨k1, 0, none⟩)]) rfl trivial (enters_of Try.func56 (by kernel_rfl) rfl)
    (sect_stops (3 - 1) (by omega) k1 g o cap hcap hmax W0 (by omega) (b1.cell 0)) cellK_t (cellK_b (by omega)) (Below.refl _ _) (fun _ => rfl)
    (fun pre W => (∃ v, Box W k0 #[v] 31 ∧ W.ownsRow w.heap.size 5 1 v (pre.length * 504) (bcs (bodyTo xs pre)) ∧ Box W k1 #[.slice (some ⟨g, o, none⟩) 4096 cap] 31) ∧ Below w.heap.size w W)
    (fun c _ W => False ∧ Below w.heap.size w W)
    (OwnFrom.and (Own.from (fun s A B row hs hg hr => by
      obtain ⟨v, a1, a2, a3⟩ := hs
      exact ⟨v, a1.kept hg hr, owns_kept a2 hg hr, a3.kept hg hr⟩) _) (ownFrom_below (Nat.le_refl _) (by omega)))
    (fun c => OwnFrom.and (Own.from (fun s A B row hs hg hr => hs) _) (ownFrom_below (Nat.le_refl _) (by omega)))
    ⟨⟨_, b0', by simpa [bodyTo, bcs] using ow2, b1⟩, B2⟩
    (fun x a' _ => a' = { tmps := #[.slice (some ⟨g, o, none⟩) 4096 cap, undef, .slice none 0 0, .pointer (some ⟨k0, 0, none⟩), .slice (some ⟨g, o + x.val * 512, none⟩) 512 512, .slice (some ⟨w.heap.size, 0, none⟩) 0 4032, .slice (some ⟨g, o, none⟩) 4096 cap, .func (.func 56) #[] #[.pointer (some ⟨k1, 0, none⟩)], .slice (some ⟨g, o + x.val * 512, none⟩) 512 512, undef, undef, undef, undef, undef], defers := [] })
    (fun x a' => ownFrom_pure _ _) ?assign ?body ?done ?stop
  case assign =>
    rintro l pre x W K hI hK
    dsimp only [encS]
    gi_wp2
    exact hK _ _ (KeepsFrom.refl _ _) rfl hI rfl
  case body =>
    rintro l pre x a' W hlw ⟨r, hr1⟩ ⟨⟨v, q2, q3, q4⟩, hB⟩ rfl hlt2
    have HR : Hid _ := bodyOf_round w W k0 k1 _ xs pre v x h01 hlt hB q2 q3 q4
    have hsz1 : w.heap.size ≤ W.drew.heap.size := hB.size
    have hs8 : ((sec xs x.val).drop 8).length = 504 := by have := sec_length xs x.val HL.out x.isLt; simp [this]
    have hr8 : Rd W (some ⟨g, o + x.val * 512 + 8, none⟩) ((sec xs x.val).drop 8) := by
      have := (sec_part (hr.below hB (Nat.le_refl _)) x).part 8 504
      have e : ((sec xs x.val).drop 8).take 504 = (sec xs x.val).drop 8 := List.take_of_length_le (by omega)
      rw [e] at this
      exact this
    have d5 : W.drew.cell? ⟨k0, 0, none⟩ = some v := q2.cell 0
    clear q2 q4
    gi_wp2_with fail
    refine wpIn_region_any (by kernel_rfl) ?_
    change wpAnyIn _ _ _ _ _ _ _ _ _ (World.drew _)
    refine wpAnyIn_ready (rs := [0, 1]) (by kernel_rfl) (by simp) ?_
    refine AllReadyIn.cons rfl (fun K hK2 => ?_) ?_
    · skip
      go_simp
      refine hK2 _ _ ?_
      clear hK2 K
      refine wpAnyIn_ready (rs := [1]) (by kernel_rfl) (by simp) ?_
      refine AllReadyIn.cons rfl (fun K hK2 => ?_) ?_
      · skip
        go_simp
        refine hK2 _ _ ?_
        clear hK2 K
        refine wpAnyIn_ready (rs := [2]) (by kernel_rfl) (by simp) ?_
        refine AllReadyIn.cons rfl (fun K hK2 => ?_) ?_
        · skip
          go_simp
          refine hK2 _ _ ?_
          clear hK2 K
          refine wpAnyIn_ready (rs := [3]) (by kernel_rfl) (by simp) ?_
          refine AllReadyIn.cons rfl (fun K hK2 => ?_) ?_
          · skip
            refine wpIn_append_bytes rfl _ _ rfl w.heap.size v (pre.length * 504) _ rfl (show W.drew.ownsRow _ _ _ _ _ _ from q3) g (o + x.val * 512 + 8) 504 504 ((sec xs x.val).drop 8) rfl hs8 (show Rd W.drew _ _ from hr8) (by omega) hsz1 ?_
            intro v' w2 hown2 hg2
            refine hK2 _ _ ?_
            clear hK2 K
            obtain ⟨e1, e2, e3, e4, e5, e6, e7⟩ := HR.out v' w2 hown2 hg2
            obtain ⟨av, cv, rfl⟩ := owns_shape hown2
            refine wpAnyIn_ready (rs := [4]) (by kernel_rfl) (by simp) ?_
            refine AllReadyIn.cons rfl (fun K hK2 => ?_) ?_
            · skip
              go_simp
              refine hK2 _ _ ?_
              clear hK2 K
              refine wpAnyIn_done (by kernel_rfl) ?_ _
              gi_wp2
              exact ⟨e3.from _, World.cell?_of_block (a := ⟨k1, 0, none⟩) e4, ⟨⟨_, e5, e6⟩, e7⟩⟩
            exact AllReadyIn.nil
          exact AllReadyIn.nil
        exact AllReadyIn.nil
      exact AllReadyIn.nil
    refine AllReadyIn.cons rfl (fun K hK2 => ?_) ?_
    · skip
      go_simp
      refine hK2 _ _ ?_
      clear hK2 K
      refine wpAnyIn_ready (rs := [0, 2]) (by kernel_rfl) (by simp) ?_
      refine AllReadyIn.cons rfl (fun K hK2 => ?_) ?_
      · skip
        go_simp
        refine hK2 _ _ ?_
        clear hK2 K
        refine wpAnyIn_ready (rs := [2]) (by kernel_rfl) (by simp) ?_
        refine AllReadyIn.cons rfl (fun K hK2 => ?_) ?_
        · skip
          go_simp
          refine hK2 _ _ ?_
          clear hK2 K
          refine wpAnyIn_ready (rs := [3]) (by kernel_rfl) (by simp) ?_
          refine AllReadyIn.cons rfl (fun K hK2 => ?_) ?_
          · skip
            refine wpIn_append_bytes rfl _ _ rfl w.heap.size v (pre.length * 504) _ rfl (show W.drew.ownsRow _ _ _ _ _ _ from q3) g (o + x.val * 512 + 8) 504 504 ((sec xs x.val).drop 8) rfl hs8 (show Rd W.drew _ _ from hr8) (by omega) hsz1 ?_
            intro v' w2 hown2 hg2
            refine hK2 _ _ ?_
            clear hK2 K
            obtain ⟨e1, e2, e3, e4, e5, e6, e7⟩ := HR.out v' w2 hown2 hg2
            obtain ⟨av, cv, rfl⟩ := owns_shape hown2
            refine wpAnyIn_ready (rs := [4]) (by kernel_rfl) (by simp) ?_
            refine AllReadyIn.cons rfl (fun K hK2 => ?_) ?_
            · skip
              go_simp
              refine hK2 _ _ ?_
              clear hK2 K
              refine wpAnyIn_done (by kernel_rfl) ?_ _
              gi_wp2
              exact ⟨e3.from _, World.cell?_of_block (a := ⟨k1, 0, none⟩) e4, ⟨⟨_, e5, e6⟩, e7⟩⟩
            exact AllReadyIn.nil
          exact AllReadyIn.nil
        exact AllReadyIn.nil
      refine AllReadyIn.cons rfl (fun K hK2 => ?_) ?_
      · skip
        go_simp
        refine hK2 _ _ ?_
        clear hK2 K
        refine wpAnyIn_ready (rs := [0]) (by kernel_rfl) (by simp) ?_
        refine AllReadyIn.cons rfl (fun K hK2 => ?_) ?_
        · skip
          go_simp
          refine hK2 _ _ ?_
          clear hK2 K
          refine wpAnyIn_ready (rs := [3]) (by kernel_rfl) (by simp) ?_
          refine AllReadyIn.cons rfl (fun K hK2 => ?_) ?_
          · skip
            refine wpIn_append_bytes rfl _ _ rfl w.heap.size v (pre.length * 504) _ rfl (show W.drew.ownsRow _ _ _ _ _ _ from q3) g (o + x.val * 512 + 8) 504 504 ((sec xs x.val).drop 8) rfl hs8 (show Rd W.drew _ _ from hr8) (by omega) hsz1 ?_
            intro v' w2 hown2 hg2
            refine hK2 _ _ ?_
            clear hK2 K
            obtain ⟨e1, e2, e3, e4, e5, e6, e7⟩ := HR.out v' w2 hown2 hg2
            obtain ⟨av, cv, rfl⟩ := owns_shape hown2
            refine wpAnyIn_ready (rs := [4]) (by kernel_rfl) (by simp) ?_
            refine AllReadyIn.cons rfl (fun K hK2 => ?_) ?_
            · skip
              go_simp
              refine hK2 _ _ ?_
              clear hK2 K
              refine wpAnyIn_done (by kernel_rfl) ?_ _
              gi_wp2
              exact ⟨e3.from _, World.cell?_of_block (a := ⟨k1, 0, none⟩) e4, ⟨⟨_, e5, e6⟩, e7⟩⟩
            exact AllReadyIn.nil
          exact AllReadyIn.nil
        exact AllReadyIn.nil
      exact AllReadyIn.nil
    exact AllReadyIn.nil
  case done =>
    rintro D' ys W hD rfl ⟨⟨v, q2, q3, q4⟩, hB⟩ hK
    have d0 := q2.cell 0
    have e8 : (List.finRange 8).length * 504 = 4032 := by simp
    rw [e8] at q3
    obtain ⟨av, cv, rfl⟩ := owns_shape q3
    gi_wp2
    refine ⟨by simp, .inl ⟨_, _, rfl, run_takeDeferred hK, ?_⟩⟩
    exact ⟨_, by simp [results, Try.f53, go_sem], _, rfl, owns_kept q3 (grownBy_putObj' _ D' (.deferred none)) (fun r e => by cases e; exact ⟨_, hK, rfl⟩), hB.trans (belowK_b (w := w) (Nat.le_refl _) _ D' _ _ (by omega) hK rfl rfl)⟩
  case stop =>
    rintro D' c pre W hD _ ⟨hf, _⟩ hK
    exact hf.elim
end Go.Proofs.Ytghcmlkgpedkkaa
