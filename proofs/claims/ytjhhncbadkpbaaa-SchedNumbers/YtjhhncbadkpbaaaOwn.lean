/-
  SchedNumbers' tasks: one that wakes itself twice, one that is over at once.
-/
import Derived.Test.YtjhhncbadkpbaaaAwake
namespace Go.Proofs.Ytjhhncbadkpbaaa
open Go.RowKit

theorem two_cell {w : World} {G : Nat} {v v' : Value} {t : TypeId} (h : Box w G #[v, v'] t) : ∀ (j : Nat) (u : Value), [v, v'][j]? = some u → w.cell? ((⟨G, 0, none⟩ : Addr).add j) = some u := by
  intro j u hj
  match j, hj with
  | 0, hj => simp at hj; subst hj; rw [Addr.add_lit]; exact h.cell 0
  | 1, hj => simp at hj; subst hj; rw [Addr.add_lit]; exact h.cell 1
def owC (s : Nat) (id : Int) (tv : Value) : Array Value := #[ptr s, .int .i64 id, tv]
structure OwnTo (w : World) (B s : Nat) (S : SS) (og : Nat) (id : Int) (w' : World) : Prop where
  is : IsS w' B s { S with wk := true }
  bel : Below B w w'
  tv : ∃ tv, Box w' og (owC s id tv) 27 ∧ w'.ownsRow B 4 1 tv 2 [.bool true, .bool false]
theorem oth27 : Oth 27 := ⟨by decide, by decide, by decide⟩
theorem wake_self {S : SS} {i : Nat} {e : En} (he : S.E[i]? = some e) (h1 : e.st = 1) (hn : S.now = some i) (hw : S.wk = false) : S.wake ((i + 1 : Nat) : Int) = ({ S with wk := true }, true) ∧ ({ S with wk := true } : SS).wake ((i + 1 : Nat) : Int) = ({ S with wk := true }, false) := by
  have e1 : (((i + 1 : Nat) : Int) - 1).toNat = i := by omega
  have e2 : ¬ ((i + 1 : Nat) : Int) < 1 := by omega
  constructor
  · unfold SS.wake SS.wakeI
    rw [if_neg e2, e1, he]
    simp only
    rw [if_neg (by omega), if_pos ⟨hn, hw⟩]
  · unfold SS.wake SS.wakeI
    rw [if_neg e2, e1]
    show (match S.E[i]? with | none => _ | some e => _) = _
    rw [he]
    simp only
    rw [if_neg (by omega), if_neg (by simp)]
theorem own_facts {w : World} {B s og : Nat} {S : SS} {id : Int} (h : IsS w B s S) (hS : S.wake id = ({ S with wk := true }, true)) (hS2 : ({ S with wk := true } : SS).wake id = ({ S with wk := true }, false)) (hx : Box w og (owC s id (.slice none 0 0)) 27) (hog : B ≤ og) (hst : ∀ e ∈ S.E, e.st < 200) (hGl : S.G.length < 1000000) (hLl : S.L.length < 1000000) (W : World) (hW : W = w.drew) :
    Calls Try.prog 14 #[ptr s, .int .i64 id] W (fun r w' => r = .returned (.bool true) ∧ To W B s { S with wk := true } w') ∧
    ∀ W2, To W B s { S with wk := true } W2 → (W2.cell? ⟨og, 0, none⟩ = some (ptr s) ∧ W2.cell? ⟨og, 1, none⟩ = some (.int .i64 id)) ∧ W2.cell? ⟨og, 2, none⟩ = some (.slice none 0 0) ∧
      Calls Try.prog 14 #[ptr s, .int .i64 id] W2 (fun r w' => r = .returned (.bool false) ∧ To W2 B s { S with wk := true } w') ∧
      ∀ W3, To W2 B s { S with wk := true } W3 → (W3.cell? ⟨og, 0, none⟩ = some (ptr s) ∧ W3.cell? ⟨og, 1, none⟩ = some (.int .i64 id)) ∧ W3.cell? ⟨og, 2, none⟩ = some (.slice none 0 0) ∧ (W3.alloc (.cells #[.bool true, .bool false] 4)).cell? ⟨og, 2, none⟩ = some (.slice none 0 0) ∧
        ((W3.alloc (.cells #[.bool true, .bool false] 4)).cell? ⟨og, 0, none⟩ = some (ptr s) ∧ (W3.alloc (.cells #[.bool true, .bool false] 4)).cell? ⟨og, 1, none⟩ = some (.int .i64 id)) ∧ Box (W3.alloc (.cells #[.bool true, .bool false] 4)) W3.heap.size #[.bool true, .bool false] 4 ∧ B ≤ W3.heap.size ∧
        ∀ v4 W4, W4.ownsRow B 4 1 v4 (0 + 2) ([] ++ [.bool true, .bool false]) → (W3.alloc (.cells #[.bool true, .bool false] 4)).grownBy W4 (Value.ownBlock (.slice none 0 0)) →
          (W4.cell? ⟨og, 0, none⟩ = some (ptr s) ∧ W4.cell? ⟨og, 1, none⟩ = some (.int .i64 id)) ∧ ((W4.setCell ⟨og, 2, none⟩ v4).cell? ⟨og, 0, none⟩ = some (ptr s) ∧ (W4.setCell ⟨og, 2, none⟩ v4).cell? ⟨og, 1, none⟩ = some (.int .i64 id)) ∧ W4.cell? ⟨og, 2, none⟩ = some (.slice none 0 0) ∧ W4.frozen? ⟨og, 2, none⟩ = false ∧ (∃ a n c, v4 = .slice a n c) ∧ OwnTo w B s S og id (W4.setCell ⟨og, 2, none⟩ v4) := by
  subst hW
  have k0 : Kt (fun _ => True) w w.drew := fun _ _ _ x _ => x
  have b0 : Below B w w.drew := ⟨rfl, rfl, rfl, Nat.le_refl _, fun _ _ => rfl⟩
  have h' := h.kt k0 trivial trivial trivial
  have c1 := wake_at h' id hst hGl hLl
  rw [hS] at c1
  refine ⟨c1, fun W2 T2 => ?_⟩
  have x2 := T2.kt _ _ _ (k0 _ _ _ hx trivial) oth27
  have c2 := wake_at T2.is id hst hGl hLl
  rw [hS2] at c2
  refine ⟨⟨x2.cell 0, x2.cell 1⟩, x2.cell 2, c2, fun W3 T3 => ?_⟩
  have x3 := T3.kt _ _ _ x2 oth27
  have x3a := x3.alloc (.cells #[.bool true, .bool false] 4)
  refine ⟨⟨x3.cell 0, x3.cell 1⟩, x3.cell 2, x3a.cell 2, ⟨x3a.cell 0, x3a.cell 1⟩, Box.new _ _ _, T3.is.hB, fun v4 W4 ho hg => ?_⟩
  have kA : Kt (fun _ => True) W3 (W3.alloc (.cells #[.bool true, .bool false] 4)) := (Kt.refl _ _).alloc _
  have k4 : Kt (fun _ => True) W3 W4 := fun i cs t y hp => (hg.block i (kA i cs t y hp).lt (by simp [Value.ownBlock])).trans (kA i cs t y hp)
  have x4 := k4 _ _ _ x3 trivial
  have x5 := x4.store 2 v4
  have k5 : Kt (fun t => t ≠ 27) W4 (W4.setCell ⟨og, 2, none⟩ v4) := (Kt.refl _ _).setCell x4 (by simp) 2 v4
  obtain ⟨a4, c4, hv4⟩ := ownsRow_slice ho
  refine ⟨⟨x4.cell 0, x4.cell 1⟩, ⟨x5.cell 0, x5.cell 1⟩, x4.cell 2, x4.frozen 2, ⟨a4, _, c4, hv4⟩, ⟨?_, ?_, v4, x5, ?_⟩⟩
  · exact (T3.is.kt k4 trivial trivial trivial).kt k5 (by decide) (by decide) (by decide)
  · refine (((b0.trans T2.bel).trans T3.bel).trans ?_).setCell (p := ⟨og, 2, none⟩) hog _
    exact ((Below.refl B W3).alloc T3.is.hB _).grown hg (by have := T3.is.hB; simp; omega) (fun k hk => by cases hk)
  · exact ownsRow_kt ho k5 (by decide)
set_option maxRecDepth 20000 in
set_option maxHeartbeats 4000000 in
theorem own_step {w : World} {B s og : Nat} {S : SS} {id : Int} (h : IsS w B s S) (hS : S.wake id = ({ S with wk := true }, true)) (hS2 : ({ S with wk := true } : SS).wake id = ({ S with wk := true }, false)) (hx : Box w og (owC s id (.slice none 0 0)) 27) (hog : B ≤ og) (hst : ∀ e ∈ S.E, e.st < 200) (hGl : S.G.length < 1000000) (hLl : S.L.length < 1000000) :
    Calls Try.prog 51 #[ptr og] w fun r w' => r = .returned (.int .u8 2) ∧ OwnTo w B s S og id w' := by
  obtain ⟨i0, hi0, hz0, hz1, hz2⟩ := info_parts infoB
  obtain ⟨cW1, hA⟩ := own_facts h hS hS2 hx hog hst hGl hLl _ rfl
  have HA : Hid (∀ W2, To w.drew B s { S with wk := true } W2 → _) := hA
  have HS0 : Hid (w.drew.cell? ⟨og, 0, none⟩ = some (.pointer (some ⟨s, 0, none⟩)) ∧ w.drew.cell? ⟨og, 1, none⟩ = some (.int .i64 id)) := ⟨Box.cell (w := w.drew) hx 0, Box.cell (w := w.drew) hx 1⟩
  have d1 : w.drew.cell? ⟨og, 2, none⟩ = some (.slice none 0 0) := Box.cell (w := w.drew) hx 2
  clear hA hx h hS hS2 hst hGl hLl
  unfold ptr at *
  go_enter Try.func51, Try.ntmps51
  go_wp2_with fail
  refine wp_region_noPanic ?_
  refine wp_region_held_drew (S := fun u => u.cell? ⟨og, 0, none⟩ = some (.pointer (some ⟨s, 0, none⟩)) ∧ u.cell? ⟨og, 1, none⟩ = some (.int .i64 id)) (by kernel_rfl) HS0.out (fun hHeld => ?_)
  refine wpAnyH_take (i := 0) (v := ?_) rfl (by kernel_rfl) (by kernel_rfl) (by kernel_rfl) (fun _ _ _ h => h) (Or.inl ⟨by rfl, ?_⟩) (by assumption) ?_
  rotate_left
  · intro u hSu
    obtain ⟨q1, q2⟩ := hSu
    go_simp
    with_reducible rfl
  simp only [Act.put, List.setIfInBounds_toArray, List.set_cons_zero, List.set_cons_succ, List.getElem_toArray, List.getElem_cons_zero]
  refine wpAnyH_take (i := 1) (v := ?_) rfl (by kernel_rfl) (by kernel_rfl) (by kernel_rfl) (fun _ _ _ h => h) (Or.inl ⟨by rfl, ?_⟩) (by assumption) ?_
  rotate_left
  · intro u hSu
    obtain ⟨q1, q2⟩ := hSu
    go_simp
    with_reducible rfl
  simp only [Act.put, List.setIfInBounds_toArray, List.set_cons_zero, List.set_cons_succ, List.getElem_toArray, List.getElem_cons_zero, List.getElem_cons_succ]
  refine wpAnyH_take (i := 2) (v := ?_) rfl (by kernel_rfl) (by kernel_rfl) (by kernel_rfl) (fun _ _ _ h => h) (Or.inl ⟨by rfl, ?_⟩) (by assumption) ?_
  rotate_left
  · intro u hSu
    obtain ⟨q1, q2⟩ := hSu
    go_simp
    with_reducible rfl
  simp only [Act.put, List.setIfInBounds_toArray, List.set_cons_zero, List.set_cons_succ, List.getElem_toArray, List.getElem_cons_zero, List.getElem_cons_succ]
  refine wpAnyH_take (i := 3) (v := ?_) rfl (by kernel_rfl) (by kernel_rfl) (by kernel_rfl) (fun _ _ _ h => h) (Or.inl ⟨by rfl, ?_⟩) (by assumption) ?_
  rotate_left
  · intro u hSu
    obtain ⟨q1, q2⟩ := hSu
    go_simp
    with_reducible rfl
  simp only [Act.put, List.setIfInBounds_toArray, List.set_cons_zero, List.set_cons_succ, List.getElem_toArray, List.getElem_cons_zero, List.getElem_cons_succ]
  refine wpAnyH_take (i := 5) (v := ?_) rfl (by kernel_rfl) (by kernel_rfl) (by kernel_rfl) (fun _ _ _ h => h) (Or.inl ⟨by rfl, ?_⟩) (by assumption) ?_
  rotate_left
  · intro u hSu
    obtain ⟨q1, q2⟩ := hSu
    go_simp
    with_reducible rfl
  simp only [Act.put, List.setIfInBounds_toArray, List.set_cons_zero, List.set_cons_succ, List.getElem_toArray, List.getElem_cons_zero, List.getElem_cons_succ]
  refine wpAnyH_take (i := 6) (v := ?_) rfl (by kernel_rfl) (by kernel_rfl) (by kernel_rfl) (fun _ _ _ h => h) (Or.inl ⟨by rfl, ?_⟩) (by assumption) ?_
  rotate_left
  · intro u hSu
    obtain ⟨q1, q2⟩ := hSu
    go_simp
    with_reducible rfl
  simp only [Act.put, List.setIfInBounds_toArray, List.set_cons_zero, List.set_cons_succ, List.getElem_toArray, List.getElem_cons_zero, List.getElem_cons_succ]
  refine wpAnyH_take (i := 7) (v := ?_) rfl (by kernel_rfl) (by kernel_rfl) (by kernel_rfl) (fun _ _ _ h => h) (Or.inl ⟨by rfl, ?_⟩) (by assumption) ?_
  rotate_left
  · intro u hSu
    obtain ⟨q1, q2⟩ := hSu
    go_simp
    with_reducible rfl
  simp only [Act.put, List.setIfInBounds_toArray, List.set_cons_zero, List.set_cons_succ, List.getElem_toArray, List.getElem_cons_zero, List.getElem_cons_succ]
  refine wpAnyH_take (i := 8) (v := ?_) rfl (by kernel_rfl) (by kernel_rfl) (by kernel_rfl) (fun _ _ _ h => h) (Or.inl ⟨by rfl, ?_⟩) (by assumption) ?_
  rotate_left
  · intro u hSu
    obtain ⟨q1, q2⟩ := hSu
    go_simp
    with_reducible rfl
  simp only [Act.put, List.setIfInBounds_toArray, List.set_cons_zero, List.set_cons_succ, List.getElem_toArray, List.getElem_cons_zero, List.getElem_cons_succ]
  refine wpAnyH_take (i := 9) (v := ?_) rfl (by kernel_rfl) (by kernel_rfl) (by kernel_rfl) (fun _ _ _ h => h) (Or.inl ⟨by rfl, ?_⟩) (by assumption) ?_
  rotate_left
  · intro u hSu
    obtain ⟨q1, q2⟩ := hSu
    go_simp
    with_reducible rfl
  simp only [Act.put, List.setIfInBounds_toArray, List.set_cons_zero, List.set_cons_succ, List.getElem_toArray, List.getElem_cons_zero, List.getElem_cons_succ]
  refine wpAnyH_take (i := 10) (v := ?_) rfl (by kernel_rfl) (by kernel_rfl) (by kernel_rfl) (fun _ _ _ h => h) (Or.inl ⟨by rfl, ?_⟩) (by assumption) ?_
  rotate_left
  · intro u hSu
    obtain ⟨q1, q2⟩ := hSu
    go_simp
    with_reducible rfl
  simp only [Act.put, List.setIfInBounds_toArray, List.set_cons_zero, List.set_cons_succ, List.getElem_toArray, List.getElem_cons_zero, List.getElem_cons_succ]
  refine wpAnyH_take (i := 11) (v := ?_) rfl (by kernel_rfl) (by kernel_rfl) (by kernel_rfl) (fun _ _ _ h => h) (Or.inl ⟨by rfl, ?_⟩) (by assumption) ?_
  rotate_left
  · intro u hSu
    obtain ⟨q1, q2⟩ := hSu
    go_simp
    with_reducible rfl
  simp only [Act.put, List.setIfInBounds_toArray, List.set_cons_zero, List.set_cons_succ, List.getElem_toArray, List.getElem_cons_zero, List.getElem_cons_succ]
  refine wpAnyH_take (i := 12) (v := ?_) rfl (by kernel_rfl) (by kernel_rfl) (by kernel_rfl) (fun _ _ _ h => h) (Or.inl ⟨by rfl, ?_⟩) (by assumption) ?_
  rotate_left
  · intro u hSu
    obtain ⟨q1, q2⟩ := hSu
    go_simp
    with_reducible rfl
  simp only [Act.put, List.setIfInBounds_toArray, List.set_cons_zero, List.set_cons_succ, List.getElem_toArray, List.getElem_cons_zero, List.getElem_cons_succ]
  refine wpAnyH_take (i := 14) (v := ?_) rfl (by kernel_rfl) (by kernel_rfl) (by kernel_rfl) (fun _ _ _ h => h) (Or.inl ⟨by rfl, ?_⟩) (by assumption) ?_
  rotate_left
  · intro u hSu
    obtain ⟨q1, q2⟩ := hSu
    go_simp
    with_reducible rfl
  simp only [Act.put, List.setIfInBounds_toArray, List.set_cons_zero, List.set_cons_succ, List.getElem_toArray, List.getElem_cons_zero, List.getElem_cons_succ]
  refine wpAnyH_take (i := 15) (v := ?_) rfl (by kernel_rfl) (by kernel_rfl) (by kernel_rfl) (fun _ _ _ h => h) (Or.inl ⟨by rfl, ?_⟩) (by assumption) ?_
  rotate_left
  · intro u hSu
    obtain ⟨q1, q2⟩ := hSu
    go_simp
    with_reducible rfl
  simp only [Act.put, List.setIfInBounds_toArray, List.set_cons_zero, List.set_cons_succ, List.getElem_toArray, List.getElem_cons_zero, List.getElem_cons_succ]
  refine wpAnyH_take (i := 16) (v := ?_) rfl (by kernel_rfl) (by kernel_rfl) (by kernel_rfl) (fun _ _ _ h => h) (Or.inl ⟨by rfl, ?_⟩) (by assumption) ?_
  rotate_left
  · intro u hSu
    obtain ⟨q1, q2⟩ := hSu
    go_simp
    with_reducible rfl
  simp only [Act.put, List.setIfInBounds_toArray, List.set_cons_zero, List.set_cons_succ, List.getElem_toArray, List.getElem_cons_zero, List.getElem_cons_succ]
  refine wpAnyH_take (i := 17) (v := ?_) rfl (by kernel_rfl) (by kernel_rfl) (by kernel_rfl) (fun _ _ _ h => h) (Or.inl ⟨by rfl, ?_⟩) (by assumption) ?_
  rotate_left
  · intro u hSu
    obtain ⟨q1, q2⟩ := hSu
    go_simp
    with_reducible rfl
  simp only [Act.put, List.setIfInBounds_toArray, List.set_cons_zero, List.set_cons_succ, List.getElem_toArray, List.getElem_cons_zero, List.getElem_cons_succ]
  refine wpAnyH_take (i := 18) (v := ?_) rfl (by kernel_rfl) (by kernel_rfl) (by kernel_rfl) (fun _ _ _ h => h) (Or.inl ⟨by rfl, ?_⟩) (by assumption) ?_
  rotate_left
  · intro u hSu
    obtain ⟨q1, q2⟩ := hSu
    go_simp
    with_reducible rfl
  simp only [Act.put, List.setIfInBounds_toArray, List.set_cons_zero, List.set_cons_succ, List.getElem_toArray, List.getElem_cons_zero, List.getElem_cons_succ]
  refine wpAnyH_take (i := 19) (v := ?_) rfl (by kernel_rfl) (by kernel_rfl) (by kernel_rfl) (fun _ _ _ h => h) (Or.inl ⟨by rfl, ?_⟩) (by assumption) ?_
  rotate_left
  · intro u hSu
    obtain ⟨q1, q2⟩ := hSu
    go_simp
    with_reducible rfl
  simp only [Act.put, List.setIfInBounds_toArray, List.set_cons_zero, List.set_cons_succ, List.getElem_toArray, List.getElem_cons_zero, List.getElem_cons_succ]
  refine wpAnyH_take (i := 20) (v := ?_) rfl (by kernel_rfl) (by kernel_rfl) (by kernel_rfl) (fun _ _ _ h => h) (Or.inl ⟨by rfl, ?_⟩) (by assumption) ?_
  rotate_left
  · intro u hSu
    obtain ⟨q1, q2⟩ := hSu
    go_simp
    with_reducible rfl
  simp only [Act.put, List.setIfInBounds_toArray, List.set_cons_zero, List.set_cons_succ, List.getElem_toArray, List.getElem_cons_zero, List.getElem_cons_succ]
  refine wpAnyH_take (i := 21) (v := ?_) rfl (by kernel_rfl) (by kernel_rfl) (by kernel_rfl) (fun _ _ _ h => h) (Or.inl ⟨by rfl, ?_⟩) (by assumption) ?_
  rotate_left
  · intro u hSu
    obtain ⟨q1, q2⟩ := hSu
    go_simp
    with_reducible rfl
  simp only [Act.put, List.setIfInBounds_toArray, List.set_cons_zero, List.set_cons_succ, List.getElem_toArray, List.getElem_cons_zero, List.getElem_cons_succ]
  refine wpAnyH_ready (rs := [4, 13]) (by kernel_rfl) (by simp) ?_
  refine AllReadyH.cons rfl (fun K hK => ?_) (AllReadyH.cons rfl (fun K hK => ?_) AllReadyH.nil)
  · go_simp
    refine hK.out _ _ (HS0.out) (fun hHeld => ?_)
    clear hK K
    refine wpAnyH_ready (rs := [13]) (by kernel_rfl) (by simp) ?_
    refine AllReadyH.cons rfl (fun K hK => ?_) AllReadyH.nil
    go_simp
    refine Calls.mono cW1 ?_
    rintro r W2 ⟨rfl, T2⟩
    obtain ⟨hS2, d2, cW2, HN2⟩ := HA.out W2 T2
    refine hK.out _ _ hS2 (fun hHeld => ?_)
    clear hK K T2 cW1 d1
    refine wpAnyH_ready (rs := [22]) (by kernel_rfl) (by simp) ?_
    refine AllReadyH.cons rfl (fun K hK => ?_) AllReadyH.nil
    go_simp
    refine Calls.mono cW2 ?_
    rintro r W3 ⟨rfl, T3⟩
    obtain ⟨hS3, d3, d3a, hS3a, hx3, hz3, HFin⟩ := HN2 W3 T3
    refine hK.out _ _ hS3 (fun hHeld => ?_)
    clear hK K T3 cW2 d2 HN2
    refine wpAnyH_ready (rs := [23]) (by kernel_rfl) (by simp) ?_
    refine AllReadyH.cons rfl (fun K hK => ?_) AllReadyH.nil
    go_simp
    refine hK.out _ _ hS3a (fun hHeld => ?_)
    clear hK K
    refine wpAnyH_ready (rs := [24]) (by kernel_rfl) (by simp) ?_
    refine AllReadyH.cons rfl (fun K hK => ?_) AllReadyH.nil
    refine step_append_at rfl (.tmp 7) (.tmp 26) 25 rfl B 4 i0 (.bool false) 1 1 Try.underlying25 hi0 hz0 hz1 hz2 rfl (by decide) (.slice none 0 0) 0 [] rfl (World.ownsRow_nil _ _ _ _) ⟨W3.heap.size, 0, none⟩ 2 2 [.bool true, .bool false] rfl rfl (two_cell hx3) ?_ ?_ ?_ ?_ ?_
    · intro u hu; simp at hu; rcases hu with rfl | rfl <;> rfl
    · unfold maxLen; omega
    · omega
    · simp; omega
    intro v4 W4 hown4 hgrow4 hwhere4
    obtain ⟨hS4, hS5, d4, f4, hv4, hfin⟩ := HFin v4 W4 hown4 hgrow4
    obtain ⟨a4, n4, c4, rfl⟩ := hv4
    refine hK.out _ _ hS4 (fun hHeld => ?_)
    clear hK K hown4 hgrow4 hwhere4
    refine wpAnyH_take (i := 25) (v := ?_) rfl (by kernel_rfl) (by kernel_rfl) (by kernel_rfl) (fun _ _ _ h => h) (Or.inl ⟨by rfl, ?_⟩) (by assumption) ?_
    rotate_left
    · intro u hSu
      obtain ⟨q1, q2⟩ := hSu
      go_simp
      with_reducible rfl
    simp only [Act.put, List.setIfInBounds_toArray, List.set_cons_zero, List.set_cons_succ, List.getElem_toArray, List.getElem_cons_zero, List.getElem_cons_succ]
    refine wpAnyH_take (i := 26) (v := ?_) rfl (by kernel_rfl) (by kernel_rfl) (by kernel_rfl) (fun _ _ _ h => h) (Or.inl ⟨by rfl, ?_⟩) (by assumption) ?_
    rotate_left
    · intro u hSu
      obtain ⟨q1, q2⟩ := hSu
      go_simp
      with_reducible rfl
    simp only [Act.put, List.setIfInBounds_toArray, List.set_cons_zero, List.set_cons_succ, List.getElem_toArray, List.getElem_cons_zero, List.getElem_cons_succ]
    refine wpAnyH_ready (rs := [27]) (by kernel_rfl) (by simp) ?_
    refine AllReadyH.cons rfl (fun K hK => ?_) AllReadyH.nil
    go_simp
    refine hK.out _ _ hS5 (fun hHeld => ?_)
    clear hK K
    refine wpAnyH_done (by kernel_rfl) ?_ _
    refine NoPanic.normal ?_
    have HE : Hid (OwnTo w B s S og id (W4.setCell ⟨og, 2, none⟩ (.slice a4 n4 c4))) := hfin
    clear hHeld hS4 hS5 hfin d4 f4 HFin hS3 d3 d3a hS3a hx3
    generalize W4.setCell ⟨og, 2, none⟩ (.slice a4 n4 c4) = W5 at HE ⊢
    go_wp2_with fail
    go_ret
    exact ⟨rfl, HE.out⟩
  · go_simp
    refine Calls.mono cW1 ?_
    rintro r W2 ⟨rfl, T2⟩
    obtain ⟨hS2, d2, cW2, HN2⟩ := HA.out W2 T2
    refine hK.out _ _ hS2 (fun hHeld => ?_)
    clear hK K T2 cW1 d1
    refine wpAnyH_ready (rs := [4, 22]) (by kernel_rfl) (by simp) ?_
    refine AllReadyH.cons rfl (fun K hK => ?_) (AllReadyH.cons rfl (fun K hK => ?_) AllReadyH.nil)
    · go_simp
      refine hK.out _ _ (hS2) (fun hHeld => ?_)
      clear hK K
      refine wpAnyH_ready (rs := [22]) (by kernel_rfl) (by simp) ?_
      refine AllReadyH.cons rfl (fun K hK => ?_) AllReadyH.nil
      go_simp
      refine Calls.mono cW2 ?_
      rintro r W3 ⟨rfl, T3⟩
      obtain ⟨hS3, d3, d3a, hS3a, hx3, hz3, HFin⟩ := HN2 W3 T3
      refine hK.out _ _ hS3 (fun hHeld => ?_)
      clear hK K T3 cW2 d2 HN2
      refine wpAnyH_ready (rs := [23]) (by kernel_rfl) (by simp) ?_
      refine AllReadyH.cons rfl (fun K hK => ?_) AllReadyH.nil
      go_simp
      refine hK.out _ _ hS3a (fun hHeld => ?_)
      clear hK K
      refine wpAnyH_ready (rs := [24]) (by kernel_rfl) (by simp) ?_
      refine AllReadyH.cons rfl (fun K hK => ?_) AllReadyH.nil
      refine step_append_at rfl (.tmp 7) (.tmp 26) 25 rfl B 4 i0 (.bool false) 1 1 Try.underlying25 hi0 hz0 hz1 hz2 rfl (by decide) (.slice none 0 0) 0 [] rfl (World.ownsRow_nil _ _ _ _) ⟨W3.heap.size, 0, none⟩ 2 2 [.bool true, .bool false] rfl rfl (two_cell hx3) ?_ ?_ ?_ ?_ ?_
      · intro u hu; simp at hu; rcases hu with rfl | rfl <;> rfl
      · unfold maxLen; omega
      · omega
      · simp; omega
      intro v4 W4 hown4 hgrow4 hwhere4
      obtain ⟨hS4, hS5, d4, f4, hv4, hfin⟩ := HFin v4 W4 hown4 hgrow4
      obtain ⟨a4, n4, c4, rfl⟩ := hv4
      refine hK.out _ _ hS4 (fun hHeld => ?_)
      clear hK K hown4 hgrow4 hwhere4
      refine wpAnyH_take (i := 25) (v := ?_) rfl (by kernel_rfl) (by kernel_rfl) (by kernel_rfl) (fun _ _ _ h => h) (Or.inl ⟨by rfl, ?_⟩) (by assumption) ?_
      rotate_left
      · intro u hSu
        obtain ⟨q1, q2⟩ := hSu
        go_simp
        with_reducible rfl
      simp only [Act.put, List.setIfInBounds_toArray, List.set_cons_zero, List.set_cons_succ, List.getElem_toArray, List.getElem_cons_zero, List.getElem_cons_succ]
      refine wpAnyH_take (i := 26) (v := ?_) rfl (by kernel_rfl) (by kernel_rfl) (by kernel_rfl) (fun _ _ _ h => h) (Or.inl ⟨by rfl, ?_⟩) (by assumption) ?_
      rotate_left
      · intro u hSu
        obtain ⟨q1, q2⟩ := hSu
        go_simp
        with_reducible rfl
      simp only [Act.put, List.setIfInBounds_toArray, List.set_cons_zero, List.set_cons_succ, List.getElem_toArray, List.getElem_cons_zero, List.getElem_cons_succ]
      refine wpAnyH_ready (rs := [27]) (by kernel_rfl) (by simp) ?_
      refine AllReadyH.cons rfl (fun K hK => ?_) AllReadyH.nil
      go_simp
      refine hK.out _ _ hS5 (fun hHeld => ?_)
      clear hK K
      refine wpAnyH_done (by kernel_rfl) ?_ _
      refine NoPanic.normal ?_
      have HE : Hid (OwnTo w B s S og id (W4.setCell ⟨og, 2, none⟩ (.slice a4 n4 c4))) := hfin
      clear hHeld hS4 hS5 hfin d4 f4 HFin hS3 d3 d3a hS3a hx3
      generalize W4.setCell ⟨og, 2, none⟩ (.slice a4 n4 c4) = W5 at HE ⊢
      go_wp2_with fail
      go_ret
      exact ⟨rfl, HE.out⟩
    · go_simp
      refine Calls.mono cW2 ?_
      rintro r W3 ⟨rfl, T3⟩
      obtain ⟨hS3, d3, d3a, hS3a, hx3, hz3, HFin⟩ := HN2 W3 T3
      refine hK.out _ _ hS3 (fun hHeld => ?_)
      clear hK K T3 cW2 d2 HN2
      refine wpAnyH_ready (rs := [4, 23]) (by kernel_rfl) (by simp) ?_
      refine AllReadyH.cons rfl (fun K hK => ?_) (AllReadyH.cons rfl (fun K hK => ?_) AllReadyH.nil)
      · go_simp
        refine hK.out _ _ (hS3) (fun hHeld => ?_)
        clear hK K
        refine wpAnyH_ready (rs := [23]) (by kernel_rfl) (by simp) ?_
        refine AllReadyH.cons rfl (fun K hK => ?_) AllReadyH.nil
        go_simp
        refine hK.out _ _ hS3a (fun hHeld => ?_)
        clear hK K
        refine wpAnyH_ready (rs := [24]) (by kernel_rfl) (by simp) ?_
        refine AllReadyH.cons rfl (fun K hK => ?_) AllReadyH.nil
        refine step_append_at rfl (.tmp 7) (.tmp 26) 25 rfl B 4 i0 (.bool false) 1 1 Try.underlying25 hi0 hz0 hz1 hz2 rfl (by decide) (.slice none 0 0) 0 [] rfl (World.ownsRow_nil _ _ _ _) ⟨W3.heap.size, 0, none⟩ 2 2 [.bool true, .bool false] rfl rfl (two_cell hx3) ?_ ?_ ?_ ?_ ?_
        · intro u hu; simp at hu; rcases hu with rfl | rfl <;> rfl
        · unfold maxLen; omega
        · omega
        · simp; omega
        intro v4 W4 hown4 hgrow4 hwhere4
        obtain ⟨hS4, hS5, d4, f4, hv4, hfin⟩ := HFin v4 W4 hown4 hgrow4
        obtain ⟨a4, n4, c4, rfl⟩ := hv4
        refine hK.out _ _ hS4 (fun hHeld => ?_)
        clear hK K hown4 hgrow4 hwhere4
        refine wpAnyH_take (i := 25) (v := ?_) rfl (by kernel_rfl) (by kernel_rfl) (by kernel_rfl) (fun _ _ _ h => h) (Or.inl ⟨by rfl, ?_⟩) (by assumption) ?_
        rotate_left
        · intro u hSu
          obtain ⟨q1, q2⟩ := hSu
          go_simp
          with_reducible rfl
        simp only [Act.put, List.setIfInBounds_toArray, List.set_cons_zero, List.set_cons_succ, List.getElem_toArray, List.getElem_cons_zero, List.getElem_cons_succ]
        refine wpAnyH_take (i := 26) (v := ?_) rfl (by kernel_rfl) (by kernel_rfl) (by kernel_rfl) (fun _ _ _ h => h) (Or.inl ⟨by rfl, ?_⟩) (by assumption) ?_
        rotate_left
        · intro u hSu
          obtain ⟨q1, q2⟩ := hSu
          go_simp
          with_reducible rfl
        simp only [Act.put, List.setIfInBounds_toArray, List.set_cons_zero, List.set_cons_succ, List.getElem_toArray, List.getElem_cons_zero, List.getElem_cons_succ]
        refine wpAnyH_ready (rs := [27]) (by kernel_rfl) (by simp) ?_
        refine AllReadyH.cons rfl (fun K hK => ?_) AllReadyH.nil
        go_simp
        refine hK.out _ _ hS5 (fun hHeld => ?_)
        clear hK K
        refine wpAnyH_done (by kernel_rfl) ?_ _
        refine NoPanic.normal ?_
        have HE : Hid (OwnTo w B s S og id (W4.setCell ⟨og, 2, none⟩ (.slice a4 n4 c4))) := hfin
        clear hHeld hS4 hS5 hfin d4 f4 HFin hS3 d3 d3a hS3a hx3
        generalize W4.setCell ⟨og, 2, none⟩ (.slice a4 n4 c4) = W5 at HE ⊢
        go_wp2_with fail
        go_ret
        exact ⟨rfl, HE.out⟩
      · go_simp
        refine hK.out _ _ hS3a (fun hHeld => ?_)
        clear hK K
        refine wpAnyH_ready (rs := [4]) (by kernel_rfl) (by simp) ?_
        refine AllReadyH.cons rfl (fun K hK => ?_) AllReadyH.nil
        go_simp
        refine hK.out _ _ (hS3a) (fun hHeld => ?_)
        clear hK K
        refine wpAnyH_ready (rs := [24]) (by kernel_rfl) (by simp) ?_
        refine AllReadyH.cons rfl (fun K hK => ?_) AllReadyH.nil
        refine step_append_at rfl (.tmp 7) (.tmp 26) 25 rfl B 4 i0 (.bool false) 1 1 Try.underlying25 hi0 hz0 hz1 hz2 rfl (by decide) (.slice none 0 0) 0 [] rfl (World.ownsRow_nil _ _ _ _) ⟨W3.heap.size, 0, none⟩ 2 2 [.bool true, .bool false] rfl rfl (two_cell hx3) ?_ ?_ ?_ ?_ ?_
        · intro u hu; simp at hu; rcases hu with rfl | rfl <;> rfl
        · unfold maxLen; omega
        · omega
        · simp; omega
        intro v4 W4 hown4 hgrow4 hwhere4
        obtain ⟨hS4, hS5, d4, f4, hv4, hfin⟩ := HFin v4 W4 hown4 hgrow4
        obtain ⟨a4, n4, c4, rfl⟩ := hv4
        refine hK.out _ _ hS4 (fun hHeld => ?_)
        clear hK K hown4 hgrow4 hwhere4
        refine wpAnyH_take (i := 25) (v := ?_) rfl (by kernel_rfl) (by kernel_rfl) (by kernel_rfl) (fun _ _ _ h => h) (Or.inl ⟨by rfl, ?_⟩) (by assumption) ?_
        rotate_left
        · intro u hSu
          obtain ⟨q1, q2⟩ := hSu
          go_simp
          with_reducible rfl
        simp only [Act.put, List.setIfInBounds_toArray, List.set_cons_zero, List.set_cons_succ, List.getElem_toArray, List.getElem_cons_zero, List.getElem_cons_succ]
        refine wpAnyH_take (i := 26) (v := ?_) rfl (by kernel_rfl) (by kernel_rfl) (by kernel_rfl) (fun _ _ _ h => h) (Or.inl ⟨by rfl, ?_⟩) (by assumption) ?_
        rotate_left
        · intro u hSu
          obtain ⟨q1, q2⟩ := hSu
          go_simp
          with_reducible rfl
        simp only [Act.put, List.setIfInBounds_toArray, List.set_cons_zero, List.set_cons_succ, List.getElem_toArray, List.getElem_cons_zero, List.getElem_cons_succ]
        refine wpAnyH_ready (rs := [27]) (by kernel_rfl) (by simp) ?_
        refine AllReadyH.cons rfl (fun K hK => ?_) AllReadyH.nil
        go_simp
        refine hK.out _ _ hS5 (fun hHeld => ?_)
        clear hK K
        refine wpAnyH_done (by kernel_rfl) ?_ _
        refine NoPanic.normal ?_
        have HE : Hid (OwnTo w B s S og id (W4.setCell ⟨og, 2, none⟩ (.slice a4 n4 c4))) := hfin
        clear hHeld hS4 hS5 hfin d4 f4 HFin hS3 d3 d3a hS3a hx3
        generalize W4.setCell ⟨og, 2, none⟩ (.slice a4 n4 c4) = W5 at HE ⊢
        go_wp2_with fail
        go_ret
        exact ⟨rfl, HE.out⟩

theorem own_tsk (og : Nat) : Tsk 24 (ptr og) 51 := ⟨fun _ => by kernel_rfl, enters_of Try.func51 (by kernel_rfl) rfl⟩
theorem brief_tsk : Tsk 36 (.agg #[]) 53 := ⟨fun _ => by kernel_rfl, enters_of Try.func53 (by kernel_rfl) rfl⟩
theorem brief_step (w : World) : Calls Try.prog 53 #[.agg #[]] w fun r w' => r = .returned (.int .u8 3) ∧ Below w.heap.size w w' := by
  have b : Below w.heap.size w (w.alloc (.cells #[] 36)) := (Below.refl _ _).alloc (Nat.le_refl _) _
  go_enter Try.func53, Try.ntmps53
  go_wp2
  go_ret
  exact ⟨rfl, b⟩
end Go.Proofs.Ytjhhncbadkpbaaa
