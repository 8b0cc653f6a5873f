/-
  leave.
-/
import Derived.Test.YtafiopjgegmfoaaGreatDel
namespace Go.Proofs.YtafiopjgegmfoaaGreat
open Go.RowKit Go.Maps

theorem IsA.undone {α : Type} {enc : α → Value} {tS tM : TypeId} {w w' : World} {B g : Nat} {S0 : SS α} {F : Nat → Prop} {rb wb b : Nat} {v : Value} {X : List (Nat × List (Int × α))} {L : List (Int × α)} (h : IsA enc tS tM w' B g { S0 with M := S0.M.dropLast } (grow F w w') rb wb v X) (hm : MapL enc w' b L) (hl : S0.M.getLastD [] = L) (hn : b ∉ rb :: wb :: X.map (·.1)) (hF : F b) (hb : Below B w w') (hu : Upd F w w') (ht : tS ≠ tM) :
    To enc tS tM w B g { S0 with W := S0.M.getLastD [], M := S0.M.dropLast } F (w'.setCell ⟨g, 2, none⟩ (.map (some b))) := by
  rw [hl]
  have hg0 := h.fB g h.fg
  have hgF : F g ∨ w.heap.size ≤ g := h.fg.imp id (fun h => h.1)
  have x9 : Box (w'.setCell ⟨g, 2, none⟩ (.map (some b))) g #[ptr g, mp rb, mp b, v] tS := h.box.store 2 _
  have s9 : (w'.setCell ⟨g, 2, none⟩ (.map (some b))).heap.size = w'.heap.size := by simp
  have k9 : ∀ k, k ≠ g → (w'.setCell ⟨g, 2, none⟩ (.map (some b))).heap[k]? = w'.heap[k]? := fun k hk => heap_setCell_other w' ⟨g, 2, none⟩ k _ hk
  have own9 : (w'.setCell ⟨g, 2, none⟩ (.map (some b))).ownsRow B tM 1 v X.length (X.map (fun p => mp p.1)) := ownsRow_grown h.row (grown_store w' g 2 _) (fun k hk e => by
    injection e with e
    obtain ⟨cs, hc⟩ := ownsRow_box h.row k hk
    exact (h.box.ne (e ▸ hc) ht) rfl)
  have hb9 : Below B w (w'.setCell ⟨g, 2, none⟩ (.map (some b))) := hb.grown (grown_store w' g 2 _) (by have := hb.size; omega) (fun k e => by cases e; omega)
  generalize w'.setCell ⟨g, 2, none⟩ (.map (some b)) = w9 at *
  have hsz := hu.1
  have hn1 := fun e => hn (List.mem_cons.2 (.inl e))
  have nd := List.nodup_cons.1 h.nd
  have nd2 := List.nodup_cons.1 nd.2
  refine ⟨⟨rb, b, v, X, ?_⟩, hb9, ⟨by omega, fun k hk hnF => (k9 k (fun e => hgF.elim (fun h' => hnF (e ▸ h')) (fun h' => by omega))).trans (hu.2 k hk hnF)⟩⟩
  have gr : ∀ x, grow F w w' x → grow F w w9 x := fun x hx => hx.imp id (fun h => ⟨h.1, by omega⟩)
  exact {
    box := x9
    rd := h.rd.stay (k9 rb (h.rd.noBox h.box))
    wr := hm.stay (k9 b (hm.noBox h.box))
    row := own9
    mks := fun p hp => (h.mks p hp).stay (k9 _ ((h.mks p hp).noBox h.box))
    em := h.em
    nd := List.nodup_cons.2 ⟨fun hm' => by
      rcases List.mem_cons.1 hm' with e | e
      · exact hn1 e.symm
      · exact nd.1 (List.mem_cons_of_mem _ e), List.nodup_cons.2 ⟨fun e => hn (List.mem_cons_of_mem _ (List.mem_cons_of_mem _ e)), nd2.2⟩⟩
    fg := gr _ h.fg
    fr := gr _ h.fr
    fw := .inl hF
    fx := fun p hp => gr _ (h.fx p hp)
    fv := fun k hk => gr _ (h.fv k hk)
    fB := fun x hx => by
      have := h.fB x (hx.imp id (fun h => ⟨h.1, by omega⟩))
      omega
    dep := h.dep }

structure Lft (w w' : World) (B g : Nat) (S : SS Int) (F : Nat → Prop) (b : Nat) : Prop where
  lt : 0 < S.M.length
  ex : ∃ rb wb v X L, IsA encI 88 85 w' B g { S with M := S.M.dropLast } (grow F w w') rb wb v X ∧ MapL encI w' b L ∧ S.M.getLastD [] = L ∧ b ∉ rb :: wb :: X.map (·.1) ∧ F b
  bel : Below B w w'
  upd : Upd F w w'
theorem leave_none {w : World} {B g : Nat} {S : SS Int} {F : Nat → Prop} (h : IsS encI 88 85 w B g S F) (hm : S.M.length = 0) :
    Calls Tryz.prog 105 #[ptr g] w fun r w' => r = .returned (.tuple #[.map none, .int .i64 136]) ∧ w' = w := by
  obtain ⟨rb, wb, v, X, h⟩ := h
  have c := isMade_at h.box
  have c3 : w.cell? ⟨g, 3, none⟩ = some v := h.box.cell 3
  obtain ⟨a, cap, rfl⟩ := ownsRow_slice h.row
  have hx : X.length = 0 := by rw [← hm, h.em]; simp
  rw [hx] at c3
  clear h hm hx
  unfold ptr at *
  go_enter Tryz.func105, Tryz.ntmps105
  go_wp2_with (go_at_call 62; refine c.mono ?_; rintro e w' ⟨rfl, rfl⟩)
  go_ret2
  simp
set_option maxRecDepth 100000 in
set_option maxHeartbeats 1000000 in
theorem leave_at {w : World} {B g : Nat} {S : SS Int} {F : Nat → Prop} (h : IsS encI 88 85 w B g S F) (hm : S.M.length ≠ 0) :
    Calls Tryz.prog 105 #[ptr g] w fun r w' => ∃ b, r = .returned (.tuple #[.map (some b), .int .i64 0]) ∧ Lft w w' B g S F b := by
  obtain ⟨rb, wb, v, X, h⟩ := h
  rcases List.eq_nil_or_concat X with rfl | ⟨X, q, rfl⟩
  · exact absurd (by rw [h.em]; rfl) hm
  rw [List.concat_eq_append] at h
  have c := isMade_at h.box
  have c3 : w.cell? ⟨g, 3, none⟩ = some v := h.box.cell 3
  have hd := h.dep
  rw [List.length_append, List.length_singleton] at hd
  have row := h.row
  have er : (X ++ [q]).map (fun p => mp p.1) = ((X ++ [q]).map (·.1)).map mp := by simp
  have el : (X ++ [q]).length = ((X ++ [q]).map (·.1)).length := by simp
  have eX : ((X ++ [q]).map (·.1)).eraseIdx X.length = X.map (·.1) := by
    rw [List.map_append, List.map_singleton, List.eraseIdx_append_of_length_le (by simp)]
    simp
  have hcell := ownsRow_cell row X.length (by simp)
  obtain ⟨gq, cap, rfl, hc⟩ := hcell
  rw [er, el] at row
  have cd := delete_at row X.length (by simp)
  rw [eX] at cd
  have hlast : w.cell? ⟨gq, X.length, none⟩ = some (.map (some q.1)) := by rw [hc]; simp [mp]
  have fin : ∀ v' w', w'.ownsRow B 85 1 v' (X.map (·.1)).length ((X.map (·.1)).map mp) → v'.ownBlock = (Value.slice (some ⟨gq, 0, none⟩) (X ++ [q]).length cap).ownBlock → w.grownBy w' (Value.slice (some ⟨gq, 0, none⟩) (X ++ [q]).length cap).ownBlock →
      w'.cell? ⟨g, 3, none⟩ = some (.slice (some ⟨gq, 0, none⟩) (X.length + 1) cap) ∧ w'.frozen? ⟨g, 3, none⟩ = false ∧ Lft w (w'.setCell ⟨g, 3, none⟩ v') B g S F q.1 := fun v' w' h1 h2 h3 => by
    have h1' : w'.ownsRow B 85 1 v' X.length (X.map (fun p => mp p.1)) := by
      have e1 : (X.map (·.1)).map mp = X.map (fun p => mp p.1) := by simp
      rw [← e1]
      rw [List.length_map] at h1
      exact h1
    obtain ⟨k1, k2, k3, k4, k5, k6, k7, k8⟩ := h.left (by decide) h1' h2 h3
    rw [List.length_append, List.length_singleton] at k1
    exact ⟨k1, k2, by rw [h.em]; simp, ⟨rb, wb, v', X, q.2, k5, k6, by rw [h.em]; simp, k7, k8⟩, k3, k4⟩
  have FIN : Hid (∀ v' w', w'.ownsRow B 85 1 v' (X.map (·.1)).length ((X.map (·.1)).map mp) → v'.ownBlock = (Value.slice (some ⟨gq, 0, none⟩) (X ++ [q]).length cap).ownBlock → w.grownBy w' (Value.slice (some ⟨gq, 0, none⟩) (X ++ [q]).length cap).ownBlock →
      w'.cell? ⟨g, 3, none⟩ = some (.slice (some ⟨gq, 0, none⟩) (X.length + 1) cap) ∧ w'.frozen? ⟨g, 3, none⟩ = false ∧ Lft w (w'.setCell ⟨g, 3, none⟩ v') B g S F q.1) := fin
  have elen : (X ++ [q]).length = X.length + 1 := by simp
  rw [List.length_map, elen] at cd
  rw [elen] at c3
  have cd' : Calls Tryz.prog 114 #[.slice (some ⟨gq, 0, none⟩) (X.length + 1) cap, .int .i64 (X.length : Int), .int .i64 ((X.length : Int) + 1)] w fun r w' => ∃ a' n' c', r = .returned (.slice a' n' c') ∧ (w'.cell? ⟨g, 3, none⟩ = some (.slice (some ⟨gq, 0, none⟩) (X.length + 1) cap) ∧ w'.frozen? ⟨g, 3, none⟩ = false ∧ Lft w (w'.setCell ⟨g, 3, none⟩ (.slice a' n' c')) B g S F q.1) := by
    refine cd.mono ?_
    rintro r w' ⟨v', rfl, h1, h2, h3⟩
    obtain ⟨a', c', rfl⟩ := ownsRow_slice h1
    exact ⟨a', _, c', rfl, FIN.out _ w' h1 (by rw [elen]; exact h2) (by rw [elen]; exact h3)⟩
  generalize X.length = n at *
  generalize q.1 = qb at *
  clear h row er el eX cd FIN fin elen hc hm
  unfold ptr at *
  go_enter Tryz.func105, Tryz.ntmps105
  go_wp2_with (first | (go_at_call 62; refine c.mono ?_; rintro e w1 ⟨rfl, rfl⟩) | (go_at_call 114; refine cd'.mono ?_; rintro e w2 ⟨a', n', c', rfl, k1, k2, k3⟩))
  go_ret2
  exact ⟨_, rfl, k3⟩

theorem keep_at {w : World} {B g : Nat} {S : SS Int} {F : Nat → Prop} (h : IsS encI 88 85 w B g S F) :
    Calls Tryz.prog 101 #[ptr g] w fun r w' => r = .returned (.int .i64 (S.keep).1) ∧ To encI 88 85 w B g (S.keep).2 F w' := by
  by_cases hm : S.M.length = 0
  · have e1 : S.keep = (136, S) := by unfold SS.keep; rw [if_pos hm]
    rw [e1]
    have hto := To.refl h
    have c := leave_none h hm
    clear h hm e1
    unfold ptr at *
    go_enter Tryz.func101, Tryz.ntmps101
    go_wp2_with (go_at_call 105; refine c.mono ?_; rintro e w1 ⟨rfl, rfl⟩)
    go_ret
    exact ⟨rfl, hto⟩
  · have e1 : S.keep = (0, { S with M := S.M.dropLast }) := by unfold SS.keep; rw [if_neg hm]
    rw [e1]
    have c := leave_at h hm
    clear h hm e1
    unfold ptr at *
    go_enter Tryz.func101, Tryz.ntmps101
    go_wp2_with (go_at_call 105; refine c.mono ?_; rintro e w1 ⟨b, rfl, k⟩)
    go_ret
    obtain ⟨_, ⟨rb, wb, v, X, L, h1, _⟩, h2, h3⟩ := k
    exact ⟨rfl, ⟨rb, wb, v, X, h1⟩, h2, h3⟩
theorem undo_at {w : World} {B g : Nat} {S : SS Int} {F : Nat → Prop} (h : IsS encI 88 85 w B g S F) :
    Calls Tryz.prog 102 #[ptr g] w fun r w' => r = .returned (.int .i64 (S.undo).1) ∧ To encI 88 85 w B g (S.undo).2 F w' := by
  by_cases hm : S.M.length = 0
  · have e1 : S.undo = (136, S) := by unfold SS.undo; rw [if_pos hm]
    rw [e1]
    have hto := To.refl h
    have c := leave_none h hm
    clear h hm e1
    unfold ptr at *
    go_enter Tryz.func102, Tryz.ntmps102
    go_wp2_with (go_at_call 105; refine c.mono ?_; rintro e w1 ⟨rfl, rfl⟩)
    go_ret
    exact ⟨rfl, hto⟩
  · have e1 : S.undo = (0, { S with W := S.M.getLastD [], M := S.M.dropLast }) := by unfold SS.undo; rw [if_neg hm]
    rw [e1]
    have c : Calls Tryz.prog 105 #[ptr g] w fun r w' => ∃ b x y, r = .returned (.tuple #[.map (some b), .int .i64 0]) ∧ w'.cell? ⟨g, 2, none⟩ = some (.map (some x)) ∧ w'.frozen? ⟨g, 2, none⟩ = false ∧ y = x ∧ To encI 88 85 w B g { S with W := S.M.getLastD [], M := S.M.dropLast } F (w'.setCell ⟨g, 2, none⟩ (.map (some b))) := by
      refine (leave_at h hm).mono ?_
      rintro r w' ⟨b, rfl, k⟩
      obtain ⟨_, ⟨rb, wb, v, X, L, h1, h2, h3, h4, h5⟩, h6, h7⟩ := k
      exact ⟨b, wb, wb, rfl, h1.box.cell 2, h1.box.frozen 2, rfl, h1.undone h2 h3 h4 h5 h6 h7 (by decide)⟩
    generalize { S with W := S.M.getLastD [], M := S.M.dropLast } = S' at *
    clear h hm e1
    unfold ptr at *
    go_enter Tryz.func102, Tryz.ntmps102
    go_wp2_with (go_at_call 105; refine c.mono ?_; rintro e w1 ⟨b, x, y, rfl, k1, k2, _, k3⟩)
    go_ret
    exact ⟨rfl, k3⟩

structure sLft (w w' : World) (B g : Nat) (S : SS ByteArray) (F : Nat → Prop) (b : Nat) : Prop where
  lt : 0 < S.M.length
  ex : ∃ rb wb v X L, IsA encS 119 116 w' B g { S with M := S.M.dropLast } (grow F w w') rb wb v X ∧ MapL encS w' b L ∧ S.M.getLastD [] = L ∧ b ∉ rb :: wb :: X.map (·.1) ∧ F b
  bel : Below B w w'
  upd : Upd F w w'
end Go.Proofs.YtafiopjgegmfoaaGreat
