/-
  takeOut, end.
-/
import Derived.Test.YtjhhncbadkpbaaaDel
namespace Go.Proofs.Ytjhhncbadkpbaaa
open Go.RowKit

theorem mem_alv : ∀ (E : List En) (G : List Nat) (x : Nat), x ∈ alv E G → ∃ (i : Nat) (e : En), E[i]? = some e ∧ G[i]? = some x
  | [], _, _, h => by simp [alv] at h
  | _ :: _, [], _, h => by simp [alv] at h
  | e :: E, g :: G, x, h => by
    rw [alv_cons] at h
    have key : x ∈ alv E G → ∃ (i : Nat) (e' : En), (e :: E)[i]? = some e' ∧ (g :: G)[i]? = some x := fun h => by
      obtain ⟨i, e', h1, h2⟩ := mem_alv E G x h
      exact ⟨i + 1, e', by simpa using h1, by simpa using h2⟩
    split at h
    · exact key h
    · rcases List.mem_cons.1 h with rfl | h
      · exact ⟨0, e, rfl, rfl⟩
      · exact key h
theorem alv_mem : ∀ (E : List En) (G : List Nat) (i : Nat) (e : En) (x : Nat), E[i]? = some e → e.st ≠ 3 → G[i]? = some x → x ∈ alv E G
  | [], _, _, _, _, h, _, _ => by simp at h
  | _ :: _, [], _, _, _, _, _, h => by simp at h
  | a :: E, g :: G, 0, e, x, h, h1, h2 => by
    simp at h h2
    subst h h2
    rw [alv_cons, if_neg h1]
    simp
  | a :: E, g :: G, i + 1, e, x, h, h1, h2 => by
    have := alv_mem E G i e x (by simpa using h) h1 (by simpa using h2)
    rw [alv_cons]
    split
    · exact this
    · exact List.mem_cons_of_mem _ this
theorem alv_over : ∀ (E : List En) (G : List Nat) (i : Nat) (e' : En) (h : i < G.length), E.length = G.length → G.Nodup → e'.st = 3 → alv (E.set i e') G = (alv E G).filter (· != G[i])
  | [], [], _, _, h, _, _, _ => by simp at h
  | [], _ :: _, _, _, _, h, _, _ => by simp at h
  | _ :: _, [], _, _, _, h, _, _ => by simp at h
  | a :: E, g :: G, 0, e', _, hl, hn, h3 => by
    rw [List.set_cons_zero, alv_cons, if_pos h3, alv_cons, List.getElem_cons_zero]
    have hno : (alv E G).filter (· != g) = alv E G := List.filter_eq_self.2 fun x hx => by
      obtain ⟨i, e, _, h2⟩ := mem_alv E G x hx
      have hm := List.mem_of_getElem? h2
      have := (List.nodup_cons.1 hn).1
      simp
      exact fun e => this (e ▸ hm)
    split
    · exact hno.symm
    · rw [List.filter_cons]
      simp [hno]
  | a :: E, g :: G, i + 1, e', h, hl, hn, h3 => by
    have hi : i < G.length := by simpa using h
    have ih := alv_over E G i e' hi (by simpa using hl) (List.nodup_cons.1 hn).2 h3
    rw [List.set_cons_succ, alv_cons, alv_cons, ih, List.getElem_cons_succ]
    split
    · rfl
    · rw [List.filter_cons, if_pos]
      have hm : G[i] ∈ G := List.getElem_mem _
      have := (List.nodup_cons.1 hn).1
      simp
      exact fun e => this (e ▸ hm)

set_option maxRecDepth 20000 in
theorem takeOut_at {w : World} {B s : Nat} {S : SS} (h : IsS w B s S) (k i : Nat) (hk : S.L[k]? = some i) (hi : i < S.G.length) (hl : S.L.length < 1000000) :
    Calls Try.prog 25 #[ptr s, .int .i64 (k : Int)] w fun r w' => r = .returned (ptr S.G[i]) ∧ To w B s { S with L := S.L.eraseIdx k } w' := by
  obtain ⟨vt, va, vl, h⟩ := h
  have hkl : k < S.L.length := (List.getElem?_eq_some_iff.1 hk).1
  have hLl : (S.L.map fun i => S.G.getD i 0).length = S.L.length := List.length_map _
  obtain ⟨gl, cap, hvl, ck⟩ := ownsRow_cell h.rows.rl k (by rw [hLl]; exact hkl)
  have ck' : w.cell? ⟨gl, k, none⟩ = some (ptr S.G[i]) := by rw [ck]; simp [hk, hi]
  have c3 : w.cell? ⟨s, 3, none⟩ = some vl := h.rows.box.cell 3
  have cd := delete_at h.rows.rl k (by rw [hLl]; exact hkl)
  rw [hLl] at hvl
  have HD : Hid (∀ (v' : Value) (w1 : World), w1.ownsRow B 61 1 v' ((S.L.map fun i => S.G.getD i 0).eraseIdx k).length (((S.L.map fun i => S.G.getD i 0).eraseIdx k).map ptr) → v'.ownBlock = vl.ownBlock → w.grownBy w1 vl.ownBlock → To w B s { S with L := S.L.eraseIdx k } (w1.setCell ⟨s, 3, none⟩ v') ∧ w1.cell? ⟨s, 3, none⟩ = some vl ∧ w1.frozen? ⟨s, 3, none⟩ = false ∧ ∃ a n c, v' = .slice a n c) := by
    intro v' w1 ho hv hg
    obtain ⟨r1, bx⟩ := h.rows.line (L' := (S.L.map fun i => S.G.getD i 0).eraseIdx k) hg ho (fun k hk => .inl (hv ▸ hk))
    have kB : Kt (fun t => t ≠ 61 ∧ t ≠ 63) w (w1.setCell ⟨s, 3, none⟩ v') := ((Kt.refl _ _).grown hg 61 (fun k hk => ownsRow_box h.rows.rl k hk) (by simp)).setCell bx (by simp) 3 v'
    obtain ⟨a, c, hs⟩ := ownsRow_slice ho
    refine ⟨⟨⟨vt, va, v', ⟨?_, h.ents.kt kB (by decide), fun j hj => h.ll j (List.mem_of_mem_eraseIdx hj), h.hn⟩⟩, ?_, kB.mono (fun t ht => ⟨ht.1, ht.2.1⟩)⟩, bx.cell 3, bx.frozen 3, a, _, c, hs⟩
    · have e : ({ S with L := S.L.eraseIdx k } : SS).L.map (fun i => S.G.getD i 0) = (S.L.map fun i => S.G.getD i 0).eraseIdx k := by
        show (S.L.eraseIdx k).map _ = _
        rw [List.eraseIdx_eq_take_drop_succ, List.eraseIdx_eq_take_drop_succ, List.map_append, List.map_take, List.map_drop]
      rw [show (fun i => ({ S with L := S.L.eraseIdx k } : SS).G.getD i 0) = fun i => S.G.getD i 0 from rfl, e]
      exact r1
    · exact ((Below.refl B w).grown hg (Nat.le_trans h.rows.hs (Nat.le_of_lt h.rows.box.lt)) (fun k hk => (h.rows.rl.lt k hk).1)).setCell (p := ⟨s, 3, none⟩) h.rows.hs _
  have hki : (k : Int) < (S.L.length : Int) := by omega
  generalize S.G[i] = q at *
  generalize ((S.L.map fun i => S.G.getD i 0).eraseIdx k) = Z at *
  generalize S.L.length = n at *
  clear h hLl ck hk
  subst hvl
  unfold ptr at *
  go_enter Try.func25, Try.ntmps25
  go_wp2_with fail
  refine Calls.mono cd ?_
  rintro r w1 ⟨v', rfl, ho, hv, hg⟩
  obtain ⟨hT, d3, f3, a, n', c, rfl⟩ := HD.out v' w1 ho hv hg
  have HT : Hid (To w B s { S with L := S.L.eraseIdx k } (w1.setCell ⟨s, 3, none⟩ (.slice a n' c))) := hT
  clear hT HD cd ho hv hg
  go_wp2
  go_ret
  exact ⟨rfl, HT.out⟩
def SS.over (S : SS) (i : Nat) (e : En) : SS := { S with E := S.E.set i ⟨.nilIface, 3, e.n⟩ }
set_option maxRecDepth 20000 in
set_option maxHeartbeats 1000000 in
theorem end_at {w : World} {B s : Nat} {S : SS} (h : IsS w B s S) (i : Nat) (e : En) (he : S.E[i]? = some e) (h3 : e.st ≠ 3) (hi : i < S.G.length) :
    Calls Try.prog 32 #[ptr s, ptr S.G[i]] w fun r w' => r = .returned (.tuple #[]) ∧ To w B s (S.over i e) w' := by
  have hB := h.hB
  obtain ⟨vt, va, vl, h⟩ := h
  have x := Box.new w #[ptr S.G[i]] 61
  have be := h.ents.en i hi e he
  have be1 := be.alloc (.cells #[ptr S.G[i]] 61)
  have cb : (w.alloc (.cells #[ptr S.G[i]] 61)).cell? ⟨w.heap.size, 0, none⟩ = some (ptr S.G[i]) := x.cell 0
  have ce1 : (w.alloc (.cells #[ptr S.G[i]] 61)).cell? ⟨S.G[i], 1, none⟩ = some e.task := be1.cell 1
  have ce2 : (w.alloc (.cells #[ptr S.G[i]] 61)).cell? ⟨S.G[i], 2, none⟩ = some (.int .u8 (e.st : Int)) := be1.cell 2
  have f1 := be1.frozen 1
  have f2 := be1.frozen 2
  obtain ⟨W2, hW2⟩ : ∃ W2, W2 = (((w.alloc (.cells #[ptr S.G[i]] 61)).setCell ⟨S.G[i], 1, none⟩ .nilIface).setCell ⟨S.G[i], 2, none⟩ (.int .u8 3)).drew := ⟨_, rfl⟩
  have k0 : Kt (fun _ => True) w (w.alloc (.cells #[ptr S.G[i]] 61)) := (Kt.refl _ _).alloc _
  have be2 := be1.store 1 .nilIface
  have e2 : Ents W2 B S.G (S.E.set i ⟨.nilIface, 3, e.n⟩) := by
    have h1 := (h.ents.kt k0 trivial).set i hi e ⟨.nilIface, e.st, e.n⟩ he 1 .nilIface rfl
    have h2 := h1.set i hi ⟨.nilIface, e.st, e.n⟩ ⟨.nilIface, 3, e.n⟩ (by rw [List.getElem?_set_self (by rw [h.ents.len]; exact hi)]) 2 (.int .u8 3) rfl
    rw [List.set_set] at h2
    rw [hW2]
    exact h2.kt (p := fun _ => True) (fun _ _ _ h _ => h) trivial
  have k2 : Kt (fun t => t ≠ 70) w W2 := by
    have h1 : Kt (fun t => t ≠ 70) w (((w.alloc (.cells #[ptr S.G[i]] 61)).setCell ⟨S.G[i], 1, none⟩ .nilIface).setCell ⟨S.G[i], 2, none⟩ (.int .u8 3)) := ((k0.mono (fun _ _ => trivial)).setCell be1 (by simp) 1 .nilIface).setCell be2 (by simp) 2 _
    rw [hW2]
    exact h1
  have x2 : Box W2 w.heap.size #[ptr S.G[i]] 61 := by
    have hne : w.heap.size ≠ S.G[i] := fun e => by have := be.lt; omega
    have h1 := (x.other S.G[i] 1 .nilIface hne).other S.G[i] 2 (.int .u8 3) hne
    rw [hW2]
    exact h1
  have b2 : Below B w W2 := by
    have hb : B ≤ S.G[i] := h.ents.hG _ (List.getElem_mem _)
    have h1 := ((((Below.refl B w).alloc hB (.cells #[ptr S.G[i]] 61)).setCell (p := ⟨S.G[i], 1, none⟩) hb .nilIface).setCell (p := ⟨S.G[i], 2, none⟩) hb (.int .u8 3))
    rw [hW2]
    exact ⟨h1.os, h1.tape, h1.output, h1.size, h1.block⟩
  have r2 := h.rows.kt k2 (by decide) (by decide)
  have hbox : ∀ g ∈ S.G, ∃ cs, Box W2 g cs 70 := fun g hg => by
    obtain ⟨j, hj, rfl⟩ := List.getElem_of_mem hg
    have hl : j < (S.E.set i ⟨.nilIface, 3, e.n⟩).length := by rw [e2.len]; exact hj
    exact ⟨_, e2.en j hj _ (List.getElem?_eq_getElem hl)⟩
  have hmA : S.G[i] ∈ alv S.E S.G := alv_mem S.E S.G i e _ he h3 (List.getElem?_eq_getElem hi)
  have cd := deleteFunc_at r2.ra S.G[i] w.heap.size x2 (fun e => by have := (h.rows.ra.lt _ e).2; omega) (fun y hy => by
      obtain ⟨j, e', _, h2⟩ := mem_alv _ _ _ hy
      exact hbox y (List.mem_of_getElem? h2)) (hbox _ (List.getElem_mem _)) (List.length_pos_of_mem hmA)
  have ca : W2.cell? ⟨s, 2, none⟩ = some va := r2.box.cell 2
  have hov : alv (S.over i e).E (S.over i e).G = (alv S.E S.G).filter (· != S.G[i]) := alv_over S.E S.G i ⟨.nilIface, 3, e.n⟩ hi h.ents.len h.ents.nd rfl
  have HD : Hid (∀ (v' : Value) (w1 : World), W2.grownBy w1 va.ownBlock → w1.ownsRow B 61 1 v' ((alv S.E S.G).filter (· != S.G[i])).length (((alv S.E S.G).filter (· != S.G[i])).map ptr) → v'.ownBlock = va.ownBlock → To w B s (S.over i e) (w1.setCell ⟨s, 2, none⟩ v') ∧ w1.cell? ⟨s, 2, none⟩ = some va ∧ w1.frozen? ⟨s, 2, none⟩ = false ∧ ∃ a n c, v' = .slice a n c) := by
    intro v' w1 hg ho hv
    obtain ⟨r3, bx⟩ := r2.alive (A' := (alv S.E S.G).filter (· != S.G[i])) hg ho (fun k hk => .inl (hv ▸ hk))
    have kB : Kt (fun t => t ≠ 61 ∧ t ≠ 63) W2 (w1.setCell ⟨s, 2, none⟩ v') := ((Kt.refl _ _).grown hg 61 (fun k hk => ownsRow_box r2.ra k hk) (by simp)).setCell bx (by simp) 2 v'
    obtain ⟨a, c, hs⟩ := ownsRow_slice ho
    refine ⟨⟨⟨vt, v', vl, ⟨?_, e2.kt kB (by decide), h.ll, h.hn⟩⟩, ?_, (k2.mono (fun t ht => ht.2.2)).trans (kB.mono (fun t ht => ⟨ht.1, ht.2.1⟩))⟩, bx.cell 2, bx.frozen 2, a, _, c, hs⟩
    · rw [hov]
      exact r3
    · exact (b2.grown hg (Nat.le_trans hB b2.size) (fun k hk => (r2.ra.lt k hk).1)).setCell (p := ⟨s, 2, none⟩) h.rows.hs _
  obtain ⟨aa, ca', hva⟩ := ownsRow_slice r2.ra
  have hva2 : ∃ n, va = .slice aa n ca' := ⟨_, hva⟩
  clear hva
  obtain ⟨n, hva⟩ := hva2
  generalize ((alv S.E S.G).filter (· != S.G[i])) = Z at *
  have hW : (((w.alloc (.cells #[ptr S.G[i]] 61)).setCell ⟨S.G[i], 1, none⟩ .nilIface).setCell ⟨S.G[i], 2, none⟩ (.int .u8 3)).drew = W2 := hW2.symm
  generalize hq : S.G[i] = q at *
  clear h be be1 be2 x e2 k2 x2 b2 r2 hbox hmA hov hW2 k0 hq he
  subst hva
  unfold ptr at *
  go_enter Try.func32, Try.ntmps32
  go_wp2_with fail
  go_region
  clear hW cb ce1 ce2 f1 f2
  go_wp2_with fail
  refine Calls.mono cd ?_
  rintro r w1 ⟨v', rfl, ho, hv, hg⟩
  obtain ⟨hT, d3, f3, a, n', c, rfl⟩ := HD.out v' w1 hg ho hv
  have HT : Hid (To w B s (S.over i e) (w1.setCell ⟨s, 2, none⟩ (.slice a n' c))) := hT
  clear hT HD cd ho hv hg
  go_wp2
  go_end0
  exact ⟨rfl, HT.out⟩
end Go.Proofs.Ytjhhncbadkpbaaa
