/-
  The document's own Pick.
-/
import Derived.Test.YtjhhncbadkpbaaaRefTold
namespace Go.Proofs.Ytjhhncbadkpbaaa
open Go.RowKit
set_option maxRecDepth 20000 in
theorem rpick_empty {w : World} {B g : Nat} {V : RV} {R : RS} {P : List PV} (h : RB w B g V R P) (h0 : R.Ln = []) (p : Int) : Calls Try.prog 16 #[ptr g, .int .u64 p] w fun r w' => r = .returned (.tuple #[.int .i64 0, .int .i64 0, .bool false]) ∧ w' = w := by
  obtain ⟨a, c, hv⟩ := ownsRow_slice h.rl
  rw [h0] at hv
  have c3 : w.cell? ⟨g, 3, none⟩ = some (.slice a 0 c) := by rw [← show V.vl = .slice a 0 c from hv]; exact h.box.cell 3
  clear h hv
  unfold ptr
  go_enter Try.func16, Try.ntmps16
  go_wp2_with fail
  exact bodyPost_ret (v := .tuple #[.int .i64 0, .int .i64 0, .bool false]) (by simp [results, Try.results16, go_sem]) rfl ⟨rfl, rfl⟩
set_option maxRecDepth 2000000 in
set_option maxHeartbeats 8000000 in
theorem rpick_at {w : World} {B g : Nat} {V : RV} {R : RS} {P : List PV} (h : RB w B g V R P) (p i : Nat) (hp : p < 18446744073709551616) (h0 : 0 < R.Ln.length) (hN : R.Ln.length < 1000) (hk : R.Ln[p % R.Ln.length]? = some (i + 1)) (hi : i < R.St.length) (hSp : R.Sp.length = R.St.length) (hP : P.length = R.St.length) (hSl : R.St.length < 1000) (hTd : R.Td.length < 1000000)
 {Post : Ending → World → Prop} (d : Do3) (hd : d = doAt (P[i]'(by omega)).xs (R.Sp[i]'(by omega))) (hnb : (R.Sp[i]'(by omega))  < 100000) (RQ : RS) (nn : Nat) (hnn : Hid (R.Sp[i]? = some nn)) (hRQ : RQ = ({ R with Ln := R.Ln.eraseIdx (p % R.Ln.length), wk := false, now := i + 1, Sp := R.Sp.set i (nn + 1) } : RS).did d) (HPost : Hid (∀ w', RTo w B g V (RQ.fin i d.tell) P w' → Post (.returned (.tuple #[.int .i64 ((i + 1 : Nat) : Int), .int .i64 ((RQ.finSt d.tell : Nat) : Int), .bool true])) w')) :
    Calls Try.prog 16 #[ptr g, .int .u64 (p : Int)] w Post := by
  obtain ⟨i0, hi0, hz0, hz1, hz2⟩ := info_parts infoI
  obtain ⟨N, hNN⟩ : ∃ N, N = R.Ln.length := ⟨_, rfl⟩
  have HN : Hid (N = R.Ln.length) := hNN
  rw [← hNN] at hRQ
  obtain ⟨K, hK⟩ : ∃ K, K = p % N := ⟨_, rfl⟩
  rw [← hK] at hRQ
  have HRQ : Hid _ := hRQ
  clear hRQ
  have hKN : K < N := by rw [hK]; exact Nat.mod_lt _ (by omega)
  obtain ⟨ql, cl, hvl, xK, _⟩ := ics_at h.rl rfl K (by rw [← hNN]; exact hKN)
  have eK : (R.Ln[K]'(by rw [← hNN]; exact hKN)) = i + 1 := by
    rw [← hNN, ← hK] at hk
    exact (List.getElem?_eq_some_iff.1 hk).2
  rw [eK] at xK
  rw [← hNN] at hvl
  have c3 : w.cell? ⟨g, 3, none⟩ = some (.slice (some ⟨ql, 0, none⟩) N cl) := by rw [← hvl]; exact h.box.cell 3
  obtain ⟨Z, hZ⟩ : ∃ Z : Int, Z = ((i + 1 : Nat) : Int) := ⟨_, rfl⟩
  rw [← hZ] at xK
  obtain ⟨Pz, hPz⟩ : ∃ Pz : Int, Pz = (p : Int) := ⟨_, rfl⟩
  have htm : Pz.tmod (N : Int) = (K : Int) := by
    rw [hPz, Int.tmod_eq_emod_of_nonneg (by omega), hK]
    omega
  have hKi : (K : Int) < (N : Int) := by omega
  have hN3 : (N : Int) < 1000 := by omega
  have hzi : Z - 1 = (i : Int) := by omega
  have hnz : ¬ ((N : Int) = 0) := by omega
  have hcl : N ≤ cl ∧ cl ≤ 9223372036854775807 := by
    rcases h.rl.2 with ⟨e, _⟩ | ⟨g', cap, cur, e, _, _, h1, h2, _⟩
    · rw [hvl] at e; cases e
    · rw [hvl] at e
      injection e with _ e1 e2
      subst e2
      unfold maxLen at h2
      omega
  have Hh : Hid (RB w B g V R P) := h
  have Hvl : Hid (V.vl = .slice (some ⟨ql, 0, none⟩) N cl) := hvl
  have HK : Hid (K = p % N) := hK
  have HZ : Hid (Z = ((i + 1 : Nat) : Int)) := hZ
  have hz0' : 0 ≤ Z := by omega
  have hz1' : Z < 1000 := by omega
  rw [← hPz]
  clear h hk hK eK hvl hZ hPz hp h0 hNN
  have HCS : Hid (∀ q ∈ [((⟨g, 3, none⟩ : Addr), (.slice (some ⟨ql, 0, none⟩) N cl : Value))], w.drew.cell? q.1 = some q.2) := fun q hq => by
    simp at hq
    subst hq
    exact c3
  obtain ⟨K1, hK1⟩ : ∃ K1, K1 = K + 1 := ⟨_, rfl⟩
  have hwK : IntKind.i64.wrap ((K : Int) + 1) = (K1 : Int) := by rw [IntKind.wrap_i64]; omega
  have hK1N : (K1 : Int) ≤ (N : Int) := by omega
  have hoz : ∃ oz, (if cl = K1 then some (⟨ql, 0, none⟩ : Addr) else some ⟨ql, K1, none⟩) = some ⟨ql, oz, none⟩ ∧ (cl ≠ K1 → oz = K1) := by
    by_cases h1 : cl = K1
    · exact ⟨0, by rw [if_pos h1], fun h => absurd h1 h⟩
    · exact ⟨K1, by rw [if_neg h1], fun _ => rfl⟩
  obtain ⟨oz, hoz, hoz2⟩ := hoz
  have L1 : Hid _ := line_facts Hh.out HN.out hKN hK1 Hvl.out hoz2 hcl.1
  have HK1 : Hid (K1 = K + 1) := hK1
  clear hoz2 hK1
  have hNc : (N : Int) ≤ (cl : Int) := by omega
  have hKc : (K : Int) ≤ (cl : Int) := by omega
  unfold ptr
  go_enter Try.func16, Try.ntmps16
  go_wp2_with fail
  refine wp_region_any (by kernel_rfl) ?_
  refine wpAny_take (i := 0) (v := ?_) rfl (by kernel_rfl) (by kernel_rfl) (by kernel_rfl) (fun _ _ _ h => h) (Or.inl ⟨by rfl, ?_⟩) ?_
  rotate_left
  · intro u
    go_simp
    with_reducible rfl
  simp only [Act.put, List.setIfInBounds_toArray, List.set_cons_zero, List.set_cons_succ, List.getElem_toArray, List.getElem_cons_zero]
  refine wpAny_take (i := 2) (v := ?_) rfl (by kernel_rfl) (by kernel_rfl) (by kernel_rfl) (fun _ _ _ h => h) (Or.inl ⟨by rfl, ?_⟩) ?_
  rotate_left
  · intro u
    go_simp
    with_reducible rfl
  simp only [Act.put, List.setIfInBounds_toArray, List.set_cons_zero, List.set_cons_succ, List.getElem_toArray, List.getElem_cons_zero, List.getElem_cons_succ]
  refine wpAny_take (i := 3) (v := ?_) rfl (by kernel_rfl) (by kernel_rfl) (by kernel_rfl) (fun _ _ _ h => h) (Or.inl ⟨by rfl, ?_⟩) ?_
  rotate_left
  · intro u
    go_simp
    with_reducible rfl
  simp only [Act.put, List.setIfInBounds_toArray, List.set_cons_zero, List.set_cons_succ, List.getElem_toArray, List.getElem_cons_zero, List.getElem_cons_succ]
  refine wpAny_take (i := 4) (v := ?_) rfl (by kernel_rfl) (by kernel_rfl) (by kernel_rfl) (fun _ _ _ h => h) (Or.inl ⟨by rfl, ?_⟩) ?_
  rotate_left
  · intro u
    go_simp
    with_reducible rfl
  simp only [Act.put, List.setIfInBounds_toArray, List.set_cons_zero, List.set_cons_succ, List.getElem_toArray, List.getElem_cons_zero, List.getElem_cons_succ]
  refine wpAny_take (i := 6) (v := ?_) rfl (by kernel_rfl) (by kernel_rfl) (by kernel_rfl) (fun _ _ _ h => h) (Or.inl ⟨by rfl, ?_⟩) ?_
  rotate_left
  · intro u
    go_simp
    with_reducible rfl
  simp only [Act.put, List.setIfInBounds_toArray, List.set_cons_zero, List.set_cons_succ, List.getElem_toArray, List.getElem_cons_zero, List.getElem_cons_succ]
  refine wpAny_take (i := 9) (v := ?_) rfl (by kernel_rfl) (by kernel_rfl) (by kernel_rfl) (fun _ _ _ h => h) (Or.inl ⟨by rfl, ?_⟩) ?_
  rotate_left
  · intro u
    go_simp
    with_reducible rfl
  simp only [Act.put, List.setIfInBounds_toArray, List.set_cons_zero, List.set_cons_succ, List.getElem_toArray, List.getElem_cons_zero, List.getElem_cons_succ]
  refine wpAny_take (i := 10) (v := ?_) rfl (by kernel_rfl) (by kernel_rfl) (by kernel_rfl) (fun _ _ _ h => h) (Or.inl ⟨by rfl, ?_⟩) ?_
  rotate_left
  · intro u
    go_simp
    with_reducible rfl
  simp only [Act.put, List.setIfInBounds_toArray, List.set_cons_zero, List.set_cons_succ, List.getElem_toArray, List.getElem_cons_zero, List.getElem_cons_succ]
  refine wpAny_take (i := 11) (v := ?_) rfl (by kernel_rfl) (by kernel_rfl) (by kernel_rfl) (fun _ _ _ h => h) (Or.inl ⟨by rfl, ?_⟩) ?_
  rotate_left
  · intro u
    go_simp
    with_reducible rfl
  simp only [Act.put, List.setIfInBounds_toArray, List.set_cons_zero, List.set_cons_succ, List.getElem_toArray, List.getElem_cons_zero, List.getElem_cons_succ]
  refine wpAny_take (i := 13) (v := ?_) rfl (by kernel_rfl) (by kernel_rfl) (by kernel_rfl) (fun _ _ _ h => h) (Or.inl ⟨by rfl, ?_⟩) ?_
  rotate_left
  · intro u
    go_simp
    with_reducible rfl
  simp only [Act.put, List.setIfInBounds_toArray, List.set_cons_zero, List.set_cons_succ, List.getElem_toArray, List.getElem_cons_zero, List.getElem_cons_succ]
  refine wpAny_take (i := 14) (v := ?_) rfl (by kernel_rfl) (by kernel_rfl) (by kernel_rfl) (fun _ _ _ h => h) (Or.inl ⟨by rfl, ?_⟩) ?_
  rotate_left
  · intro u
    go_simp
    with_reducible rfl
  simp only [Act.put, List.setIfInBounds_toArray, List.set_cons_zero, List.set_cons_succ, List.getElem_toArray, List.getElem_cons_zero, List.getElem_cons_succ]
  refine wpAny_of_E (C := SlotsCells [(36, .pointer (some ⟨g, 3, none⟩)), (43, .pointer (some ⟨g, 3, none⟩))] [(⟨g, 3, none⟩, .slice (some ⟨ql, 0, none⟩) N cl)]) (late := [19]) _ _ _ _ ?_
  refine wpAnyE_take (i := 5) (v := .slice (some ⟨ql, 0, none⟩) N cl) rfl (by kernel_rfl) (by kernel_rfl) (by kernel_rfl) (by kernel_rfl) (by kernel_rfl) (by kernel_rfl) (fun _ _ _ h => h) ?_ (fun fr u h => (SlotsCells.put 37 _ (by rfl)).1 h) (fun fr u h => (SlotsCells.put 37 _ (by rfl)).2 h) ?_ ?_
  · intro fr u hh
    obtain ⟨e1, e2⟩ := hh.load (s := 36) (p := ⟨g, 3, none⟩) (v := .slice (some ⟨ql, 0, none⟩) N cl) (by simp) (by simp)
    exact ⟨rfl, by simp [execOp, e1, go_sem, e2]⟩
  · exact ⟨fun q hq => by simp at hq; rcases hq with rfl | rfl <;> rfl, HCS.out⟩
  simp only [Act.put, List.setIfInBounds_toArray, List.set_cons_zero, List.set_cons_succ, List.getElem_toArray, List.getElem_cons_zero, List.getElem_cons_succ]
  refine wpAnyE_take (i := 12) (v := .slice (some ⟨ql, 0, none⟩) N cl) rfl (by kernel_rfl) (by kernel_rfl) (by kernel_rfl) (by kernel_rfl) (by kernel_rfl) (by kernel_rfl) (fun _ _ _ h => h) ?_ (fun fr u h => (SlotsCells.put 44 _ (by rfl)).1 h) (fun fr u h => (SlotsCells.put 44 _ (by rfl)).2 h) ?_ ?_
  · intro fr u hh
    obtain ⟨e1, e2⟩ := hh.load (s := 43) (p := ⟨g, 3, none⟩) (v := .slice (some ⟨ql, 0, none⟩) N cl) (by simp) (by simp)
    exact ⟨rfl, by simp [execOp, e1, go_sem, e2]⟩
  · exact ⟨fun q hq => by simp at hq; rcases hq with rfl | rfl <;> rfl, HCS.out⟩
  simp only [Act.put, List.setIfInBounds_toArray, List.set_cons_zero, List.set_cons_succ, List.getElem_toArray, List.getElem_cons_zero, List.getElem_cons_succ]
  refine wpAnyE_pure (i := 7) (v := ?_) rfl (by kernel_rfl) (by kernel_rfl) (by kernel_rfl) (by kernel_rfl) (fun _ _ _ h => h) (fun fr u h => (SlotsCells.put 39 _ (by rfl)).1 h) (fun fr u h => (SlotsCells.put 39 _ (by rfl)).2 h) (.inr ⟨fun q hq => by simp at hq; rcases hq with rfl | rfl <;> rfl, HCS.out⟩) (Or.inl ⟨by rfl, ?_⟩) ?_
  rotate_left
  · intro u
    go_simp
    with_reducible rfl
  simp only [Act.put, List.setIfInBounds_toArray, List.set_cons_zero, List.set_cons_succ, List.getElem_toArray, List.getElem_cons_zero, List.getElem_cons_succ]
  refine wpAnyE_pure (i := 15) (v := ?_) rfl (by kernel_rfl) (by kernel_rfl) (by kernel_rfl) (by kernel_rfl) (fun _ _ _ h => h) (fun fr u h => (SlotsCells.put 47 _ (by rfl)).1 h) (fun fr u h => (SlotsCells.put 47 _ (by rfl)).2 h) (.inr ⟨fun q hq => by simp at hq; rcases hq with rfl | rfl <;> rfl, HCS.out⟩) (Or.inl ⟨by rfl, ?_⟩) ?_
  rotate_left
  · intro u
    go_simp
    with_reducible rfl
  simp only [Act.put, List.setIfInBounds_toArray, List.set_cons_zero, List.set_cons_succ, List.getElem_toArray, List.getElem_cons_zero, List.getElem_cons_succ]
  refine wpAnyE_some (rs := [1]) (by kernel_rfl) (by simp) (fun i hi => ?_)
  simp only [List.mem_cons, List.not_mem_nil, or_false] at hi
  subst hi
  refine wpOp_step rfl (fun Kc hKc => ?_)
  go_simp
  refine hKc _ _ ⟨.inr (.inr ⟨fun q hq => by simp at hq; rcases hq with rfl | rfl <;> rfl, fun q hq => by simp at hq; subst hq; exact L1.out.1⟩), ?_⟩
  clear hKc Kc
  refine wpAnyE_some (rs := [8]) (by kernel_rfl) (by simp) (fun i hi => ?_)
  simp only [List.mem_cons, List.not_mem_nil, or_false] at hi
  subst hi
  refine wpOp_step rfl (fun Kc hKc => ?_)
  refine step_append_at rfl (.tmp 33) (.tmp 39) 39 rfl B 3 i0 (.int .i64 0) 1 8 Try.underlying39 hi0 hz0 hz1 hz2 rfl (by decide) (.slice (some ⟨w.heap.size, 0, none⟩) 0 0) 0 [] rfl L1.out.2.1 ⟨ql, 0, none⟩ K cl ((ics R.Ln).take K) rfl ?_ L1.out.2.2.1 ?_ ?_ ?_ ?_ ?_
  · rw [List.length_take, ics_length, ← HN.out]; omega
  · intro u hu; obtain ⟨_, _, rfl⟩ := List.mem_map.1 (List.mem_of_mem_take hu); rfl
  · unfold maxLen; omega
  · omega
  · have h1 := Hh.out.hB; show B ≤ (w.alloc (.cells #[] 3)).heap.size; simp; omega
  intro v2 W2 ho2 hg2 hw2
  obtain ⟨x2, xs2, hB2, ⟨a2, n2, c2', hv2⟩, L2⟩ := L1.out.2.2.2 v2 W2 ho2 hg2 hw2
  refine hKc _ _ ⟨.inr (.inr ⟨fun q hq => by simp at hq; rcases hq with rfl | rfl <;> rfl, fun q hq => by simp at hq; subst hq; exact x2⟩), ?_⟩
  clear hKc Kc hg2 hw2
  refine wpAnyE_some (rs := [16]) (by kernel_rfl) (by simp) (fun i hi => ?_)
  simp only [List.mem_cons, List.not_mem_nil, or_false] at hi
  subst hi
  refine wpOp_step rfl (fun Kc hKc => ?_)
  refine step_append_at rfl (.tmp 40) (.tmp 47) 39 rfl B 3 i0 (.int .i64 0) 1 8 Try.underlying39 hi0 hz0 hz1 hz2 rfl (by decide) v2 (0 + K) ([] ++ (ics R.Ln).take K) rfl ho2 ⟨ql, oz, none⟩ (N - K1) (cl - K1) ((ics R.Ln).drop K1) rfl ?_ xs2 ?_ ?_ ?_ hB2 ?_
  · rw [List.length_drop, ics_length, ← HN.out]; omega
  · intro u hu; obtain ⟨_, _, rfl⟩ := List.mem_map.1 (List.mem_of_mem_drop hu); rfl
  · unfold maxLen; omega
  · omega
  intro v3 W3 ho3 hg3 hw3
  obtain ⟨x3, f3, ⟨a3, n3, c3', hv3⟩, T3⟩ := L2 v3 W3 ho3 hg3 hw3
  subst hv3
  refine hKc _ _ ⟨.inr (.inr ⟨fun q hq => by simp at hq; rcases hq with rfl | rfl <;> rfl, fun q hq => by simp at hq; subst hq; exact x3⟩), ?_⟩
  clear hKc Kc ho3 hg3 hw3 ho2 xs2 L2
  refine wpAnyE_pure (i := 17) (v := ?_) rfl (by kernel_rfl) (by kernel_rfl) (by kernel_rfl) (by kernel_rfl) (fun _ _ _ h => h) (fun fr u h => (SlotsCells.put 49 _ (by rfl)).1 h) (fun fr u h => (SlotsCells.put 49 _ (by rfl)).2 h) (.inr ⟨fun q hq => by simp at hq; rcases hq with rfl | rfl <;> rfl, fun q hq => by simp at hq; subst hq; exact x3⟩) (Or.inl ⟨by rfl, ?_⟩) ?_
  rotate_left
  · intro u
    go_simp
    with_reducible rfl
  simp only [Act.put, List.setIfInBounds_toArray, List.set_cons_zero, List.set_cons_succ, List.getElem_toArray, List.getElem_cons_zero, List.getElem_cons_succ]
  refine wpAnyE_pure (i := 18) (v := ?_) rfl (by kernel_rfl) (by kernel_rfl) (by kernel_rfl) (by kernel_rfl) (fun _ _ _ h => h) (fun fr u h => (SlotsCells.put 50 _ (by rfl)).1 h) (fun fr u h => (SlotsCells.put 50 _ (by rfl)).2 h) (.inr ⟨fun q hq => by simp at hq; rcases hq with rfl | rfl <;> rfl, fun q hq => by simp at hq; subst hq; exact x3⟩) (Or.inl ⟨by rfl, ?_⟩) ?_
  rotate_left
  · intro u
    go_simp
    with_reducible rfl
  simp only [Act.put, List.setIfInBounds_toArray, List.set_cons_zero, List.set_cons_succ, List.getElem_toArray, List.getElem_cons_zero, List.getElem_cons_succ]
  refine wpAnyE_some (rs := [19]) (by kernel_rfl) (by simp) (fun i hi => ?_)
  simp only [List.mem_cons, List.not_mem_nil, or_false] at hi
  subst hi
  refine wpOp_step rfl (fun Kc hKc => ?_)
  go_simp
  refine hKc _ _ ⟨.inr (.inl rfl), ?_⟩
  clear hKc Kc
  refine wpAnyE_done (by kernel_rfl) ?_ _
  have HT3 : Hid (RTo w B g V { R with Ln := R.Ln.eraseIdx K } P (W3.setCell ⟨g, 3, none⟩ (.slice a3 n3 c3'))) := T3
  clear T3 x3 f3 x2 hB2 HCS L1 c3 xK htm hwK hoz
  generalize W3.setCell ⟨g, 3, none⟩ (.slice a3 n3 c3') = W4 at HT3 ⊢
  obtain ⟨V1, h1, hF1⟩ := HT3.out.is
  have c6 : W4.cell? ⟨g, 6, none⟩ = some (.int .i64 (R.now : Int)) := h1.box.cell 6
  have f6 := h1.box.frozen 6
  have T5 := h1.flag 6 (.int .i64 Z) R.wk (i + 1) (by rw [HZ.out]; rfl)
  obtain ⟨W5, hW5⟩ : ∃ W5, W4.setCell ⟨g, 6, none⟩ (.int .i64 Z) = W5 := ⟨_, rfl⟩
  rw [hW5] at T5
  obtain ⟨V2, h2, hF2⟩ := T5.is
  have c5 : W5.cell? ⟨g, 5, none⟩ = some (.bool R.wk) := h2.box.cell 5
  have f5 := h2.box.frozen 5
  have T6 := h2.flag 5 (.bool false) false (i + 1) rfl
  obtain ⟨W6, hW6⟩ : ∃ W6, W5.setCell ⟨g, 5, none⟩ (.bool false) = W6 := ⟨_, rfl⟩
  rw [hW6] at T6
  obtain ⟨V3, h3, hF3⟩ := T6.is
  have T56 := RTo.trans T5 hF2 T6
  have TT6 := RTo.trans HT3.out hF1 T56
  have hF13 : ∀ k, RF g V3 k → RF g V k ∨ w.heap.size ≤ k := fun k hk => by
    rcases hF3 k hk with e | e
    · rcases hF2 k e with e | e
      · exact hF1 k e
      · exact .inr (Nat.le_trans HT3.out.bel.size e)
    · exact .inr (Nat.le_trans (Nat.le_trans HT3.out.bel.size T5.bel.size) e)
  have HTT6 : Hid (RTo w B g V { R with Ln := R.Ln.eraseIdx K, wk := false, now := i + 1 } P W6) := TT6
  have HF3 : Hid (∀ k, RF g V3 k → RF g V k ∨ w.heap.size ≤ k) := hF13
  obtain ⟨dg, hdg⟩ : ∃ dg, dg = W6.heap.size := ⟨_, rfl⟩
  have Hdg : Hid (dg = W6.heap.size) := hdg
  have b7 : Below W6.heap.size W6 (W6.alloc (.cells #[.int .i64 0, .int .i64 0, .bool false] 45)) := (Below.refl _ _).alloc (Nat.le_refl _) _
  have h7 := h3.below b7
  have x7 := Box.new W6 #[.int .i64 0, .int .i64 0, .bool false] 45
  obtain ⟨qn, cn, hvn, xn, fn⟩ := ics_at h7.rn rfl i (by show i < R.Sp.length; omega)
  change V3.vn = .slice (some ⟨qn, 0, none⟩) R.Sp.length cn at hvn
  have hiSp : i < R.Sp.length := by omega
  have hiP : i < P.length := by omega
  change (W6.alloc (.cells #[.int .i64 0, .int .i64 0, .bool false] 45)).cell? ⟨qn, i, none⟩ = some (.int .i64 ((R.Sp[i] : Nat) : Int)) at xn
  have cvn : (W6.alloc (.cells #[.int .i64 0, .int .i64 0, .bool false] 45)).cell? ⟨g, 2, none⟩ = some (.slice (some ⟨qn, 0, none⟩) R.Sp.length cn) := by rw [← hvn]; exact h7.box.cell 2
  obtain ⟨qp, cp, hvp, xp'⟩ := ownsRow_cell h7.rp i hiP
  have xp : (W6.alloc (.cells #[.int .i64 0, .int .i64 0, .bool false] 45)).cell? ⟨qp, i, none⟩ = some (.slice (P[i]).la (P[i]).ln (P[i]).lc) := by rw [xp']; simp [psC, hiP]
  have cvp : (W6.alloc (.cells #[.int .i64 0, .int .i64 0, .bool false] 45)).cell? ⟨g, 0, none⟩ = some (.slice (some ⟨qp, 0, none⟩) P.length cp) := by rw [← hvp]; exact h7.box.cell 0
  obtain ⟨hdr, hdl⟩ := h7.pd P[i] (List.getElem_mem hiP)
  have Hh3 : Hid (RB W6 B g V3 { R with Ln := R.Ln.eraseIdx K, wk := false, now := i + 1 } P) := h3
  have Hh7 : Hid (RB (W6.alloc (.cells #[.int .i64 0, .int .i64 0, .bool false] 45)) B g V3 { R with Ln := R.Ln.eraseIdx K, wk := false, now := i + 1 } P) := h7
  have Hx7 : Hid (Box (W6.alloc (.cells #[.int .i64 0, .int .i64 0, .bool false] 45)) W6.heap.size #[.int .i64 0, .int .i64 0, .bool false] 45) := x7
  have Hvn : Hid (V3.vn = .slice (some ⟨qn, 0, none⟩) R.Sp.length cn) := hvn
  obtain ⟨n, hn⟩ : ∃ n, n = R.Sp[i] := ⟨_, rfl⟩
  rw [← hn] at xn
  have Hn : Hid (R.Sp[i]? = some n) := by rw [hn]; exact List.getElem?_eq_getElem hiSp
  have HSpl : Hid (R.Sp.length = R.St.length ∧ P.length = R.St.length ∧ i < R.St.length) := ⟨hSp, hP, hi⟩
  obtain ⟨la, hla⟩ : ∃ la, la = (P[i]).la := ⟨_, rfl⟩
  obtain ⟨ln, hln⟩ : ∃ ln, ln = (P[i]).ln := ⟨_, rfl⟩
  obtain ⟨lc, hlc⟩ : ∃ lc, lc = (P[i]).lc := ⟨_, rfl⟩
  rw [← hla, ← hln, ← hlc] at xp
  rw [← hla] at hdr
  rw [← hln] at hdl
  have Hdo : Hid (d = doAt (P[i]).xs n) := by rw [hn]; exact hd
  obtain ⟨xs, hxs⟩ : ∃ xs, xs = (P[i]).xs := ⟨_, rfl⟩
  rw [← hxs] at hdr hdl Hdo
  have hn1' : n < 100000 := by rw [hn]; exact hnb
  have hnI : (n : Int) < 100000 := by omega
  have hSpi : (R.Sp.length : Int) < 1000 := by omega
  have hiI : (i : Int) < (R.Sp.length : Int) := by omega
  have hiI2 : (i : Int) < (P.length : Int) := by omega
  clear T5 T6 T56 TT6 hF1 hF2 hF3 hF13 h1 h2 h3 h7 x7 hvn hn hla hln hlc hxs hvp xp' hdg b7 HT3 hd hnb hiSp hiP hSp hP
  obtain ⟨NS, hNS⟩ : ∃ NS, NS = R.Sp.length := ⟨_, rfl⟩
  obtain ⟨NP, hNP⟩ : ∃ NP, NP = P.length := ⟨_, rfl⟩
  rw [← hNS] at cvn Hvn hSpi hiI
  rw [← hNP] at cvp hiI2
  clear hNS hNP
  by_cases hnl : n < ln
  · obtain ⟨b, o, hla', hcs, hm⟩ := hdr (by omega)
    obtain ⟨x0, x1, x2⟩ := hcs n (by omega)
    have hdx : xs[n]'(by omega) = d := by
      rw [Hdo.out]; unfold doAt
      rw [List.getElem?_eq_getElem (by omega)]; rfl
    rw [hdx] at x0 x1 x2
    rw [hla'] at xp
    have hni : (n : Int) < (ln : Int) := by omega
    have hgl := Hh7.out.box.lt
    clear hcs hdx hm
    go_wp2_with fail
    go_quiet (fail)
    go_wp2_with fail
    go_region
    rw [← Hdg.out]
    clear hdr
    have hb8 : Below dg W6 (((((W6.alloc (.cells #[.int .i64 0, .int .i64 0, .bool false] 45)).drewN (nq + 1)).setCell ⟨dg, 0, none⟩ (.int .i64 d.tell)).setCell ⟨dg, 1, none⟩ (.int .i64 d.wake)).setCell ⟨dg, 2, none⟩ (.bool d.inner)) := by
      have e := Hdg.out
      exact (((Below.drewN (by rw [e]; exact (Below.refl _ _).alloc (Nat.le_refl _) _) (nq + 1)).setCell (Nat.le_refl dg) _).setCell (Nat.le_refl dg) _).setCell (Nat.le_refl dg) _
    have hx8 : Box (((((W6.alloc (.cells #[.int .i64 0, .int .i64 0, .bool false] 45)).drewN (nq + 1)).setCell ⟨dg, 0, none⟩ (.int .i64 d.tell)).setCell ⟨dg, 1, none⟩ (.int .i64 d.wake)).setCell ⟨dg, 2, none⟩ (.bool d.inner)) dg (doC d) 45 := by
      have h1 := Hx7.out
      rw [← Hdg.out] at h1
      exact (((h1.drew (nq + 1)).store 0 (.int .i64 d.tell)).store 1 (.int .i64 d.wake)).store 2 (.bool d.inner)
    clear Hx7 Hh7 x0 x1 x2 xp xn cvn cvp fn hgl
    generalize (((((W6.alloc (.cells #[.int .i64 0, .int .i64 0, .bool false] 45)).drewN (nq + 1)).setCell ⟨dg, 0, none⟩ (.int .i64 d.tell)).setCell ⟨dg, 1, none⟩ (.int .i64 d.wake)).setCell ⟨dg, 2, none⟩ (.bool d.inner)) = W8 at hb8 hx8 ⊢
    have HW8 : Hid (RTo w B g V { R with Ln := R.Ln.eraseIdx K, wk := false, now := i + 1 } P W8 ∧ RB W8 B g V3 { R with Ln := R.Ln.eraseIdx K, wk := false, now := i + 1 } P ∧ Box W8 dg (doC d) 45) := by
      have hb8' : Below W6.heap.size W6 W8 := by rw [← Hdg.out]; exact hb8
      have h8 := Hh3.out.below hb8'
      exact ⟨RTo.trans HTT6.out HF3.out ⟨⟨V3, h8, fun _ hk => .inl hk⟩, hb8'.mono Hh3.out.hB, KtF.of (Kt.below hb8')⟩, h8, hx8⟩
    clear hb8 hx8
    have hW8 : RTo w B g V { R with Ln := R.Ln.eraseIdx K, wk := false, now := i + 1 } P W8 ∧ RB W8 B g V3 { R with Ln := R.Ln.eraseIdx K, wk := false, now := i + 1 } P ∧ Box W8 dg (doC d) 45 := HW8.out
    obtain ⟨TW8, hR8, hx8⟩ := hW8
    obtain ⟨cqn, xqn⟩ := ownsRow_box hR8.rn qn (by rw [Hvn.out]; rfl)
    have cvn8 : W8.cell? ⟨g, 2, none⟩ = some (.slice (some ⟨qn, 0, none⟩) NS cn) := by rw [← Hvn.out]; exact hR8.box.cell 2
    have xn8 : W8.cell? ⟨qn, i, none⟩ = some (.int .i64 (n : Int)) := by
      obtain ⟨hl, hv⟩ := List.getElem?_eq_some_iff.1 Hn.out
      obtain ⟨q', c', e', y', _⟩ := ics_at hR8.rn rfl i hl
      rw [Hvn.out] at e'
      injection e' with e'
      injection e' with e'
      injection e' with e'
      subst e'
      change W8.cell? ⟨qn, i, none⟩ = some (.int .i64 ((R.Sp[i] : Nat) : Int)) at y'
      rw [hv] at y'
      exact y'
    have fn8 := xqn.frozen i
    have T10 := hR8.vnSet (q := qn) (by rw [Hvn.out]; rfl) i (n + 1)
    rw [show ((n + 1 : Nat) : Int) = (n : Int) + 1 by omega] at T10
    have hx10 := hx8.other qn i (.int .i64 ((n : Int) + 1)) (hx8.ne xqn (by decide))
    obtain ⟨W10, hW10⟩ : ∃ W10, W8.setCell ⟨qn, i, none⟩ (.int .i64 ((n : Int) + 1)) = W10 := ⟨_, rfl⟩
    rw [hW10] at T10 hx10
    obtain ⟨V4, h4, hF4⟩ := T10.is
    have TT10 := RTo.trans TW8 HF3.out T10
    have hF14 : ∀ k, RF g V4 k → RF g V k ∨ w.heap.size ≤ k := fun k hk => by
      rcases hF4 k hk with e | e
      · exact HF3.out k e
      · exact .inr (Nat.le_trans TW8.bel.size e)
    obtain ⟨R2, hR2⟩ : ∃ R2 : RS, R2 = { R with Ln := R.Ln.eraseIdx K, wk := false, now := i + 1, Sp := R.Sp.set i (n + 1) } := ⟨_, rfl⟩
    have HH4 : Hid (RB W10 B g V4 R2 P) := by rw [hR2]; exact h4
    have HTT10 : Hid (RTo w B g V R2 P W10) := by rw [hR2]; exact TT10
    have HF4 : Hid (∀ k, RF g V4 k → RF g V k ∨ w.heap.size ≤ k) := hF14
    have HX10 : Hid (Box W10 dg (doC d) 45) := hx10
    have HR2 : Hid (R2 = { R with Ln := R.Ln.eraseIdx K, wk := false, now := i + 1, Sp := R.Sp.set i (n + 1) }) := hR2
    have e1 : W10.cell? ⟨dg, 1, none⟩ = some (.int .i64 d.wake) := hx10.cell 1
    have e0 : W10.cell? ⟨dg, 0, none⟩ = some (.int .i64 d.tell) := hx10.cell 0
    clear TW8 hR8 hx8 xqn T10 hx10 h4 hF4 TT10 hF14 hR2 HW8
    have HP4 : Hid (Pt w B g V P R2 W10 V4) := ⟨HH4.out, HTT10.out, HF4.out⟩
    have HL2 : Hid (R2.St.length = R.St.length ∧ R2.Ln.length < 1000) := by
      rw [HR2.out]
      refine ⟨rfl, ?_⟩
      show (R.Ln.eraseIdx K).length < 1000
      have := List.length_eraseIdx_le R.Ln K
      omega
    clear HH4 HTT10 HF4 hW5 hW6 c6 f6 c5 f5
    by_cases hw0 : d.wake = 0
    · have HRp : Hid (R2 = R2.did d) := by unfold RS.did; rw [if_pos hw0]; exact rfl
      obtain ⟨Rp, hRp⟩ : ∃ Rp, Rp = R2 := ⟨_, rfl⟩
      have HL : Hid (Rp.St.length = R.St.length ∧ Rp.Ln.length < 2000) := by have := HL2.out; rw [hRp]; exact ⟨this.1, by omega⟩
      have HP : Hid (Pt w B g V P Rp W10 V4) := by rw [hRp]; exact HP4.out
      have HRq : Hid (Rp = R2.did d) := by rw [hRp]; exact HRp.out
      have HX : Hid (Box W10 dg (doC d) 45) := HX10.out
      rw [hw0] at e1
      clear HRp hRp HP4 HX10 HL2
      have HRQe : Hid (RQ = Rp) := by
        have h1 := HRQ.out
        have h2 := HRq.out
        rw [HR2.out] at h2
        rw [h1, h2]
        have h3 := Hn.out
        rw [hnn.out] at h3
        injection h3 with h3
        rw [h3]
        exact rfl
      obtain ⟨V5, P5⟩ := HP.out.now0
      have c6 : W10.cell? ⟨g, 6, none⟩ = some (.int .i64 (Rp.now : Int)) := HP.out.rb.box.cell 6
      have f6 := HP.out.rb.box.frozen 6
      have hx13 := HX.out.other g 6 (.int .i64 0) (HX.out.ne HP.out.rb.box (by decide))
      obtain ⟨W13, hW13⟩ : ∃ W13, W10.setCell ⟨g, 6, none⟩ (.int .i64 0) = W13 := ⟨_, rfl⟩
      rw [hW13] at P5 hx13
      have e13 : W13.cell? ⟨dg, 0, none⟩ = some (.int .i64 d.tell) := hx13.cell 0
      have c5 : W13.cell? ⟨g, 5, none⟩ = some (.bool Rp.wk) := P5.rb.box.cell 5
      obtain ⟨qs, cs, cvs, xs13, fs13, hvs⟩ := P5.rb.stat i (by show i < Rp.St.length; rw [HL.out.1]; exact hi)
      obtain ⟨NT, hNT⟩ : ∃ NT, NT = Rp.St.length := ⟨_, rfl⟩
      change W13.cell? ⟨g, 1, none⟩ = some (.slice (some ⟨qs, 0, none⟩) Rp.St.length cs) at cvs
      rw [← hNT] at cvs
      have HNT : Hid (NT = Rp.St.length) := hNT
      have hiT : (i : Int) < (NT : Int) := by have h1 := HL.out.1; omega
      have hNT3 : (NT : Int) < 1000 := by have h1 := HL.out.1; omega
      obtain ⟨y13, hy13⟩ : ∃ y : Int, W13.cell? ⟨qs, i, none⟩ = some (.int .i64 y) := ⟨_, xs13⟩
      have HP5 : Hid (Pt w B g V P { Rp with now := 0 } W13 V5) := P5
      have Hvs : Hid (V5.vs.ownBlock = some qs) := hvs
      obtain ⟨tl, htl⟩ : ∃ tl, tl = d.tell := ⟨_, rfl⟩
      rw [← htl] at e13
      have HPo : Hid (∀ w', RTo w B g V (Rp.fin i tl) P w' → Post (.returned (.tuple #[.int .i64 Z, .int .i64 ((Rp.finSt tl : Nat) : Int), .bool true])) w') := fun w' hw' => by
        have := HPost.out w' (by rw [HRQe.out, ← htl]; exact hw')
        rw [HRQe.out, ← htl] at this
        rw [HZ.out]
        exact this
      obtain ⟨bk, hbk⟩ : ∃ bk, bk = Rp.wk := ⟨_, rfl⟩
      rw [← hbk] at c5
      have Hbk : Hid (bk = Rp.wk) := hbk
      have Htl : Hid (tl = d.tell) := htl
      clear xs13 P5 hx13 hvs hNT htl hbk e0
      by_cases ht1 : tl = 1
      · have HE : Hid (Rp.fin i tl = ({ Rp with now := 0, St := Rp.St.set i 1, Ln := Rp.Ln ++ [i + 1] } : RS) ∧ Rp.finSt tl = 1) := by
          unfold RS.fin RS.finSt
          rw [if_pos (.inl ht1), if_pos (.inl ht1)]
          exact ⟨rfl, rfl⟩
        have HQ : Hid (∀ w', RTo w B g V ({ Rp with now := 0, St := Rp.St.set i 1, Ln := Rp.Ln ++ [i + 1] } : RS) P w' → Post (.returned (.tuple #[.int .i64 Z, .int .i64 ((1 : Nat) : Int), .bool true])) w') := by have h1 := HPo.out; rw [HE.out.1, HE.out.2] at h1; exact h1
        clear HE HPo
        subst ht1
        obtain ⟨V6, P6⟩ := HP5.out.st Hvs.out i 1
        obtain ⟨W14, hW14⟩ : ∃ W14, W13.setCell ⟨qs, i, none⟩ (.int .i64 1) = W14 := ⟨_, rfl⟩
        have hW14' : W13.setCell ⟨qs, i, none⟩ (.int .i64 ((1 : Nat) : Int)) = W14 := hW14
        rw [hW14'] at P6
        obtain ⟨al, nl, cl2, hnl2, cl6, own6, hB6, L6⟩ := P6.line (i + 1)
        rw [← HZ.out] at own6 L6
        have HL6 : Hid _ := L6
        have hx6 := Box.new W14 #[.int .i64 Z] 3
        have hnl3 : nl < 2000 := by rw [hnl2]; exact HL.out.2
        clear P6 hW14' hnl2 L6
        go_wp2_with (at_builtin; refine wpList_append_own_at _ rfl _ _ 39 rfl B 3 i0 (.int .i64 0) 1 8 Try.underlying39 hi0 hz0 hz1 hz2 rfl (by decide) _ nl _ rfl own6 ⟨W14.heap.size, 0, none⟩ 1 1 [.int .i64 Z] rfl rfl (one_cell hx6) ?c2 ?c3 ?c4 ?c5 ?_)
        case c2 => first | rfl | (intro u hu; simp at hu; subst hu; rfl)
        case c3 => unfold maxLen; omega
        case c4 => omega
        case c5 => first | omega | (simp; omega)
        intro v' w4 hown4 hgrow _ hwhere
        obtain ⟨cl7, fl7, ⟨a', n', c', hv'⟩, V7, P7⟩ := HL6.out v' w4 hown4 hgrow (by rw [show (W14.alloc (.cells #[.int .i64 Z] 3)).heap.size = W14.heap.size + 1 by simp]; exact hwhere)
        clear hown4 hgrow hwhere own6 hx6
        subst hv'
        obtain ⟨W15, hW15⟩ : ∃ W15, w4.setCell ⟨g, 3, none⟩ (.slice a' n' c') = W15 := ⟨_, rfl⟩
        have HW15 : Hid (W15 = w4.setCell ⟨g, 3, none⟩ (.slice a' n' c')) := hW15.symm
        rw [← HW15.out] at P7
        have HQ7 : Hid (∀ q, Post (.returned (.tuple #[.int .i64 Z, .int .i64 1, .bool true])) (W15.drewN q)) := fun q => HQ.out _ (P7.rt.drew q)
        obtain ⟨qs', cs', cvs', xs', _, _⟩ := P7.rb.stat i (by show i < (Rp.St.set i 1).length; rw [List.length_set]; rw [HL.out.1]; exact hi)
        change W15.cell? ⟨g, 1, none⟩ = some (.slice (some ⟨qs', 0, none⟩) (Rp.St.set i 1).length cs') at cvs'
        rw [List.length_set, ← HNT.out] at cvs'
        have xs'' : W15.cell? ⟨qs', i, none⟩ = some (.int .i64 1) := by
          rw [xs']; show _ = some (Value.int .i64 ((1 : Nat) : Int)); simp
        clear xs' P7
        go_wp2_with fail
        go_quiet (fail)
        go_wp2_with fail
        exact bodyPost_ret (v := .tuple #[.int .i64 Z, .int .i64 1, .bool true]) (by simp [results, Try.results16, go_sem]) rfl (HQ7.out _)
      · by_cases ht2 : tl = 2
        · cases bk with
          | true =>
            have HE : Hid (Rp.fin i tl = ({ Rp with now := 0, St := Rp.St.set i 1, Ln := Rp.Ln ++ [i + 1] } : RS) ∧ Rp.finSt tl = 1) := by
              unfold RS.fin RS.finSt
              rw [if_pos (.inr ⟨ht2, Hbk.out.symm⟩), if_pos (.inr ⟨ht2, Hbk.out.symm⟩)]
              exact ⟨rfl, rfl⟩
            have HQ : Hid (∀ w', RTo w B g V ({ Rp with now := 0, St := Rp.St.set i 1, Ln := Rp.Ln ++ [i + 1] } : RS) P w' → Post (.returned (.tuple #[.int .i64 Z, .int .i64 ((1 : Nat) : Int), .bool true])) w') := by have h1 := HPo.out; rw [HE.out.1, HE.out.2] at h1; exact h1
            clear HE HPo
            subst ht2
            obtain ⟨V6, P6⟩ := HP5.out.st Hvs.out i 1
            obtain ⟨W14, hW14⟩ : ∃ W14, W13.setCell ⟨qs, i, none⟩ (.int .i64 1) = W14 := ⟨_, rfl⟩
            have hW14' : W13.setCell ⟨qs, i, none⟩ (.int .i64 ((1 : Nat) : Int)) = W14 := hW14
            rw [hW14'] at P6
            obtain ⟨al, nl, cl2, hnl2, cl6, own6, hB6, L6⟩ := P6.line (i + 1)
            rw [← HZ.out] at own6 L6
            have HL6 : Hid _ := L6
            have hx6 := Box.new W14 #[.int .i64 Z] 3
            have hnl3 : nl < 2000 := by rw [hnl2]; exact HL.out.2
            clear P6 hW14' hnl2 L6
            go_wp2_with (at_builtin; refine wpList_append_own_at _ rfl _ _ 39 rfl B 3 i0 (.int .i64 0) 1 8 Try.underlying39 hi0 hz0 hz1 hz2 rfl (by decide) _ nl _ rfl own6 ⟨W14.heap.size, 0, none⟩ 1 1 [.int .i64 Z] rfl rfl (one_cell hx6) ?c2 ?c3 ?c4 ?c5 ?_)
            case c2 => first | rfl | (intro u hu; simp at hu; subst hu; rfl)
            case c3 => unfold maxLen; omega
            case c4 => omega
            case c5 => first | omega | (simp; omega)
            intro v' w4 hown4 hgrow _ hwhere
            obtain ⟨cl7, fl7, ⟨a', n', c', hv'⟩, V7, P7⟩ := HL6.out v' w4 hown4 hgrow (by rw [show (W14.alloc (.cells #[.int .i64 Z] 3)).heap.size = W14.heap.size + 1 by simp]; exact hwhere)
            clear hown4 hgrow hwhere own6 hx6
            subst hv'
            obtain ⟨W15, hW15⟩ : ∃ W15, w4.setCell ⟨g, 3, none⟩ (.slice a' n' c') = W15 := ⟨_, rfl⟩
            have HW15 : Hid (W15 = w4.setCell ⟨g, 3, none⟩ (.slice a' n' c')) := hW15.symm
            rw [← HW15.out] at P7
            have HQ7 : Hid (∀ q, Post (.returned (.tuple #[.int .i64 Z, .int .i64 1, .bool true])) (W15.drewN q)) := fun q => HQ.out _ (P7.rt.drew q)
            obtain ⟨qs', cs', cvs', xs', _, _⟩ := P7.rb.stat i (by show i < (Rp.St.set i 1).length; rw [List.length_set]; rw [HL.out.1]; exact hi)
            change W15.cell? ⟨g, 1, none⟩ = some (.slice (some ⟨qs', 0, none⟩) (Rp.St.set i 1).length cs') at cvs'
            rw [List.length_set, ← HNT.out] at cvs'
            have xs'' : W15.cell? ⟨qs', i, none⟩ = some (.int .i64 1) := by
              rw [xs']; show _ = some (Value.int .i64 ((1 : Nat) : Int)); simp
            clear xs' P7
            go_wp2_with fail
            go_quiet (fail)
            go_wp2_with fail
            exact bodyPost_ret (v := .tuple #[.int .i64 Z, .int .i64 1, .bool true]) (by simp [results, Try.results16, go_sem]) rfl (HQ7.out _)
          | false =>
            have HE : Hid (Rp.fin i tl = ({ Rp with now := 0, St := Rp.St.set i 2 } : RS) ∧ Rp.finSt tl = 2) := by
              have hn : ¬ (tl = 1 ∨ tl = 2 ∧ Rp.wk = true) := by rw [← Hbk.out]; simp [ht1]
              unfold RS.fin RS.finSt
              rw [if_neg hn, if_neg hn, if_pos ht2, if_pos ht2]
              exact ⟨rfl, rfl⟩
            have HQ : Hid (∀ w', RTo w B g V ({ Rp with now := 0, St := Rp.St.set i 2 } : RS) P w' → Post (.returned (.tuple #[.int .i64 Z, .int .i64 ((2 : Nat) : Int), .bool true])) w') := by have h1 := HPo.out; rw [HE.out.1, HE.out.2] at h1; exact h1
            clear HE HPo
            subst ht2
            obtain ⟨V6, P7⟩ := HP5.out.st Hvs.out i 2
            obtain ⟨W15, hW15⟩ : ∃ W15, W13.setCell ⟨qs, i, none⟩ (.int .i64 2) = W15 := ⟨_, rfl⟩
            have HW15 : Hid (W15 = W13.setCell ⟨qs, i, none⟩ (.int .i64 ((2 : Nat) : Int))) := hW15.symm
            rw [← HW15.out] at P7
            have HQ7 : Hid (∀ q, Post (.returned (.tuple #[.int .i64 Z, .int .i64 2, .bool true])) (W15.drewN q)) := fun q => HQ.out _ (P7.rt.drew q)
            obtain ⟨qs', cs', cvs', xs', _, _⟩ := P7.rb.stat i (by show i < (Rp.St.set i 2).length; rw [List.length_set]; rw [HL.out.1]; exact hi)
            change W15.cell? ⟨g, 1, none⟩ = some (.slice (some ⟨qs', 0, none⟩) (Rp.St.set i 2).length cs') at cvs'
            rw [List.length_set, ← HNT.out] at cvs'
            have xs'' : W15.cell? ⟨qs', i, none⟩ = some (.int .i64 2) := by
              rw [xs']; show _ = some (Value.int .i64 ((2 : Nat) : Int)); simp
            clear xs' P7
            go_wp2_with fail
            go_quiet (fail)
            go_wp2_with fail
            exact bodyPost_ret (v := .tuple #[.int .i64 Z, .int .i64 2, .bool true]) (by simp [results, Try.results16, go_sem]) rfl (HQ7.out _)
        · have HE : Hid (Rp.fin i tl = ({ Rp with now := 0, St := Rp.St.set i 3 } : RS) ∧ Rp.finSt tl = 3) := by
            have hn : ¬ (tl = 1 ∨ tl = 2 ∧ Rp.wk = true) := by simp [ht1, ht2]
            unfold RS.fin RS.finSt
            rw [if_neg hn, if_neg hn, if_neg ht2, if_neg ht2]
            exact ⟨rfl, rfl⟩
          have HQ : Hid (∀ w', RTo w B g V ({ Rp with now := 0, St := Rp.St.set i 3 } : RS) P w' → Post (.returned (.tuple #[.int .i64 Z, .int .i64 ((3 : Nat) : Int), .bool true])) w') := by have h1 := HPo.out; rw [HE.out.1, HE.out.2] at h1; exact h1
          clear HE HPo
          obtain ⟨V6, P7⟩ := HP5.out.st Hvs.out i 3
          obtain ⟨W15, hW15⟩ : ∃ W15, W13.setCell ⟨qs, i, none⟩ (.int .i64 3) = W15 := ⟨_, rfl⟩
          have HW15 : Hid (W15 = W13.setCell ⟨qs, i, none⟩ (.int .i64 ((3 : Nat) : Int))) := hW15.symm
          rw [← HW15.out] at P7
          have HQ7 : Hid (∀ q, Post (.returned (.tuple #[.int .i64 Z, .int .i64 3, .bool true])) (W15.drewN q)) := fun q => HQ.out _ (P7.rt.drew q)
          obtain ⟨qs', cs', cvs', xs', _, _⟩ := P7.rb.stat i (by show i < (Rp.St.set i 3).length; rw [List.length_set]; rw [HL.out.1]; exact hi)
          change W15.cell? ⟨g, 1, none⟩ = some (.slice (some ⟨qs', 0, none⟩) (Rp.St.set i 3).length cs') at cvs'
          rw [List.length_set, ← HNT.out] at cvs'
          have xs'' : W15.cell? ⟨qs', i, none⟩ = some (.int .i64 3) := by
            rw [xs']; show _ = some (Value.int .i64 ((3 : Nat) : Int)); simp
          clear xs' P7
          go_wp2_with fail
          go_quiet (fail)
          go_wp2_with fail
          exact bodyPost_ret (v := .tuple #[.int .i64 Z, .int .i64 3, .bool true]) (by simp [results, Try.results16, go_sem]) rfl (HQ7.out _)
    · obtain ⟨dw, hdw⟩ : ∃ dw, dw = d.wake := ⟨_, rfl⟩
      have Hdid : Hid (R2.did d = { (R2.wake dw).1 with Td := R2.Td ++ [(R2.wake dw).2] }) := by
        unfold RS.did
        rw [if_neg hw0, hdw]
        exact rfl
      rw [← hdw] at e1 hw0
      have Pd : Pt w B g V P R2 W10.drew V4 := HP4.out.drew 1
      have xd : Box W10.drew dg (doC d) 45 := HX10.out.drew 1
      obtain ⟨ta, tc, htv⟩ := ownsRow_slice Pd.rb.rt
      obtain ⟨nt, hnt⟩ : ∃ nt, nt = R2.Td.length := ⟨_, rfl⟩
      rw [← hnt] at htv
      have hntl : nt < 1000000 := by rw [hnt, HR2.out]; exact hTd
      have HCS : Hid (TwoCells g dg (.slice ta nt tc) dw W10.drew) := by
        show TwoCells g dg (.slice ta nt tc) dw W10.drew
        rw [hdw]; exact TwoCells.of (by rw [← htv]; exact Pd.rb.box.cell 4) (xd.cell 1)
      have cW := rwake_at Pd.rb dw (by rw [HL2.out.1]; exact hSl) (by have := HL2.out.2; omega)
      obtain ⟨R3, hR3⟩ : ∃ R3, R3 = (R2.wake dw).1 := ⟨_, rfl⟩
      obtain ⟨wb, hwb⟩ : ∃ wb, wb = (R2.wake dw).2 := ⟨_, rfl⟩
      rw [← hR3, ← hwb] at cW
      rw [← hR3, ← hwb] at Hdid
      have HA0 := fun W2 T hc => Pd.told xd htv hnt (R3 := R3) (by rw [hR3]; exact RS.wake_td _ _) wb (W2 := W2) T hc
      obtain ⟨tds, htds⟩ : ∃ tds, tds = tdC R2.Td := ⟨_, rfl⟩
      rw [← hdw, ← htds] at HA0
      have HA : Hid _ := HA0
      have HL3 : Hid (R3.St.length = R.St.length ∧ R3.Ln.length < 2000) := by
        have h1 := RS.wake_st R2 dw
        have h2 := RS.wake_ln R2 dw
        have h4 := HL2.out
        rw [← hR3] at h1 h2
        exact ⟨by omega, by omega⟩
      obtain ⟨ib, hib, hb0, hb1, hb2⟩ := info_parts infoB
      unfold ptr at cW
      clear HA0 htds Pd xd htv hnt hR3 hwb hdw HP4 HL2
      go_wp2_with fail
      refine wp_region_any (by kernel_rfl) ?_
      refine wpAny_take (i := 0) (v := ?_) rfl (by kernel_rfl) (by kernel_rfl) (by kernel_rfl) (fun _ _ _ h => h) (Or.inl ⟨by rfl, ?_⟩) ?_
      rotate_left
      · intro u
        go_simp
        with_reducible rfl
      simp only [Act.put, List.setIfInBounds_toArray, List.set_cons_zero, List.set_cons_succ, List.getElem_toArray, List.getElem_cons_zero]
      refine wpAny_take (i := 1) (v := ?_) rfl (by kernel_rfl) (by kernel_rfl) (by kernel_rfl) (fun _ _ _ h => h) (Or.inl ⟨by rfl, ?_⟩) ?_
      rotate_left
      · intro u
        go_simp
        with_reducible rfl
      simp only [Act.put, List.setIfInBounds_toArray, List.set_cons_zero, List.set_cons_succ, List.getElem_toArray, List.getElem_cons_zero, List.getElem_cons_succ]
      refine wpAny_take (i := 2) (v := ?_) rfl (by kernel_rfl) (by kernel_rfl) (by kernel_rfl) (fun _ _ _ h => h) (Or.inl ⟨by rfl, ?_⟩) ?_
      rotate_left
      · intro u
        go_simp
        with_reducible rfl
      simp only [Act.put, List.setIfInBounds_toArray, List.set_cons_zero, List.set_cons_succ, List.getElem_toArray, List.getElem_cons_zero, List.getElem_cons_succ]
      refine wpAny_take (i := 3) (v := ?_) rfl (by kernel_rfl) (by kernel_rfl) (by kernel_rfl) (fun _ _ _ h => h) (Or.inl ⟨by rfl, ?_⟩) ?_
      rotate_left
      · intro u
        go_simp
        with_reducible rfl
      simp only [Act.put, List.setIfInBounds_toArray, List.set_cons_zero, List.set_cons_succ, List.getElem_toArray, List.getElem_cons_zero, List.getElem_cons_succ]
      refine wpAny_take (i := 5) (v := ?_) rfl (by kernel_rfl) (by kernel_rfl) (by kernel_rfl) (fun _ _ _ h => h) (Or.inl ⟨by rfl, ?_⟩) ?_
      rotate_left
      · intro u
        go_simp
        with_reducible rfl
      simp only [Act.put, List.setIfInBounds_toArray, List.set_cons_zero, List.set_cons_succ, List.getElem_toArray, List.getElem_cons_zero, List.getElem_cons_succ]
      refine wpAny_take (i := 6) (v := ?_) rfl (by kernel_rfl) (by kernel_rfl) (by kernel_rfl) (fun _ _ _ h => h) (Or.inl ⟨by rfl, ?_⟩) ?_
      rotate_left
      · intro u
        go_simp
        with_reducible rfl
      simp only [Act.put, List.setIfInBounds_toArray, List.set_cons_zero, List.set_cons_succ, List.getElem_toArray, List.getElem_cons_zero, List.getElem_cons_succ]
      refine wpAny_of_E (C := SlotsCells [(111, .pointer (some ⟨g, 4, none⟩)), (114, .pointer (some ⟨dg, 1, none⟩))] [(⟨g, 4, none⟩, .slice ta nt tc), (⟨dg, 1, none⟩, .int .i64 dw)]) (late := [13]) _ _ _ _ ?_
      refine wpAnyE_take (i := 4) (v := .slice ta nt tc) rfl (by kernel_rfl) (by kernel_rfl) (by kernel_rfl) (by kernel_rfl) (by kernel_rfl) (by kernel_rfl) (fun _ _ _ h => h) ?_ (fun fr u h => (SlotsCells.put 112 _ (by rfl)).1 h) (fun fr u h => (SlotsCells.put 112 _ (by rfl)).2 h) ?_ ?_
      · intro fr u hh
        obtain ⟨e1, e2⟩ := hh.load (s := 111) (p := ⟨g, 4, none⟩) (v := .slice ta nt tc) (by simp) (by simp)
        exact ⟨rfl, by simp [execOp, e1, go_sem, e2]⟩
      · exact ⟨fun q hq => by simp at hq; rcases hq with rfl | rfl <;> rfl, HCS.out⟩
      simp only [Act.put, List.setIfInBounds_toArray, List.set_cons_zero, List.set_cons_succ, List.getElem_toArray, List.getElem_cons_zero, List.getElem_cons_succ]
      refine wpAnyE_take (i := 7) (v := .int .i64 dw) rfl (by kernel_rfl) (by kernel_rfl) (by kernel_rfl) (by kernel_rfl) (by kernel_rfl) (by kernel_rfl) (fun _ _ _ h => h) ?_ (fun fr u h => (SlotsCells.put 115 _ (by rfl)).1 h) (fun fr u h => (SlotsCells.put 115 _ (by rfl)).2 h) ?_ ?_
      · intro fr u hh
        obtain ⟨e1, e2⟩ := hh.load (s := 114) (p := ⟨dg, 1, none⟩) (v := .int .i64 dw) (by simp) (by simp)
        exact ⟨rfl, by simp [execOp, e1, go_sem, e2]⟩
      · exact ⟨fun q hq => by simp at hq; rcases hq with rfl | rfl <;> rfl, HCS.out⟩
      simp only [Act.put, List.setIfInBounds_toArray, List.set_cons_zero, List.set_cons_succ, List.getElem_toArray, List.getElem_cons_zero, List.getElem_cons_succ]
      refine wpAnyE_some (rs := [8]) (by kernel_rfl) (by simp) (fun i hi => ?_)
      simp only [List.mem_cons, List.not_mem_nil, or_false] at hi
      subst hi
      refine wpOp_step rfl (fun Kc hKc => ?_)
      go_simp
      refine Calls.mono cW ?_
      rintro r W2 ⟨rfl, T2, hc2⟩
      obtain ⟨s2, sA, own2, hB2, HFin⟩ := HA.out W2 T2 hc2
      refine hKc _ _ ⟨.inr (.inr ⟨fun q hq => by simp at hq; rcases hq with rfl | rfl <;> rfl, s2⟩), ?_⟩
      clear hKc Kc T2 hc2 cW
      refine wpAnyE_some (rs := [9]) (by kernel_rfl) (by simp) (fun i hi => ?_)
      simp only [List.mem_cons, List.not_mem_nil, or_false] at hi
      subst hi
      refine wpOp_step rfl (fun Kc hKc => ?_)
      go_simp
      refine hKc _ _ ⟨.inr (.inr ⟨fun q hq => by simp at hq; rcases hq with rfl | rfl <;> rfl, sA⟩), ?_⟩
      clear hKc Kc
      refine wpAnyE_some (rs := [10]) (by kernel_rfl) (by simp) (fun i hi => ?_)
      simp only [List.mem_cons, List.not_mem_nil, or_false] at hi
      subst hi
      refine wpOp_step rfl (fun Kc hKc => ?_)
      refine step_append_at rfl (.tmp 112) (.tmp 117) 25 rfl B 4 ib (.bool false) 1 1 Try.underlying25 hib hb0 hb1 hb2 rfl (by decide) (.slice ta nt tc) nt tds rfl own2 ⟨W2.heap.size, 0, none⟩ 1 1 [.bool wb] rfl rfl (one_cell (Box.new W2 #[.bool wb] 4)) ?_ ?_ ?_ ?_ ?_
      · intro u hu; simp at hu; subst hu; rfl
      · unfold maxLen; omega
      · omega
      · simp; omega
      intro v4 W4 ho4 hg4 hw4
      obtain ⟨s4, f4, ⟨a4, n4, c4, hv4⟩, ⟨V6, P6⟩, x6⟩ := HFin v4 W4 ho4 hg4 hw4
      subst hv4
      have d4 : W4.cell? ⟨g, 4, none⟩ = some (.slice ta nt tc) := s4 (⟨g, 4, none⟩, .slice ta nt tc) (by simp)
      refine hKc _ _ ⟨.inr (.inr ⟨fun q hq => by simp at hq; rcases hq with rfl | rfl <;> rfl, s4⟩), ?_⟩
      clear hKc Kc ho4 hg4 hw4 own2 HFin
      refine wpAnyE_pure (i := 11) (v := ?_) rfl (by kernel_rfl) (by kernel_rfl) (by kernel_rfl) (by kernel_rfl) (fun _ _ _ h => h) (fun fr u h => (SlotsCells.put 119 _ (by rfl)).1 h) (fun fr u h => (SlotsCells.put 119 _ (by rfl)).2 h) (.inr ⟨fun q hq => by simp at hq; rcases hq with rfl | rfl <;> rfl, s4⟩) (Or.inl ⟨by rfl, ?_⟩) ?_
      rotate_left
      · intro u
        go_simp
        with_reducible rfl
      simp only [Act.put, List.setIfInBounds_toArray, List.set_cons_zero, List.set_cons_succ, List.getElem_toArray, List.getElem_cons_zero, List.getElem_cons_succ]
      refine wpAnyE_pure (i := 12) (v := ?_) rfl (by kernel_rfl) (by kernel_rfl) (by kernel_rfl) (by kernel_rfl) (fun _ _ _ h => h) (fun fr u h => (SlotsCells.put 120 _ (by rfl)).1 h) (fun fr u h => (SlotsCells.put 120 _ (by rfl)).2 h) (.inr ⟨fun q hq => by simp at hq; rcases hq with rfl | rfl <;> rfl, s4⟩) (Or.inl ⟨by rfl, ?_⟩) ?_
      rotate_left
      · intro u
        go_simp
        with_reducible rfl
      simp only [Act.put, List.setIfInBounds_toArray, List.set_cons_zero, List.set_cons_succ, List.getElem_toArray, List.getElem_cons_zero, List.getElem_cons_succ]
      refine wpAnyE_some (rs := [13]) (by kernel_rfl) (by simp) (fun i hi => ?_)
      simp only [List.mem_cons, List.not_mem_nil, or_false] at hi
      subst hi
      refine wpOp_step rfl (fun Kc hKc => ?_)
      go_simp
      refine hKc _ _ ⟨.inr (.inl rfl), ?_⟩
      clear hKc Kc
      refine wpAnyE_done (by kernel_rfl) ?_ _
      obtain ⟨Rp, hRp⟩ : ∃ Rp : RS, Rp = { R3 with Td := R2.Td ++ [wb] } := ⟨_, rfl⟩
      have HP : Hid (Pt w B g V P Rp (W4.setCell ⟨g, 4, none⟩ (.slice a4 n4 c4)) V6) := by rw [hRp]; exact P6
      have HX : Hid (Box (W4.setCell ⟨g, 4, none⟩ (.slice a4 n4 c4)) dg (doC d) 45) := x6
      have HRq : Hid (Rp = R2.did d) := by rw [Hdid.out, hRp]; exact rfl
      have HL : Hid (Rp.St.length = R.St.length ∧ Rp.Ln.length < 2000) := by rw [hRp]; exact HL3.out
      clear P6 x6 d4 f4 s4 sA s2 hRp Hdid HL3 HA HCS e1
      generalize W4.setCell ⟨g, 4, none⟩ (.slice a4 n4 c4) = W11 at HP HX ⊢
      have HRQe : Hid (RQ = Rp) := by
        have h1 := HRQ.out
        have h2 := HRq.out
        rw [HR2.out] at h2
        rw [h1, h2]
        have h3 := Hn.out
        rw [hnn.out] at h3
        injection h3 with h3
        rw [h3]
        exact rfl
      obtain ⟨V5, P5⟩ := HP.out.now0
      have c6 : W11.cell? ⟨g, 6, none⟩ = some (.int .i64 (Rp.now : Int)) := HP.out.rb.box.cell 6
      have f6 := HP.out.rb.box.frozen 6
      have hx13 := HX.out.other g 6 (.int .i64 0) (HX.out.ne HP.out.rb.box (by decide))
      obtain ⟨W13, hW13⟩ : ∃ W13, W11.setCell ⟨g, 6, none⟩ (.int .i64 0) = W13 := ⟨_, rfl⟩
      rw [hW13] at P5 hx13
      have e13 : W13.cell? ⟨dg, 0, none⟩ = some (.int .i64 d.tell) := hx13.cell 0
      have c5 : W13.cell? ⟨g, 5, none⟩ = some (.bool Rp.wk) := P5.rb.box.cell 5
      obtain ⟨qs, cs, cvs, xs13, fs13, hvs⟩ := P5.rb.stat i (by show i < Rp.St.length; rw [HL.out.1]; exact hi)
      obtain ⟨NT, hNT⟩ : ∃ NT, NT = Rp.St.length := ⟨_, rfl⟩
      change W13.cell? ⟨g, 1, none⟩ = some (.slice (some ⟨qs, 0, none⟩) Rp.St.length cs) at cvs
      rw [← hNT] at cvs
      have HNT : Hid (NT = Rp.St.length) := hNT
      have hiT : (i : Int) < (NT : Int) := by have h1 := HL.out.1; omega
      have hNT3 : (NT : Int) < 1000 := by have h1 := HL.out.1; omega
      obtain ⟨y13, hy13⟩ : ∃ y : Int, W13.cell? ⟨qs, i, none⟩ = some (.int .i64 y) := ⟨_, xs13⟩
      have HP5 : Hid (Pt w B g V P { Rp with now := 0 } W13 V5) := P5
      have Hvs : Hid (V5.vs.ownBlock = some qs) := hvs
      obtain ⟨tl, htl⟩ : ∃ tl, tl = d.tell := ⟨_, rfl⟩
      rw [← htl] at e13
      have HPo : Hid (∀ w', RTo w B g V (Rp.fin i tl) P w' → Post (.returned (.tuple #[.int .i64 Z, .int .i64 ((Rp.finSt tl : Nat) : Int), .bool true])) w') := fun w' hw' => by
        have := HPost.out w' (by rw [HRQe.out, ← htl]; exact hw')
        rw [HRQe.out, ← htl] at this
        rw [HZ.out]
        exact this
      obtain ⟨bk, hbk⟩ : ∃ bk, bk = Rp.wk := ⟨_, rfl⟩
      rw [← hbk] at c5
      have Hbk : Hid (bk = Rp.wk) := hbk
      have Htl : Hid (tl = d.tell) := htl
      clear xs13 P5 hx13 hvs hNT htl hbk e0
      by_cases ht1 : tl = 1
      · have HE : Hid (Rp.fin i tl = ({ Rp with now := 0, St := Rp.St.set i 1, Ln := Rp.Ln ++ [i + 1] } : RS) ∧ Rp.finSt tl = 1) := by
          unfold RS.fin RS.finSt
          rw [if_pos (.inl ht1), if_pos (.inl ht1)]
          exact ⟨rfl, rfl⟩
        have HQ : Hid (∀ w', RTo w B g V ({ Rp with now := 0, St := Rp.St.set i 1, Ln := Rp.Ln ++ [i + 1] } : RS) P w' → Post (.returned (.tuple #[.int .i64 Z, .int .i64 ((1 : Nat) : Int), .bool true])) w') := by have h1 := HPo.out; rw [HE.out.1, HE.out.2] at h1; exact h1
        clear HE HPo
        subst ht1
        obtain ⟨V8, P6⟩ := HP5.out.st Hvs.out i 1
        obtain ⟨W14, hW14⟩ : ∃ W14, W13.setCell ⟨qs, i, none⟩ (.int .i64 1) = W14 := ⟨_, rfl⟩
        have hW14' : W13.setCell ⟨qs, i, none⟩ (.int .i64 ((1 : Nat) : Int)) = W14 := hW14
        rw [hW14'] at P6
        obtain ⟨al, nl, cl2, hnl2, cl6, own6, hB6, L6⟩ := P6.line (i + 1)
        rw [← HZ.out] at own6 L6
        have HL6 : Hid _ := L6
        have hx6 := Box.new W14 #[.int .i64 Z] 3
        have hnl3 : nl < 2000 := by rw [hnl2]; exact HL.out.2
        clear P6 hW14' hnl2 L6
        go_wp2_with (at_builtin; refine wpList_append_own_at _ rfl _ _ 39 rfl B 3 i0 (.int .i64 0) 1 8 Try.underlying39 hi0 hz0 hz1 hz2 rfl (by decide) _ nl _ rfl own6 ⟨W14.heap.size, 0, none⟩ 1 1 [.int .i64 Z] rfl rfl (one_cell hx6) ?c2 ?c3 ?c4 ?c5 ?_)
        case c2 => first | rfl | (intro u hu; simp at hu; subst hu; rfl)
        case c3 => unfold maxLen; omega
        case c4 => omega
        case c5 => first | omega | (simp; omega)
        intro v' w4 hown4 hgrow _ hwhere
        obtain ⟨cl7, fl7, ⟨a', n', c', hv'⟩, V7, P7⟩ := HL6.out v' w4 hown4 hgrow (by rw [show (W14.alloc (.cells #[.int .i64 Z] 3)).heap.size = W14.heap.size + 1 by simp]; exact hwhere)
        clear hown4 hgrow hwhere own6 hx6
        subst hv'
        obtain ⟨W15, hW15⟩ : ∃ W15, w4.setCell ⟨g, 3, none⟩ (.slice a' n' c') = W15 := ⟨_, rfl⟩
        have HW15 : Hid (W15 = w4.setCell ⟨g, 3, none⟩ (.slice a' n' c')) := hW15.symm
        rw [← HW15.out] at P7
        have HQ7 : Hid (∀ q, Post (.returned (.tuple #[.int .i64 Z, .int .i64 1, .bool true])) (W15.drewN q)) := fun q => HQ.out _ (P7.rt.drew q)
        obtain ⟨qs', cs', cvs', xs', _, _⟩ := P7.rb.stat i (by show i < (Rp.St.set i 1).length; rw [List.length_set]; rw [HL.out.1]; exact hi)
        change W15.cell? ⟨g, 1, none⟩ = some (.slice (some ⟨qs', 0, none⟩) (Rp.St.set i 1).length cs') at cvs'
        rw [List.length_set, ← HNT.out] at cvs'
        have xs'' : W15.cell? ⟨qs', i, none⟩ = some (.int .i64 1) := by
          rw [xs']; show _ = some (Value.int .i64 ((1 : Nat) : Int)); simp
        clear xs' P7
        go_wp2_with fail
        go_quiet (fail)
        go_wp2_with fail
        exact bodyPost_ret (v := .tuple #[.int .i64 Z, .int .i64 1, .bool true]) (by simp [results, Try.results16, go_sem]) rfl (HQ7.out _)
      · by_cases ht2 : tl = 2
        · cases bk with
          | true =>
            have HE : Hid (Rp.fin i tl = ({ Rp with now := 0, St := Rp.St.set i 1, Ln := Rp.Ln ++ [i + 1] } : RS) ∧ Rp.finSt tl = 1) := by
              unfold RS.fin RS.finSt
              rw [if_pos (.inr ⟨ht2, Hbk.out.symm⟩), if_pos (.inr ⟨ht2, Hbk.out.symm⟩)]
              exact ⟨rfl, rfl⟩
            have HQ : Hid (∀ w', RTo w B g V ({ Rp with now := 0, St := Rp.St.set i 1, Ln := Rp.Ln ++ [i + 1] } : RS) P w' → Post (.returned (.tuple #[.int .i64 Z, .int .i64 ((1 : Nat) : Int), .bool true])) w') := by have h1 := HPo.out; rw [HE.out.1, HE.out.2] at h1; exact h1
            clear HE HPo
            subst ht2
            obtain ⟨V8, P6⟩ := HP5.out.st Hvs.out i 1
            obtain ⟨W14, hW14⟩ : ∃ W14, W13.setCell ⟨qs, i, none⟩ (.int .i64 1) = W14 := ⟨_, rfl⟩
            have hW14' : W13.setCell ⟨qs, i, none⟩ (.int .i64 ((1 : Nat) : Int)) = W14 := hW14
            rw [hW14'] at P6
            obtain ⟨al, nl, cl2, hnl2, cl6, own6, hB6, L6⟩ := P6.line (i + 1)
            rw [← HZ.out] at own6 L6
            have HL6 : Hid _ := L6
            have hx6 := Box.new W14 #[.int .i64 Z] 3
            have hnl3 : nl < 2000 := by rw [hnl2]; exact HL.out.2
            clear P6 hW14' hnl2 L6
            go_wp2_with (at_builtin; refine wpList_append_own_at _ rfl _ _ 39 rfl B 3 i0 (.int .i64 0) 1 8 Try.underlying39 hi0 hz0 hz1 hz2 rfl (by decide) _ nl _ rfl own6 ⟨W14.heap.size, 0, none⟩ 1 1 [.int .i64 Z] rfl rfl (one_cell hx6) ?c2 ?c3 ?c4 ?c5 ?_)
            case c2 => first | rfl | (intro u hu; simp at hu; subst hu; rfl)
            case c3 => unfold maxLen; omega
            case c4 => omega
            case c5 => first | omega | (simp; omega)
            intro v' w4 hown4 hgrow _ hwhere
            obtain ⟨cl7, fl7, ⟨a', n', c', hv'⟩, V7, P7⟩ := HL6.out v' w4 hown4 hgrow (by rw [show (W14.alloc (.cells #[.int .i64 Z] 3)).heap.size = W14.heap.size + 1 by simp]; exact hwhere)
            clear hown4 hgrow hwhere own6 hx6
            subst hv'
            obtain ⟨W15, hW15⟩ : ∃ W15, w4.setCell ⟨g, 3, none⟩ (.slice a' n' c') = W15 := ⟨_, rfl⟩
            have HW15 : Hid (W15 = w4.setCell ⟨g, 3, none⟩ (.slice a' n' c')) := hW15.symm
            rw [← HW15.out] at P7
            have HQ7 : Hid (∀ q, Post (.returned (.tuple #[.int .i64 Z, .int .i64 1, .bool true])) (W15.drewN q)) := fun q => HQ.out _ (P7.rt.drew q)
            obtain ⟨qs', cs', cvs', xs', _, _⟩ := P7.rb.stat i (by show i < (Rp.St.set i 1).length; rw [List.length_set]; rw [HL.out.1]; exact hi)
            change W15.cell? ⟨g, 1, none⟩ = some (.slice (some ⟨qs', 0, none⟩) (Rp.St.set i 1).length cs') at cvs'
            rw [List.length_set, ← HNT.out] at cvs'
            have xs'' : W15.cell? ⟨qs', i, none⟩ = some (.int .i64 1) := by
              rw [xs']; show _ = some (Value.int .i64 ((1 : Nat) : Int)); simp
            clear xs' P7
            go_wp2_with fail
            go_quiet (fail)
            go_wp2_with fail
            exact bodyPost_ret (v := .tuple #[.int .i64 Z, .int .i64 1, .bool true]) (by simp [results, Try.results16, go_sem]) rfl (HQ7.out _)
          | false =>
            have HE : Hid (Rp.fin i tl = ({ Rp with now := 0, St := Rp.St.set i 2 } : RS) ∧ Rp.finSt tl = 2) := by
              have hn : ¬ (tl = 1 ∨ tl = 2 ∧ Rp.wk = true) := by rw [← Hbk.out]; simp [ht1]
              unfold RS.fin RS.finSt
              rw [if_neg hn, if_neg hn, if_pos ht2, if_pos ht2]
              exact ⟨rfl, rfl⟩
            have HQ : Hid (∀ w', RTo w B g V ({ Rp with now := 0, St := Rp.St.set i 2 } : RS) P w' → Post (.returned (.tuple #[.int .i64 Z, .int .i64 ((2 : Nat) : Int), .bool true])) w') := by have h1 := HPo.out; rw [HE.out.1, HE.out.2] at h1; exact h1
            clear HE HPo
            subst ht2
            obtain ⟨V8, P7⟩ := HP5.out.st Hvs.out i 2
            obtain ⟨W15, hW15⟩ : ∃ W15, W13.setCell ⟨qs, i, none⟩ (.int .i64 2) = W15 := ⟨_, rfl⟩
            have HW15 : Hid (W15 = W13.setCell ⟨qs, i, none⟩ (.int .i64 ((2 : Nat) : Int))) := hW15.symm
            rw [← HW15.out] at P7
            have HQ7 : Hid (∀ q, Post (.returned (.tuple #[.int .i64 Z, .int .i64 2, .bool true])) (W15.drewN q)) := fun q => HQ.out _ (P7.rt.drew q)
            obtain ⟨qs', cs', cvs', xs', _, _⟩ := P7.rb.stat i (by show i < (Rp.St.set i 2).length; rw [List.length_set]; rw [HL.out.1]; exact hi)
            change W15.cell? ⟨g, 1, none⟩ = some (.slice (some ⟨qs', 0, none⟩) (Rp.St.set i 2).length cs') at cvs'
            rw [List.length_set, ← HNT.out] at cvs'
            have xs'' : W15.cell? ⟨qs', i, none⟩ = some (.int .i64 2) := by
              rw [xs']; show _ = some (Value.int .i64 ((2 : Nat) : Int)); simp
            clear xs' P7
            go_wp2_with fail
            go_quiet (fail)
            go_wp2_with fail
            exact bodyPost_ret (v := .tuple #[.int .i64 Z, .int .i64 2, .bool true]) (by simp [results, Try.results16, go_sem]) rfl (HQ7.out _)
        · have HE : Hid (Rp.fin i tl = ({ Rp with now := 0, St := Rp.St.set i 3 } : RS) ∧ Rp.finSt tl = 3) := by
            have hn : ¬ (tl = 1 ∨ tl = 2 ∧ Rp.wk = true) := by simp [ht1, ht2]
            unfold RS.fin RS.finSt
            rw [if_neg hn, if_neg hn, if_neg ht2, if_neg ht2]
            exact ⟨rfl, rfl⟩
          have HQ : Hid (∀ w', RTo w B g V ({ Rp with now := 0, St := Rp.St.set i 3 } : RS) P w' → Post (.returned (.tuple #[.int .i64 Z, .int .i64 ((3 : Nat) : Int), .bool true])) w') := by have h1 := HPo.out; rw [HE.out.1, HE.out.2] at h1; exact h1
          clear HE HPo
          obtain ⟨V8, P7⟩ := HP5.out.st Hvs.out i 3
          obtain ⟨W15, hW15⟩ : ∃ W15, W13.setCell ⟨qs, i, none⟩ (.int .i64 3) = W15 := ⟨_, rfl⟩
          have HW15 : Hid (W15 = W13.setCell ⟨qs, i, none⟩ (.int .i64 ((3 : Nat) : Int))) := hW15.symm
          rw [← HW15.out] at P7
          have HQ7 : Hid (∀ q, Post (.returned (.tuple #[.int .i64 Z, .int .i64 3, .bool true])) (W15.drewN q)) := fun q => HQ.out _ (P7.rt.drew q)
          obtain ⟨qs', cs', cvs', xs', _, _⟩ := P7.rb.stat i (by show i < (Rp.St.set i 3).length; rw [List.length_set]; rw [HL.out.1]; exact hi)
          change W15.cell? ⟨g, 1, none⟩ = some (.slice (some ⟨qs', 0, none⟩) (Rp.St.set i 3).length cs') at cvs'
          rw [List.length_set, ← HNT.out] at cvs'
          have xs'' : W15.cell? ⟨qs', i, none⟩ = some (.int .i64 3) := by
            rw [xs']; show _ = some (Value.int .i64 ((3 : Nat) : Int)); simp
          clear xs' P7
          go_wp2_with fail
          go_quiet (fail)
          go_wp2_with fail
          exact bodyPost_ret (v := .tuple #[.int .i64 Z, .int .i64 3, .bool true]) (by simp [results, Try.results16, go_sem]) rfl (HQ7.out _)
  · have hni : ¬ (n : Int) < (ln : Int) := by omega
    have hd0 : d = ⟨0, 0, false⟩ := by
      rw [Hdo.out]; unfold doAt
      rw [List.getElem?_eq_none (by omega)]; rfl
    clear hdr
    go_wp2_with fail
    go_quiet (fail)
    rw [← Hdg.out]
    have hb8 : Below dg W6 ((W6.alloc (.cells #[.int .i64 0, .int .i64 0, .bool false] 45)).drewN nq) := by
      have e := Hdg.out
      exact Below.drewN (by rw [e]; exact (Below.refl _ _).alloc (Nat.le_refl _) _) nq
    have hx8 : Box ((W6.alloc (.cells #[.int .i64 0, .int .i64 0, .bool false] 45)).drewN nq) dg (doC d) 45 := by
      have h1 := Hx7.out
      rw [← Hdg.out] at h1
      rw [hd0]
      exact h1.drew nq
    clear Hx7 Hh7 xp xn cvn cvp fn
    generalize ((W6.alloc (.cells #[.int .i64 0, .int .i64 0, .bool false] 45)).drewN nq) = W8 at hb8 hx8 ⊢
    have HW8 : Hid (RTo w B g V { R with Ln := R.Ln.eraseIdx K, wk := false, now := i + 1 } P W8 ∧ RB W8 B g V3 { R with Ln := R.Ln.eraseIdx K, wk := false, now := i + 1 } P ∧ Box W8 dg (doC d) 45) := by
      have hb8' : Below W6.heap.size W6 W8 := by rw [← Hdg.out]; exact hb8
      have h8 := Hh3.out.below hb8'
      exact ⟨RTo.trans HTT6.out HF3.out ⟨⟨V3, h8, fun _ hk => .inl hk⟩, hb8'.mono Hh3.out.hB, KtF.of (Kt.below hb8')⟩, h8, hx8⟩
    clear hb8 hx8
    have hW8 : RTo w B g V { R with Ln := R.Ln.eraseIdx K, wk := false, now := i + 1 } P W8 ∧ RB W8 B g V3 { R with Ln := R.Ln.eraseIdx K, wk := false, now := i + 1 } P ∧ Box W8 dg (doC d) 45 := HW8.out
    obtain ⟨TW8, hR8, hx8⟩ := hW8
    obtain ⟨cqn, xqn⟩ := ownsRow_box hR8.rn qn (by rw [Hvn.out]; rfl)
    have cvn8 : W8.cell? ⟨g, 2, none⟩ = some (.slice (some ⟨qn, 0, none⟩) NS cn) := by rw [← Hvn.out]; exact hR8.box.cell 2
    have xn8 : W8.cell? ⟨qn, i, none⟩ = some (.int .i64 (n : Int)) := by
      obtain ⟨hl, hv⟩ := List.getElem?_eq_some_iff.1 Hn.out
      obtain ⟨q', c', e', y', _⟩ := ics_at hR8.rn rfl i hl
      rw [Hvn.out] at e'
      injection e' with e'
      injection e' with e'
      injection e' with e'
      subst e'
      change W8.cell? ⟨qn, i, none⟩ = some (.int .i64 ((R.Sp[i] : Nat) : Int)) at y'
      rw [hv] at y'
      exact y'
    have fn8 := xqn.frozen i
    have T10 := hR8.vnSet (q := qn) (by rw [Hvn.out]; rfl) i (n + 1)
    rw [show ((n + 1 : Nat) : Int) = (n : Int) + 1 by omega] at T10
    have hx10 := hx8.other qn i (.int .i64 ((n : Int) + 1)) (hx8.ne xqn (by decide))
    obtain ⟨W10, hW10⟩ : ∃ W10, W8.setCell ⟨qn, i, none⟩ (.int .i64 ((n : Int) + 1)) = W10 := ⟨_, rfl⟩
    rw [hW10] at T10 hx10
    obtain ⟨V4, h4, hF4⟩ := T10.is
    have TT10 := RTo.trans TW8 HF3.out T10
    have hF14 : ∀ k, RF g V4 k → RF g V k ∨ w.heap.size ≤ k := fun k hk => by
      rcases hF4 k hk with e | e
      · exact HF3.out k e
      · exact .inr (Nat.le_trans TW8.bel.size e)
    obtain ⟨R2, hR2⟩ : ∃ R2 : RS, R2 = { R with Ln := R.Ln.eraseIdx K, wk := false, now := i + 1, Sp := R.Sp.set i (n + 1) } := ⟨_, rfl⟩
    have HH4 : Hid (RB W10 B g V4 R2 P) := by rw [hR2]; exact h4
    have HTT10 : Hid (RTo w B g V R2 P W10) := by rw [hR2]; exact TT10
    have HF4 : Hid (∀ k, RF g V4 k → RF g V k ∨ w.heap.size ≤ k) := hF14
    have HX10 : Hid (Box W10 dg (doC d) 45) := hx10
    have HR2 : Hid (R2 = { R with Ln := R.Ln.eraseIdx K, wk := false, now := i + 1, Sp := R.Sp.set i (n + 1) }) := hR2
    have e1 : W10.cell? ⟨dg, 1, none⟩ = some (.int .i64 d.wake) := hx10.cell 1
    have e0 : W10.cell? ⟨dg, 0, none⟩ = some (.int .i64 d.tell) := hx10.cell 0
    clear TW8 hR8 hx8 xqn T10 hx10 h4 hF4 TT10 hF14 hR2 HW8
    have HP4 : Hid (Pt w B g V P R2 W10 V4) := ⟨HH4.out, HTT10.out, HF4.out⟩
    have HL2 : Hid (R2.St.length = R.St.length ∧ R2.Ln.length < 1000) := by
      rw [HR2.out]
      refine ⟨rfl, ?_⟩
      show (R.Ln.eraseIdx K).length < 1000
      have := List.length_eraseIdx_le R.Ln K
      omega
    clear HH4 HTT10 HF4 hW5 hW6 c6 f6 c5 f5
    have hw0 : d.wake = 0 := by rw [hd0]
    have HRp : Hid (R2 = R2.did d) := by unfold RS.did; rw [if_pos hw0]; exact rfl
    obtain ⟨Rp, hRp⟩ : ∃ Rp, Rp = R2 := ⟨_, rfl⟩
    have HL : Hid (Rp.St.length = R.St.length ∧ Rp.Ln.length < 2000) := by have := HL2.out; rw [hRp]; exact ⟨this.1, by omega⟩
    have HP : Hid (Pt w B g V P Rp W10 V4) := by rw [hRp]; exact HP4.out
    have HRq : Hid (Rp = R2.did d) := by rw [hRp]; exact HRp.out
    have HX : Hid (Box W10 dg (doC d) 45) := HX10.out
    rw [hw0] at e1
    clear HRp hRp HP4 HX10 HL2
    have HRQe : Hid (RQ = Rp) := by
      have h1 := HRQ.out
      have h2 := HRq.out
      rw [HR2.out] at h2
      rw [h1, h2]
      have h3 := Hn.out
      rw [hnn.out] at h3
      injection h3 with h3
      rw [h3]
      exact rfl
    obtain ⟨V5, P5⟩ := HP.out.now0
    have c6 : W10.cell? ⟨g, 6, none⟩ = some (.int .i64 (Rp.now : Int)) := HP.out.rb.box.cell 6
    have f6 := HP.out.rb.box.frozen 6
    have hx13 := HX.out.other g 6 (.int .i64 0) (HX.out.ne HP.out.rb.box (by decide))
    obtain ⟨W13, hW13⟩ : ∃ W13, W10.setCell ⟨g, 6, none⟩ (.int .i64 0) = W13 := ⟨_, rfl⟩
    rw [hW13] at P5 hx13
    have e13 : W13.cell? ⟨dg, 0, none⟩ = some (.int .i64 d.tell) := hx13.cell 0
    have c5 : W13.cell? ⟨g, 5, none⟩ = some (.bool Rp.wk) := P5.rb.box.cell 5
    obtain ⟨qs, cs, cvs, xs13, fs13, hvs⟩ := P5.rb.stat i (by show i < Rp.St.length; rw [HL.out.1]; exact hi)
    obtain ⟨NT, hNT⟩ : ∃ NT, NT = Rp.St.length := ⟨_, rfl⟩
    change W13.cell? ⟨g, 1, none⟩ = some (.slice (some ⟨qs, 0, none⟩) Rp.St.length cs) at cvs
    rw [← hNT] at cvs
    have HNT : Hid (NT = Rp.St.length) := hNT
    have hiT : (i : Int) < (NT : Int) := by have h1 := HL.out.1; omega
    have hNT3 : (NT : Int) < 1000 := by have h1 := HL.out.1; omega
    obtain ⟨y13, hy13⟩ : ∃ y : Int, W13.cell? ⟨qs, i, none⟩ = some (.int .i64 y) := ⟨_, xs13⟩
    have HP5 : Hid (Pt w B g V P { Rp with now := 0 } W13 V5) := P5
    have Hvs : Hid (V5.vs.ownBlock = some qs) := hvs
    obtain ⟨tl, htl⟩ : ∃ tl, tl = d.tell := ⟨_, rfl⟩
    rw [← htl] at e13
    have HPo : Hid (∀ w', RTo w B g V (Rp.fin i tl) P w' → Post (.returned (.tuple #[.int .i64 Z, .int .i64 ((Rp.finSt tl : Nat) : Int), .bool true])) w') := fun w' hw' => by
      have := HPost.out w' (by rw [HRQe.out, ← htl]; exact hw')
      rw [HRQe.out, ← htl] at this
      rw [HZ.out]
      exact this
    obtain ⟨bk, hbk⟩ : ∃ bk, bk = Rp.wk := ⟨_, rfl⟩
    rw [← hbk] at c5
    have Hbk : Hid (bk = Rp.wk) := hbk
    have Htl : Hid (tl = d.tell) := htl
    clear xs13 P5 hx13 hvs hNT htl hbk e0
    have ht0 : tl = 0 := by rw [Htl.out, hd0]
    have ht1 : ¬ tl = 1 := by omega
    have ht2 : ¬ tl = 2 := by omega
    have HE : Hid (Rp.fin i tl = ({ Rp with now := 0, St := Rp.St.set i 3 } : RS) ∧ Rp.finSt tl = 3) := by
      have hn : ¬ (tl = 1 ∨ tl = 2 ∧ Rp.wk = true) := by simp [ht1, ht2]
      unfold RS.fin RS.finSt
      rw [if_neg hn, if_neg hn, if_neg ht2, if_neg ht2]
      exact ⟨rfl, rfl⟩
    have HQ : Hid (∀ w', RTo w B g V ({ Rp with now := 0, St := Rp.St.set i 3 } : RS) P w' → Post (.returned (.tuple #[.int .i64 Z, .int .i64 ((3 : Nat) : Int), .bool true])) w') := by have h1 := HPo.out; rw [HE.out.1, HE.out.2] at h1; exact h1
    clear HE HPo
    obtain ⟨V6, P7⟩ := HP5.out.st Hvs.out i 3
    obtain ⟨W15, hW15⟩ : ∃ W15, W13.setCell ⟨qs, i, none⟩ (.int .i64 3) = W15 := ⟨_, rfl⟩
    have HW15 : Hid (W15 = W13.setCell ⟨qs, i, none⟩ (.int .i64 ((3 : Nat) : Int))) := hW15.symm
    rw [← HW15.out] at P7
    have HQ7 : Hid (∀ q, Post (.returned (.tuple #[.int .i64 Z, .int .i64 3, .bool true])) (W15.drewN q)) := fun q => HQ.out _ (P7.rt.drew q)
    obtain ⟨qs', cs', cvs', xs', _, _⟩ := P7.rb.stat i (by show i < (Rp.St.set i 3).length; rw [List.length_set]; rw [HL.out.1]; exact hi)
    change W15.cell? ⟨g, 1, none⟩ = some (.slice (some ⟨qs', 0, none⟩) (Rp.St.set i 3).length cs') at cvs'
    rw [List.length_set, ← HNT.out] at cvs'
    have xs'' : W15.cell? ⟨qs', i, none⟩ = some (.int .i64 3) := by
      rw [xs']; show _ = some (Value.int .i64 ((3 : Nat) : Int)); simp
    clear xs' P7
    go_wp2_with fail
    go_quiet (fail)
    go_wp2_with fail
    exact bodyPost_ret (v := .tuple #[.int .i64 Z, .int .i64 3, .bool true]) (by simp [results, Try.results16, go_sem]) rfl (HQ7.out _)
end Go.Proofs.Ytjhhncbadkpbaaa
