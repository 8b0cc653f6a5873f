/-
  The document's own sets: Mark.
-/
import Derived.Test.YtdneikfocefnfaaRfMore
namespace Go.Proofs.Ytdneikfocefnfaa
open Go.RowKit
theorem step_append_at {P : Program} {ops : Array Oper} {o : Oper} {a : Act} {w : World} {K : Act → World → Prop} {Q : Exit → Act → World → Prop} {E : Prop}
    (hg : o.guard = none) (s x : Operand) (t : TypeId) (hop : o.op = Op.call { callee := Callee.builtin Builtin.append, args := #[s, x], argTypes := #[t, t] })
    (base : Nat) (e : TypeId) (i : TypeInfo) (z : Value) (size bytes : Nat) (h1 : P.underlying t = some (.slice e)) (h2 : P.info? e = some i) (h3 : i.zero = some z) (h4 : i.size = size) (h5 : i.bytes = bytes) (h6 : z.cells.size = size) (h7 : 0 < size)
    (v : Value) (n : Nat) (olds : List Value) (hs : a.eval s = v) (hown : w.ownsRow base e size v n olds)
    (ad : Addr) (m c : Nat) (news : List Value) (hx : a.eval x = .slice (some ad) m c) (hn : news.length = m * size) (hc : ∀ j u, news[j]? = some u → w.cell? (ad.add j) = some u) (h1c : ∀ u ∈ news, u.oneCell' = true)
    (b1 : n + m ≤ maxLen) (b2 : (n + m) * bytes ≤ 140737488355328) (hbase : base ≤ w.heap.size)
    (hK : ∀ v' w', w'.ownsRow base e size v' (n + m) (olds ++ news) → w.grownBy w' v.ownBlock → (v'.ownBlock = v.ownBlock ∨ v'.ownBlock = some w.heap.size) → K (a.put o.dst v') w') :
    if Region.wanted o (yielded ops a.tmps) = true then Oper.wp P o a w K Q else E := by
  have hw : Region.wanted o (yielded ops a.tmps) = true := by simp [Region.wanted, hg]
  rw [if_pos hw]
  obtain ⟨v', w', hrun, r1, r2, _, r3⟩ := run_append_own_at (P := P) w base t o.type e i z size bytes h1 h2 h3 h4 h5 h6 h7 v n olds hown ad m c news hn hc h1c b1 b2 hbase
  unfold Oper.wp
  simp [execOp, hop, resolve, invoke, builtin, hs, hx, hrun, Result.andThen]
  exact hK v' w' r1 r2 r3
theorem info27 : (Try.prog.info? 27).map (fun i => (i.zero, i.size, i.bytes)) = some (some (.slice none 0 0), 1, 24) := by kernel_rfl
theorem row_news {w w' : World} {B e sz g n c : Nat} {xs : List Value} (h : w.ownsRow B e sz (.slice (some ⟨g, 0, none⟩) n c) n xs) (hb : Below w.heap.size w w') : ∀ j u, xs[j]? = some u → w'.cell? ((⟨g, 0, none⟩ : Addr).add j) = some u := fun j u hu => by
  rcases h.2 with ⟨e, _⟩ | ⟨g', cap, cur, e, a1, a2, a3, a4, a5, a6⟩
  · cases e
  · injection e with e1 e2 e3
    injection e1 with e1
    injection e1 with e1
    subst e1
    have b : Box w' g cur _ := Box.below a2 hb (Box.lt a2)
    have hj : j < n * sz := by
      have := (List.getElem?_eq_some_iff.1 hu).1
      have := h.1
      omega
    have : w'.cell? ⟨g, j, none⟩ = some u := by
      rw [Box.cell b, ← hu, ← a6, List.getElem?_take, if_pos hj]
      simp
    cases j with
    | zero => simpa [Addr.add] using this
    | succ j => simpa [Addr.add] using this
theorem prs_len (L : List (Int × Int)) : (prs L).length = L.length * 2 := by
  induction L with
  | nil => rfl
  | cons p L ih => rw [prs_cons]; simp [ih]; omega
theorem prs_one (L : List (Int × Int)) : ∀ u ∈ prs L, u.oneCell' = true := by
  intro u hu
  unfold prs at hu
  obtain ⟨p, _, hp⟩ := List.mem_flatMap.1 hu
  simp at hp
  rcases hp with rfl | rfl <;> rfl
set_option maxRecDepth 100000 in
set_option maxHeartbeats 4000000 in
theorem qmark_at {w : World} {B r o : Nat} {t : TypeId} {S : SS Int} {F : Nat → Prop} {cs : Array Value} (h0 : IsR w B r o t S F cs) :
    Calls Try.prog 13 #[.pointer (some ⟨r, o, none⟩)] w fun e w' => e = .returned (.int .i64 S.mark.1) ∧ ToR w B r o t S.mark.2 F cs w' := by
  have H0 : Hid (ToR w B r o t S F cs w) := ToR.refl h0
  obtain ⟨vR, vW, vM, Y, hq⟩ := h0
  have c2 : w.cell? ⟨r, o + 2, none⟩ = some vM := (hq.box.cell _).trans hq.cM
  obtain ⟨aM, cM, eM⟩ := ownsRow_slice hq.rM
  obtain ⟨aW, cW, eW⟩ := ownsRow_slice hq.rW
  subst eM
  subst eW
  by_cases hm : 8 ≤ S.M.length
  · have e1 : Hid (S.mark = (3, S)) := by unfold Hid SS.mark; rw [if_pos hm]
    have h8 : Y.length = 8 := by have := hq.lM; have := hq.lN; omega
    rw [h8] at c2
    clear hq
    generalize S.mark = q at *
    go_enter Try.func13, Try.ntmps13
    go_wp2
    go_ret
    rw [e1.out]; exact ⟨rfl, H0.out⟩
  obtain ⟨i0, hi0, hz0, hz1, hz2⟩ := info_parts info91
  obtain ⟨i1, hi1, hy0, hy1, hy2⟩ := info_parts info27
  have hn8 : Y.length < 8 := by have := hq.lM; omega
  have e1 : Hid (S.mark = (0, { S with M := S.M ++ [S.W] })) := by unfold Hid SS.mark; rw [if_neg hm]
  have HCA : Hid (∀ u, Below w.heap.size w u → ∀ q ∈ [((⟨r, o + 2, none⟩ : Addr), (.slice aM Y.length cM : Value)), (⟨r, o + 1, none⟩, .slice aW S.W.length cW)], u.cell? q.1 = some q.2) := fun u hu q hq' => by
    have b := hq.box.below hu hq.box.lt
    simp at hq'
    rcases hq' with rfl | rfl
    · exact (b.cell _).trans hq.cM
    · exact (b.cell _).trans hq.cW
  have HCS : Hid (∀ q ∈ [((⟨r, o + 2, none⟩ : Addr), (.slice aM Y.length cM : Value)), (⟨r, o + 1, none⟩, .slice aW S.W.length cW)], w.drew.cell? q.1 = some q.2) := HCA.out w.drew ⟨rfl, rfl, rfl, Nat.le_refl _, fun _ _ => rfl⟩
  have RM : Hid (∀ u, Below w.heap.size w u → u.ownsRow B 27 1 (.slice aM Y.length cM) Y.length Y) := fun u hu => ownsRow_below hq.rM hu.block
  have RW : Hid (w.ownsRow B 91 2 (.slice aW S.W.length cW) S.W.length (prs S.W)) := hq.rW
  have HSB : Hid (B ≤ w.heap.size) := hq.hB
  have HBX : Hid (Box w r cs t) := hq.box
  have HTY : Hid (t ≠ 89 ∧ t ≠ 91 ∧ t ≠ 27) := hq.ty
  have HCW : Hid (cs[o + 1]? = some (.slice aW S.W.length cW)) := hq.cW
  have hw256 := hq.lW
  have MO : Hid (∀ (w3 w4 : World) (v2 vM' : Value), Below w.heap.size w w3 → w3.ownsRow w.heap.size 91 2 v2 S.W.length (prs S.W) → w3.grownBy w4 (Value.slice aM Y.length cM).ownBlock → w4.ownsRow B 27 1 vM' (Y.length + 1) (Y ++ [v2]) → (vM'.ownBlock = (Value.slice aM Y.length cM).ownBlock ∨ vM'.ownBlock = some w3.heap.size) → (w4.cell? ⟨r, o + 2, none⟩ = some (.slice aM Y.length cM) ∧ w4.frozen? ⟨r, o + 2, none⟩ = false ∧ ToR w B r o t { S with M := S.M ++ [S.W] } F cs (w4.setCell ⟨r, o + 2, none⟩ vM'))) := fun w3 w4 v2 vM' a1 a2 a3 a4 a5 => hq.more a1 a2 a3 a4 a5 hn8
  have bA : Hid (Below w.heap.size w (w.drew.alloc (.cells #[] 91))) := by
    have := (Below.refl w.heap.size w.drew).alloc (Nat.le_refl _) (.cells #[] 91)
    exact ⟨this.os, this.tape, this.output, this.size, this.block⟩
  have xA : Hid (Box (w.drew.alloc (.cells #[] 91)) w.heap.size #[] 91) := Box.new w.drew #[] 91
  have oA : Hid ((w.drew.alloc (.cells #[] 91)).ownsRow w.heap.size 91 2 (.slice (some ⟨w.heap.size, 0, none⟩) 0 0) 0 []) := ⟨rfl, .inr ⟨w.heap.size, 0, #[], rfl, Nat.le_refl _, xA.out, Nat.le_refl _, by unfold maxLen; omega, rfl, rfl⟩⟩
  clear hq hm H0
  generalize hY : Y.length = n at *
  generalize hW : S.W.length = nW at *
  have HW : Hid (S.W.length = nW) := hW
  clear hY hW
  have hn8' : ((n : Int) == 8) = false := by simp; omega
  generalize S.mark = q at *
  go_enter Try.func13, Try.ntmps13
  go_wp2_with fail
  refine wp_region_any (by kernel_rfl) ?_
  refine wpAny_take (i := 0) (v := ?_) rfl (by kernel_rfl) (by kernel_rfl) (by kernel_rfl) (fun _ _ _ h => h) (Or.inl ⟨by rfl, ?_⟩) ?_
  rotate_left
  · intro u
    go_simp
    with_reducible rfl
  simp only [Act.put, List.setIfInBounds_toArray, List.set_cons_zero, List.set_cons_succ, List.getElem_toArray, List.getElem_cons_zero]
  refine wpAny_take (i := 1) (v := ?_) rfl (by kernel_rfl) (by kernel_rfl) (by kernel_rfl) (fun _ _ _ h => h) (Or.inl ⟨by rfl, ?_⟩) ?_
  rotate_left
  · intro u
    go_simp
    with_reducible rfl
  simp only [Act.put, List.setIfInBounds_toArray, List.set_cons_zero, List.set_cons_succ, List.getElem_toArray, List.getElem_cons_zero, List.getElem_cons_succ]
  refine wpAny_take (i := 2) (v := ?_) rfl (by kernel_rfl) (by kernel_rfl) (by kernel_rfl) (fun _ _ _ h => h) (Or.inl ⟨by rfl, ?_⟩) ?_
  rotate_left
  · intro u
    go_simp
    with_reducible rfl
  simp only [Act.put, List.setIfInBounds_toArray, List.set_cons_zero, List.set_cons_succ, List.getElem_toArray, List.getElem_cons_zero, List.getElem_cons_succ]
  refine wpAny_take (i := 3) (v := ?_) rfl (by kernel_rfl) (by kernel_rfl) (by kernel_rfl) (fun _ _ _ h => h) (Or.inl ⟨by rfl, ?_⟩) ?_
  rotate_left
  · intro u
    go_simp
    with_reducible rfl
  simp only [Act.put, List.setIfInBounds_toArray, List.set_cons_zero, List.set_cons_succ, List.getElem_toArray, List.getElem_cons_zero, List.getElem_cons_succ]
  refine wpAny_take (i := 6) (v := ?_) rfl (by kernel_rfl) (by kernel_rfl) (by kernel_rfl) (fun _ _ _ h => h) (Or.inl ⟨by rfl, ?_⟩) ?_
  rotate_left
  · intro u
    go_simp
    with_reducible rfl
  simp only [Act.put, List.setIfInBounds_toArray, List.set_cons_zero, List.set_cons_succ, List.getElem_toArray, List.getElem_cons_zero, List.getElem_cons_succ]
  refine wpAny_take (i := 7) (v := ?_) rfl (by kernel_rfl) (by kernel_rfl) (by kernel_rfl) (fun _ _ _ h => h) (Or.inl ⟨by rfl, ?_⟩) ?_
  rotate_left
  · intro u
    go_simp
    with_reducible rfl
  simp only [Act.put, List.setIfInBounds_toArray, List.set_cons_zero, List.set_cons_succ, List.getElem_toArray, List.getElem_cons_zero, List.getElem_cons_succ]
  refine wpAny_take (i := 8) (v := ?_) rfl (by kernel_rfl) (by kernel_rfl) (by kernel_rfl) (fun _ _ _ h => h) (Or.inl ⟨by rfl, ?_⟩) ?_
  rotate_left
  · intro u
    go_simp
    with_reducible rfl
  simp only [Act.put, List.setIfInBounds_toArray, List.set_cons_zero, List.set_cons_succ, List.getElem_toArray, List.getElem_cons_zero, List.getElem_cons_succ]
  refine wpAny_of_E (C := SlotsCells [(12, .pointer (some ⟨r, o + 2, none⟩)), (17, .pointer (some ⟨r, o + 1, none⟩))] [(⟨r, o + 2, none⟩, .slice aM n cM), (⟨r, o + 1, none⟩, .slice aW nW cW)]) (late := [15]) _ _ _ _ ?_
  refine wpAnyE_take (i := 4) (v := .slice aM n cM) rfl (by kernel_rfl) (by kernel_rfl) (by kernel_rfl) (by kernel_rfl) (by kernel_rfl) (by kernel_rfl) (fun _ _ _ h => h) ?_ (fun fr u h => (SlotsCells.put 13 _ (by rfl)).1 h) (fun fr u h => (SlotsCells.put 13 _ (by rfl)).2 h) ?_ ?_
  · intro fr u hh
    obtain ⟨e1, e2⟩ := hh.load (s := 12) (p := ⟨r, o + 2, none⟩) (v := .slice aM n cM) (by simp) (by simp)
    exact ⟨rfl, by simp [execOp, e1, go_sem, e2]⟩
  · exact ⟨fun q hq => by simp at hq; rcases hq with rfl | rfl <;> rfl, HCS.out⟩
  simp only [Act.put, List.setIfInBounds_toArray, List.set_cons_zero, List.set_cons_succ, List.getElem_toArray, List.getElem_cons_zero, List.getElem_cons_succ]
  refine wpAnyE_take (i := 9) (v := .slice aW nW cW) rfl (by kernel_rfl) (by kernel_rfl) (by kernel_rfl) (by kernel_rfl) (by kernel_rfl) (by kernel_rfl) (fun _ _ _ h => h) ?_ (fun fr u h => (SlotsCells.put 18 _ (by rfl)).1 h) (fun fr u h => (SlotsCells.put 18 _ (by rfl)).2 h) ?_ ?_
  · intro fr u hh
    obtain ⟨e1, e2⟩ := hh.load (s := 17) (p := ⟨r, o + 1, none⟩) (v := .slice aW nW cW) (by simp) (by simp)
    exact ⟨rfl, by simp [execOp, e1, go_sem, e2]⟩
  · exact ⟨fun q hq => by simp at hq; rcases hq with rfl | rfl <;> rfl, HCS.out⟩
  simp only [Act.put, List.setIfInBounds_toArray, List.set_cons_zero, List.set_cons_succ, List.getElem_toArray, List.getElem_cons_zero, List.getElem_cons_succ]
  refine wpAnyE_some (rs := [5]) (by kernel_rfl) (by simp) (fun i hi => ?_)
  simp only [List.mem_cons, List.not_mem_nil, or_false] at hi
  subst hi
  refine wpOp_step rfl (fun Kc hKc => ?_)
  go_simp
  refine hKc _ _ ⟨.inr (.inr ⟨fun q hq => by simp at hq; rcases hq with rfl | rfl <;> rfl, HCA.out _ bA.out⟩), ?_⟩
  clear hKc Kc
  refine wpAnyE_some (rs := [10]) (by kernel_rfl) (by simp) (fun i hi => ?_)
  simp only [List.mem_cons, List.not_mem_nil, or_false] at hi
  subst hi
  refine wpOp_step rfl (fun Kc hKc => ?_)
  by_cases h0 : nW = 0
  · subst h0
    have eW : S.W = [] := List.length_eq_zero_iff.1 HW.out
    obtain ⟨w2, hw2⟩ : ∃ w2, w2 = w.drew.alloc (.cells #[] 91) := ⟨_, rfl⟩
    have hw2' : (w.alloc (Obj.cells #[] 91)).drew = w2 := by rw [hw2]; rfl
    have B2 : Hid (Below w.heap.size w w2) := by rw [hw2]; exact bA
    have O2 : Hid (w2.ownsRow w.heap.size 91 2 (.slice (some ⟨w.heap.size, 0, none⟩) 0 0) 0 (prs S.W)) := by rw [hw2, eW]; exact oA
    clear hw2 eW
    rcases aW with _ | a0
    all_goals
      go_simp
      refine hKc _ _ ⟨.inr (.inr ⟨fun q hq => by simp at hq; rcases hq with rfl | rfl <;> rfl, HCA.out _ B2.out⟩), ?_⟩
      clear hKc Kc
      refine wpAnyE_some (rs := [11]) (by kernel_rfl) (by simp) (fun i hi => ?_)
      simp only [List.mem_cons, List.not_mem_nil, or_false] at hi
      subst hi
      refine wpOp_step rfl (fun Kc hKc => ?_)
      go_simp
      have hB3 : Below w.heap.size w (w2.alloc (.cells #[.slice (some ⟨w.heap.size, 0, none⟩) 0 0] 27)) := (B2.out).alloc (B2.out).size _
      refine hKc _ _ ⟨.inr (.inr ⟨fun q hq => by simp at hq; rcases hq with rfl | rfl <;> rfl, HCA.out _ hB3⟩), ?_⟩
      clear hKc Kc
      refine wpAnyE_some (rs := [12]) (by kernel_rfl) (by simp) (fun i hi => ?_)
      simp only [List.mem_cons, List.not_mem_nil, or_false] at hi
      subst hi
      refine wpOp_step rfl (fun Kc hKc => ?_)
      refine step_append_at rfl (.tmp 13) (.tmp 20) 28 rfl B 27 i1 (.slice none 0 0) 1 24 Try.underlying28 hi1 hy0 hy1 hy2 rfl (by decide) (.slice aM n cM) n Y rfl (RM.out _ hB3) ⟨w2.heap.size, 0, none⟩ 1 1 [.slice (some ⟨w.heap.size, 0, none⟩) 0 0] rfl rfl (World.news_of_block (cs := #[.slice (some ⟨w.heap.size, 0, none⟩) 0 0]) (t := 27) (fr := (0, 0)) (heap_alloc_new w2 _)) ?_ ?_ ?_ ?_ ?_
      · intro u hu; simp at hu; subst hu; rfl
      · unfold maxLen; omega
      · omega
      · have := HSB.out; have := hB3.size; omega
      intro v4 w4 ho4 hg4 hl4
      obtain ⟨a4, c4', e4⟩ := ownsRow_slice ho4
      subst e4
      obtain ⟨m1, m2, m3⟩ := MO.out (w2.alloc (.cells #[.slice (some ⟨w.heap.size, 0, none⟩) 0 0] 27)) w4 (.slice (some ⟨w.heap.size, 0, none⟩) 0 0) (.slice a4 (n + 1) c4') hB3 (ownsRow_below O2.out (fun x hx => Below.heap_alloc w2 _ x hx)) hg4 ho4 hl4
      have hb3 := (HBX.out.below hB3 HBX.out.lt)
      have hB4 := ((Box.cell (show Box w4 r cs t from (hg4.block r hb3.lt (fun e => row_box (RM.out _ hB3) hb3 HTY.out.2.2 e.symm)).trans hb3)) _).trans HCW.out
      clear hb3
      have T4 : Hid (ToR w B r o t { S with M := S.M ++ [S.W] } F cs (w4.setCell ⟨r, o + 2, none⟩ (.slice a4 (n + 1) c4'))) := m3
      refine hKc _ _ ⟨.inr (.inr ⟨fun q hq => by simp at hq; rcases hq with rfl | rfl <;> rfl, fun q hq => by simp at hq; rcases hq with rfl | rfl; exact m1; exact hB4⟩), ?_⟩
      clear hKc Kc ho4 hg4 hl4 m3
      refine wpAnyE_pure (i := 13) (v := ?_) rfl (by kernel_rfl) (by kernel_rfl) (by kernel_rfl) (by kernel_rfl) (fun _ _ _ h => h) (fun fr u h => (SlotsCells.put 22 _ (by rfl)).1 h) (fun fr u h => (SlotsCells.put 22 _ (by rfl)).2 h) (.inr ⟨fun q hq => by simp at hq; rcases hq with rfl | rfl <;> rfl, fun q hq => by simp at hq; rcases hq with rfl | rfl; exact m1; exact hB4⟩) (Or.inl ⟨by rfl, ?_⟩) ?_
      rotate_left
      · intro u
        go_simp
        with_reducible rfl
      simp only [Act.put, List.setIfInBounds_toArray, List.set_cons_zero, List.set_cons_succ, List.getElem_toArray, List.getElem_cons_zero, List.getElem_cons_succ]
      refine wpAnyE_pure (i := 14) (v := ?_) rfl (by kernel_rfl) (by kernel_rfl) (by kernel_rfl) (by kernel_rfl) (fun _ _ _ h => h) (fun fr u h => (SlotsCells.put 23 _ (by rfl)).1 h) (fun fr u h => (SlotsCells.put 23 _ (by rfl)).2 h) (.inr ⟨fun q hq => by simp at hq; rcases hq with rfl | rfl <;> rfl, fun q hq => by simp at hq; rcases hq with rfl | rfl; exact m1; exact hB4⟩) (Or.inl ⟨by rfl, ?_⟩) ?_
      rotate_left
      · intro u
        go_simp
        with_reducible rfl
      simp only [Act.put, List.setIfInBounds_toArray, List.set_cons_zero, List.set_cons_succ, List.getElem_toArray, List.getElem_cons_zero, List.getElem_cons_succ]
      refine wpAnyE_some (rs := [15]) (by kernel_rfl) (by simp) (fun i hi => ?_)
      simp only [List.mem_cons, List.not_mem_nil, or_false] at hi
      subst hi
      refine wpOp_step rfl (fun Kc hKc => ?_)
      go_simp
      refine hKc _ _ ⟨.inr (.inl rfl), ?_⟩
      clear hKc Kc
      refine wpAnyE_done (by kernel_rfl) ?_ _
      go_wp2
      go_ret
      rw [e1.out]; exact ⟨rfl, T4.out⟩
  · obtain ⟨gW, eg⟩ : ∃ gW, aW = some ⟨gW, 0, none⟩ := by
      rcases RW.out.2 with ⟨_, e⟩ | ⟨g', cap, cur, e, _⟩
      · exact absurd e h0
      · injection e with e; exact ⟨g', e⟩
    subst eg
    refine step_append_at rfl (.tmp 14) (.tmp 18) 27 rfl w.heap.size 91 i0 (.agg #[.int .i64 0, .int .i64 0]) 2 16 Try.underlying27 hi0 hz0 hz1 hz2 rfl (by decide) (.slice (some ⟨w.heap.size, 0, none⟩) 0 0) 0 [] rfl oA.out ⟨gW, 0, none⟩ nW cW (prs S.W) rfl ?_ ?_ (prs_one _) ?_ ?_ bA.out.size ?_
    · rw [prs_len, HW.out]
    · exact row_news RW.out bA.out
    · unfold maxLen; omega
    · omega
    intro v2 w2 ho2 hg2 hl2
    simp only [Nat.zero_add, List.nil_append] at ho2
    obtain ⟨a2, c2', e2⟩ := ownsRow_slice ho2
    subst e2
    have B2 : Hid (Below w.heap.size w w2) := bA.out.grown hg2 bA.out.size (fun k e => by cases e; exact Nat.le_refl _)
    have O2 : Hid (w2.ownsRow w.heap.size 91 2 (.slice a2 nW c2') nW (prs S.W)) := ho2
    refine hKc _ _ ⟨.inr (.inr ⟨fun q hq => by simp at hq; rcases hq with rfl | rfl <;> rfl, HCA.out _ B2.out⟩), ?_⟩
    clear hKc Kc ho2 hg2 hl2
    refine wpAnyE_some (rs := [11]) (by kernel_rfl) (by simp) (fun i hi => ?_)
    simp only [List.mem_cons, List.not_mem_nil, or_false] at hi
    subst hi
    refine wpOp_step rfl (fun Kc hKc => ?_)
    go_simp
    have hB3 : Below w.heap.size w (w2.alloc (.cells #[.slice a2 nW c2'] 27)) := (B2.out).alloc (B2.out).size _
    refine hKc _ _ ⟨.inr (.inr ⟨fun q hq => by simp at hq; rcases hq with rfl | rfl <;> rfl, HCA.out _ hB3⟩), ?_⟩
    clear hKc Kc
    refine wpAnyE_some (rs := [12]) (by kernel_rfl) (by simp) (fun i hi => ?_)
    simp only [List.mem_cons, List.not_mem_nil, or_false] at hi
    subst hi
    refine wpOp_step rfl (fun Kc hKc => ?_)
    refine step_append_at rfl (.tmp 13) (.tmp 20) 28 rfl B 27 i1 (.slice none 0 0) 1 24 Try.underlying28 hi1 hy0 hy1 hy2 rfl (by decide) (.slice aM n cM) n Y rfl (RM.out _ hB3) ⟨w2.heap.size, 0, none⟩ 1 1 [.slice a2 nW c2'] rfl rfl (World.news_of_block (cs := #[.slice a2 nW c2']) (t := 27) (fr := (0, 0)) (heap_alloc_new w2 _)) ?_ ?_ ?_ ?_ ?_
    · intro u hu; simp at hu; subst hu; rfl
    · unfold maxLen; omega
    · omega
    · have := HSB.out; have := hB3.size; omega
    intro v4 w4 ho4 hg4 hl4
    obtain ⟨a4, c4', e4⟩ := ownsRow_slice ho4
    subst e4
    obtain ⟨m1, m2, m3⟩ := MO.out (w2.alloc (.cells #[.slice a2 nW c2'] 27)) w4 (.slice a2 nW c2') (.slice a4 (n + 1) c4') hB3 (ownsRow_below O2.out (fun x hx => Below.heap_alloc w2 _ x hx)) hg4 ho4 hl4
    have hb3 := (HBX.out.below hB3 HBX.out.lt)
    have hB4 := ((Box.cell (show Box w4 r cs t from (hg4.block r hb3.lt (fun e => row_box (RM.out _ hB3) hb3 HTY.out.2.2 e.symm)).trans hb3)) _).trans HCW.out
    clear hb3
    have T4 : Hid (ToR w B r o t { S with M := S.M ++ [S.W] } F cs (w4.setCell ⟨r, o + 2, none⟩ (.slice a4 (n + 1) c4'))) := m3
    refine hKc _ _ ⟨.inr (.inr ⟨fun q hq => by simp at hq; rcases hq with rfl | rfl <;> rfl, fun q hq => by simp at hq; rcases hq with rfl | rfl; exact m1; exact hB4⟩), ?_⟩
    clear hKc Kc ho4 hg4 hl4 m3
    refine wpAnyE_pure (i := 13) (v := ?_) rfl (by kernel_rfl) (by kernel_rfl) (by kernel_rfl) (by kernel_rfl) (fun _ _ _ h => h) (fun fr u h => (SlotsCells.put 22 _ (by rfl)).1 h) (fun fr u h => (SlotsCells.put 22 _ (by rfl)).2 h) (.inr ⟨fun q hq => by simp at hq; rcases hq with rfl | rfl <;> rfl, fun q hq => by simp at hq; rcases hq with rfl | rfl; exact m1; exact hB4⟩) (Or.inl ⟨by rfl, ?_⟩) ?_
    rotate_left
    · intro u
      go_simp
      with_reducible rfl
    simp only [Act.put, List.setIfInBounds_toArray, List.set_cons_zero, List.set_cons_succ, List.getElem_toArray, List.getElem_cons_zero, List.getElem_cons_succ]
    refine wpAnyE_pure (i := 14) (v := ?_) rfl (by kernel_rfl) (by kernel_rfl) (by kernel_rfl) (by kernel_rfl) (fun _ _ _ h => h) (fun fr u h => (SlotsCells.put 23 _ (by rfl)).1 h) (fun fr u h => (SlotsCells.put 23 _ (by rfl)).2 h) (.inr ⟨fun q hq => by simp at hq; rcases hq with rfl | rfl <;> rfl, fun q hq => by simp at hq; rcases hq with rfl | rfl; exact m1; exact hB4⟩) (Or.inl ⟨by rfl, ?_⟩) ?_
    rotate_left
    · intro u
      go_simp
      with_reducible rfl
    simp only [Act.put, List.setIfInBounds_toArray, List.set_cons_zero, List.set_cons_succ, List.getElem_toArray, List.getElem_cons_zero, List.getElem_cons_succ]
    refine wpAnyE_some (rs := [15]) (by kernel_rfl) (by simp) (fun i hi => ?_)
    simp only [List.mem_cons, List.not_mem_nil, or_false] at hi
    subst hi
    refine wpOp_step rfl (fun Kc hKc => ?_)
    go_simp
    refine hKc _ _ ⟨.inr (.inl rfl), ?_⟩
    clear hKc Kc
    refine wpAnyE_done (by kernel_rfl) ?_ _
    go_wp2
    go_ret
    rw [e1.out]; exact ⟨rfl, T4.out⟩
end Go.Proofs.Ytdneikfocefnfaa
