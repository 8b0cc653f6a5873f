/-
  hide: what it does to memory.
-/
import Derived.Test.YtghcmlkgpedkkaaStamped
namespace Go.Proofs.Ytghcmlkgpedkkaa
open Go.RowKit Go.Shelf
attribute [local go_sem] Oper.semAt_some

/-- bytes behind a row of one's own, in a region that draws, whatever the frame -/
theorem wpIn_append_bytes {F : Fence} {n : Nat} {o : Oper} {a : Act} {w : World} {K : Act → World → Prop} {Q : Exit → Act → World → Prop} {ys : Nat → Option Bool} {Z : Prop} (hw : Region.wanted o ys = true) (s x : Operand)
    (ho : o.op = .call { callee := .builtin .append, args := #[s, x], argTypes := #[31, 31] })
    (base : Nat) (v : Value) (m : Nat) (xs : List Value) (hs : a.eval s = v) (hown : w.ownsRow base 5 1 v m xs)
    (g off k c : Nat) (zs : List UInt8) (hx : a.eval x = .slice (some ⟨g, off, none⟩) k c) (hl : zs.length = k) (hr : Rd w (some ⟨g, off, none⟩) zs) (hb : m + k ≤ 140737488355328) (hbase : base ≤ w.heap.size)
    (h : ∀ v' w', w'.ownsRow base 5 1 v' (m + k) (xs ++ bcs zs) → w.grownBy w' v.ownBlock → K (a.put o.dst v') w') : if Region.wanted o ys = true then Oper.wpIn F n Try.prog o a w K Q else Z := by
  obtain ⟨i0, hi, hz0, hz1, hz2⟩ := info_parts info5
  rw [if_pos hw]
  obtain ⟨v', w', hrun, r1, r2, r3⟩ := run_append_own (P := Try.prog) w base 31 o.type 5 i0 (.int .u8 0) 1 1 Try.underlying31 hi hz0 hz1 hz2 rfl (by decide) v m xs hown ⟨g, off, none⟩ k c (bcs zs) (by rw [bcs_length]; omega) (fun j u hj => by
      have hj' : j < zs.length := by have := (List.getElem?_eq_some_iff.1 hj).1; simpa [bcs_length] using this
      rw [bcs_getElem? zs j hj'] at hj
      obtain ⟨b, o', he, hc⟩ := hr (by omega)
      obtain ⟨rfl, rfl, _⟩ := Addr.mk.inj (Option.some.inj he)
      rw [Addr.add_lit, hc j hj']
      exact hj) (bcs_oneCell zs) (by unfold maxLen; omega) (by omega) hbase
  unfold Oper.wpIn
  refine ⟨?_, ?_⟩
  · simp [Oper.about, ho, resolve, Target.leads, Sem.run_pure]
  · rw [Oper.semAt_plain F _ _ (by rw [ho]; intro c hc'; cases hc')]
    simp [execOp, ho, resolve, invoke, builtin, hs, hx, hrun, Result.andThen]
    exact h _ _ r1 r2

/-- one sector's stamp laid, what it hides kept -/
def hideStep (M : List UInt8) (st : List UInt8 × List UInt8) (x : Fin 8) : List UInt8 × List UInt8 := (over st.1 (x.val * 512) M, st.2 ++ (sec st.1 x.val).take 8)
def hideTo (xs M : List UInt8) (pre : List (Fin 8)) : List UInt8 × List UInt8 := pre.foldl (hideStep M) (xs, [])
theorem hideTo_snoc (xs M : List UInt8) (pre : List (Fin 8)) (x : Fin 8) : hideTo xs M (pre ++ [x]) = hideStep M (hideTo xs M pre) x := by simp [hideTo]
theorem hideTo_length (xs M : List UInt8) (hl : xs.length = 4096) (hm : M.length = 8) (pre : List (Fin 8)) : (hideTo xs M pre).1.length = 4096 ∧ (hideTo xs M pre).2.length = pre.length * 8 := by
  unfold hideTo
  have : ∀ (pre : List (Fin 8)) (st : List UInt8 × List UInt8), st.1.length = 4096 → (pre.foldl (hideStep M) st).1.length = 4096 ∧ (pre.foldl (hideStep M) st).2.length = st.2.length + pre.length * 8 := by
    intro pre
    induction pre with
    | nil => intro st h; exact ⟨h, by simp⟩
    | cons x pre ih =>
      intro st h
      have hx := x.isLt
      rw [List.foldl_cons]
      have h1 : (hideStep M st x).1.length = 4096 := by unfold hideStep; rw [over_length _ _ _ (by rw [h, hm]; omega)]; exact h
      obtain ⟨q1, q2⟩ := ih _ h1
      refine ⟨q1, ?_⟩
      rw [q2]
      have h2 : (hideStep M st x).2.length = st.2.length + 8 := by unfold hideStep; simp [sec, h]; omega
      rw [h2, List.length_cons]
      omega
  obtain ⟨q1, q2⟩ := this pre (xs, []) hl
  exact ⟨q1, by rw [q2]; simp⟩

theorem rowB_store {w : World} {g cap b j : Nat} {ys : List UInt8} {cs : Array Value} {t : TypeId} (h : RowB w g cap ys) (hb : Box w b cs t) (ht : 5 ≠ t) (u : Value) : RowB (w.setCell ⟨b, j, none⟩ u) g cap ys := by
  obtain ⟨cur, hc, r⟩ := h
  exact ⟨cur, (heap_setCell_other w ⟨b, j, none⟩ g u (hc.ne hb ht)).trans hc, r⟩
theorem Box.grown {w w' : World} {g : Nat} {cs : Array Value} {t : TypeId} {row : Option Nat} (h : Box w g cs t) (hg : w.grownBy w' row) (hr : row ≠ some g) : Box w' g cs t := (hg.block g h.lt (fun e => hr e.symm)).trans h
theorem RowB.grown {w w' : World} {g cap : Nat} {ys : List UInt8} {row : Option Nat} (h : RowB w g cap ys) (hg : w.grownBy w' row) (hr : row ≠ some g) : RowB w' g cap ys := by
  obtain ⟨cur, h, r⟩ := h
  exact ⟨cur, h.grown hg hr, r⟩
theorem owns_grown {w w' : World} {base e size n : Nat} {v : Value} {xs : List Value} {row : Option Nat} (h : w.ownsRow base e size v n xs) (hg : w.grownBy w' row) (hr : ∀ g, v.ownBlock = some g → row ≠ some g) : w'.ownsRow base e size v n xs := by
  refine ⟨h.1, ?_⟩
  rcases h.2 with h | ⟨g, cap, cur, rfl, e2, e3, e4⟩
  · exact .inl h
  · exact .inr ⟨g, cap, cur, rfl, e2, (hg.block g (Array.getElem?_eq_some_iff.1 e3).1 (fun e => hr g rfl e.symm)).trans e3, e4⟩
/-- the block of a row of one's own, if it has one -/
theorem owns_block {w : World} {base e size n : Nat} {v : Value} {xs : List Value} (h : w.ownsRow base e size v n xs) (g : Nat) (hg : v.ownBlock = some g) : base ≤ g ∧ ∃ cur, Box w g cur e := by
  rcases h.2 with ⟨rfl, _⟩ | ⟨g', cap, cur, rfl, e2, e3, e4⟩
  · simp [Value.ownBlock] at hg
  · simp [Value.ownBlock] at hg
    subst hg
    exact ⟨e2, cur, e3⟩
theorem keeps_owns {w w' : World} {base e size n : Nat} {v : Value} {xs : List Value} (h : w.ownsRow base e size v n xs) (hg : w.grownBy w' v.ownBlock) : KeepsOthers w w' := by
  cases hb : v.ownBlock with
  | none =>
    rw [hb] at hg
    exact ⟨hg.size, fun k o hk _ => (hg.block k (Array.getElem?_eq_some_iff.1 hk).1 (by simp)).trans hk⟩
  | some g =>
    rw [hb] at hg
    obtain ⟨_, cur, hc⟩ := owns_block h g hb
    exact keeps_grown hc hg

theorem owns_shape {w : World} {base e size n : Nat} {v : Value} {xs : List Value} (h : w.ownsRow base e size v n xs) : ∃ a cap, v = .slice a n cap := by
  rcases h.2 with ⟨rfl, rfl⟩ | ⟨g, cap, cur, rfl, _⟩
  · exact ⟨none, 0, rfl⟩
  · exact ⟨_, cap, rfl⟩

/-- what stands in memory while the sectors come -/
def HideI (w : World) (h c gm k1 : Nat) (st : List UInt8 × List UInt8) (W : World) : Prop :=
  RowB W h c st.1 ∧ (∃ v, Box W (w.heap.size + 1) #[v] 31 ∧ W.ownsRow (k1 + 1) 5 1 v st.2.length (bcs st.2)) ∧ Box W w.heap.size #[.slice (some ⟨gm, 0, none⟩) 8 8] 31 ∧ k1 + 1 ≤ W.heap.size

/-- one round's work on memory -/
theorem hide_round (w W : World) (h c gm k1 : Nat) (xs M hd : List UInt8) (v : Value) (x : Fin 8) (hh : w.heap.size + 1 < h) (hk : h < k1) (hl : xs.length = 4096) (hm : M.length = 8) (hM : Rd w (some ⟨gm, 0, none⟩) M) (hB : Below w.heap.size w W)
    (hx : RowB W h c xs) (hv : Box W (w.heap.size + 1) #[v] 31) (hown : W.ownsRow (k1 + 1) 5 1 v hd.length (bcs hd)) (hmk : Box W w.heap.size #[.slice (some ⟨gm, 0, none⟩) 8 8] 31) (hsz : k1 + 1 ≤ W.heap.size)
    (v' : Value) (w2 : World) (hown2 : w2.ownsRow (k1 + 1) 5 1 v' (hd.length + 8) (bcs hd ++ bcs ((sec xs x.val).take 8))) (hg2 : W.drew.grownBy w2 v.ownBlock) :
    w2.cell? ⟨w.heap.size + 1, 0, none⟩ = some v ∧ w2.frozen? ⟨w.heap.size + 1, 0, none⟩ = false ∧ (w2.setCell ⟨w.heap.size + 1, 0, none⟩ v').cell? ⟨w.heap.size, 0, none⟩ = some (.slice (some ⟨gm, 0, none⟩) 8 8) ∧
    ∃ W5, (∀ ty, (Builtin.copy_ #[31, 31] ty #[.slice (some ⟨h, x.val * 512, none⟩) 512 512, .slice (some ⟨gm, 0, none⟩) 8 8]).run Try.prog (w2.setCell ⟨w.heap.size + 1, 0, none⟩ v') = .ok (goInt 8) W5) ∧
      HideI w h c gm k1 (hideStep M (xs, hd) x) W5 ∧ Below w.heap.size w W5 ∧ KeepsOthers W W5 ∧ (W5.heap[k1]? = W.heap[k1]?) := by
  have hx8 := x.isLt
  have hne : ∀ g', v.ownBlock = some g' → k1 + 1 ≤ g' := fun g' e => (owns_block hown g' e).1
  have hx2 : RowB w2 h c xs := RowB.grown (w := W.drew) hx hg2 (fun e => by have := hne h e; omega)
  have hv2 : Box w2 (w.heap.size + 1) #[v] 31 := Box.grown (w := W.drew) hv hg2 (fun e => by have := hne _ e; omega)
  have hmk2 : Box w2 w.heap.size #[.slice (some ⟨gm, 0, none⟩) 8 8] 31 := Box.grown (w := W.drew) hmk hg2 (fun e => by have := hne _ e; omega)
  have hB2 : Below w.heap.size w w2 := (hB.drew).grown hg2 hB.size (fun k e => by have := hne _ e; omega)
  have hB3 := hB2.setCell (p := ⟨w.heap.size + 1, 0, none⟩) (by simp) v'
  have hv3 : Box (w2.setCell ⟨w.heap.size + 1, 0, none⟩ v') (w.heap.size + 1) #[v'] 31 := by have := hv2.store 0 v'; simpa using this
  have hmk3 : Box (w2.setCell ⟨w.heap.size + 1, 0, none⟩ v') w.heap.size #[.slice (some ⟨gm, 0, none⟩) 8 8] 31 := (heap_setCell_other w2 ⟨w.heap.size + 1, 0, none⟩ w.heap.size v' (by show w.heap.size ≠ w.heap.size + 1; omega)).trans hmk2
  have hx3 := rowB_store (j := 0) hx2 hv2 (by decide) v'
  have hown3 : (w2.setCell ⟨w.heap.size + 1, 0, none⟩ v').ownsRow (k1 + 1) 5 1 v' (hd.length + 8) (bcs hd ++ bcs ((sec xs x.val).take 8)) := owns_grown hown2 (grown_store w2 (w.heap.size + 1) 0 v') (fun g' e => by
    obtain ⟨q, _⟩ := owns_block hown2 g' e
    intro e2
    cases e2
    omega)
  have hM3 := hM.below hB3 (Nat.le_refl _)
  obtain ⟨W5, hrun, hrow5, hg5⟩ := copy_row h c (x.val * 512) 512 512 (some ⟨gm, 0, none⟩) 8 M xs _ hx3 hM3 (by omega) (by omega) (by omega)
  rw [hm] at hrun
  refine ⟨hv2.cell 0, hv2.frozen 0, hmk3.cell 0, W5, hrun, ⟨hrow5, ⟨v', hv3.grown hg5 (fun e => by cases e; omega), ?_⟩, hmk3.grown hg5 (fun e => by cases e; omega), ?_⟩, hB3.grown hg5 hB3.size (fun k e => by cases e; omega), ?_, ?_⟩
  · have e1 : (hideStep M (xs, hd) x).2 = hd ++ (sec xs x.val).take 8 := rfl
    have e2 : (hideStep M (xs, hd) x).2.length = hd.length + 8 := by rw [e1]; simp [sec, hl]; omega
    rw [e2, e1, bcs_append]
    refine owns_grown hown3 hg5 (fun g' e => ?_)
    obtain ⟨q, _⟩ := owns_block hown3 g' e
    intro e2
    cases e2
    omega
  · have h1 := hg2.size
    have h2 := hg5.size
    have h3 : (w2.setCell ⟨w.heap.size + 1, 0, none⟩ v').heap.size = w2.heap.size := by simp
    rw [h3] at h2
    have h4 : W.drew.heap.size = W.heap.size := rfl
    omega
  · obtain ⟨cur, hc, _⟩ := hx3
    exact ((KeepsOthers.drew W).trans (keeps_owns (w := W.drew) hown hg2)).trans ((KeepsOthers.setCell w2 _ _).trans (keeps_grown hc hg5))
  · have k0 : k1 < W.heap.size := by omega
    have a1 : w2.heap[k1]? = W.heap[k1]? := hg2.block k1 k0 (fun e => by have := hne k1 e.symm; omega)
    have a2 : (w2.setCell ⟨w.heap.size + 1, 0, none⟩ v').heap[k1]? = w2.heap[k1]? := heap_setCell_other w2 ⟨w.heap.size + 1, 0, none⟩ k1 v' (by show k1 ≠ w.heap.size + 1; omega)
    have k2 : k1 < (w2.setCell ⟨w.heap.size + 1, 0, none⟩ v').heap.size := by
      have h1 := hg2.size
      have h4 : W.drew.heap.size = W.heap.size := rfl
      simp
      omega
    exact (hg5.block k1 k2 (fun e => by cases e; omega)).trans (a2.trans a1)

end Go.Proofs.Ytghcmlkgpedkkaa
