/-
  RcUnhide, RcGetB, RcHead, RcCat, RcGrp, RcMix, RcSame, RcLow, RcCopyL, RcPutL, RcByte, RcAny, JPut: put together.
-/
import Derived.Test.YtkhejjddmbegaaaGreatG5
import Derived.BigQuiet
import Derived.Deep.QuietTactic
import Derived.Deep.RegionHeld3
/-
  unhide.
-/
namespace Go.Proofs.YtkhejjddmbegaaaGreat.Rc
open Go.RowKit Go.Shelf
attribute [local go_sem] Oper.semAt_some

/-- what was hidden laid back, sector by sector -/
def unhideStep (H : List UInt8) (st : List UInt8 × Nat) (x : Fin 8) : List UInt8 × Nat := (over st.1 (x.val * 512) ((H.drop (st.2 * 8)).take 8), st.2 + 1)
def unhideTo (xs H : List UInt8) (pre : List (Fin 8)) : List UInt8 × Nat := pre.foldl (unhideStep H) (xs, 0)
theorem unhideTo_snoc (xs H : List UInt8) (pre : List (Fin 8)) (x : Fin 8) : unhideTo xs H (pre ++ [x]) = unhideStep H (unhideTo xs H pre) x := by simp [unhideTo]
theorem unhideTo_two (xs H : List UInt8) (pre : List (Fin 8)) : (unhideTo xs H pre).2 = pre.length := by
  unfold unhideTo
  have : ∀ (pre : List (Fin 8)) (st : List UInt8 × Nat), (pre.foldl (unhideStep H) st).2 = st.2 + pre.length := by
    intro pre
    induction pre with
    | nil => intro st; rfl
    | cons x pre ih =>
      intro st
      rw [List.foldl_cons, ih]
      simp [unhideStep]
      omega
  rw [this]
  simp
theorem unhideTo_length (xs H : List UInt8) (hl : xs.length = 4096) (pre : List (Fin 8)) : (unhideTo xs H pre).1.length = 4096 := by
  unfold unhideTo
  have : ∀ (pre : List (Fin 8)) (st : List UInt8 × Nat), st.1.length = 4096 → (pre.foldl (unhideStep H) st).1.length = 4096 := by
    intro pre
    induction pre with
    | nil => intro st h; exact h
    | cons x pre ih =>
      intro st h
      have hx := x.isLt
      rw [List.foldl_cons]
      refine ih _ ?_
      unfold unhideStep
      rw [over_length _ _ _ (by rw [h]; simp; omega)]
      exact h
  exact this pre _ hl

/-- what stands in memory while the sectors come -/
def UnhideI (w : World) (h c gm om cm : Nat) (d : List UInt8) (k : Nat) (W : World) : Prop :=
  RowB W h c d ∧ (∃ o', Box W w.heap.size #[.slice (some ⟨gm, o', none⟩) (64 - k * 8) (cm - k * 8)] 41 ∧ (k < 8 → o' = om + k * 8))

set_option maxRecDepth 100000 in
set_option maxHeartbeats 4000000 in
theorem unhide_in (g o cap gm om cm : Nat) (xs H : List UInt8) (w : World) (hl : xs.length = 4096) (hr : Rd w (some ⟨g, o, none⟩) xs) (hHl : H.length = 64) (hcm0 : 64 ≤ cm) (hcmax : cm ≤ 9223372036854775807) (hH : Rd w (some ⟨gm, om, none⟩) H) :
    Calls Tryz.prog 92 #[.slice (some ⟨g, o, none⟩) 4096 cap, .slice (some ⟨gm, om, none⟩) 64 cm] w fun r w' => ∃ h c, r = .returned (.slice (some ⟨h, 0, none⟩) 4096 c) ∧ w.heap.size ≤ h ∧
      RowB w' h c (unhideTo xs H (List.finRange 8)).1 ∧ Below w.heap.size w w' := by
  refine (callsIn_wide (n := 3)).1 ?_
  have c1 : ∀ u, Below w.heap.size w u → _ := fun u hb => clone_at cap 4096 g o xs u hl (by omega) (by omega) (hr.below hb (Nat.le_refl _))
  refine callsIn_of_wp_marks Tryz.func92 rfl trivial ?_ rfl
  simp only [Tryz.ntmps92, List.size_toArray, List.length_cons, List.length_nil, Nat.reduceAdd, Nat.reduceSub, Array.replicate_succ, Array.replicate_zero, List.push_toArray, List.append_toArray, List.nil_append, List.cons_append]
  gi_wp2_with fail
  refine ⟨trivial, ?_⟩
  refine ((callsIn_wide (n := 2)).2 (c1 _ ((Below.refl _ w).alloc (Nat.le_refl _) _))).mono ?_
  rintro r w1 ⟨h, c, rfl, hh, hrow, hb1⟩
  gi_wp2_with fail
  refine ⟨trivial, ?_⟩
  refine (sectors_in 2 _ _ _ _).mono ?_
  rintro r w' ⟨rfl, rfl⟩
  gi_wp2_with fail
  have bN := Box.new w #[.slice (some ⟨gm, om, none⟩) 64 cm] 41
  have s1 : (w.alloc (.cells #[.slice (some ⟨gm, om, none⟩) 64 cm] 41)).heap.size = w.heap.size + 1 := by simp
  rw [s1] at hh hb1
  have B0 := (Below.refl w.heap.size w).alloc (Nat.le_refl _) (.cells #[.slice (some ⟨gm, om, none⟩) 64 cm] 41)
  have B1 : Below w.heap.size w w1 := B0.trans (hb1.mono (by omega))
  have bN1 : Box w1 w.heap.size #[.slice (some ⟨gm, om, none⟩) 64 cm] 41 := (hb1.block _ (by omega)).trans bN
  have hlt := hrow.lt
  have hcm : 4096 ≤ c ∧ c ≤ 9223372036854775807 := by
    obtain ⟨cur, _, q1, q2, _⟩ := hrow
    unfold maxLen at q2
    omega
  have bS := Box.new w1 #[.slice (some ⟨h, 0, none⟩) 4096 c] 41
  have bN2 := bN1.alloc (.cells #[.slice (some ⟨h, 0, none⟩) 4096 c] 41)
  have rw2 : RowB (w1.alloc (.cells #[.slice (some ⟨h, 0, none⟩) 4096 c] 41)) h c xs := hrow.same (Below.heap_alloc w1 _ h hlt)
  have B2 := B1.alloc B1.size (.cells #[.slice (some ⟨h, 0, none⟩) 4096 c] 41)
  obtain ⟨W0, hW0⟩ : ∃ W, W = w1.alloc (.cells #[.slice (some ⟨h, 0, none⟩) 4096 c] 41) := ⟨_, rfl⟩
  have s3 : W0.heap.size = w1.heap.size + 1 := by rw [hW0]; simp
  rw [← hW0] at bS bN2 rw2 B2 ⊢
  clear hW0 bN s1 B0 hb1 bN1 hrow
  obtain ⟨k1, hk1⟩ : ∃ k, k = w1.heap.size := ⟨_, rfl⟩
  rw [← hk1] at bS s3 hlt ⊢
  clear hk1 B1 c1
  have hs3 : k1 + 1 ≤ W0.heap.size := by omega
  have hs4 : w.heap.size < W0.heap.size := by omega
  have S3 : Hid _ := s3
  clear s3
  have HHL : Hid _ := hHl
  have HL : Hid _ := hl
  clear hHl hl
  have Hh : Hid _ := hh
  clear hh
  obtain ⟨hc1, hc2⟩ := hcm
  have z1 : 64 - 0 * 8 = 64 := rfl
  have z2 : cm - 0 * 8 = cm := by omega
  refine wpIn_rangeFunc_ownH (α := Fin 8) rfl (by omega) (gf := 105) (lb := #[.pointer (some ⟨k1, 0, none⟩)]) rfl trivial (enters_of Tryz.func105 (by kernel_rfl) rfl)
    (sect_stops (3 - 1) (by omega) k1 h 0 c hc1 hc2 W0 (by omega) (bS.cell 0)) cellK_t (cellK_b (by omega)) (Below.refl _ _) (fun _ => rfl)
    (fun pre W => (UnhideI w h c gm om cm (unhideTo xs H pre).1 pre.length W ∧ k1 + 1 ≤ W.heap.size) ∧ Below w.heap.size w W)
    (fun c _ W => False ∧ Below w.heap.size w W)
    (OwnFrom.and (Own.from (fun s A B row hs hg hr => by
      obtain ⟨⟨a1, o', a2, a3⟩, a5⟩ := hs
      exact ⟨⟨a1.kept hg hr, o', a2.kept hg hr, a3⟩, Nat.le_trans a5 hg.size⟩) _) (ownFrom_below (Nat.le_refl _) (by omega)))
    (fun c => OwnFrom.and (Own.from (fun s A B row hs hg hr => hs) _) (ownFrom_below (Nat.le_refl _) (by omega)))
    ⟨⟨⟨rw2, om, by rw [List.length_nil, z1, z2]; exact bN2, fun _ => by simp⟩, hs3⟩, B2⟩
    (fun x a' _ => a' = { tmps := #[.slice (some ⟨g, o, none⟩) 4096 cap, .slice (some ⟨gm, om, none⟩) 64 cm, undef, .pointer (some ⟨w.heap.size, 0, none⟩), .slice none 0 0, .slice (some ⟨h, 0, none⟩) 4096 c, .slice (some ⟨h, x.val * 512, none⟩) 512 512, .slice (some ⟨g, o, none⟩) 4096 cap, .slice (some ⟨h, 0, none⟩) 4096 c, .slice (some ⟨h, 0, none⟩) 4096 c, .func (.func 105) #[] #[.pointer (some ⟨k1, 0, none⟩)], .slice (some ⟨h, x.val * 512, none⟩) 512 512, undef, undef, undef, undef, undef, undef, undef], defers := [] })
    (fun x a' => ownFrom_pure _ _) ?assign ?body ?done ?stop
  case assign =>
    rintro l pre x W K hI hK
    dsimp only [encS]
    simp only [Nat.zero_add]
    gi_wp2
    exact hK _ _ (KeepsFrom.refl _ _) rfl hI rfl
  case body =>
    rintro l pre x a' W hlw ⟨r, hr1⟩ ⟨⟨⟨q1, o', q2, q3⟩, q5⟩, hB⟩ rfl hlt2
    have hx8 := x.isLt
    have hd1 := unhideTo_length xs H HL.out pre
    have hd2 := unhideTo_two xs H pre
    obtain ⟨k, hk⟩ : ∃ k, pre.length = k := ⟨_, rfl⟩
    rw [hk] at q2 q3 hlt2 hd2
    obtain rfl := q3 hlt2
    obtain ⟨d, hd⟩ : ∃ d, (unhideTo xs H pre).1 = d := ⟨_, rfl⟩
    rw [hd] at q1 hd1
    have hsnoc : Hid ((unhideTo xs H (pre ++ [x])).1 = over d (x.val * 512) ((H.drop (k * 8)).take 8)) := by
      show _ = _
      rw [unhideTo_snoc]
      unfold unhideStep
      rw [hd, hd2]
    have hlen : Hid ((pre ++ [x]).length = k + 1) := by show _ = _; simp [hk]
    clear q3 hk hd hd2
    have h8 : ((H.drop (k * 8)).take 8).length = 8 := by have := HHL.out; simp; omega
    have hr8 : Rd W (some ⟨gm, om + k * 8, none⟩) ((H.drop (k * 8)).take 8) := (hH.below hB (Nat.le_refl _)).part (k * 8) 8
    obtain ⟨W5, hrun, hrow5, hg5⟩ := copy_row h c (x.val * 512) 512 512 (some ⟨gm, om + k * 8, none⟩) (cm - k * 8) _ d W q1 hr8 (by omega) (by omega) (by omega)
    rw [h8] at hrun
    have hB5 := hB.grown hg5 hB.size (fun k e => by cases e; have := Hh.out; omega)
    have q25 : Box W5 w.heap.size _ 41 := q2.grown hg5 (fun e => by cases e; have := Hh.out; omega)
    have d3 := q2.cell 0
    have d5 := q25.cell 0
    have f5 := q25.frozen 0
    have keep5 : KeepsOthers W W5 := by obtain ⟨cur, hc, _⟩ := q1; exact keeps_grown hc hg5
    have bk1 : W5.heap[k1]? = W.heap[k1]? := hg5.block k1 (by omega) (fun e => by cases e; omega)
    have hs5 := hg5.size
    have m1 : 8 ≤ 64 - k * 8 := by omega
    have m2 : 8 ≤ cm - k * 8 := by omega
    have e1 : 64 - (k + 1) * 8 = 64 - k * 8 - 8 := by omega
    have e2 : cm - (k + 1) * 8 = cm - k * 8 - 8 := by omega
    have e3 : 64 - k * 8 ≤ cm - k * 8 := by omega
    have m4 : cm - k * 8 ≤ 9223372036854775807 := by omega
    obtain ⟨L, hL⟩ : ∃ L, L = 64 - k * 8 := ⟨_, rfl⟩
    obtain ⟨C, hC⟩ : ∃ C, C = cm - k * 8 := ⟨_, rfl⟩
    rw [← hL] at d3 d5 q2 q25 m1 e1 e3
    rw [← hC] at d3 d5 q2 q25 m2 e2 e3 m4 hrun
    have e6 : (k + 1 < 8 → C ≠ 8) := by omega
    have HE : Hid (64 - (k + 1) * 8 = L - 8 ∧ cm - (k + 1) * 8 = C - 8 ∧ (k + 1 < 8 → C ≠ 8)) := ⟨e1, e2, e6⟩
    clear hL hC e1 e2 e6
    by_cases hC8 : C = 8
    · subst hC8
      gi_wp2
      refine ⟨(keep5.trans (KeepsOthers.setCell _ _ _)).from _, ?_, ⟨⟨?_, om + k * 8, ?_, ?_⟩, ?_⟩, hB5.setCell (p := ⟨w.heap.size, 0, none⟩) (by simp) _⟩
      · exact (World.cell?_of_block (a := ⟨k1, 0, none⟩) (heap_setCell_other W5 ⟨w.heap.size, 0, none⟩ k1 _ (by show k1 ≠ w.heap.size; have := Hh.out; omega))).trans (World.cell?_of_block (a := ⟨k1, 0, none⟩) bk1)
      · rw [hsnoc.out]; exact rowB_store (j := 0) hrow5 q25 (by decide) _
      · obtain ⟨a1, a2, a3⟩ := HE.out
        rw [hlen.out, a1, a2]
        have hL8 : L - 8 = 0 := by omega
        rw [hL8]
        have := q25.store 0 (.slice (some ⟨gm, om + k * 8, none⟩) 0 0)
        simpa using this
      · rw [hlen.out]
        intro hk8
        exact absurd rfl (HE.out.2.2 hk8)
      · simp; omega
    · have hC9 : ¬ C = 8 := hC8
      have hC7 : 8 < C := by omega
      gi_wp2
      refine ⟨(keep5.trans (KeepsOthers.setCell _ _ _)).from _, ?_, ⟨⟨?_, om + k * 8 + 8, ?_, ?_⟩, ?_⟩, hB5.setCell (p := ⟨w.heap.size, 0, none⟩) (by simp) _⟩
      · exact (World.cell?_of_block (a := ⟨k1, 0, none⟩) (heap_setCell_other W5 ⟨w.heap.size, 0, none⟩ k1 _ (by show k1 ≠ w.heap.size; have := Hh.out; omega))).trans (World.cell?_of_block (a := ⟨k1, 0, none⟩) bk1)
      · rw [hsnoc.out]; exact rowB_store (j := 0) hrow5 q25 (by decide) _
      · obtain ⟨a1, a2, a3⟩ := HE.out
        rw [hlen.out, a1, a2]
        have := q25.store 0 (.slice (some ⟨gm, om + k * 8 + 8, none⟩) (L - 8) (C - 8))
        simpa using this
      · rw [hlen.out]
        intro hk8
        omega
      · simp; omega
  case done =>
    rintro D' ys W hD rfl ⟨⟨⟨q1, o', q2, q3⟩, q5⟩, hB⟩ hK
    gi_wp2
    refine ⟨by simp, .inl ⟨_, _, rfl, run_takeDeferred hK, ?_⟩⟩
    exact ⟨_, by simp [results, Tryz.f92, go_sem], h, c, rfl, by have := Hh.out; omega, q1.kept (grownBy_putObj' _ D' (.deferred none)) (fun r e => by cases e; exact ⟨_, hK, rfl⟩), hB.trans (belowK_b (w := w) (Nat.le_refl _) _ D' _ _ (by omega) hK rfl rfl)⟩
  case stop =>
    rintro D' c pre W hD _ ⟨hf, _⟩ hK
    exact hf.elim
end Go.Proofs.YtkhejjddmbegaaaGreat.Rc

/-
  Head, Get.
-/
namespace Go.Proofs.YtkhejjddmbegaaaGreat.Rc
open Go.RowKit

theorem getHeading_at (a : Option Addr) (n cap : Nat) (xs : List UInt8) (w : World) (hl : xs.length = n) (hcap : n ≤ cap) (hmax : cap ≤ 9223372036854775807) (hr : Rd w a xs) :
    Calls Tryz.prog 90 #[.slice a n cap] w (GetH w xs) := by
  by_cases h : n = 4096
  · subst h
    obtain ⟨g, o, rfl, _⟩ := hr (by omega)
    exact getHeading_in g o cap xs w hl hcap hmax hr
  · exact getHeading_short a n cap xs w hl h

/-- bytes, list by list -/
def LstAt (w : World) (b o : Nat) (xs : List UInt8) : Prop := ∃ x c, w.cell? ⟨b, o, none⟩ = some (.slice x xs.length c) ∧ xs.length ≤ c ∧ c ≤ 9223372036854775807 ∧ (x = none → c = 0) ∧ Rd w x xs
def Lsts (w : World) (a : Option Addr) (ls : List (List UInt8)) : Prop :=
  0 < ls.length → ∃ b o, a = some ⟨b, o, none⟩ ∧ ∀ j (h : j < ls.length), LstAt w b (o + j) ls[j]
theorem LstAt.below {w w' : World} {b o : Nat} {xs : List UInt8} (h : LstAt w b o xs) (hb : Below w.heap.size w w') : LstAt w' b o xs := by
  obtain ⟨x, c, h2, h3, h4, h5, h6⟩ := h
  have hlt : b < w.heap.size := block_lt_of_cell h2
  exact ⟨x, c, (hb.cell (p := ⟨b, o, none⟩) hlt).trans h2, h3, h4, h5, h6.below hb (Nat.le_refl _)⟩
theorem Lsts.below {w w' : World} {a : Option Addr} {ls : List (List UInt8)} (h : Lsts w a ls) (hb : Below w.heap.size w w') : Lsts w' a ls := fun hp => by
  obtain ⟨b, o, ha, hc⟩ := h hp
  exact ⟨b, o, ha, fun j hj => (hc j hj).below hb⟩

/-- an image that was got: its data lie at (h, c) -/
structure GG where
  b : Int
  xs : List UInt8
  h : Nat
  c : Nat
def imgC (ps : List GG) : List Value := ps.flatMap fun p => [.int .i64 p.b, .slice (some ⟨p.h, 0, none⟩) 4096 p.c]
theorem imgC_length (ps : List GG) : (imgC ps).length = ps.length * 2 := by
  induction ps with
  | nil => rfl
  | cons p ps ih => simp only [imgC, List.flatMap_cons, List.length_append, List.length_cons, List.length_nil] at ih ⊢; omega
theorem imgC_at (ps : List GG) (i : Nat) (h : i < ps.length) : (imgC ps)[i * 2]? = some (.int .i64 ps[i].b) ∧ (imgC ps)[i * 2 + 1]? = some (.slice (some ⟨ps[i].h, 0, none⟩) 4096 ps[i].c) := by
  induction ps generalizing i with
  | nil => simp at h
  | cons p ps ih =>
    cases i with
    | zero => exact ⟨rfl, rfl⟩
    | succ i =>
      obtain ⟨u, v⟩ := ih i (by simpa using h)
      have e1 : (i + 1) * 2 = i * 2 + 1 + 1 := by omega
      simp only [imgC, List.flatMap_cons, e1, List.cons_append, List.nil_append, List.getElem?_cons_succ, List.getElem_cons_succ]
      exact ⟨u, v⟩
structure GetJ (B : Nat) (W : World) (ps : List GG) : Prop where
  rows : ∀ p ∈ ps, RowB W p.h p.c p.xs ∧ B ≤ p.h ∧ p.xs.length = 4096
  apart : (ps.map GG.h).Nodup
theorem GetJ.mono {B : Nat} {W W' : World} {ps : List GG} (h : GetJ B W ps) (hk : ∀ g cur, Box W g cur 5 → W'.heap[g]? = W.heap[g]?) : GetJ B W' ps :=
  ⟨fun p hp => by
    obtain ⟨a1, a2⟩ := h.rows p hp
    refine ⟨a1.same ?_, a2⟩
    obtain ⟨cur, q, _⟩ := a1; exact hk _ _ q, h.apart⟩
theorem GetJ.below {B : Nat} {W W' : World} {ps : List GG} (h : GetJ B W ps) (hb : Below W.heap.size W W') : GetJ B W' ps := h.mono fun g _ q => hb.block g q.lt
theorem GetJ.grown {B base e size n : Nat} {W W' : World} {ps : List GG} {v : Value} {xs : List Value} (h : GetJ B W ps) (ho : W.ownsRow base e size v n xs) (he : (5 : TypeId) ≠ e) (hg : W.grownBy W' v.ownBlock) : GetJ B W' ps := h.mono fun g cur q => hg.block g q.lt (fun eq => by
  obtain ⟨_, c2, q2⟩ := owns_block ho g eq.symm
  exact q.ne q2 he rfl)
theorem GetJ.store {B b j : Nat} {W : World} {ps : List GG} {cs : Array Value} {t : TypeId} (h : GetJ B W ps) (hb : Box W b cs t) (ht : (5 : TypeId) ≠ t) (u : Value) : GetJ B (W.setCell ⟨b, j, none⟩ u) ps := h.mono fun g _ q => heap_setCell_other W ⟨b, j, none⟩ g u (q.ne hb ht)
theorem GetJ.snoc {B : Nat} {W W' : World} {ps : List GG} (h : GetJ B W ps) (hb : Below W.heap.size W W') (p : GG) (h1 : RowB W' p.h p.c p.xs) (h3 : W.heap.size ≤ p.h) (h4 : p.xs.length = 4096) (hB : B ≤ W.heap.size) : GetJ B W' (ps ++ [p]) :=
  ⟨fun x hx => by
    rcases List.mem_append.1 hx with hx | hx
    · exact (h.below hb).rows x hx
    · simp at hx
      subst hx
      exact ⟨h1, by omega, h4⟩, by
    rw [List.map_append, List.nodup_append]
    refine ⟨h.apart, by simp, fun x hx y hy => ?_⟩
    obtain ⟨z, hz, rfl⟩ := List.mem_map.1 hx
    simp at hy
    subst hy
    have := (h.rows z hz).1.lt
    omega⟩

/-- image j of blocks whose head says es -/
def imgOf (ls : List (List UInt8)) (es : List (Nat × List UInt8)) (j : Nat) : Int × List UInt8 := (((es[j]?.getD (0, [])).1 : Int), (unhideTo (ls[j + 1]?.getD []) (es[j]?.getD (0, [])).2 (List.finRange 8)).1)
def imgsTo (ls : List (List UInt8)) (es : List (Nat × List UInt8)) (k : Nat) : List (Int × List UInt8) := (List.range k).map (imgOf ls es)
theorem imgsTo_succ (ls : List (List UInt8)) (es : List (Nat × List UInt8)) (k : Nat) : imgsTo ls es (k + 1) = imgsTo ls es k ++ [imgOf ls es k] := by simp [imgsTo, List.range_succ]
/-- the first k images' blocks bear the stamp -/
def stampedTo (ls : List (List UInt8)) (e s : Int) (k : Nat) : Prop := ∀ j, j < k → stampedB (ls[j + 1]?.getD []) e s = true
/-- are these the blocks of a group? -/
def isGrp (ls : List (List UInt8)) : Prop := 0 < ls.length ∧ isHead (ls[0]?.getD []) ∧ ls.length = (saidEs (ls[0]?.getD [])).length + 1 ∧ stampedTo ls (saidE (ls[0]?.getD [])) (saidS (ls[0]?.getD [])) (saidEs (ls[0]?.getD [])).length

theorem info38 : (Tryz.prog.info? 108).map (fun i => (i.zero, i.size, i.bytes)) = some (some (.agg #[.int .i64 0, .slice none 0 0]), 2, 32) := by kernel_rfl

/-- what Get tells -/
def GetR (w : World) (ls : List (List UInt8)) (r : Ending) (w' : World) : Prop :=
  (isGrp ls ∧ ∃ a c ps, r = .returned (.tuple #[.agg #[.int .i64 (saidE (ls[0]?.getD []) : Int), .int .i64 (saidS (ls[0]?.getD []) : Int), .slice a (saidEs (ls[0]?.getD [])).length c], .int .i64 0]) ∧ w'.ownsRow w.heap.size 108 2 (.slice a (saidEs (ls[0]?.getD [])).length c) (saidEs (ls[0]?.getD [])).length (imgC ps) ∧
    GetJ w.heap.size w' ps ∧ ps.map (fun p => (p.b, p.xs)) = imgsTo ls (saidEs (ls[0]?.getD [])) (saidEs (ls[0]?.getD [])).length ∧ Below w.heap.size w w') ∨
  (¬ isGrp ls ∧ r = .returned (.tuple #[.agg #[.int .i64 0, .int .i64 0, .slice none 0 0], .int .i64 80]) ∧ Below w.heap.size w w')

theorem zero_below {w W : World} (B : Below w.heap.size w W) : Below w.heap.size w (((W.setCell ⟨w.heap.size, 0, none⟩ (.int .i64 0)).setCell ⟨w.heap.size, 1, none⟩ (.int .i64 0)).setCell ⟨w.heap.size, 2, none⟩ (.slice none 0 0)) :=
  ((B.setCell (p := ⟨w.heap.size, 0, none⟩) (by simp) _).setCell (p := ⟨w.heap.size, 1, none⟩) (by simp) _).setCell (p := ⟨w.heap.size, 2, none⟩) (by simp) _

theorem zero_box {w W : World} (b : Box W w.heap.size #[.int .i64 0, .int .i64 0, .slice none 0 0] 40) : Box (((W.setCell ⟨w.heap.size, 0, none⟩ (.int .i64 0)).setCell ⟨w.heap.size, 1, none⟩ (.int .i64 0)).setCell ⟨w.heap.size, 2, none⟩ (.slice none 0 0)) w.heap.size #[.int .i64 0, .int .i64 0, .slice none 0 0] 40 := by
  have := ((b.store 0 (.int .i64 0)).store 1 (.int .i64 0)).store 2 (.slice none 0 0)
  simpa using this

set_option maxRecDepth 100000 in
theorem get_none (a : Option Addr) (cap : Nat) (w : World) : Calls Tryz.prog 73 #[.slice a 0 cap] w (GetR w []) := by
  have hno : Hid (¬ isGrp []) := fun h => by simp [isGrp] at h
  have b0 := Box.new w #[.int .i64 0, .int .i64 0, .slice none 0 0] 40
  have y0 := b0.cell 0
  have y1 := b0.cell 1
  have y2 := b0.cell 2
  have B0 := (Below.refl w.heap.size w).alloc (Nat.le_refl _) (.cells #[.int .i64 0, .int .i64 0, .slice none 0 0] 40)
  go_enter Tryz.func73, Tryz.ntmps73
  go_wp2
  refine bodyPost_ret (v := .tuple #[.agg #[.int .i64 0, .int .i64 0, .slice none 0 0], .int .i64 80]) (by simp [results, Tryz.results73, go_sem]) rfl ?_
  exact .inr ⟨hno.out, rfl, B0⟩

set_option maxRecDepth 100000 in
set_option maxHeartbeats 4000000 in
theorem get_in (a : Option Addr) (n cap : Nat) (ls : List (List UInt8)) (w : World) (hl : ls.length = n) (h0 : 0 < n) (hn : n ≤ 1000000000) (hL : Lsts w a ls) : Calls Tryz.prog 73 #[.slice a n cap] w (GetR w ls) := by
  obtain ⟨i0, hi, hz0, hz1, hz2⟩ := info_parts info38
  obtain ⟨b, o, rfl, hc⟩ := hL (by omega)
  have HC : Hid (∀ j (h : j < ls.length), LstAt w b (o + j) ls[j]) := hc
  obtain ⟨xs, hxs⟩ : ∃ xs, xs = ls[0]?.getD [] := ⟨_, rfl⟩
  have hx0 : ls[0]'(by omega) = xs := by rw [hxs, List.getElem?_eq_getElem (by omega)]; rfl
  obtain ⟨x0, c0, q1, q2, q3, q4, q5⟩ := hc 0 (by omega)
  rw [hx0] at q1 q2 q5
  rw [Nat.add_zero] at q1
  have hblt : b < w.heap.size := block_lt_of_cell q1
  have HG : Hid (isGrp ls ↔ isHead xs ∧ n = (saidEs xs).length + 1 ∧ stampedTo ls (saidE xs) (saidS xs) (saidEs xs).length) := by
    show _ ↔ _
    unfold isGrp
    rw [← hxs, hl]
    exact ⟨fun h => h.2, fun h => ⟨h0, h⟩⟩
  unfold GetR
  rw [← hxs]
  have HL : Hid _ := hl
  have HX : Hid _ := hxs
  generalize isGrp ls = IG at HG ⊢
  clear hc hx0 hl hxs hL
  have b0 := Box.new w #[.int .i64 0, .int .i64 0, .slice none 0 0] 40
  have B0 := (Below.refl w.heap.size w).alloc (Nat.le_refl _) (.cells #[.int .i64 0, .int .i64 0, .slice none 0 0] 40)
  have q1' := (B0.cell (p := ⟨b, o, none⟩) hblt).trans q1
  have cH := getHeading_at x0 xs.length c0 xs _ rfl q2 q3 (q5.below B0 (Nat.le_refl _))
  have hni : ((n : Int) == 0) = false := by simp; omega
  have hnp : (0 : Int) < n := by omega
  go_enter Tryz.func73, Tryz.ntmps73
  go_wp2_with fail
  refine cH.mono ?_
  rintro r w1 (⟨hhd, ah, ch, rfl, hEn, hb1⟩ | ⟨hhd, rfl, hb1⟩)
  · replace b0 := b0.below hb1
    have B1 := B0.trans (hb1.mono B0.size)
    have hcnt : 1 ≤ (saidEs xs).length ∧ (saidEs xs).length ≤ 32 := by have := hhd.2.1.2.1; rw [List.length_map] at this; exact this
    have hE64 : ∀ x ∈ saidEs xs, x.2.length = 64 := fun x hx => by
      obtain ⟨j, hj, rfl⟩ := List.getElem_of_mem hx
      obtain ⟨b, o, _, hc⟩ := hEn (by omega)
      obtain ⟨_, _, _, _, _, _, _, q, _⟩ := hc j hj
      exact q
    have HG2 : Hid (IG ↔ n = (saidEs xs).length + 1 ∧ stampedTo ls (saidE xs) (saidS xs) (saidEs xs).length) := ⟨fun h => (HG.out.1 h).2, fun h => HG.out.2 ⟨hhd, h⟩⟩
    clear hhd hb1 cH q1' HG
    obtain ⟨E, hEE⟩ : ∃ E, E = saidE xs := ⟨_, rfl⟩
    obtain ⟨S, hSS⟩ : ∃ S, S = saidS xs := ⟨_, rfl⟩
    obtain ⟨es, hes⟩ : ∃ es, es = saidEs xs := ⟨_, rfl⟩
    rw [← hEE, ← hSS, ← hes] at HG2
    rw [← hes] at hEn hcnt hE64
    rw [← hEE, ← hSS, ← hes]
    have HEE : Hid _ := hEE
    have HSS : Hid _ := hSS
    have HES : Hid _ := hes
    clear hEE hSS hes
    obtain ⟨m, hm⟩ : ∃ m, m = es.length := ⟨_, rfl⟩
    rw [← hm] at hcnt HG2 ⊢
    have HM : Hid _ := hm
    clear hm
    obtain ⟨hc1, hc2⟩ := hcnt
    have hbn : blocksN (m : Int) = (m : Int) + 1 := by unfold blocksN; rw [if_pos (by omega)]
    have al := (Below.refl w1.heap.size w1).alloc (Nat.le_refl _) (.cells #[.int .i64 (E : Int), .int .i64 (S : Int), .slice ah m ch] 129)
    have bh := Box.new w1 #[.int .i64 (E : Int), .int .i64 (S : Int), .slice ah m ch] 129
    have hlt1 := b0.lt
    have BOXW : Hid (∀ u, Below w1.heap.size w1 u → Box u w.heap.size #[.int .i64 0, .int .i64 0, .slice none 0 0] 40) := fun u hb => b0.below hb
    obtain ⟨w2, hw2⟩ : ∃ x, x = w1.alloc (.cells #[.int .i64 (E : Int), .int .i64 (S : Int), .slice ah m ch] 129) := ⟨_, rfl⟩
    have hs2 : w1.heap.size < w2.heap.size := by rw [hw2]; simp
    have HW2 : Hid _ := hw2
    rw [← hw2] at al bh
    obtain ⟨hb, hhb⟩ : ∃ x, x = w1.heap.size := ⟨_, rfl⟩
    have HHB : Hid _ := hhb
    rw [← hhb] at bh
    have hbge : w1.heap.size ≤ hb := Nat.le_of_eq hhb.symm
    have hbl2 : hb < w2.heap.size := by rw [hhb]; exact hs2
    have d2 : (w1.alloc (.cells #[.int .i64 (E : Int), .int .i64 (S : Int), .slice ah m ch] 129)).cell? ⟨w1.heap.size, 2, none⟩ = some (.slice ah m ch) := by rw [← hw2, ← hhb]; exact bh.cell 2
    clear hw2 hhb
    go_wp2_with fail
    rw [← HW2.out, ← HHB.out]
    clear d2
    refine (blocks_at (m : Int) w2).mono ?_
    rintro r w' ⟨rfl, rfl⟩
    rw [hbn]
    have b02 := b0.below al
    have B2 := B1.trans (al.mono B1.size)
    by_cases hnm : n = m + 1
    · have hq : ((n : Int) != (m : Int) + 1) = false := by simp; omega
      have hg3 : Hid (IG ↔ stampedTo ls E S m) := ⟨fun h => (HG2.out.1 h).2, fun h => HG2.out.2 ⟨hnm, h⟩⟩
      clear HG2
      have d0 := bh.cell 0
      have d1 := bh.cell 1
      have d2 := bh.cell 2
      have al3 := (Below.refl w2.heap.size w2).alloc (Nat.le_refl _) (.cells #[.int .i64 (E : Int), .int .i64 (S : Int), .slice none 0 0] 40)
      have bg := Box.new w2 #[.int .i64 (E : Int), .int .i64 (S : Int), .slice none 0 0] 40
      obtain ⟨w3, hw3⟩ : ∃ x, x = w2.alloc (.cells #[.int .i64 (E : Int), .int .i64 (S : Int), .slice none 0 0] 40) := ⟨_, rfl⟩
      have HW3 : Hid _ := hw3
      obtain ⟨gb, hgb⟩ : ∃ x, x = w2.heap.size := ⟨_, rfl⟩
      have HGB : Hid _ := hgb
      have x3 : (w2.alloc (.cells #[.int .i64 (E : Int), .int .i64 (S : Int), .slice none 0 0] 40)).cell? ⟨hb, 2, none⟩ = some (.slice ah m ch) := (bh.below al3).cell 2
      rw [← hw3] at al3 bg
      rw [← hgb] at bg
      have hgb1 : w1.heap.size < gb := by rw [hgb]; exact hs2
      have hgb2 : hb < gb := by rw [hgb]; exact hbl2
      have bh3 := bh.below al3
      have b03 := b02.below al3
      have al13 := al.trans (al3.mono al.size)
      have B3 := B2.trans (al3.mono B2.size)
      clear hw3 hgb bh b02
      go_wp2_with fail
      rw [← HW3.out, ← HGB.out]
      clear d0 d1 d2 x3
      go_loopw [41] (fun i wr => ∃ (k : Nat) (ps : List GG), k ≤ m ∧ i = .int .i64 k ∧ ps.map (fun p => (p.b, p.xs)) = imgsTo ls es k ∧ stampedTo ls E S k ∧ (∃ v, Box wr gb #[.int .i64 (E : Int), .int .i64 (S : Int), v] 40 ∧ wr.ownsRow w1.heap.size 108 2 v k (imgC ps)) ∧ GetJ w.heap.size wr ps ∧ Box wr hb #[.int .i64 (E : Int), .int .i64 (S : Int), .slice ah m ch] 129 ∧ Below w1.heap.size w1 wr) (fun i _ => m - (intOf i).toNat)
      case atStart => exact ⟨0, [], Nat.zero_le _, rfl, rfl, fun j h => absurd h (by omega), ⟨_, bg, World.ownsRow_nil _ _ _ _⟩, ⟨fun p hp => by simp at hp, by simp⟩, bh3, al13⟩
      case round =>
        obtain ⟨k, ps, hk, rfl, hps, hst, ⟨v, bG, hown⟩, hJ, bH, hB1⟩ := hrel
        clear bg bh3 b03 B3 al13 al3 al
        have hB := B1.trans (hB1.mono B1.size)
        have HPS : Hid _ := hps
        have HST : Hid _ := hst
        clear hps hst
        by_cases hlt : k < m
        · have hlt2 : (k : Int) < m := by omega
          have hke : k < es.length := by rw [← HM.out]; exact hlt
          have hkn : k + 1 < ls.length := by rw [HL.out]; omega
          have hkn2 : (k : Int) + 1 < n := by omega
          obtain ⟨ba, oa, rfl, hca⟩ := hEn (by omega)
          obtain ⟨p1, gq, oq, cq, p2, p3, p4, p5, p6⟩ := (hca k hke).below hB1
          obtain ⟨xk, ck, t1, t2, t3, t4, t5⟩ := (HC.out (k + 1) hkn).below hB
          have hio : imgOf ls es k = ((es[k].1 : Int), (unhideTo ls[k + 1] es[k].2 (List.finRange 8)).1) := by
            unfold imgOf
            rw [List.getElem?_eq_getElem hke, List.getElem?_eq_getElem hkn]
            rfl
          have hsk : ls[k + 1]?.getD [] = ls[k + 1] := by rw [List.getElem?_eq_getElem hkn]; rfl
          generalize es[k] = en at p1 p2 p5 p6 hio
          generalize ls[k + 1] = ys at t1 t2 t5 hio hsk
          obtain ⟨eb, eh⟩ := en
          dsimp only at p1 p2 p5 p6 hio
          have HIO : Hid _ := hio
          have HSK : Hid _ := hsk
          clear hio hsk hca
          have al := (Below.refl wr.heap.size wr).alloc (Nat.le_refl _) (.cells #[.int .i64 (eb : Int), .slice (some ⟨gq, oq, none⟩) 64 cq] 133)
          have be := Box.new wr #[.int .i64 (eb : Int), .slice (some ⟨gq, oq, none⟩) 64 cq] 133
          have bG1 := bG.below al
          have bH1 := bH.below al
          have own1 := owns_belowH hown al
          have J1 := hJ.below al
          have A1 := hB1.trans (al.mono hB1.size)
          have B1' := hB.trans (al.mono hB.size)
          have t1' := (al.cell (p := ⟨b, o + (k + 1), none⟩) (block_lt_of_cell t1)).trans t1
          have t5' := t5.below al (Nat.le_refl _)
          have p6' := p6.below al (Nat.le_refl _)
          obtain ⟨av, cv, rfl⟩ := owns_shape hown
          obtain ⟨V, hV⟩ : ∃ V, V = wr.alloc (.cells #[.int .i64 (eb : Int), .slice (some ⟨gq, oq, none⟩) 64 cq] 133) := ⟨_, rfl⟩
          have hsz : wr.heap.size < V.heap.size := by rw [hV]; simp
          have HV : Hid _ := hV
          have u0 : (wr.alloc (.cells #[.int .i64 (eb : Int), .slice (some ⟨gq, oq, none⟩) 64 cq] 133)).cell? ⟨hb, 0, none⟩ = some (.int .i64 (E : Int)) := bH1.cell 0
          have u1 : (wr.alloc (.cells #[.int .i64 (eb : Int), .slice (some ⟨gq, oq, none⟩) 64 cq] 133)).cell? ⟨hb, 1, none⟩ = some (.int .i64 (S : Int)) := bH1.cell 1
          rw [← hV] at be bG1 bH1 own1 J1 A1 B1' t5' p6'
          obtain ⟨bi, hbi⟩ : ∃ x, x = wr.heap.size := ⟨_, rfl⟩
          have HBI : Hid _ := hbi
          rw [← hbi] at be hsz
          clear hV al bG bH hown hJ hB1 hB t5 p6 hbi
          have cS := stamped_at xk ys.length ck ys (E : Int) (S : Int) V rfl t2 t3 t5'
          go_wp2_with fail
          rw [← HV.out, ← HBI.out]
          refine cS.mono ?_
          rintro r V2 ⟨rfl, hbV⟩
          clear cS t1' t1 u0 u1 p1 p2
          replace be := be.below hbV
          replace bG1 := bG1.below hbV
          replace bH1 := bH1.below hbV
          replace own1 := owns_belowH own1 hbV
          replace J1 := J1.below hbV
          replace A1 := A1.trans (hbV.mono A1.size)
          replace B1' := B1'.trans (hbV.mono B1'.size)
          replace p6' := p6'.below hbV (Nat.le_refl _)
          replace t5' := t5'.below hbV (Nat.le_refl _)
          replace hsz : bi < V2.heap.size := Nat.lt_of_lt_of_le hsz hbV.size
          clear hbV
          cases hsb : stampedB ys (E : Int) (S : Int) with
          | false =>
            have hno : Hid (¬ IG) := fun h => by
              have := hg3.out.1 h k hlt
              rw [HSK.out, hsb] at this
              cases this
            have b0V := (BOXW.out _ A1)
            have y0 := b0V.cell 0
            have y1 := b0V.cell 1
            have y2 := b0V.cell 2
            have f0 := b0V.frozen 0
            have f1 := b0V.frozen 1
            have f2 := b0V.frozen 2
            have zb := zero_box b0V
            have m0 := zb.cell 0
            have m1 := zb.cell 1
            have m2 := zb.cell 2
            go_wp2
            refine bodyPost_ret (v := .tuple #[.agg #[.int .i64 0, .int .i64 0, .slice none 0 0], .int .i64 80]) (by simp [results, Tryz.results73, go_sem, m0, m1, m2]) rfl ?_
            exact .inr ⟨hno.out, rfl, zero_below B1'⟩
          | true =>
            have hy4 : ys.length = 4096 := by
              unfold stampedB at hsb
              simp at hsb
              exact hsb.1
            rw [hy4] at t2 ⊢
            obtain ⟨gy, oy, rfl, _⟩ := t5' (by omega)
            go_wp2_with fail
            have hyl : ys.length = 4096 := hy4
            have HY4 : Hid _ := hy4
            clear hy4 hyl
            refine wp_region_any (by kernel_rfl) ?_
            change wpAny _ _ _ _ _ _ _ (World.drew _)
            replace be : Box V2.drew bi _ 133 := be
            replace bG1 : Box V2.drew gb _ 40 := bG1
            replace bH1 : Box V2.drew hb _ 129 := bH1
            replace own1 : V2.drew.ownsRow w1.heap.size 108 2 (.slice av k cv) k (imgC ps) := own1
            replace J1 : GetJ w.heap.size V2.drew ps := J1.below (Below.refl _ _).drew
            replace A1 : Below w1.heap.size w1 V2.drew := A1.drew
            replace B1' : Below w.heap.size w V2.drew := B1'.drew
            replace p6' : Rd V2.drew (some ⟨gq, oq, none⟩) eh := p6'
            replace t5' : Rd V2.drew (some ⟨gy, oy, none⟩) ys := t5'
            generalize V2.drew = W at be bG1 bH1 own1 J1 A1 B1' p6' t5' ⊢
            refine wpAny_take (i := 0) (v := ?_) rfl (by kernel_rfl) (by kernel_rfl) (by kernel_rfl) (fun _ _ _ h => h) (Or.inl ⟨by rfl, ?_⟩) ?_
            rotate_left
            · intro w
              go_simp
              with_reducible rfl
            refine wpAny_take (i := 2) (v := ?_) rfl (by kernel_rfl) (by kernel_rfl) (by kernel_rfl) (fun _ _ _ h => h) (Or.inl ⟨by rfl, ?_⟩) ?_
            rotate_left
            · intro w
              go_simp
              with_reducible rfl
            refine wpAny_take (i := 4) (v := ?_) rfl (by kernel_rfl) (by kernel_rfl) (by kernel_rfl) (fun _ _ _ h => h) (Or.inl ⟨by rfl, ?_⟩) ?_
            rotate_left
            · intro w
              go_simp
              with_reducible rfl
            refine wpAny_take (i := 5) (v := ?_) rfl (by kernel_rfl) (by kernel_rfl) (by kernel_rfl) (fun _ _ _ h => h) (Or.inl ⟨by rfl, ?_⟩) ?_
            rotate_left
            · intro w
              go_simp
              with_reducible rfl
            simp only [Act.put, List.setIfInBounds_toArray, List.set_cons_zero, List.set_cons_succ, List.getElem_toArray, List.getElem_cons_zero, List.getElem_cons_succ]
            refine wpAny_of_late (C := SB [(59, .pointer (some ⟨gb, 2, none⟩)), (61, .pointer (some ⟨bi, 0, none⟩)), (64, .pointer (some ⟨bi, 1, none⟩))] [(gb, #[.int .i64 (E : Int), .int .i64 (S : Int), .slice av k cv], 40), (bi, #[.int .i64 (eb : Int), .slice (some ⟨gq, oq, none⟩) 64 cq], 133)]) (late := [12]) _ _ _ _ ?_
            refine wpAnyD_take (i := 1) (v := .slice av k cv) rfl (by kernel_rfl) (by kernel_rfl) (by kernel_rfl) (by kernel_rfl) (fun _ _ _ h => h) ?_ (fun fr u h => (SB.put 60 _ (by rfl)).1 h) (fun fr u h => (SB.put 60 _ (by rfl)).2 h) ?_ ?_
            · intro fr u hh
              obtain ⟨e1, e2⟩ := hh.load (s := 59) (b := gb) (j := 2) (cs := #[.int .i64 (E : Int), .int .i64 (S : Int), .slice av k cv]) (t := 40) (v := .slice av k cv) (by simp) (by simp) (by rfl)
              exact ⟨rfl, by simp [execOp, e1, go_sem, e2]⟩
            · exact ⟨fun p hp => by simp at hp; rcases hp with rfl | rfl | rfl <;> rfl, fun q hq => by simp at hq; rcases hq with rfl | rfl <;> first | exact bG1 | exact be⟩
            simp only [Act.put, List.setIfInBounds_toArray, List.set_cons_zero, List.set_cons_succ, List.getElem_toArray, List.getElem_cons_zero, List.getElem_cons_succ]
            refine wpAnyD_take (i := 3) (v := .int .i64 (eb : Int)) rfl (by kernel_rfl) (by kernel_rfl) (by kernel_rfl) (by kernel_rfl) (fun _ _ _ h => h) ?_ (fun fr u h => (SB.put 62 _ (by rfl)).1 h) (fun fr u h => (SB.put 62 _ (by rfl)).2 h) ?_ ?_
            · intro fr u hh
              obtain ⟨e1, e2⟩ := hh.load (s := 61) (b := bi) (j := 0) (cs := #[.int .i64 (eb : Int), .slice (some ⟨gq, oq, none⟩) 64 cq]) (t := 133) (v := .int .i64 (eb : Int)) (by simp) (by simp) (by rfl)
              exact ⟨rfl, by simp [execOp, e1, go_sem, e2]⟩
            · exact ⟨fun p hp => by simp at hp; rcases hp with rfl | rfl | rfl <;> rfl, fun q hq => by simp at hq; rcases hq with rfl | rfl <;> first | exact bG1 | exact be⟩
            simp only [Act.put, List.setIfInBounds_toArray, List.set_cons_zero, List.set_cons_succ, List.getElem_toArray, List.getElem_cons_zero, List.getElem_cons_succ]
            refine wpAnyD_take (i := 6) (v := .slice (some ⟨gq, oq, none⟩) 64 cq) rfl (by kernel_rfl) (by kernel_rfl) (by kernel_rfl) (by kernel_rfl) (fun _ _ _ h => h) ?_ (fun fr u h => (SB.put 65 _ (by rfl)).1 h) (fun fr u h => (SB.put 65 _ (by rfl)).2 h) ?_ ?_
            · intro fr u hh
              obtain ⟨e1, e2⟩ := hh.load (s := 64) (b := bi) (j := 1) (cs := #[.int .i64 (eb : Int), .slice (some ⟨gq, oq, none⟩) 64 cq]) (t := 133) (v := .slice (some ⟨gq, oq, none⟩) 64 cq) (by simp) (by simp) (by rfl)
              exact ⟨rfl, by simp [execOp, e1, go_sem, e2]⟩
            · exact ⟨fun p hp => by simp at hp; rcases hp with rfl | rfl | rfl <;> rfl, fun q hq => by simp at hq; rcases hq with rfl | rfl <;> first | exact bG1 | exact be⟩
            simp only [Act.put, List.setIfInBounds_toArray, List.set_cons_zero, List.set_cons_succ, List.getElem_toArray, List.getElem_cons_zero, List.getElem_cons_succ]
            refine wpAnyD_one (i := 7) (by kernel_rfl) rfl (fun K hK2 => ?_)
            go_simp
            refine (unhide_in gy oy ck gq oq cq ys eh W HY4.out t5' p5 p3 p4 p6').mono ?_
            rintro r W2 ⟨h, c, rfl, hh, r1, hbW⟩
            have J2 := J1.snoc hbW ⟨(eb : Int), _, h, c⟩ r1 hh (unhideTo_length ys eh HY4.out _) B1'.size
            replace be := be.below hbW
            replace bG1 := bG1.below hbW
            replace bH1 := bH1.below hbW
            replace own1 := owns_belowH own1 hbW
            replace A1 := A1.trans (hbW.mono A1.size)
            replace B1' := B1'.trans (hbW.mono B1'.size)
            refine hK2 _ _ ⟨.inr ⟨fun p hp => by simp at hp; rcases hp with rfl | rfl | rfl <;> rfl, fun q hq => by simp at hq; rcases hq with rfl | rfl <;> first | exact bG1 | exact be⟩, ?_⟩
            clear hK2 K hbW r1 hh J1 p6' t5'
            refine wpAnyD_one (i := 8) (by kernel_rfl) rfl (fun K hK2 => ?_)
            go_simp
            refine hK2 _ _ ⟨.inr ⟨fun p hp => by simp at hp; rcases hp with rfl | rfl | rfl <;> rfl, fun q hq => by simp at hq; rcases hq with rfl | rfl <;> first | exact bG1 | exact be⟩, ?_⟩
            clear hK2 K
            have al := (Below.refl W2.heap.size W2).alloc (Nat.le_refl _) (.cells #[.int .i64 (eb : Int), .slice (some ⟨h, 0, none⟩) 4096 c] 108)
            have bN := Box.new W2 #[.int .i64 (eb : Int), .slice (some ⟨h, 0, none⟩) 4096 c] 108
            refine wpAnyD_one (i := 9) (by kernel_rfl) rfl (fun K hK2 => ?_)
            go_simp
            replace be := be.below al
            replace bG1 := bG1.below al
            replace bH1 := bH1.below al
            replace own1 := owns_belowH own1 al
            replace J2 := J2.below al
            replace A1 := A1.trans (al.mono A1.size)
            replace B1' := B1'.trans (al.mono B1'.size)
            refine hK2 _ _ ⟨.inr ⟨fun p hp => by simp at hp; rcases hp with rfl | rfl | rfl <;> rfl, fun q hq => by simp at hq; rcases hq with rfl | rfl <;> first | exact bG1 | exact be⟩, ?_⟩
            clear hK2 K
            refine wpAnyD_one (i := 10) (by kernel_rfl) rfl (fun K hK2 => ?_)
            rw [if_pos (by rfl)]
            refine wp_append_own _ _ _ 38 rfl w1.heap.size 108 i0 (.agg #[.int .i64 0, .slice none 0 0]) 2 32 Tryz.underlying38 hi hz0 hz1 hz2 rfl (by decide) _ k _ rfl own1 ⟨W2.heap.size, 0, none⟩ 1 1 [.int .i64 (eb : Int), .slice (some ⟨h, 0, none⟩) 4096 c] rfl rfl (two_cells bN) (fun u hu => by simp at hu; rcases hu with rfl | rfl <;> rfl) (by unfold maxLen; omega) (by omega) A1.size ?_
            intro v' w4 own4 hg4 _
            have hnx : ∀ {g : Nat} {cs : Array Value} {t : TypeId}, Box _ g cs t → (108 : TypeId) ≠ t → Box w4 g cs t := fun hb ht => hb.grown hg4 (fun e => by
              obtain ⟨_, cur, q⟩ := owns_block own1 _ e
              exact q.ne hb ht rfl)
            replace be := hnx be (by decide)
            replace bG1 := hnx bG1 (by decide)
            replace bH1 := hnx bH1 (by decide)
            replace J2 := J2.grown own1 (by decide) hg4
            have own1b := own1
            have A4 : Below w1.heap.size w1 w4 := A1.grown hg4 A1.size (fun j e => (owns_block own1b j e).1)
            have B4 := B1'.grown hg4 B1'.size (fun j e => Nat.le_trans B1.size (owns_block own1b j e).1)
            refine hK2 _ _ ⟨.inr ⟨fun p hp => by simp at hp; rcases hp with rfl | rfl | rfl <;> rfl, fun q hq => by simp at hq; rcases hq with rfl | rfl <;> first | exact bG1 | exact be⟩, ?_⟩
            clear hK2 K hnx own1 own1b A1 B1' bN al hg4
            obtain ⟨av4, cv4, rfl⟩ := owns_shape own4
            refine wpAnyD_one (i := 11) (by kernel_rfl) rfl (fun K hK2 => ?_)
            go_simp
            refine hK2 _ _ ⟨.inr ⟨fun p hp => by simp at hp; rcases hp with rfl | rfl | rfl <;> rfl, fun q hq => by simp at hq; rcases hq with rfl | rfl <;> first | exact bG1 | exact be⟩, ?_⟩
            clear hK2 K
            have f4 := bG1.frozen 2
            have z4 := bG1.cell 2
            refine wpAnyD_one (i := 12) (by kernel_rfl) rfl (fun K hK2 => ?_)
            go_simp
            refine hK2 _ _ ⟨.inl rfl, ?_⟩
            clear hK2 K
            have bG5 := bG1.store 2 (.slice av4 (k + 1) cv4)
            have bH5 : Box (w4.setCell ⟨gb, 2, none⟩ (.slice av4 (k + 1) cv4)) hb _ 129 := (heap_setCell_other w4 ⟨gb, 2, none⟩ hb _ (by show hb ≠ gb; omega)).trans bH1
            have J5 := J2.store (j := 2) bG1 (by decide) (.slice av4 (k + 1) cv4)
            have A5 := A4.setCell (p := ⟨gb, 2, none⟩) (by show w1.heap.size ≤ gb; omega) (.slice av4 (k + 1) cv4)
            have own5 : (w4.setCell ⟨gb, 2, none⟩ (.slice av4 (k + 1) cv4)).ownsRow w1.heap.size 108 2 (.slice av4 (k + 1) cv4) (k + 1) _ := owns_grown own4 (grown_store w4 gb 2 _) (fun g eg e => by
              cases e
              obtain ⟨_, cur2, q2⟩ := owns_block own4 _ eg
              exact q2.ne bG1 (by decide) rfl)
            refine wpAnyD_done (by kernel_rfl) ?_ _
            clear own4 bG1 bH1 J2 A4 B4 be f4 z4
            go_wp2
            go_roundw
            case rel =>
              refine ⟨k + 1, ps ++ [⟨(eb : Int), _, h, c⟩], by omega, by go_num, ?_, ?_, ⟨_, by simpa using bG5, ?_⟩, J5, bH5, A5⟩
              · rw [List.map_append, HPS.out, imgsTo_succ, HIO.out]
                rfl
              · intro j hj
                by_cases hjk : j < k
                · exact HST.out j hjk
                · obtain rfl : j = k := by omega
                  rw [HSK.out]
                  exact hsb
              · have e1 : imgC (ps ++ [⟨(eb : Int), (unhideTo ys eh (List.finRange 8)).1, h, c⟩]) = imgC ps ++ [.int .i64 (eb : Int), .slice (some ⟨h, 0, none⟩) 4096 c] := by simp [imgC]
                rw [e1]
                exact own5
            case measure => simp [intOf]; omega
        · obtain rfl : k = m := by omega
          obtain ⟨av, cv, rfl⟩ := owns_shape hown
          have hyes : Hid IG := hg3.out.2 HST.out
          have b0V := BOXW.out _ hB1
          have g0 := bG.cell 0
          have g1 := bG.cell 1
          have g2 := bG.cell 2
          have y0 := b0V.cell 0
          have y1 := b0V.cell 1
          have y2 := b0V.cell 2
          have f0 := b0V.frozen 0
          have st0 : Box (wr.setCell ⟨w.heap.size, 0, none⟩ (.int .i64 (E : Int))) w.heap.size #[.int .i64 (E : Int), .int .i64 0, .slice none 0 0] 40 := by have := b0V.store 0 (.int .i64 (E : Int)); simpa using this
          have st1 : Box ((wr.setCell ⟨w.heap.size, 0, none⟩ (.int .i64 (E : Int))).setCell ⟨w.heap.size, 1, none⟩ (.int .i64 (S : Int))) w.heap.size #[.int .i64 (E : Int), .int .i64 (S : Int), .slice none 0 0] 40 := by have := st0.store 1 (.int .i64 (S : Int)); simpa using this
          have st2 : Box (((wr.setCell ⟨w.heap.size, 0, none⟩ (.int .i64 (E : Int))).setCell ⟨w.heap.size, 1, none⟩ (.int .i64 (S : Int))).setCell ⟨w.heap.size, 2, none⟩ (.slice av k cv)) w.heap.size #[.int .i64 (E : Int), .int .i64 (S : Int), .slice av k cv] 40 := by have := st1.store 2 (.slice av k cv); simpa using this
          have fr1 := b0V.frozen 1
          have fr2 := b0V.frozen 2
          have h1 := st0.frozen 1
          have h2 := st1.frozen 2
          have h1c := st0.cell 1
          have h2c := st1.cell 2
          have m0 := st2.cell 0
          have m1 := st2.cell 1
          have m2 := st2.cell 2
          have J3 := ((hJ.store (j := 0) b0V (by decide) (.int .i64 (E : Int))).store (j := 1) st0 (by decide) (.int .i64 (S : Int))).store (j := 2) st1 (by decide) (.slice av k cv)
          have hneO : ∀ g', (Value.slice av k cv).ownBlock = some g' → some w.heap.size ≠ some g' := fun g' eg e => by
            cases e
            obtain ⟨_, cur2, q2⟩ := owns_block hown _ eg
            exact q2.ne b0V (by decide) rfl
          have own3 := owns_grown (owns_grown (owns_grown hown (grown_store wr w.heap.size 0 (.int .i64 (E : Int))) hneO) (grown_store _ w.heap.size 1 (.int .i64 (S : Int))) hneO) (grown_store _ w.heap.size 2 (.slice av k cv)) hneO
          have B9 := ((hB.setCell (p := ⟨w.heap.size, 0, none⟩) (by simp) (.int .i64 (E : Int))).setCell (p := ⟨w.heap.size, 1, none⟩) (by simp) (.int .i64 (S : Int))).setCell (p := ⟨w.heap.size, 2, none⟩) (by simp) (.slice av k cv)
          clear bG bH hown hJ hneO hB1
          go_wp2
          refine bodyPost_ret (v := .tuple #[.agg #[.int .i64 (E : Int), .int .i64 (S : Int), .slice av k cv], .int .i64 0]) (by simp [results, Tryz.results73, go_sem, m0, m1, m2]) rfl ?_
          exact .inl ⟨hyes.out, av, cv, ps, by rw [← HEE.out, ← HSS.out, ← HES.out, ← HM.out], by rw [← HES.out, ← HM.out]; exact owns_base own3 B1.size, J3, by rw [← HES.out, ← HM.out]; exact HPS.out, B9⟩
    · have hq : ((n : Int) != (m : Int) + 1) = true := by simp; omega
      have hno : Hid (¬ IG) := fun h => hnm (HG2.out.1 h).1
      have y0 := b02.cell 0
      have y1 := b02.cell 1
      have y2 := b02.cell 2
      have f0 := b02.frozen 0
      have f1 := b02.frozen 1
      have f2 := b02.frozen 2
      have zb := zero_box b02
      have m0 := zb.cell 0
      have m1 := zb.cell 1
      have m2 := zb.cell 2
      clear hnm HG2
      go_wp2
      refine bodyPost_ret (v := .tuple #[.agg #[.int .i64 0, .int .i64 0, .slice none 0 0], .int .i64 80]) (by simp [results, Tryz.results73, go_sem, m0, m1, m2]) rfl ?_
      exact .inr ⟨hno.out, rfl, zero_below B2⟩
  · replace b0 := b0.below hb1
    have B1 := B0.trans (hb1.mono B0.size)
    have hno : Hid (¬ IG) := fun h => hhd (HG.out.1 h).1
    have al := (Below.refl w1.heap.size w1).alloc (Nat.le_refl _) (.cells #[.int .i64 0, .int .i64 0, .slice none 0 0] 129)
    replace b0 := b0.below al
    have B2 := B1.trans (al.mono B1.size)
    clear hhd hb1 cH q1'
    have y0 := b0.cell 0
    have y1 := b0.cell 1
    have y2 := b0.cell 2
    have f0 := b0.frozen 0
    have f1 := b0.frozen 1
    have f2 := b0.frozen 2
    have zb := zero_box b0
    have m0 := zb.cell 0
    have m1 := zb.cell 1
    have m2 := zb.cell 2
    go_wp2
    refine bodyPost_ret (v := .tuple #[.agg #[.int .i64 0, .int .i64 0, .slice none 0 0], .int .i64 80]) (by simp [results, Tryz.results73, go_sem, m0, m1, m2]) rfl ?_
    exact .inr ⟨hno.out, rfl, zero_below B2⟩
end Go.Proofs.YtkhejjddmbegaaaGreat.Rc

/-
  Put of what is no right group; Head.
-/
namespace Go.Proofs.YtkhejjddmbegaaaGreat.Rc
open Go.RowKit

set_option maxRecDepth 100000 in
theorem put_no (e s : Int) (a : Option Addr) (n cap : Nat) (is : List (Int × List UInt8)) (w : World) (hl : is.length = n) (hn : n * 32 ≤ 140737488355328) (hI : Imgs w a is) (hno : ¬ okGroup e s is) :
    Calls Tryz.prog 55 #[.agg #[.int .i64 e, .int .i64 s, .slice a n cap]] w fun r w' => r = .returned (.tuple #[.slice none 0 0, .int .i64 80]) ∧ Below w.heap.size w w' := by
  have B0 := (Below.refl w.heap.size w).alloc (Nat.le_refl _) (.cells #[.int .i64 e, .int .i64 s, .slice a n cap] 40)
  have c1 := rightGroup_at e s a n cap is _ hl hn (hI.below B0)
  have HNO : Hid _ := hno
  clear hno hI
  go_enter Tryz.func55, Tryz.ntmps55
  go_wp2_with fail
  refine c1.mono ?_
  rintro r w1 ⟨q, rfl, hq, hb1⟩
  have B1 := B0.trans (hb1.mono B0.size)
  cases q with
  | true => exact (HNO.out (hq.1 rfl)).elim
  | false =>
    clear hq c1 hb1
    go_wp2
    go_ret2
    exact ⟨rfl, B1⟩

/-- what Head tells -/
def HeadR (w : World) (xs : List UInt8) (r : Ending) (w' : World) : Prop :=
  (isHead xs ∧ r = .returned (.tuple #[.int .i64 (saidE xs : Int), .int .i64 (saidS xs : Int), .int .i64 ((saidEs xs).length : Int), .bool true]) ∧ Below w.heap.size w w') ∨
  (¬ isHead xs ∧ r = .returned (.tuple #[.int .i64 0, .int .i64 0, .int .i64 0, .bool false]) ∧ Below w.heap.size w w')

set_option maxRecDepth 100000 in
set_option maxHeartbeats 1000000 in
theorem head_at (a : Option Addr) (n cap : Nat) (xs : List UInt8) (w : World) (hl : xs.length = n) (hcap : n ≤ cap) (hmax : cap ≤ 9223372036854775807) (hr : Rd w a xs) : Calls Tryz.prog 72 #[.slice a n cap] w (HeadR w xs) := by
  have c := getHeading_at a n cap xs w hl hcap hmax hr
  clear hl
  go_enter Tryz.func72, Tryz.ntmps72
  go_wp2_with fail
  refine c.mono ?_
  rintro r w1 (⟨hhd, ah, ch, rfl, hEn, hb1⟩ | ⟨hhd, rfl, hb1⟩)
  · have hx : Hid (isHead xs) := hhd
    clear hhd c hEn
    have bh := Box.new w1 #[.int .i64 (saidE xs : Int), .int .i64 (saidS xs : Int), .slice ah (saidEs xs).length ch] 129
    have B1 := hb1.alloc hb1.size (.cells #[.int .i64 (saidE xs : Int), .int .i64 (saidS xs : Int), .slice ah (saidEs xs).length ch] 129)
    have y0 := bh.cell 0
    have y1 := bh.cell 1
    have y2 := bh.cell 2
    go_wp2_with fail
    go_quiet (fail)
    go_wp2
    refine bodyPost_ret (v := .tuple #[.int .i64 (saidE xs : Int), .int .i64 (saidS xs : Int), .int .i64 ((saidEs xs).length : Int), .bool true]) (by simp [results, Tryz.results72, go_sem]) rfl ?_
    exact .inl ⟨hx.out, rfl, ⟨B1.os, B1.tape, B1.output, B1.size, B1.block⟩⟩
  · have hx : Hid (¬ isHead xs) := hhd
    clear hhd c
    have bh := Box.new w1 #[.int .i64 0, .int .i64 0, .slice none 0 0] 129
    have B1 := hb1.alloc hb1.size (.cells #[.int .i64 0, .int .i64 0, .slice none 0 0] 129)
    have y0 := bh.cell 0
    have y1 := bh.cell 1
    have y2 := bh.cell 2
    go_wp2_with fail
    go_quiet (fail)
    go_wp2
    refine bodyPost_ret (v := .tuple #[.int .i64 0, .int .i64 0, .int .i64 0, .bool false]) (by simp [results, Tryz.results72, go_sem]) rfl ?_
    exact .inr ⟨hx.out, rfl, ⟨B1.os, B1.tape, B1.output, B1.size, B1.block⟩⟩
end Go.Proofs.YtkhejjddmbegaaaGreat.Rc

/-
  Blocks, sector by sector: what the walks through sectors come to. No walk here.
-/
namespace Go.Proofs.YtkhejjddmbegaaaGreat.Rc

/-- eight parts, one behind the other -/
def cat (f : Fin 8 → List UInt8) (k : Nat) : List UInt8 := (firsts k).flatMap f
theorem cat_succ (f : Fin 8 → List UInt8) (k : Nat) (h : k < 8) : cat f (k + 1) = cat f k ++ f ⟨k, h⟩ := by unfold cat; rw [firsts_succ k h]; simp
theorem cat_length (f : Fin 8 → List UInt8) (n : Nat) (hf : ∀ x, (f x).length = n) : ∀ k, k ≤ 8 → (cat f k).length = k * n
  | 0, _ => by simp [cat, firsts]
  | k + 1, h => by rw [cat_succ f k h, List.length_append, cat_length f n hf k (by omega), hf, Nat.add_mul, Nat.one_mul]
theorem over_app (A B M : List UInt8) (off : Nat) (h : A.length = off) : over (A ++ B) off M = A ++ (M ++ B.drop M.length) := by
  subst h
  unfold over
  rw [List.take_left, List.drop_append]
  congr 2
  rw [List.drop_eq_nil_of_le (by omega), List.nil_append]
  congr 1
  omega
theorem drop_sec (xs : List UInt8) (k : Nat) : xs.drop (k * 512 + 8) = (sec xs k).drop 8 ++ xs.drop ((k + 1) * 512) := by
  unfold sec
  rw [List.drop_take, List.drop_drop]
  have e : xs.drop ((k + 1) * 512) = (xs.drop (k * 512 + 8)).drop 504 := by rw [List.drop_drop]; exact congrArg (fun i => xs.drop i) (by omega)
  rw [e]
  exact (List.take_append_drop 504 _).symm
theorem sec_app (A B : List UInt8) (k : Nat) (h : A.length = k * 512) : sec (A ++ B) k = B.take 512 := by
  unfold sec
  rw [List.drop_append, List.drop_eq_nil_of_le (by omega), List.nil_append, h, Nat.sub_self, List.drop_zero]

theorem hideTo_firsts (xs M : List UInt8) (hl : xs.length = 4096) (hm : M.length = 8) : ∀ k, k ≤ 8 → hideTo xs M (firsts k) = (cat (fun x => M ++ (sec xs x.val).drop 8) k ++ xs.drop (k * 512), cat (fun x => (sec xs x.val).take 8) k)
  | 0, _ => by simp [hideTo, firsts, cat]
  | k + 1, h => by
    have hA : (cat (fun x => M ++ (sec xs x.val).drop 8) k).length = k * 512 := cat_length _ 512 (fun x => by have := sec_length xs x.val hl x.isLt; simp [this, hm]) k (by omega)
    rw [firsts_succ k h, hideTo_snoc, hideTo_firsts xs M hl hm k (by omega), cat_succ _ k h, cat_succ _ k h]
    unfold hideStep
    dsimp only
    rw [over_app _ _ _ _ hA, sec_app _ _ _ hA, hm, List.drop_drop, drop_sec]
    simp only [List.append_assoc]
    rfl
theorem unhideTo_firsts (xs H : List UInt8) (hl : xs.length = 4096) (hh : H.length = 64) : ∀ k, k ≤ 8 → unhideTo xs H (firsts k) = (cat (fun x => (H.drop (x.val * 8)).take 8 ++ (sec xs x.val).drop 8) k ++ xs.drop (k * 512), k)
  | 0, _ => by simp [unhideTo, firsts, cat]
  | k + 1, h => by
    have hA : (cat (fun x => (H.drop (x.val * 8)).take 8 ++ (sec xs x.val).drop 8) k).length = k * 512 := cat_length _ 512 (fun x => by have := sec_length xs x.val hl x.isLt; have := x.isLt; simp; omega) k (by omega)
    have h8 : ((H.drop (k * 8)).take 8).length = 8 := by simp; omega
    rw [firsts_succ k h, unhideTo_snoc, unhideTo_firsts xs H hl hh k (by omega), cat_succ _ k h]
    unfold unhideStep
    dsimp only
    rw [over_app _ _ _ _ hA, h8, List.drop_drop, drop_sec]
    simp only [List.append_assoc]
theorem putTo_firsts (Z M BB : List UInt8) (hl : Z.length = 4096) (hm : M.length = 8) (hb : BB.length = 4032) : ∀ k, k ≤ 8 → putTo Z M BB (firsts k) = (cat (fun x => M ++ (BB.drop (x.val * 504)).take 504) k ++ Z.drop (k * 512), k)
  | 0, _ => by simp [putTo, firsts, cat]
  | k + 1, h => by
    have hA : (cat (fun x => M ++ (BB.drop (x.val * 504)).take 504) k).length = k * 512 := cat_length _ 512 (fun x => by have := x.isLt; simp [hm]; omega) k (by omega)
    have h5 : ((BB.drop (k * 504)).take 504).length = 504 := by simp; omega
    rw [firsts_succ k h, putTo_snoc, putTo_firsts Z M BB hl hm hb k (by omega), cat_succ _ k h]
    unfold putStep
    dsimp only
    rw [over_app _ _ _ _ hA, ← List.append_assoc, over_app _ _ _ (k * 512 + 8) (by rw [List.length_append, hA, hm]), h5, hm, List.drop_drop, List.drop_drop]
    have e0 : k * 512 + 8 + 504 = (k + 1) * 512 := by omega
    rw [e0]
    simp only [List.append_assoc]

/-- what the calls come to -/
theorem stB_cat (M xs : List UInt8) (hl : xs.length = 4096) (hm : M.length = 8) : stB M xs = cat (fun x => M ++ (sec xs x.val).drop 8) 8 := by
  unfold stB
  rw [← firsts_all, hideTo_firsts xs M hl hm 8 (by omega)]
  simp [List.drop_eq_nil_of_le, hl]
theorem hdB_cat (M xs : List UInt8) (hl : xs.length = 4096) (hm : M.length = 8) : hdB M xs = cat (fun x => (sec xs x.val).take 8) 8 := by
  unfold hdB
  rw [← firsts_all, hideTo_firsts xs M hl hm 8 (by omega)]
theorem unhide_cat (xs H : List UInt8) (hl : xs.length = 4096) (hh : H.length = 64) : (unhideTo xs H (List.finRange 8)).1 = cat (fun x => (H.drop (x.val * 8)).take 8 ++ (sec xs x.val).drop 8) 8 := by
  rw [← firsts_all, unhideTo_firsts xs H hl hh 8 (by omega)]
  simp [List.drop_eq_nil_of_le, hl]
theorem headB_cat (e s : Nat) (es : List (Nat × List UInt8)) (hb : (bodyB es).length = 4032) : headB e s es = cat (fun x => mark e s ++ ((bodyB es).drop (x.val * 504)).take 504) 8 := by
  unfold headB
  rw [← firsts_all, putTo_firsts _ _ _ (nought_length _) (mark_length _ _) hb 8 (by omega)]
  have : (nought 4096).drop (8 * 512) = [] := List.drop_eq_nil_of_le (by rw [nought_length]; omega)
  rw [this, List.append_nil]
theorem bodyX_cat (xs : List UInt8) : bodyX xs = cat (fun x => (sec xs x.val).drop 8) 8 := by unfold bodyX bodyTo cat; rw [firsts_all]

/-- part x of eight parts -/
theorem part_cat (f : Fin 8 → List UInt8) (n : Nat) (hf : ∀ x, (f x).length = n) (x : Fin 8) : ∀ k, k ≤ 8 → x.val < k → ((cat f k).drop (x.val * n)).take n = f x
  | 0, _, h => absurd h (by omega)
  | k + 1, hk, h => by
    have hl := cat_length f n hf k (by omega)
    rw [cat_succ f k hk]
    by_cases hx : x.val < k
    · have h1 : x.val * n + n ≤ k * n := by
        have := Nat.mul_le_mul_right n (show x.val + 1 ≤ k from hx)
        rw [Nat.add_mul, Nat.one_mul] at this
        exact this
      rw [List.drop_append_of_le_length (by omega), List.take_append_of_le_length (by rw [List.length_drop]; omega)]
      exact part_cat f n hf x k (by omega) hx
    · obtain ⟨xv, hxv⟩ := x
      obtain rfl : xv = k := by simp at h hx; omega
      rw [List.drop_append, List.drop_eq_nil_of_le (by rw [hl]; exact Nat.le_refl _), List.nil_append, hl, Nat.sub_self, List.drop_zero, List.take_of_length_le (by rw [hf]; exact Nat.le_refl _)]
theorem sec_cat (f : Fin 8 → List UInt8) (hf : ∀ x, (f x).length = 512) (x : Fin 8) : sec (cat f 8) x.val = f x := part_cat f 512 hf x 8 (by omega) x.isLt
/-- a block is its sectors -/
theorem cat_sec (xs : List UInt8) (hl : xs.length = 4096) : cat (fun x => sec xs x.val) 8 = xs := by
  have : ∀ k, k ≤ 8 → cat (fun x => sec xs x.val) k = xs.take (k * 512) := by
    intro k
    induction k with
    | zero => intro _; simp [cat, firsts]
    | succ k ih =>
      intro h
      rw [cat_succ _ k h, ih (by omega)]
      unfold sec
      have e : (k + 1) * 512 = k * 512 + 512 := by omega
      rw [e, List.take_add]
  rw [this 8 (by omega)]
  exact List.take_of_length_le (by omega)

/-- what is hidden is laid back -/
theorem unhide_hide (M xs : List UInt8) (hl : xs.length = 4096) (hm : M.length = 8) : (unhideTo (stB M xs) (hdB M xs) (List.finRange 8)).1 = xs := by
  have hf : ∀ x : Fin 8, (M ++ (sec xs x.val).drop 8).length = 512 := fun x => by have := sec_length xs x.val hl x.isLt; simp [this, hm]
  have hg : ∀ x : Fin 8, ((sec xs x.val).take 8).length = 8 := fun x => by have := sec_length xs x.val hl x.isLt; simp [this]
  have h1 : (stB M xs).length = 4096 := by rw [stB_cat M xs hl hm, cat_length _ 512 hf 8 (by omega)]
  have h2 : (hdB M xs).length = 64 := by rw [hdB_cat M xs hl hm, cat_length _ 8 hg 8 (by omega)]
  rw [unhide_cat _ _ h1 h2]
  have : (fun x : Fin 8 => ((hdB M xs).drop (x.val * 8)).take 8 ++ (sec (stB M xs) x.val).drop 8) = fun x => sec xs x.val := by
    funext x
    rw [hdB_cat M xs hl hm, part_cat _ 8 hg x 8 (by omega) x.isLt, stB_cat M xs hl hm, sec_cat _ hf x]
    have : (M ++ (sec xs x.val).drop 8).drop 8 = (sec xs x.val).drop 8 := List.drop_left' hm
    rw [this]
    exact List.take_append_drop 8 _
  rw [this]
  exact cat_sec xs hl
end Go.Proofs.YtkhejjddmbegaaaGreat.Rc

/-
  What is put is got: no walk here.
-/
namespace Go.Proofs.YtkhejjddmbegaaaGreat.Rc

/-- parts of 504, one behind the other -/
theorem cat_parts (bb : List UInt8) (hl : bb.length = 4032) : cat (fun x => (bb.drop (x.val * 504)).take 504) 8 = bb := by
  have : ∀ k, k ≤ 8 → cat (fun x => (bb.drop (x.val * 504)).take 504) k = bb.take (k * 504) := by
    intro k
    induction k with
    | zero => intro _; simp [cat, firsts]
    | succ k ih =>
      intro h
      rw [cat_succ _ k h, ih (by omega)]
      have e : (k + 1) * 504 = k * 504 + 504 := by omega
      rw [e, List.take_add]
  rw [this 8 (by omega)]
  exact List.take_of_length_le (by omega)

section
variable {e s : Nat} {es : List (Nat × List UInt8)}
theorem part_len (hb : (bodyB es).length = 4032) (x : Fin 8) : (mark e s ++ ((bodyB es).drop (x.val * 504)).take 504).length = 512 := by
  have := x.isLt
  simp [mark_length, hb]
  omega
theorem sec_head (hb : (bodyB es).length = 4032) (x : Fin 8) : sec (headB e s es) x.val = mark e s ++ ((bodyB es).drop (x.val * 504)).take 504 := by
  rw [headB_cat e s es hb]
  exact sec_cat _ (part_len hb) x
theorem headB_length (hb : (bodyB es).length = 4032) : (headB e s es).length = 4096 := by
  rw [headB_cat e s es hb, cat_length _ 512 (part_len hb) 8 (by omega)]
theorem body_head (hb : (bodyB es).length = 4032) : bodyX (headB e s es) = bodyB es := by
  rw [bodyX_cat]
  have : (fun x : Fin 8 => (sec (headB e s es) x.val).drop 8) = fun x => ((bodyB es).drop (x.val * 504)).take 504 := by
    funext x
    rw [sec_head hb x]
    exact List.drop_left' (mark_length _ _)
  rw [this]
  exact cat_parts _ hb
theorem take8_sec (xs : List UInt8) : xs.take 8 = (sec xs 0).take 8 := by
  unfold sec
  rw [Nat.zero_mul, List.drop_zero, List.take_take]
  rfl
theorem take8_head (hb : (bodyB es).length = 4032) : (headB e s es).take 8 = mark e s := by
  rw [take8_sec, show sec (headB e s es) 0 = _ from sec_head hb (0 : Fin 8)]
  exact List.take_left' (mark_length _ _)
theorem be_mark (he : e ≤ 8388608) (hs : s ≤ 549755813888) : beNat (mark e s) = stampN e s := by
  unfold mark
  rw [beNat_toBE]
  refine Nat.mod_eq_of_lt ?_
  unfold stampN
  omega
theorem said_head (hb : (bodyB es).length = 4032) (he : e ≤ 8388608) (hs : s ≤ 549755813888) : saidE (headB e s es) = e ∧ saidS (headB e s es) = s := by
  unfold saidE saidS
  rw [take8_head hb, be_mark he hs]
  unfold stampN
  omega
theorem cnt_body (hn : es.length ≤ 32) : cntOf (bodyB es) = es.length := by
  unfold cntOf bodyB
  rw [List.append_assoc, List.take_left' (toBE_length _ _), beNat_toBE]
  omega
theorem entsB_split (h : ∀ x ∈ es, x.2.length = 64) (i : Nat) (hi : i < es.length) : ∃ r, entsB es = entsB (es.take i) ++ (toBE 2 es[i].1 ++ (es[i].2 ++ r)) ∧ (entsB (es.take i)).length = i * 66 := by
  refine ⟨entsB (es.drop (i + 1)), ?_, ?_⟩
  · have e1 : es = es.take i ++ es[i] :: es.drop (i + 1) := by simp
    have : entsB es = entsB (es.take i ++ es[i] :: es.drop (i + 1)) := by rw [← e1]
    rw [this]
    unfold entsB
    rw [List.flatMap_append, List.flatMap_cons]
    simp only [List.append_assoc]
  · rw [entsB_length _ (fun x hx => h x (List.mem_of_mem_take hx))]
    rw [List.length_take, Nat.min_eq_left (by omega)]
theorem ent_body (h : ∀ x ∈ es, x.2.length = 64) (hb : ∀ x ∈ es, x.1 ≤ 511) (i : Nat) (hi : i < es.length) : entOf (bodyB es) i = es[i] := by
  obtain ⟨r, e1, e2⟩ := entsB_split h i hi
  have hm := List.getElem_mem hi
  have d6 : (bodyB es).drop (6 + i * 66) = toBE 2 es[i].1 ++ (es[i].2 ++ (r ++ nought (4026 - es.length * 66))) := by
    unfold bodyB restB
    rw [← List.drop_drop, List.drop_left' (by rw [List.length_append, toBE_length, toBE_length]), e1]
    simp only [List.append_assoc]
    exact List.drop_left' e2
  have d8 : (bodyB es).drop (8 + i * 66) = es[i].2 ++ (r ++ nought (4026 - es.length * 66)) := by
    rw [show 8 + i * 66 = (6 + i * 66) + 2 by omega, ← List.drop_drop, d6]
    exact List.drop_left' (toBE_length _ _)
  unfold entOf
  rw [d6, d8, List.take_left' (toBE_length _ _), List.take_left' (h _ hm), beNat_toBE, Nat.mod_eq_of_lt (by have := hb _ hm; omega)]
theorem ents_body (h : ∀ x ∈ es, x.2.length = 64) (hb : ∀ x ∈ es, x.1 ≤ 511) : entsOf (bodyB es) es.length = es := by
  refine List.ext_getElem (entsOf_length _ _) (fun i h1 h2 => ?_)
  have : (entsOf (bodyB es) es.length)[i] = entOf (bodyB es) i := by simp [entsOf]
  rw [this]
  exact ent_body h hb i h2
/-- what a head says -/
theorem said_es (h : ∀ x ∈ es, x.2.length = 64) (hb : ∀ x ∈ es, x.1 ≤ 511) (hn : es.length ≤ 32) : saidEs (headB e s es) = es := by
  unfold saidEs
  rw [body_head (bodyB_length es h hn), cnt_body hn, if_pos hn]
  exact ents_body h hb
theorem head_is (h : ∀ x ∈ es, x.2.length = 64) (hb : ∀ x ∈ es, x.1 ≤ 511) (hn : es.length ≤ 32) (hok : okHead e s (es.map fun x => (x.1 : Int))) : isHead (headB e s es) := by
  have hl := bodyB_length es h hn
  have hst := (okStamp_iff _ _).1 hok.1
  obtain ⟨q1, q2⟩ := said_head (e := e) (s := s) hl (by omega) (by omega)
  unfold isHead
  rw [q1, q2, said_es h hb hn]
  exact ⟨headB_length hl, hok, rfl⟩
end

/-- a group's entries, its blocks -/
def entL (M : List UInt8) (is : List (Int × List UInt8)) : List (Nat × List UInt8) := is.map fun i => (i.1.toNat, hdB M i.2)
def putL (e s : Nat) (is : List (Int × List UInt8)) : List (List UInt8) := headB e s (entL (mark e s) is) :: is.map fun i => stB (mark e s) i.2

section
variable {e s : Nat} {is : List (Int × List UInt8)}
theorem hdB_length (M xs : List UInt8) (hl : xs.length = 4096) (hm : M.length = 8) : (hdB M xs).length = 64 := by
  rw [hdB_cat M xs hl hm, cat_length _ 8 (fun x => by have := sec_length xs x.val hl x.isLt; simp [this]) 8 (by omega)]
theorem stB_length (M xs : List UInt8) (hl : xs.length = 4096) (hm : M.length = 8) : (stB M xs).length = 4096 := by
  rw [stB_cat M xs hl hm, cat_length _ 512 (fun x => by have := sec_length xs x.val hl x.isLt; simp [this, hm]) 8 (by omega)]
theorem okTo_each {bs : List Int} (h : okTo bs bs.length) : ∀ b ∈ bs, 0 ≤ b ∧ b ≤ 511 := fun b hb => by
  obtain ⟨j, hj, rfl⟩ := List.getElem_of_mem hb
  exact (h j hj hj).1
theorem entL_len (hok : okGroup e s is) : ∀ x ∈ entL (mark e s) is, x.2.length = 64 := fun x hx => by
  obtain ⟨i, hi, rfl⟩ := List.mem_map.1 hx
  exact hdB_length _ _ (hok.2 i hi) (mark_length _ _)
theorem entL_blk (hok : okGroup e s is) : ∀ x ∈ entL (mark e s) is, x.1 ≤ 511 := fun x hx => by
  obtain ⟨i, hi, rfl⟩ := List.mem_map.1 hx
  have := okTo_each hok.1.2.2 i.1 (List.mem_map.2 ⟨i, hi, rfl⟩)
  show i.1.toNat ≤ 511
  omega
theorem entL_map (hok : okGroup e s is) (M : List UInt8) : ((entL M is).map fun x => (x.1 : Int)) = is.map (·.1) := by
  unfold entL
  rw [List.map_map]
  refine List.map_congr_left (fun i hi => ?_)
  have := okTo_each hok.1.2.2 i.1 (List.mem_map.2 ⟨i, hi, rfl⟩)
  show ((i.1.toNat : Nat) : Int) = i.1
  omega
theorem entL_length (M : List UInt8) : (entL M is).length = is.length := by simp [entL]
theorem is_length (hok : okGroup e s is) : 1 ≤ is.length ∧ is.length ≤ 32 := by have := hok.1.2.1; simpa using this
theorem put_head (hok : okGroup e s is) : isHead (headB e s (entL (mark e s) is)) :=
  head_is (entL_len hok) (entL_blk hok) (by rw [entL_length]; exact (is_length hok).2) (by rw [entL_map hok]; exact hok.1)
theorem put_said (hok : okGroup e s is) : saidE (headB e s (entL (mark e s) is)) = e ∧ saidS (headB e s (entL (mark e s) is)) = s ∧ saidEs (headB e s (entL (mark e s) is)) = entL (mark e s) is := by
  have hn : (entL (mark e s) is).length ≤ 32 := by rw [entL_length]; exact (is_length hok).2
  have hst := (okStamp_iff _ _).1 hok.1.1
  obtain ⟨q1, q2⟩ := said_head (e := e) (s := s) (bodyB_length _ (entL_len hok) hn) (by omega) (by omega)
  exact ⟨q1, q2, said_es (entL_len hok) (entL_blk hok) hn⟩
theorem sec_st (M xs : List UInt8) (hl : xs.length = 4096) (hm : M.length = 8) (x : Fin 8) : sec (stB M xs) x.val = M ++ (sec xs x.val).drop 8 := by
  rw [stB_cat M xs hl hm]
  exact sec_cat _ (fun x => by have := sec_length xs x.val hl x.isLt; simp [this, hm]) x
theorem st_stamped (hok : okGroup e s is) (i : Int × List UInt8) (hi : i ∈ is) : stampedB (stB (mark e s) i.2) (e : Int) (s : Int) = true := by
  unfold stampedB
  have hl := hok.2 i hi
  have h1 := stB_length (mark e s) i.2 hl (mark_length _ _)
  have h2 : okStamp (e : Int) (s : Int) = true := hok.1.1
  rw [h2]
  simp only [h1, decide_true, Bool.true_and]
  unfold allMarked
  rw [List.all_eq_true]
  intro x _
  rw [sec_st _ _ hl (mark_length _ _) x, List.take_left' (mark_length _ _)]
  simp
/-- what is put is a group -/
theorem put_grp (hok : okGroup e s is) : isGrp (putL e s is) := by
  obtain ⟨q1, q2, q3⟩ := put_said hok
  unfold isGrp
  have e0 : (putL e s is)[0]?.getD [] = headB e s (entL (mark e s) is) := rfl
  rw [e0, q1, q2, q3, entL_length]
  refine ⟨by simp [putL], put_head hok, by simp [putL], fun j hj => ?_⟩
  have : (putL e s is)[j + 1]?.getD [] = stB (mark e s) (is[j]).2 := by simp [putL, hj]
  rw [this]
  exact st_stamped hok _ (List.getElem_mem hj)
/-- and that group is got -/
theorem put_imgs (hok : okGroup e s is) : imgsTo (putL e s is) (entL (mark e s) is) is.length = is := by
  refine List.ext_getElem (by simp [imgsTo]) (fun j h1 h2 => ?_)
  have e9 : (imgsTo (putL e s is) (entL (mark e s) is) is.length)[j] = imgOf (putL e s is) (entL (mark e s) is) j := by simp [imgsTo]
  rw [e9]
  unfold imgOf
  have hm := List.getElem_mem h2
  have e1 : (putL e s is)[j + 1]?.getD [] = stB (mark e s) (is[j]).2 := by simp [putL, h2]
  have e2 : (entL (mark e s) is)[j]?.getD (0, []) = ((is[j]).1.toNat, hdB (mark e s) (is[j]).2) := by simp [entL, h2]
  rw [e1, e2]
  dsimp only
  rw [unhide_hide _ _ (hok.2 _ hm) (mark_length _ _)]
  have := okTo_each hok.1.2.2 (is[j]).1 (List.mem_map.2 ⟨_, hm, rfl⟩)
  refine Prod.ext ?_ rfl
  show (((is[j]).1.toNat : Nat) : Int) = (is[j]).1
  omega
end
end Go.Proofs.YtkhejjddmbegaaaGreat.Rc

/-
  A group is taken only if all of it was written: no walk here.
-/
namespace Go.Proofs.YtkhejjddmbegaaaGreat.Rc

theorem mark_inj {e s e' s' : Nat} (he : e ≤ 8388608) (hs : s ≤ 549755813888) (he' : e' ≤ 8388608) (hs' : s' ≤ 549755813888) (h : mark e s = mark e' s') : e = e' ∧ s = s' := by
  have h1 := congrArg beNat h
  rw [be_mark he hs, be_mark he' hs'] at h1
  unfold stampN at h1
  omega
/-- no noughts bear a stamp -/
theorem mark_ne {e s : Nat} (he : 1 ≤ e) (he2 : e ≤ 8388608) (hs : s ≤ 549755813888) : mark e s ≠ List.replicate 8 0 := fun h => by
  have h1 := congrArg beNat h
  rw [be_mark he2 hs] at h1
  have h2 : beNat (List.replicate 8 0) = 0 := by decide
  rw [h2] at h1
  unfold stampN at h1
  omega

/-- every sector of a group bears the stamp that it says -/
theorem grp_marks {ls : List (List UInt8)} (h : isGrp ls) (b : Nat) (hb : b < ls.length) (x : Fin 8) : (sec ls[b] x.val).take 8 = mark (saidE (ls[0]?.getD [])) (saidS (ls[0]?.getD [])) := by
  obtain ⟨h0, hh, hn, hs⟩ := h
  cases b with
  | zero =>
    have e0 : ls[0] = ls[0]?.getD [] := by simp [h0]
    rw [e0]
    obtain ⟨h1, h2, h3⟩ := hh
    have hlen : ∀ y ∈ saidEs (ls[0]?.getD []), y.2.length = 64 := by
      intro y hy
      unfold saidEs at hy
      split at hy
      · unfold entsOf at hy
        obtain ⟨i, hi, rfl⟩ := List.mem_map.1 hy
        have hi' : i < cntOf (bodyX (ls[0]?.getD [])) := by simpa using hi
        have hbl := bodyX_length _ h1
        unfold entOf
        show ((List.drop (8 + i * 66) _).take 64).length = 64
        rw [List.length_take, List.length_drop, hbl]
        omega
      · cases hy
    have hbd : (bodyB (saidEs (ls[0]?.getD []))).length = 4032 := bodyB_length _ hlen (by have := h2.2.1; simpa using this.2)
    have h4 := sec_head (e := saidE (ls[0]?.getD [])) (s := saidS (ls[0]?.getD [])) hbd x
    rw [← h3] at h4
    rw [h4]
    exact List.take_left' (mark_length _ _)
  | succ j =>
    have hj : j < (saidEs (ls[0]?.getD [])).length := by omega
    have h1 := hs j hj
    have e1 : ls[j + 1]?.getD [] = ls[j + 1] := by simp [hb]
    rw [e1] at h1
    unfold stampedB allMarked at h1
    simp only [Bool.and_eq_true, List.all_eq_true] at h1
    have h2 := h1.2.2 x (List.mem_finRange x)
    simpa using h2
theorem grp_ok {ls : List (List UInt8)} (h : isGrp ls) : okStamp (saidE (ls[0]?.getD [])) (saidS (ls[0]?.getD [])) = true := h.2.1.2.1.1
theorem grp_len {ls : List (List UInt8)} (h : isGrp ls) (b : Nat) (hb : b < ls.length) : ls[b].length = 4096 := by
  obtain ⟨h0, hh, hn, hs⟩ := h
  cases b with
  | zero =>
    have e0 : ls[0] = ls[0]?.getD [] := by simp [h0]
    rw [e0]
    exact hh.1
  | succ j =>
    have h1 := hs j (by omega)
    have e1 : ls[j + 1]?.getD [] = ls[j + 1] := by simp [hb]
    rw [e1] at h1
    unfold stampedB at h1
    simp only [Bool.and_eq_true, decide_eq_true_eq] at h1
    exact h1.1

section
variable {e s e' s' : Nat} {is is' : List (Int × List UInt8)}
theorem put_marks (hok : okGroup e s is) (b : Nat) (hb : b < (putL e s is).length) (x : Fin 8) : (sec (putL e s is)[b] x.val).take 8 = mark e s := by
  have h := grp_marks (put_grp hok) b hb x
  have e0 : (putL e s is)[0]?.getD [] = headB e s (entL (mark e s) is) := rfl
  rw [e0, (put_said hok).1, (put_said hok).2.1] at h
  exact h

/-- where one sector is another group's, or was never written, only the other group whole is a group -/
theorem mix_grp (hok : okGroup e s is) (hok' : okGroup e' s' is') (hne : ¬(e = e' ∧ s = s')) (X : List (List UInt8)) (hl : X.length = (putL e s is).length)
    (hsec : ∀ b (h : b < X.length) (x : Fin 8), sec X[b] x.val = sec ((putL e s is)[b]'(by omega)) x.val ∨ (∃ h' : b < (putL e' s' is').length, sec X[b] x.val = sec ((putL e' s' is')[b]) x.val) ∨ (sec X[b] x.val).take 8 = List.replicate 8 0)
    (hsome : ∃ b, ∃ h : b < X.length, ∃ x : Fin 8, (∃ h' : b < (putL e' s' is').length, sec X[b] x.val = sec ((putL e' s' is')[b]) x.val) ∨ (sec X[b] x.val).take 8 = List.replicate 8 0)
    (hg : isGrp X) : X = putL e' s' is' := by
  have st := (okStamp_iff _ _).1 (grp_ok hg)
  have st1 := (okStamp_iff _ _).1 hok.1.1
  have st2 := (okStamp_iff _ _).1 hok'.1.1
  have noz : mark (saidE (X[0]?.getD [])) (saidS (X[0]?.getD [])) ≠ List.replicate 8 0 := mark_ne (by omega) (by omega) (by omega)
  have hthe : saidE (X[0]?.getD []) = e' ∧ saidS (X[0]?.getD []) = s' := by
    obtain ⟨b, hb, x, ⟨h', hx⟩ | hx⟩ := hsome
    · have h1 := grp_marks hg b hb x
      rw [hx, put_marks hok' b h' x] at h1
      obtain ⟨q1, q2⟩ := mark_inj (by omega) (by omega) (by omega) (by omega) h1
      exact ⟨q1.symm, q2.symm⟩
    · exact absurd ((grp_marks hg b hb x).symm.trans hx) noz
  have hall : ∀ b (hb : b < X.length), ∃ h' : b < (putL e' s' is').length, X[b] = (putL e' s' is')[b] := by
    intro b hb
    have each : ∀ x : Fin 8, ∃ h' : b < (putL e' s' is').length, sec X[b] x.val = sec ((putL e' s' is')[b]) x.val := by
      intro x
      rcases hsec b hb x with hx | hx | hx
      · have h1 := grp_marks hg b hb x
        rw [hx, put_marks hok b (by omega) x, hthe.1, hthe.2] at h1
        exact absurd (mark_inj (by omega) (by omega) (by omega) (by omega) h1) hne
      · exact hx
      · exact absurd ((grp_marks hg b hb x).symm.trans hx) noz
    obtain ⟨h', _⟩ := each 0
    refine ⟨h', ?_⟩
    rw [← cat_sec X[b] (grp_len hg b hb), ← cat_sec _ (grp_len (put_grp hok') b h')]
    congr 1
    funext x
    obtain ⟨_, h2⟩ := each x
    exact h2
  have h0 : 0 < X.length := hg.1
  obtain ⟨h0', e0⟩ := hall 0 h0
  have hX0 : X[0]?.getD [] = headB e' s' (entL (mark e' s') is') := by
    rw [List.getElem?_eq_getElem h0, Option.getD_some, e0]
    rfl
  have hlen : X.length = (putL e' s' is').length := by
    have := hg.2.2.1
    rw [hX0, (put_said hok').2.2, entL_length] at this
    rw [this]
    simp [putL]
  refine List.ext_getElem hlen (fun b h1 h2 => ?_)
  obtain ⟨_, e1⟩ := hall b h1
  exact e1
end
end Go.Proofs.YtkhejjddmbegaaaGreat.Rc

/-
  SameLists, SameImages, SameGroup.
-/
namespace Go.Proofs.YtkhejjddmbegaaaGreat.Rc
open Go.RowKit

theorem below_drewN {B : Nat} {a w : World} (h : Below B a w) (n : Nat) : Below B a (w.drewN n) := ⟨h.os, h.tape, h.output, h.size, h.block⟩
theorem LstAt.drewN {w : World} {b o : Nat} {xs : List UInt8} (h : LstAt w b o xs) (n : Nat) : LstAt (w.drewN n) b o xs := h.below (below_drewN (Below.refl _ _) n)

set_option maxRecDepth 100000 in
theorem sameLists_at (a a' : Option Addr) (n c n' c' : Nat) (ls ms : List (List UInt8)) (w : World) (hl : ls.length = n) (hm : ms.length = n') (hn : n ≤ 1000000000) (hL : Lsts w a ls) (hM : Lsts w a' ms) :
    Calls Tryz.prog 67 #[.slice a n c, .slice a' n' c'] w fun r w' => r = .returned (.bool (decide (ls = ms))) ∧ Below w.heap.size w w' := by
  by_cases hnn : n = n'
  · subst hnn
    have HL : Hid (ls.length = n) := hl
    have HM : Hid (ms.length = n) := hm
    have HLL : Hid (Lsts w a ls) := hL
    have HMM : Hid (Lsts w a' ms) := hM
    clear hl hm hL hM
    obtain ⟨q, hq⟩ : ∃ q, q = decide (ls = ms) := ⟨_, rfl⟩
    rw [← hq]
    have HQ : Hid (q = decide (ls = ms)) := hq
    clear hq
    go_enter Tryz.func67, Tryz.ntmps67
    go_wp2_with fail
    go_loopw [5] (fun v u => ∃ k : Nat, k ≤ n ∧ v = .int .i64 (k : Int) ∧ ls.take k = ms.take k ∧ Below w.heap.size w u) (fun v _ => n - (intOf v).toNat)
    case atStart => exact ⟨0, Nat.zero_le _, rfl, by simp, Below.refl _ _⟩
    case round =>
      obtain ⟨k, hk, rfl, ht, B⟩ := hrel
      have HT : Hid (ls.take k = ms.take k) := ht
      clear ht
      by_cases hlt : k < n
      · have k1 : k < ls.length := by rw [HL.out]; exact hlt
        have k2 : k < ms.length := by rw [HM.out]; exact hlt
        obtain ⟨b, o, rfl, hc⟩ := HLL.out (by omega)
        obtain ⟨b', o', rfl, hc'⟩ := HMM.out (by omega)
        obtain ⟨x, cx, g1, g2, g3, g4, g5⟩ := hc k k1
        obtain ⟨y, cy, f1, f2, f3, f4, f5⟩ := hc' k k2
        have lb : b < w.heap.size := block_lt_of_cell g1
        have lb' : b' < w.heap.size := block_lt_of_cell f1
        rw [← B.cell (p := ⟨b, o + k, none⟩) lb] at g1
        rw [← B.cell (p := ⟨b', o' + k, none⟩) lb'] at f1
        have r1 := g5.below B (Nat.le_refl _)
        have r2 := f5.below B (Nat.le_refl _)
        have hstep : Hid (ls.take (k + 1) = ls.take k ++ [ls[k]] ∧ ms.take (k + 1) = ms.take k ++ [ms[k]]) := ⟨List.take_succ_eq_append_getElem k1, List.take_succ_eq_append_getElem k2⟩
        have hmem : Hid (ls = ms → (ls[k]'k1) = (ms[k]'k2)) := fun e => by subst e; rfl
        generalize (ls[k]'k1) = xs at g1 g2 r1 hstep hmem
        generalize (ms[k]'k2) = ys at f1 f2 r2 hstep hmem
        have cS : ∀ q : Nat, Calls Tryz.prog 21 #[.slice x xs.length cx, .slice y ys.length cy] (wr.drewN q) fun e w' => e = .returned (.bool (xs == ys)) ∧ w' = wr.drewN q := fun q => (same_at cx cy xs.length ys.length x y xs ys (wr.drewN q) rfl rfl r1 r2).mono fun e w' ⟨h1, h2⟩ => ⟨h1, h2.symm⟩
        clear hc hc' g2 g3 g4 g5 f2 f3 f4 f5 lb lb' r1 r2
        by_cases hxy : xs = ys
        · have hb : (xs == ys) = true := by simp [hxy]
          rw [hb] at cS
          have HCS : Hid _ := cS
          have HXY : Hid _ := hxy
          clear cS hb hxy
          go_wp2_with fail
          go_quiet ((go_at_call 21; exact Calls.quiet_of_same (HCS.out _)))
          have B2 := below_drewN B nq
          clear HCS g1 f1
          go_wp2_with fail
          go_roundw
          case rel => exact ⟨k + 1, by omega, by push_cast; rfl, by rw [hstep.out.1, hstep.out.2, HT.out, HXY.out], B2⟩
          case measure => simp [intOf]; omega
        · have hb : (xs == ys) = false := by simp [hxy]
          rw [hb] at cS
          have HCS : Hid _ := cS
          have hqf : q = false := by rw [HQ.out]; exact decide_eq_false (fun e => hxy (hmem.out e))
          have HXY : Hid _ := hxy
          clear cS hb hxy
          go_wp2_with fail
          go_quiet ((go_at_call 21; exact Calls.quiet_of_same (HCS.out _)))
          have B2 := below_drewN B nq
          clear HCS g1 f1
          go_wp2_with fail
          go_ret
          exact ⟨by rw [hqf]; rfl, B2⟩
      · have hke : k = n := by omega
        have hqt : q = true := by
          rw [HQ.out]
          refine decide_eq_true ?_
          have := HT.out
          rwa [List.take_of_length_le (by rw [HL.out]; omega), List.take_of_length_le (by rw [HM.out]; omega)] at this
        go_wp2_with fail
        go_ret
        exact ⟨by rw [hqt]; rfl, B⟩
  · rw [decide_eq_false (fun e => hnn (by rw [← hl, ← hm, e]))]
    have hnb : ((n : Int) == (n' : Int)) = false := by simp; omega
    clear hl hm
    go_enter Tryz.func67, Tryz.ntmps67
    go_wp2_with fail
    go_ret
    exact ⟨rfl, Below.refl _ _⟩

set_option maxRecDepth 100000 in
set_option maxHeartbeats 1000000 in
theorem sameImages_at (a a' : Option Addr) (n c n' c' : Nat) (ls ms : List (Int × List UInt8)) (w : World) (hl : ls.length = n) (hm : ms.length = n') (hn : n ≤ 1000000000) (hL : Imgs w a ls) (hM : Imgs w a' ms) :
    Calls Tryz.prog 37 #[.slice a n c, .slice a' n' c'] w fun r w' => r = .returned (.bool (decide (ls = ms))) ∧ Below w.heap.size w w' := by
  by_cases hnn : n = n'
  · subst hnn
    have HL : Hid (ls.length = n) := hl
    have HM : Hid (ms.length = n) := hm
    have HLL : Hid (Imgs w a ls) := hL
    have HMM : Hid (Imgs w a' ms) := hM
    clear hl hm hL hM
    obtain ⟨q, hq⟩ : ∃ q, q = decide (ls = ms) := ⟨_, rfl⟩
    rw [← hq]
    have HQ : Hid (q = decide (ls = ms)) := hq
    clear hq
    go_enter Tryz.func37, Tryz.ntmps37
    go_wp2_with fail
    go_loopw [5] (fun v u => ∃ k : Nat, k ≤ n ∧ v = .int .i64 (k : Int) ∧ ls.take k = ms.take k ∧ Below w.heap.size w u) (fun v _ => n - (intOf v).toNat)
    case atStart => exact ⟨0, Nat.zero_le _, rfl, by simp, Below.refl _ _⟩
    case round =>
      obtain ⟨k, hk, rfl, ht, B⟩ := hrel
      have HT : Hid (ls.take k = ms.take k) := ht
      clear ht
      by_cases hlt : k < n
      · have k1 : k < ls.length := by rw [HL.out]; exact hlt
        have k2 : k < ms.length := by rw [HM.out]; exact hlt
        obtain ⟨b, o, rfl, hc⟩ := HLL.out (by omega)
        obtain ⟨b', o', rfl, hc'⟩ := HMM.out (by omega)
        obtain ⟨g0, x, cx, g1, g2, g3, g4, g5⟩ := hc k k1
        obtain ⟨f0, y, cy, f1, f2, f3, f4, f5⟩ := hc' k k2
        have lb : b < w.heap.size := block_lt_of_cell g1
        have lb' : b' < w.heap.size := block_lt_of_cell f1
        rw [← B.cell (p := ⟨b, o + k * 2, none⟩) lb] at g0
        rw [← B.cell (p := ⟨b', o' + k * 2, none⟩) lb'] at f0
        rw [← B.cell (p := ⟨b, o + k * 2 + 1, none⟩) lb] at g1
        rw [← B.cell (p := ⟨b', o' + k * 2 + 1, none⟩) lb'] at f1
        have r1 := g5.below B (Nat.le_refl _)
        have r2 := f5.below B (Nat.le_refl _)
        have hstep : Hid (ls.take (k + 1) = ls.take k ++ [ls[k]] ∧ ms.take (k + 1) = ms.take k ++ [ms[k]]) := ⟨List.take_succ_eq_append_getElem k1, List.take_succ_eq_append_getElem k2⟩
        have hmem : Hid (ls = ms → (ls[k]'k1) = (ms[k]'k2)) := fun e => by subst e; rfl
        generalize (ls[k]'k1) = X at g0 g1 g2 r1 hstep hmem
        generalize (ms[k]'k2) = Y at f0 f1 f2 r2 hstep hmem
        obtain ⟨bx, xs⟩ := X
        obtain ⟨bY, ys⟩ := Y
        dsimp only at g0 g1 g2 r1 f0 f1 f2 r2
        clear hc hc' g2 g3 g4 g5 f2 f3 f4 f5 lb lb'
        by_cases hbb : bx = bY
        · subst hbb
          have cS : ∀ q : Nat, Calls Tryz.prog 21 #[.slice x xs.length cx, .slice y ys.length cy] (wr.drewN q) fun e w' => e = .returned (.bool (xs == ys)) ∧ w' = wr.drewN q := fun q => (same_at cx cy xs.length ys.length x y xs ys (wr.drewN q) rfl rfl r1 r2).mono fun e w' ⟨h1, h2⟩ => ⟨h1, h2.symm⟩
          clear r1 r2
          by_cases hxy : xs = ys
          · have hb : (xs == ys) = true := by simp [hxy]
            rw [hb] at cS
            have HCS : Hid _ := cS
            have HXY : Hid _ := hxy
            clear cS hb hxy
            go_wp2_with fail
            go_quiet ((go_at_call 21; exact Calls.quiet_of_same (HCS.out _)))
            have B2 := below_drewN B nq
            clear HCS g0 f0 g1 f1
            go_wp2_with fail
            go_roundw
            case rel => exact ⟨k + 1, by omega, by push_cast; rfl, by rw [hstep.out.1, hstep.out.2, HT.out, HXY.out], B2⟩
            case measure => simp [intOf]; omega
          · have hb : (xs == ys) = false := by simp [hxy]
            rw [hb] at cS
            have HCS : Hid _ := cS
            have hqf : q = false := by rw [HQ.out]; exact decide_eq_false (fun e => hxy (Prod.mk.inj (hmem.out e)).2)
            clear cS hb hxy
            go_wp2_with fail
            go_quiet ((go_at_call 21; exact Calls.quiet_of_same (HCS.out _)))
            have B2 := below_drewN B nq
            clear HCS g0 f0 g1 f1
            go_wp2_with fail
            go_ret
            exact ⟨by rw [hqf]; rfl, B2⟩
        · have hbf : (bx == bY) = false := by simp [hbb]
          have hbn : (bx != bY) = true := by simp [hbb]
          have hqf : q = false := by rw [HQ.out]; exact decide_eq_false (fun e => hbb (Prod.mk.inj (hmem.out e)).1)
          clear r1 r2
          go_wp2_with fail
          go_quiet (fail)
          have B2 := below_drewN B nq
          clear g0 f0 g1 f1
          go_wp2_with fail
          go_ret
          exact ⟨by rw [hqf]; rfl, B2⟩
      · have hke : k = n := by omega
        have hqt : q = true := by
          rw [HQ.out]
          refine decide_eq_true ?_
          have := HT.out
          rwa [List.take_of_length_le (by rw [HL.out]; omega), List.take_of_length_le (by rw [HM.out]; omega)] at this
        go_wp2_with fail
        go_ret
        exact ⟨by rw [hqt]; rfl, B⟩
  · rw [decide_eq_false (fun e => hnn (by rw [← hl, ← hm, e]))]
    have hnb : ((n : Int) == (n' : Int)) = false := by simp; omega
    clear hl hm
    go_enter Tryz.func37, Tryz.ntmps37
    go_wp2_with fail
    go_ret
    exact ⟨rfl, Below.refl _ _⟩

set_option maxRecDepth 100000 in
theorem sameGroup_at (e s e' s' : Int) (a a' : Option Addr) (n c n' c' : Nat) (ls ms : List (Int × List UInt8)) (w : World) (hl : ls.length = n) (hm : ms.length = n') (hn : n ≤ 1000000000) (hL : Imgs w a ls) (hM : Imgs w a' ms) :
    Calls Tryz.prog 20 #[.agg #[.int .i64 e, .int .i64 s, .slice a n c], .agg #[.int .i64 e', .int .i64 s', .slice a' n' c']] w fun r w' => r = .returned (.bool (decide (e = e' ∧ s = s' ∧ ls = ms))) ∧ Below w.heap.size w w' := by
  have x1 := (Box.new w #[.int .i64 e, .int .i64 s, .slice a n c] 40).alloc (.cells #[.int .i64 e', .int .i64 s', .slice a' n' c'] 40)
  have B1 := (Below.refl w.heap.size w).alloc (Nat.le_refl _) (.cells #[.int .i64 e, .int .i64 s, .slice a n c] 40)
  have B2 := B1.alloc B1.size (.cells #[.int .i64 e', .int .i64 s', .slice a' n' c'] 40)
  have cc := sameImages_at a a' n c n' c' ls ms _ hl hm hn (hL.below B2) (hM.below B2)
  clear hl hm hL hM
  by_cases he : e = e'
  · subst he
    by_cases hs : s = s'
    · subst hs
      have eq : decide (e = e ∧ s = s ∧ ls = ms) = decide (ls = ms) := decide_eq_decide.2 ⟨fun h => h.2.2, fun h => ⟨rfl, rfl, h⟩⟩
      rw [eq]
      clear eq
      obtain ⟨q, hq⟩ : ∃ q, q = decide (ls = ms) := ⟨_, rfl⟩
      rw [← hq] at cc ⊢
      clear hq
      go_enter Tryz.func20, Tryz.ntmps20
      go_wp2_with fail
      refine cc.mono ?_
      rintro r w1 ⟨rfl, b⟩
      have B3 := B2.trans (b.mono B2.size)
      go_wp2_with fail
      go_ret
      exact ⟨rfl, B3⟩
    · rw [decide_eq_false (fun h => hs h.2.1)]
      have hsb : (s == s') = false := by simp [hs]
      go_enter Tryz.func20, Tryz.ntmps20
      go_wp2_with fail
      go_ret
      exact ⟨rfl, B2⟩
  · rw [decide_eq_false (fun h => he h.1)]
    have heb : (e == e') = false := by simp [he]
    go_enter Tryz.func20, Tryz.ntmps20
    go_wp2_with fail
    go_ret
    exact ⟨rfl, B2⟩
end Go.Proofs.YtkhejjddmbegaaaGreat.Rc

/-
  What the laws' own helpers make: filled, one, CopyLists.
-/
namespace Go.Proofs.YtkhejjddmbegaaaGreat.Rc
open Go.RowKit

/-- the first k bytes are c, the others noughts -/
def fillK (c : UInt8) (k : Nat) : List UInt8 := (List.range 4096).map fun i => if i < k then c else 0
def fill (c : UInt8) : List UInt8 := fillK c 4096
theorem fillK_length (c : UInt8) (k : Nat) : (fillK c k).length = 4096 := by simp [fillK]
theorem fill_length (c : UInt8) : (fill c).length = 4096 := fillK_length c 4096
theorem fillK_get (c : UInt8) (k i : Nat) : (fillK c k)[i]? = if i < 4096 then some (if i < k then c else 0) else none := by
  unfold fillK
  rw [List.getElem?_map]
  by_cases h : i < 4096
  · rw [List.getElem?_range h, if_pos h]; rfl
  · rw [List.getElem?_eq_none (by simp; omega), if_neg h]; rfl
theorem fillK_zero (c : UInt8) : fillK c 0 = List.replicate 4096 0 := by
  apply List.ext_getElem?
  intro i
  rw [fillK_get, List.getElem?_replicate]
  simp
theorem fillK_set (c : UInt8) (k : Nat) (h : k < 4096) : (fillK c k).set k c = fillK c (k + 1) := by
  apply List.ext_getElem?
  intro i
  rw [List.getElem?_set, fillK_get, fillK_get, fillK_length]
  by_cases e : k = i
  · subst e
    rw [if_pos rfl, if_pos h, if_pos h, if_pos (by omega)]
  · rw [if_neg e]
    by_cases h1 : i < k
    · rw [if_pos h1, if_pos (show i < k + 1 by omega)]
    · rw [if_neg h1, if_neg (show ¬ i < k + 1 by omega)]
theorem fill_get (c : UInt8) (i : Nat) (h : i < 4096) : (fill c)[i]? = some c := by
  unfold fill
  rw [fillK_get, if_pos h, if_pos h]

theorem nought_fill (c : UInt8) : nought 4096 = fillK c 0 := by rw [fillK_zero]; rfl

end Go.Proofs.YtkhejjddmbegaaaGreat.Rc

/-
  CopyLists: blocks in memory of their own.
-/
namespace Go.Proofs.YtkhejjddmbegaaaGreat.Rc
open Go.RowKit

def lstC (ps : List GG) : List Value := ps.map fun p => .slice (some ⟨p.h, 0, none⟩) 4096 p.c

end Go.Proofs.YtkhejjddmbegaaaGreat.Rc

/-
  What Put leaves, as lists.
-/
namespace Go.Proofs.YtkhejjddmbegaaaGreat.Rc
open Go.RowKit

theorem cap_le {c : Nat} (h : c ≤ maxLen) : c ≤ 9223372036854775807 := by unfold maxLen at h; omega
theorem lst_row {w : World} {g o h c : Nat} {bl : List UInt8} (hc : w.cell? ⟨g, o, none⟩ = some (.slice (some ⟨h, 0, none⟩) 4096 c)) (hr : RowB w h c bl) (hl : bl.length = 4096) : LstAt w g o bl := by
  have q2 := hr
  obtain ⟨cur, hb, k1, k2, k3⟩ := q2
  exact ⟨some ⟨h, 0, none⟩, c, by rw [hl]; exact hc, k1, cap_le k2, fun h => (by cases h), hr.rd⟩
theorem rowC_at (ps : List PP) (i : Nat) (h : i < ps.length) : (rowC ps)[i]? = some (.slice (some ⟨(ps[i]).h, 0, none⟩) 4096 (ps[i]).c) := by simp [rowC, h]
theorem esOf_entL (M : List UInt8) (ps : List PP) : esOf M ps = entL M (ps.map fun p => (p.b, p.xs)) := by simp [esOf, entL]

theorem put_lsts {w' : World} {B gl cl h0 n e s : Nat} {ps : List PP} {is : List (Int × List UInt8)} (hn : is.length = n) (hok : okGroup e s is)
    (ho : w'.ownsRow B 41 1 (.slice (some ⟨gl, 0, none⟩) (n + 1) cl) (n + 1) (.slice (some ⟨h0, 0, none⟩) 4096 4096 :: rowC ps)) (hr : RowB w' h0 4096 (headB e s (esOf (mark e s) ps)))
    (hj : PutJ (mark e s) B w' ps) (hm : ps.map (fun p => (p.b, p.xs)) = is) : Lsts w' (some ⟨gl, 0, none⟩) (putL e s is) := fun _ => by
  have hlen : ps.length = n := by rw [← hn, ← hm]; simp
  rw [esOf_entL, hm] at hr
  refine ⟨gl, 0, rfl, fun j hjl => ?_⟩
  have hjn : j < n + 1 := by simpa [putL, hn] using hjl
  have cell : w'.cell? ⟨gl, 0 + j, none⟩ = (.slice (some ⟨h0, 0, none⟩) 4096 4096 :: rowC ps)[j]? := by
    rcases ho.2 with ⟨h1, _⟩ | ⟨g, cap, cur, h1, _, hg2, hnc, hcm, hcs, ht⟩
    · cases h1
    · injection h1 with h1
      injection h1 with h1
      injection h1 with h1
      subst h1
      have hB : Box w' gl cur 41 := hg2
      rw [Nat.zero_add, hB.cell j, ← ht, List.getElem?_take, if_pos (by omega)]
      simp
  cases j with
  | zero =>
    have e0 : (putL e s is)[0] = headB e s (entL (mark e s) is) := rfl
    have hl : (headB e s (entL (mark e s) is)).length = 4096 := headB_length (bodyB_length _ (entL_len hok) (by rw [entL_length]; exact (is_length hok).2))
    rw [e0]
    refine ⟨some ⟨h0, 0, none⟩, 4096, ?_, Nat.le_of_eq hl, by decide, fun h => (by cases h), hr.rd⟩
    rw [hl, cell]
    rfl
  | succ i =>
    have hi : i < ps.length := by omega
    have hii : i < is.length := by omega
    have e1 : (putL e s is)[i + 1] = stB (mark e s) (is[i]).2 := by simp [putL]
    have e2 : (is[i]).2 = (ps[i]).xs := by subst hm; simp
    obtain ⟨q1, _⟩ := hj.rows ps[i] (List.getElem_mem hi)
    have hd4 : (is[i]).2.length = 4096 := hok.2 (is[i]) (List.getElem_mem hii)
    have hl := stB_length (mark e s) (is[i]).2 hd4 (mark_length e s)
    rw [← e2] at q1
    have c2 : w'.cell? ⟨gl, 0 + (i + 1), none⟩ = some (.slice (some ⟨(ps[i]).h, 0, none⟩) 4096 (ps[i]).c) := by
      rw [cell, List.getElem?_cons_succ]
      exact rowC_at ps i hi
    have fin := lst_row c2 q1 hl
    rw [← e1] at fin
    exact fin
theorem putL_len {e s : Nat} {is : List (Int × List UInt8)} (hok : okGroup e s is) (x : List UInt8) (hx : x ∈ putL e s is) : x.length = 4096 := by
  have h1 := headB_length (e := e) (s := s) (bodyB_length (entL (mark e s) is) (entL_len hok) (by rw [entL_length]; exact (is_length hok).2))
  unfold putL at hx
  generalize headB e s (entL (mark e s) is) = hd at h1 hx
  rcases List.mem_cons.1 hx with q | q
  · rw [q]
    exact h1
  · obtain ⟨i, hi, q2⟩ := List.mem_map.1 q
    have h2 := stB_length (mark e s) i.2 (hok.2 i hi) (mark_length e s)
    rw [q2] at h2
    exact h2
end Go.Proofs.YtkhejjddmbegaaaGreat.Rc

/-
  A byte of one of many blocks is written.
-/
namespace Go.Proofs.YtkhejjddmbegaaaGreat.Rc
open Go.RowKit

/-- block i with byte j anew -/
def byteP (ps : List GG) (i j : Nat) (v : UInt8) : List GG := ps.modify i fun p => { p with xs := p.xs.set j v }
theorem byteP_h (ps : List GG) (i j : Nat) (v : UInt8) : (byteP ps i j v).map GG.h = ps.map GG.h := by
  unfold byteP
  refine List.ext_getElem? (fun k => ?_)
  simp only [List.getElem?_map, List.getElem?_modify]
  cases ps[k]? with
  | none => simp
  | some p => by_cases e : i = k <;> simp [e]
theorem byteP_c (ps : List GG) (i j : Nat) (v : UInt8) : lstC (byteP ps i j v) = lstC ps := by
  unfold byteP lstC
  refine List.ext_getElem? (fun k => ?_)
  simp only [List.getElem?_map, List.getElem?_modify]
  cases ps[k]? with
  | none => simp
  | some p => by_cases e : i = k <;> simp [e]
theorem byteP_x (ps : List GG) (i j : Nat) (v : UInt8) : (byteP ps i j v).map GG.xs = (ps.map GG.xs).modify i fun x => x.set j v := by
  unfold byteP
  refine List.ext_getElem? (fun k => ?_)
  simp only [List.getElem?_map, List.getElem?_modify]
  cases ps[k]? with
  | none => simp
  | some p => by_cases e : i = k <;> simp [e]
theorem RowB.byte {w : World} {g c : Nat} {ys : List UInt8} (h : RowB w g c ys) (j : Nat) (_hj : j < ys.length) (v : UInt8) : RowB (w.setCell ⟨g, j, none⟩ (.int .u8 (v.toNat : Int))) g c (ys.set j v) := by
  obtain ⟨cur, hb, h1, h2, h3, h4⟩ := h
  refine ⟨_, hb.store j _, by simpa using h1, h2, by simpa using h3, ?_⟩
  have e : bcs (ys.set j v) = (bcs ys).set j (.int .u8 (v.toNat : Int)) := by
    unfold bcs
    rw [List.map_set]
    rfl
  rw [Array.toList_setIfInBounds, List.length_set, e, ← h4, List.take_set]
theorem GetJ.byte {B : Nat} {W : World} {ps : List GG} (h : GetJ B W ps) (i : Nat) (hi : i < ps.length) (j : Nat) (hj : j < 4096) (v : UInt8) : GetJ B (W.setCell ⟨(ps[i]).h, j, none⟩ (.int .u8 (v.toNat : Int))) (byteP ps i j v) := by
  have hnd := h.apart
  refine ⟨fun p hp => ?_, by rw [byteP_h]; exact hnd⟩
  obtain ⟨k, hk, rfl⟩ := List.getElem_of_mem hp
  have hk' : k < ps.length := by simpa [byteP] using hk
  obtain ⟨a1, a2, a3⟩ := h.rows ps[k] (List.getElem_mem hk')
  by_cases e : i = k
  · subst e
    have : (byteP ps i j v)[i] = { ps[i] with xs := (ps[i]).xs.set j v } := by simp [byteP]
    rw [this]
    exact ⟨a1.byte j (by omega) v, a2, by simpa using a3⟩
  · have : (byteP ps i j v)[k] = ps[k] := by simp [byteP, e]
    rw [this]
    refine ⟨a1.same (heap_setCell_other W ⟨(ps[i]).h, j, none⟩ (ps[k]).h _ (fun q => ?_)), a2, a3⟩
    have h1 : (ps.map GG.h)[k]'(by simpa using hk') = (ps.map GG.h)[i]'(by simpa using hi) := by simpa using q
    exact e ((List.getElem_inj hnd).1 h1).symm
end Go.Proofs.YtkhejjddmbegaaaGreat.Rc

/-
  Put and Get in one form each: what comes back, as lists in memory.
-/
namespace Go.Proofs.YtkhejjddmbegaaaGreat.Rc
open Go.RowKit

theorem owns_cells {w : World} {B e size n m : Nat} {a : Option Addr} {c : Nat} {xs : List Value} (ho : w.ownsRow B e size (.slice a n c) m xs) (h0 : 0 < m) :
    ∃ g, a = some ⟨g, 0, none⟩ ∧ B ≤ g ∧ (∃ cur, Box w g cur e) ∧ ∀ j, j < m * size → w.cell? ⟨g, j, none⟩ = xs[j]? := by
  rcases ho.2 with ⟨h1, h2⟩ | ⟨g, cap, cur, h1, hBg, hg2, hnc, hcm, hcs, ht⟩
  · omega
  · injection h1 with h1
    subst h1
    have hB : Box w g cur e := hg2
    refine ⟨g, rfl, hBg, ⟨cur, hB⟩, fun j hj => ?_⟩
    rw [hB.cell j, ← ht, List.getElem?_take, if_pos hj]
    simp
theorem imgs_of {w : World} {B m : Nat} {a : Option Addr} {n c : Nat} {qs : List GG} (ho : w.ownsRow B 108 2 (.slice a n c) m (imgC qs)) (hj : GetJ B w qs) (hm : qs.length = m) : Imgs w a (qs.map fun p => (p.b, p.xs)) := fun h0 => by
  have hq : 0 < qs.length := by simpa using h0
  obtain ⟨g, rfl, _, _, hc⟩ := owns_cells ho (by omega)
  refine ⟨g, 0, rfl, fun j hjl => ?_⟩
  have hjq : j < qs.length := by simpa using hjl
  obtain ⟨q1, _, q3⟩ := hj.rows qs[j] (List.getElem_mem hjq)
  obtain ⟨k0, k1⟩ := imgC_at qs j hjq
  have q4 := q1
  obtain ⟨cur, hb, p1, p2, _⟩ := q4
  rw [List.getElem_map]
  refine ⟨?_, some ⟨(qs[j]).h, 0, none⟩, (qs[j]).c, ?_, p1, cap_le p2, fun h => (by cases h), q1.rd⟩
  · show w.cell? ⟨g, 0 + j * 2, none⟩ = _
    rw [Nat.zero_add, hc _ (by omega), k0]
  · show w.cell? ⟨g, 0 + j * 2 + 1, none⟩ = some (.slice (some ⟨(qs[j]).h, 0, none⟩) (qs[j]).xs.length (qs[j]).c)
    rw [Nat.zero_add, hc _ (by omega), k1, q3]
theorem lsts_of {w : World} {B m : Nat} {a : Option Addr} {n c : Nat} {qs : List GG} (ho : w.ownsRow B 41 1 (.slice a n c) m (lstC qs)) (hj : GetJ B w qs) (hm : qs.length = m) : Lsts w a (qs.map GG.xs) := fun h0 => by
  have hq : 0 < qs.length := by simpa using h0
  obtain ⟨g, rfl, _, _, hc⟩ := owns_cells ho (by omega)
  refine ⟨g, 0, rfl, fun j hjl => ?_⟩
  have hjq : j < qs.length := by simpa using hjl
  obtain ⟨q1, _, q3⟩ := hj.rows qs[j] (List.getElem_mem hjq)
  rw [List.getElem_map]
  refine lst_row ?_ q1 q3
  rw [Nat.zero_add, hc j (by omega)]
  simp [lstC, hjq]

/-- what Put leaves -/
def PutR (w : World) (e s : Int) (is : List (Int × List UInt8)) (n : Nat) (r : Ending) (w' : World) : Prop :=
  (∃ (E S : Nat), e = (E : Int) ∧ s = (S : Int) ∧ okGroup E S is ∧ ∃ gl cl, r = .returned (.tuple #[.slice (some ⟨gl, 0, none⟩) (n + 1) cl, .int .i64 0]) ∧ Lsts w' (some ⟨gl, 0, none⟩) (putL E S is) ∧ Below w.heap.size w w') ∨
  (¬ okGroup e s is ∧ r = .returned (.tuple #[.slice none 0 0, .int .i64 80]) ∧ Below w.heap.size w w')
theorem putG_any (e s : Int) (a : Option Addr) (n cap : Nat) (is : List (Int × List UInt8)) (w : World) (hl : is.length = n) (hn : n * 32 ≤ 140737488355328) (hI : Imgs w a is) :
    Calls Tryz.prog 55 #[.agg #[.int .i64 e, .int .i64 s, .slice a n cap]] w (PutR w e s is n) := by
  by_cases hok : okGroup e s is
  · have hst := (okStamp_iff _ _).1 hok.1.1
    obtain ⟨E, rfl⟩ : ∃ E : Nat, e = (E : Int) := ⟨e.toNat, by omega⟩
    obtain ⟨S, rfl⟩ : ∃ S : Nat, s = (S : Int) := ⟨s.toNat, by omega⟩
    have hlen := is_length hok
    refine (put_in E S a n cap is w hl hI hok (by omega) (by omega)).mono ?_
    rintro r w' ⟨gl, cl, h0, ps, rfl, hgl, ho, hr, _, _, hj, hm, b⟩
    subst hl
    exact .inl ⟨E, S, rfl, rfl, hok, gl, cl, rfl, put_lsts rfl hok ho hr hj hm, b⟩
  · refine (put_no e s a n cap is w hl hn hI hok).mono ?_
    rintro r w' ⟨rfl, b⟩
    exact .inr ⟨hok, rfl, b⟩
theorem putL_length (e s : Nat) (is : List (Int × List UInt8)) : (putL e s is).length = is.length + 1 := by simp [putL]
/-- what was put is got -/
theorem get_put (E S : Nat) (is : List (Int × List UInt8)) (a : Option Addr) (m n cap : Nat) (w : World) (hok : okGroup E S is) (hm : is.length = m) (hn : n = m + 1) (hL : Lsts w a (putL E S is)) :
    Calls Tryz.prog 73 #[.slice a n cap] w fun r w' => ∃ a9 c9, r = .returned (.tuple #[.agg #[.int .i64 (E : Int), .int .i64 (S : Int), .slice a9 m c9], .int .i64 0]) ∧ Imgs w' a9 is ∧ Below w.heap.size w w' := by
  subst hm hn
  have hlen := is_length hok
  refine (get_in a (is.length + 1) cap (putL E S is) w (putL_length _ _ _) (by omega) (by omega) hL).mono ?_
  intro r w' hG
  obtain ⟨q1, q2, q3⟩ := put_said hok
  have e0 : (putL E S is)[0]?.getD [] = headB E S (entL (mark E S) is) := rfl
  rcases hG with ⟨_, a9, c, ps, h1, h2, h3, h4, h5⟩ | ⟨h1, _⟩
  · rw [e0, q1, q2, q3, entL_length] at h1
    rw [e0, q3, entL_length] at h2 h4
    rw [put_imgs hok] at h4
    refine ⟨a9, c, h1, ?_, h5⟩
    have := imgs_of h2 h3 (by rw [← h4]; simp)
    rwa [h4] at this
  · exact absurd (put_grp hok) h1
theorem get_no (a : Option Addr) (n cap : Nat) (ls : List (List UInt8)) (w : World) (hl : ls.length = n) (h0 : 0 < n) (hn : n ≤ 1000000000) (hL : Lsts w a ls) (hno : ¬ isGrp ls) :
    Calls Tryz.prog 73 #[.slice a n cap] w fun r w' => r = .returned (.tuple #[.agg #[.int .i64 0, .int .i64 0, .slice none 0 0], .int .i64 80]) ∧ Below w.heap.size w w' := by
  refine (get_in a n cap ls w hl h0 hn hL).mono ?_
  rintro r w' (⟨h1, _⟩ | ⟨_, h2, h3⟩)
  · exact absurd h1 hno
  · exact ⟨h2, h3⟩
/-- a row of slices stays when a byte is written -/
theorem owns_byte {w : World} {B n g j : Nat} {v : Value} {cs : List Value} {c : Nat} {ys : List UInt8} (ho : w.ownsRow B 41 1 v n cs) (hr : RowB w g c ys) (u : Value) : (w.setCell ⟨g, j, none⟩ u).ownsRow B 41 1 v n cs := by
  refine owns_grown ho (grown_store w g j u) (fun k hk e => ?_)
  injection e with e
  subst e
  obtain ⟨_, cur, hb⟩ := owns_block ho _ hk
  obtain ⟨cur2, hb2, _⟩ := hr
  exact Box.ne hb2 hb (by decide) rfl
theorem RowB.cellAt {w : World} {g c j : Nat} {ys : List UInt8} (h : RowB w g c ys) (hj : j < ys.length) : w.cell? ⟨g, j, none⟩ = some (.int .u8 (ys[j].toNat : Int)) ∧ w.frozen? ⟨g, j, none⟩ = false := by
  obtain ⟨g', o, e, hc⟩ := h.rd (by omega)
  simp at e
  obtain ⟨rfl, rfl⟩ := e
  have := hc j hj
  rw [Nat.zero_add] at this
  obtain ⟨cur, hb, _⟩ := h
  exact ⟨this, hb.frozen j⟩
end Go.Proofs.YtkhejjddmbegaaaGreat.Rc

/-
  What is asked ahead of an Append: the group is put, and its blocks must fit.
-/
namespace Go.Proofs.YtkhejjddmbegaaaGreat.J
open Go.RowKit
open Go.Proofs.YtkhejjddmbegaaaGreat.Dk (Box)

/-- blocks in a list, all of it made behind B -/
def New (B : Nat) (w : World) (gl : Nat) (bs : List (List UInt8)) : Prop :=
  B ≤ gl ∧ gl < w.heap.size ∧ ∀ k (h : k < bs.length), ∃ q c, w.cell? ⟨gl, k, none⟩ = some (.slice (some ⟨q, 0, none⟩) 4096 c) ∧ (bs[k]).length = 4096 ∧ Dk.Rd w (some ⟨q, 0, none⟩) bs[k] ∧ B ≤ q ∧ q < w.heap.size

theorem New.kept {B gl : Nat} {w w' : World} {bs : List (List UInt8)} (h : New B w gl bs) (hs : w.heap.size ≤ w'.heap.size) (hk : ∀ k, B ≤ k → k < w.heap.size → w'.heap[k]? = w.heap[k]?) : New B w' gl bs := by
  obtain ⟨h1, h2, h3⟩ := h
  refine ⟨h1, by omega, fun k hkl => ?_⟩
  obtain ⟨q, c, a1, a2, a3, a4, a5⟩ := h3 k hkl
  refine ⟨q, c, (World.cell?_of_block (hk gl h1 h2)).trans a1, a2, fun hp => ?_, a4, by omega⟩
  obtain ⟨b, o, e, hc⟩ := a3 hp
  refine ⟨b, o, e, fun j hj => ?_⟩
  simp at e
  obtain ⟨rfl, rfl⟩ := e
  exact (World.cell?_of_block (a := ⟨q, 0 + j, none⟩) (hk q a4 a5)).trans (hc j hj)

theorem put_new (e s : Int) (a : Option Addr) (n cap : Nat) (is : List (Int × List UInt8)) (w : World) (hl : is.length = n) (hI : Rc.Imgs w a is) (hok : Rc.okGroup e s is) :
    Calls Tryz.prog 55 #[.agg #[.int .i64 e, .int .i64 s, .slice a n cap]] w fun r w' => ∃ gl cl, r = .returned (.tuple #[.slice (some ⟨gl, 0, none⟩) (n + 1) cl, .int .i64 0]) ∧ New w.heap.size w' gl (Rc.putL e.toNat s.toNat is) ∧ Below w.heap.size w w' := by
  have hst := (Rc.okStamp_iff _ _).1 hok.1.1
  obtain ⟨E, rfl⟩ : ∃ E : Nat, e = (E : Int) := ⟨e.toNat, by omega⟩
  obtain ⟨S, rfl⟩ : ∃ S : Nat, s = (S : Int) := ⟨s.toNat, by omega⟩
  have hlen := Rc.is_length hok
  refine (Rc.put_in E S a n cap is w hl hI hok (by omega) (by omega)).mono ?_
  rintro r w' ⟨gl, cl, h0, ps, rfl, hgl, ho, hr, _, hB0, hj, hm, b⟩
  have hplen : ps.length = n := by rw [← hl, ← hm]; simp
  rw [Rc.esOf_entL, hm] at hr
  refine ⟨gl, cl, rfl, ⟨hgl, ?_, fun j hjl => ?_⟩, b⟩
  · rcases ho.2 with ⟨h1, _⟩ | ⟨g, cap, cur, h1, _, hg2, hnc, hcm, hcs, ht⟩
    · cases h1
    · injection h1 with h1
      injection h1 with h1
      injection h1 with h1
      subst h1
      exact (Array.getElem?_eq_some_iff.1 hg2).1
  have hjn : j < n + 1 := by simpa [Rc.putL, hl] using hjl
  have cell : w'.cell? ⟨gl, j, none⟩ = (.slice (some ⟨h0, 0, none⟩) 4096 4096 :: Rc.rowC ps)[j]? := by
    rcases ho.2 with ⟨h1, _⟩ | ⟨g, cap, cur, h1, _, hg2, hnc, hcm, hcs, ht⟩
    · cases h1
    · injection h1 with h1
      injection h1 with h1
      injection h1 with h1
      subst h1
      have hB : Box w' gl cur 41 := hg2
      rw [hB.cell j, ← ht, List.getElem?_take, if_pos (by omega)]
      simp
  cases j with
  | zero =>
    have e0 : (Rc.putL (E : Int).toNat (S : Int).toNat is)[0] = Rc.headB E S (Rc.entL (Rc.mark E S) is) := rfl
    have h4 : (Rc.headB E S (Rc.entL (Rc.mark E S) is)).length = 4096 := Rc.headB_length (Rc.bodyB_length _ (Rc.entL_len hok) (by rw [Rc.entL_length]; exact (Rc.is_length hok).2))
    rw [e0]
    exact ⟨h0, 4096, by rw [cell]; rfl, h4, hr.rd, hB0, hr.lt⟩
  | succ i =>
    have hi : i < ps.length := by omega
    have hii : i < is.length := by omega
    have e1 : (Rc.putL (E : Int).toNat (S : Int).toNat is)[i + 1] = Rc.stB (Rc.mark E S) (is[i]).2 := by simp [Rc.putL]
    have e2 : (is[i]).2 = (ps[i]).xs := by subst hm; simp
    obtain ⟨q1, _, q3, _⟩ := hj.rows ps[i] (List.getElem_mem hi)
    have hd4 : (is[i]).2.length = 4096 := hok.2 (is[i]) (List.getElem_mem hii)
    have h4 := Rc.stB_length (Rc.mark E S) (is[i]).2 hd4 (Rc.mark_length E S)
    rw [← e2] at q1
    rw [e1]
    exact ⟨(ps[i]).h, (ps[i]).c, by rw [cell, List.getElem?_cons_succ]; exact Rc.rowC_at ps i hi, h4, q1.rd, q3, q1.lt⟩

theorem upd_store {w W : World} {c : Nat} (b : Below w.heap.size w W) (v : Value) : Dk.Upd (· = c) w (W.setCell ⟨c, 0, none⟩ v) := by
  have g := Rc.grown_store W c 0 v
  have hz := b.size
  exact ⟨g.os.trans b.os, g.tape.trans b.tape, g.output.trans b.output, Nat.le_trans hz g.size, fun k hk hn => (g.block k (by omega) (fun e => hn (by injection e))).trans (b.block k hk)⟩

/-- n blocks and a head were put, and are told in the box c -/
def Puts (w w' : World) (c n : Nat) (bs : List (List UInt8)) : Prop := Dk.Upd (· = c) w w' ∧ ∃ gl cl, Box w' c #[.slice (some ⟨gl, 0, none⟩) (n + 1) cl] 52 ∧ New w.heap.size w' gl bs

theorem append1_no {w : World} {g dg a b c n cap : Nat} {al : Option Addr} {vs : Value} {J : JS} (h : Box w g (jC g dg vs J) 105) (ha : Box w a #[.pointer (some ⟨g, 0, none⟩)] 72) (hb : Box w b #[.slice al n cap] 38) (hc : Box w c #[.slice none 0 0] 52)
    (is : List (Int × List UInt8)) (hl : is.length = n) (hn : n * 32 ≤ 140737488355328) (hI : Rc.Imgs w al is) (hno : ¬ Rc.okGroup J.epoch J.next is) :
    Calls Tryz.prog 54 #[.pointer (some ⟨a, 0, none⟩), .pointer (some ⟨b, 0, none⟩), .pointer (some ⟨c, 0, none⟩)] w fun r w' => r = .returned (.int .i64 80) ∧ Dk.Upd (· = c) w w' := by
  obtain ⟨_, _, _, c3, c4, _, _, _, _, _, _, _⟩ := box_cells h
  have ca := ha.cell 0
  have cb := hb.cell 0
  have cc := hc.cell 0
  have fc := hc.frozen 0
  simp at ca cb cc
  have l1 := h.lt
  have l2 := ha.lt
  have l3 := hb.lt
  have l4 := hc.lt
  have n1 : a ≠ c := ha.ne hc (by decide)
  have n2 : b ≠ c := hb.ne hc (by decide)
  have n3 : g ≠ c := h.ne hc (by decide)
  have hp := fun u (bu : Below w.heap.size w u) => Rc.put_no J.epoch J.next al n cap is u hl hn (hI.below bu) hno
  have HS : Hid (∀ u, Below w.heap.size w u → u.cell? ⟨a, 0, none⟩ = some (.pointer (some ⟨g, 0, none⟩)) ∧ u.cell? ⟨b, 0, none⟩ = some (.slice al n cap) ∧ u.cell? ⟨g, 3, none⟩ = some (.int .i64 J.epoch) ∧ u.cell? ⟨g, 4, none⟩ = some (.int .i64 J.next)) := fun u bu =>
    ⟨(bu.cell (p := ⟨a, 0, none⟩) l2).trans ca, (bu.cell (p := ⟨b, 0, none⟩) l3).trans cb, (bu.cell (p := ⟨g, 3, none⟩) l1).trans c3, (bu.cell (p := ⟨g, 4, none⟩) l1).trans c4⟩
  have HC : Hid (∀ u, Below w.heap.size w u → u.cell? ⟨c, 0, none⟩ = some (.slice none 0 0) ∧ u.frozen? ⟨c, 0, none⟩ = false) := fun u bu =>
    ⟨(bu.cell (p := ⟨c, 0, none⟩) l4).trans cc, (World.frozen?_of_block (a := ⟨c, 0, none⟩) (bu.block c l4)).trans fc⟩
  have HT : Hid (∀ u v, Below w.heap.size w u → (u.setCell ⟨c, 0, none⟩ v).cell? ⟨a, 0, none⟩ = some (.pointer (some ⟨g, 0, none⟩)) ∧ (u.setCell ⟨c, 0, none⟩ v).cell? ⟨b, 0, none⟩ = some (.slice al n cap) ∧ (u.setCell ⟨c, 0, none⟩ v).cell? ⟨g, 3, none⟩ = some (.int .i64 J.epoch) ∧ (u.setCell ⟨c, 0, none⟩ v).cell? ⟨g, 4, none⟩ = some (.int .i64 J.next)) := fun u v bu => by
    have hz := bu.size
    obtain ⟨s1, s2, s3, s4⟩ := HS.out u bu
    have hk := fun k (hk : k < w.heap.size) (hne : k ≠ c) => (Rc.grown_store u c 0 v).block k (by omega) (fun e => hne (by injection e))
    exact ⟨(World.cell?_of_block (hk a l2 n1)).trans s1, (World.cell?_of_block (hk b l3 n2)).trans s2, (World.cell?_of_block (hk g l1 n3)).trans s3, (World.cell?_of_block (hk g l1 n3)).trans s4⟩
  clear h ha hb hc hI
  go_enter Tryz.func54, Tryz.ntmps54
  go_wp2_with fail
  go_region_held3 (fun u => u.cell? ⟨a, 0, none⟩ = some (.pointer (some ⟨g, 0, none⟩)) ∧ u.cell? ⟨b, 0, none⟩ = some (.slice al n cap) ∧ u.cell? ⟨g, 3, none⟩ = some (.int .i64 J.epoch) ∧ u.cell? ⟨g, 4, none⟩ = some (.int .i64 J.next))
    (first | with_reducible exact HS.out _ hb1 | with_reducible exact HT.out _ _ hb1 | go_keep)
    (first
      | (go_at_call 55; refine Calls.mono (hp _ ((Below.refl w.heap.size w).drew)) ?_; rintro r W ⟨rfl, hw1⟩; have hb1 : Below w.heap.size w W := (Below.refl w.heap.size w).drew.trans hw1; obtain ⟨cc1, fc1⟩ := HC.out W hb1))
  go_wp2_with fail
  go_ret
  exact ⟨rfl, upd_store hb1 _⟩

theorem append1_ok {w : World} {g dg a b c n cap : Nat} {al : Option Addr} {vs : Value} {J : JS} (h : Box w g (jC g dg vs J) 105) (ha : Box w a #[.pointer (some ⟨g, 0, none⟩)] 72) (hb : Box w b #[.slice al n cap] 38) (hc : Box w c #[.slice none 0 0] 52)
    (is : List (Int × List UInt8)) (hl : is.length = n) (hI : Rc.Imgs w al is) (hok : Rc.okGroup J.epoch J.next is) :
    Calls Tryz.prog 54 #[.pointer (some ⟨a, 0, none⟩), .pointer (some ⟨b, 0, none⟩), .pointer (some ⟨c, 0, none⟩)] w fun r w' => r = .returned (.int .i64 (if J.S < (n + 1 : Nat) then 232 else 0)) ∧ Puts w w' c n (Rc.putL J.epoch.toNat J.next.toNat is) := by
  obtain ⟨_, _, _, c3, c4, _, _, _, _, _, _, _⟩ := box_cells h
  have ca := ha.cell 0
  have cb := hb.cell 0
  have cc := hc.cell 0
  have fc := hc.frozen 0
  simp at ca cb cc
  have l1 := h.lt
  have l2 := ha.lt
  have l3 := hb.lt
  have l4 := hc.lt
  have n1 : a ≠ c := ha.ne hc (by decide)
  have n2 : b ≠ c := hb.ne hc (by decide)
  have n3 : g ≠ c := h.ne hc (by decide)
  have hp := fun u (bu : Below w.heap.size w u) => put_new J.epoch J.next al n cap is u hl (hI.below bu) hok
  have HS : Hid (∀ u, Below w.heap.size w u → u.cell? ⟨a, 0, none⟩ = some (.pointer (some ⟨g, 0, none⟩)) ∧ u.cell? ⟨b, 0, none⟩ = some (.slice al n cap) ∧ u.cell? ⟨g, 3, none⟩ = some (.int .i64 J.epoch) ∧ u.cell? ⟨g, 4, none⟩ = some (.int .i64 J.next)) := fun u bu =>
    ⟨(bu.cell (p := ⟨a, 0, none⟩) l2).trans ca, (bu.cell (p := ⟨b, 0, none⟩) l3).trans cb, (bu.cell (p := ⟨g, 3, none⟩) l1).trans c3, (bu.cell (p := ⟨g, 4, none⟩) l1).trans c4⟩
  have HC : Hid (∀ u, Below w.heap.size w u → u.cell? ⟨c, 0, none⟩ = some (.slice none 0 0) ∧ u.frozen? ⟨c, 0, none⟩ = false) := fun u bu =>
    ⟨(bu.cell (p := ⟨c, 0, none⟩) l4).trans cc, (World.frozen?_of_block (a := ⟨c, 0, none⟩) (bu.block c l4)).trans fc⟩
  have HT : Hid (∀ u v, Below w.heap.size w u → (u.setCell ⟨c, 0, none⟩ v).cell? ⟨a, 0, none⟩ = some (.pointer (some ⟨g, 0, none⟩)) ∧ (u.setCell ⟨c, 0, none⟩ v).cell? ⟨b, 0, none⟩ = some (.slice al n cap) ∧ (u.setCell ⟨c, 0, none⟩ v).cell? ⟨g, 3, none⟩ = some (.int .i64 J.epoch) ∧ (u.setCell ⟨c, 0, none⟩ v).cell? ⟨g, 4, none⟩ = some (.int .i64 J.next)) := fun u v bu => by
    have hz := bu.size
    obtain ⟨s1, s2, s3, s4⟩ := HS.out u bu
    have hk := fun k (hk : k < w.heap.size) (hne : k ≠ c) => (Rc.grown_store u c 0 v).block k (by omega) (fun e => hne (by injection e))
    exact ⟨(World.cell?_of_block (hk a l2 n1)).trans s1, (World.cell?_of_block (hk b l3 n2)).trans s2, (World.cell?_of_block (hk g l1 n3)).trans s3, (World.cell?_of_block (hk g l1 n3)).trans s4⟩
  have H0 : Hid (Box w g (jC g dg vs J) 105) := h
  have HB : Hid (Box w c #[.slice none 0 0] 52) := hc
  have HL : Hid (n < 32 + 1) := by have := hok.1.2.1; simp at this; show n < 32 + 1; omega
  clear h ha hb hc hI hok hl
  go_enter Tryz.func54, Tryz.ntmps54
  go_wp2_with fail
  go_region_held3 (fun u => u.cell? ⟨a, 0, none⟩ = some (.pointer (some ⟨g, 0, none⟩)) ∧ u.cell? ⟨b, 0, none⟩ = some (.slice al n cap) ∧ u.cell? ⟨g, 3, none⟩ = some (.int .i64 J.epoch) ∧ u.cell? ⟨g, 4, none⟩ = some (.int .i64 J.next))
    (first | with_reducible exact HS.out _ hb1 | with_reducible exact HT.out _ _ hb1 | go_keep)
    (first
      | (go_at_call 55; refine Calls.mono (hp _ ((Below.refl w.heap.size w).drew)) ?_; rintro r W ⟨gl, cl, rfl, hN, hw1⟩; have hb1 : Below w.heap.size w W := (Below.refl w.heap.size w).drew.trans hw1; obtain ⟨cc1, fc1⟩ := HC.out W hb1))
  have hu := upd_store (c := c) hb1 (.slice (some ⟨gl, 0, none⟩) (n + 1) cl)
  have hbc : Box (W.setCell ⟨c, 0, none⟩ (.slice (some ⟨gl, 0, none⟩) (n + 1) cl)) c #[.slice (some ⟨gl, 0, none⟩) (n + 1) cl] 52 := Box.store (cs := #[.slice none 0 0]) ((hb1.block c l4).trans HB.out) 0 _
  have hN2 : New w.heap.size (W.setCell ⟨c, 0, none⟩ (.slice (some ⟨gl, 0, none⟩) (n + 1) cl)) gl (Rc.putL J.epoch.toNat J.next.toNat is) :=
    New.kept hN (Rc.grown_store W c 0 _).size (fun k h1 h2 => (Rc.grown_store W c 0 _).block k h2 (fun e => by injection e with e; have : w.drew.heap.size = w.heap.size := rfl; omega))
  have cS := fits_at ((hu.block g l1 n3).trans H0.out) ((n + 1 : Nat) : Int)
  obtain ⟨x1, _, _, _⟩ := HT.out W (.slice (some ⟨gl, 0, none⟩) (n + 1) cl) hb1
  have x2 := hbc.cell 0
  simp at x2
  have HL2 := HL.out
  clear hN cc1 fc1 hw1
  generalize W.setCell ⟨c, 0, none⟩ (.slice (some ⟨gl, 0, none⟩) (n + 1) cl) = W' at *
  go_wp2_with fail
  refine cS.mono ?_
  rintro r w1 ⟨rfl, rfl⟩
  go_wp2_with fail
  all_goals (go_ret; exact ⟨rfl, hu, gl, cl, hbc, hN2⟩)
end Go.Proofs.YtkhejjddmbegaaaGreat.J
