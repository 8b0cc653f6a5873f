/-
  Stamped.
-/
import Derived.Test.YtghcmlkgpedkkaaSect
import Derived.Test.YtghcmlkgpedkkaaLittle
namespace Go.Proofs.Ytghcmlkgpedkkaa
open Go.RowKit Go.Shelf
attribute [local go_sem] Oper.semAt_some

/-! ### what abides the book-keeping of a range over a function -/
theorem Box.kept {A B : World} {row : Option Nat} {g : Nat} {cs : Array Value} {t : TypeId} (h : Box A g cs t) (hg : A.grownBy B row) (hr : ∀ r, row = some r → ∃ o : Obj, A.heap[r]? = some o ∧ o.isCells = false) : Box B g cs t := (grownBy_keeps_cells hg hr h rfl).trans h
theorem RowB.kept {A B : World} {row : Option Nat} {g cap : Nat} {ys : List UInt8} (h : RowB A g cap ys) (hg : A.grownBy B row) (hr : ∀ r, row = some r → ∃ o : Obj, A.heap[r]? = some o ∧ o.isCells = false) : RowB B g cap ys := by
  obtain ⟨cur, h, r⟩ := h
  exact ⟨cur, h.kept hg hr, r⟩
theorem owns_kept {A B : World} {row : Option Nat} {base e size : Nat} {v : Value} {n : Nat} {xs : List Value} (h : A.ownsRow base e size v n xs) (hg : A.grownBy B row) (hr : ∀ r, row = some r → ∃ o : Obj, A.heap[r]? = some o ∧ o.isCells = false) : B.ownsRow base e size v n xs := by
  refine ⟨h.1, ?_⟩
  rcases h.2 with h | ⟨g, cap, cur, e1, e2, e3, e4⟩
  · exact .inl h
  · exact .inr ⟨g, cap, cur, e1, e2, (grownBy_keeps_cells hg hr e3 rfl).trans e3, e4⟩
theorem keeps_grown {A B : World} {g : Nat} {cs : Array Value} {t : TypeId} (h : Box A g cs t) (hg : A.grownBy B (some g)) : KeepsOthers A B :=
  ⟨hg.size, fun k o hk ho => (hg.block k (Array.getElem?_eq_some_iff.1 hk).1 (fun e => by
    cases e
    rw [show A.heap[g]? = _ from h] at hk
    cases hk
    cases ho)).trans hk⟩

theorem sec_part {w : World} {g o : Nat} {xs : List UInt8} (h : Rd w (some ⟨g, o, none⟩) xs) (x : Fin 8) : Rd w (some ⟨g, o + x.val * 512, none⟩) (sec xs x.val) := h.part (x.val * 512) 512

/-- does each sector begin with these bytes? -/
def allMarked (xs m : List UInt8) : Bool := (List.finRange 8).all fun x => (sec xs x.val).take 8 == m
def stampedB (xs : List UInt8) (e s : Int) : Bool := decide (xs.length = 4096) && (okStamp e s && allMarked xs (mark e.toNat s.toNat))

set_option maxRecDepth 100000 in
set_option maxHeartbeats 2000000 in
theorem stamped_in (g o cap : Nat) (xs : List UInt8) (e s : Int) (w : World) (hl : xs.length = 4096) (hcap : 4096 ≤ cap) (hmax : cap ≤ 9223372036854775807) (hr : Rd w (some ⟨g, o, none⟩) xs) (hok : okStamp e s = true) :
    Calls Try.prog 16 #[.slice (some ⟨g, o, none⟩) 4096 cap, .int .i64 e, .int .i64 s] w fun r w' => r = .returned (.bool (allMarked xs (mark e.toNat s.toNat))) ∧ Below w.heap.size w w' := by
  refine (callsIn_wide (n := 3)).1 ?_
  obtain ⟨⟨he1, he2⟩, hs1, hs2⟩ := (okStamp_iff e s).1 hok
  have c1 : ∀ u, Calls Try.prog 38 #[.int .i64 e, .int .i64 s] u fun x w' => x = .returned (.bool true) ∧ u = w' := fun u => by have := rightStamp_at e s u; rw [hok] at this; exact this
  have c2 : ∀ u, _ := fun u => stamp_at e.toNat s.toNat e s u (by omega) (by omega) (by omega) (by omega)
  have hml := mark_length e.toNat s.toNat
  generalize mark e.toNat s.toNat = M at c2 hml ⊢
  refine callsIn_of_wp_marks Try.func16 rfl trivial ?_ rfl
  simp only [Try.ntmps16, List.size_toArray, List.length_cons, List.length_nil, Nat.reduceAdd, Nat.reduceSub, Array.replicate_succ, Array.replicate_zero, List.push_toArray, List.append_toArray, List.nil_append, List.cons_append]
  gi_wp2_with fail
  refine ⟨trivial, ?_⟩
  refine ((callsIn_wide (n := 2)).2 (c1 _)).mono ?_
  rintro r w' ⟨rfl, rfl⟩
  gi_wp2_with fail
  refine ⟨trivial, ?_⟩
  refine ((callsIn_wide (n := 2)).2 (c2 _)).mono ?_
  rintro r w1 ⟨rfl, ho1, hb1⟩
  gi_wp2_with fail
  refine ⟨trivial, ?_⟩
  refine (sectors_in 2 _ _ _ _).mono ?_
  rintro r w' ⟨rfl, rfl⟩
  gi_wp2_with fail
  have s0 : (w.alloc (.cells #[.bool false] 4)).heap.size = w.heap.size + 1 := by simp
  rw [s0] at ho1 hb1
  have b0 : Box w1 w.heap.size #[.bool false] 4 := (hb1.block w.heap.size (by omega)).trans (Box.new w #[.bool false] 4)
  have B1 : Below w.heap.size w w1 := ((Below.refl _ w).alloc (Nat.le_refl _) (.cells #[.bool false] 4)).trans (hb1.mono (by omega))
  have o1 := ho1.lt
  have b1 := Box.new w1 #[.slice (some ⟨w.heap.size + 1, 0, none⟩) 8 8] 31
  have b2 := Box.new (w1.alloc (.cells #[.slice (some ⟨w.heap.size + 1, 0, none⟩) 8 8] 31)) #[.slice (some ⟨g, o, none⟩) 4096 cap] 31
  have s1 : (w1.alloc (.cells #[.slice (some ⟨w.heap.size + 1, 0, none⟩) 8 8] 31)).heap.size = w1.heap.size + 1 := by simp
  rw [s1] at b2
  have b0' := (b0.alloc (.cells #[.slice (some ⟨w.heap.size + 1, 0, none⟩) 8 8] 31)).alloc (.cells #[.slice (some ⟨g, o, none⟩) 4096 cap] 31)
  have b1' := b1.alloc (.cells #[.slice (some ⟨g, o, none⟩) 4096 cap] 31)
  have ow' : Own ((w1.alloc (.cells #[.slice (some ⟨w.heap.size + 1, 0, none⟩) 8 8] 31)).alloc (.cells #[.slice (some ⟨g, o, none⟩) 4096 cap] 31)) (w.heap.size + 1) M := Box.alloc (Box.alloc ho1 _) _
  have B2 := (B1.alloc B1.size (.cells #[.slice (some ⟨w.heap.size + 1, 0, none⟩) 8 8] 31)).alloc (by simp; omega) (.cells #[.slice (some ⟨g, o, none⟩) 4096 cap] 31)
  obtain ⟨W0, hW0⟩ : ∃ W, W = (w1.alloc (.cells #[.slice (some ⟨w.heap.size + 1, 0, none⟩) 8 8] 31)).alloc (.cells #[.slice (some ⟨g, o, none⟩) 4096 cap] 31) := ⟨_, rfl⟩
  have s2 : W0.heap.size = w1.heap.size + 2 := by rw [hW0]; simp
  have hs2 : w1.heap.size + 2 ≤ W0.heap.size := by omega
  have hs3 : w.heap.size < W0.heap.size := by omega
  rw [← hW0] at b0' b1' b2 ow' B2 ⊢
  clear hW0 b0 b1 s1 s0 hb1 B1
  have HML : Hid _ := hml
  have HL : Hid _ := hl
  clear hml hl
  obtain ⟨k1, hk1⟩ : ∃ k, k = w1.heap.size := ⟨_, rfl⟩
  rw [← hk1] at b1' b2 s2 hs2 o1 ⊢
  clear hk1
  have S2 : Hid _ := s2
  clear s2
  refine wpIn_rangeFunc_ownH (α := Fin 8) rfl (by omega) (gf := 56) (lb := #[.pointer (some ⟨k1 + 1, 0, none⟩)]) rfl trivial (enters_of Try.func56 (by kernel_rfl) rfl)
    (sect_stops (3 - 1) (by omega) (k1 + 1) g o cap hcap hmax W0 (by omega) (b2.cell 0)) cellK_t (cellK_b (by omega)) (Below.refl _ _) (fun _ => rfl)
    (fun pre W => ((∀ p ∈ pre, (sec xs p.val).take 8 = M) ∧ Box W w.heap.size #[.bool false] 4 ∧ Box W k1 #[.slice (some ⟨w.heap.size + 1, 0, none⟩) 8 8] 31 ∧ Own W (w.heap.size + 1) M) ∧ Below w.heap.size w W)
    (fun c pre W => (c = .ret ∧ (∃ p ∈ pre, (sec xs p.val).take 8 ≠ M) ∧ Box W w.heap.size #[.bool false] 4) ∧ Below w.heap.size w W)
    (OwnFrom.and (Own.from (fun s A B row hs hg hr => ⟨hs.1, hs.2.1.kept hg hr, hs.2.2.1.kept hg hr, Box.kept hs.2.2.2 hg hr⟩) _) (ownFrom_below (Nat.le_refl _) (by omega)))
    (fun c => OwnFrom.and (Own.from (fun s A B row hs hg hr => ⟨hs.1, hs.2.1, hs.2.2.kept hg hr⟩) _) (ownFrom_below (Nat.le_refl _) (by omega)))
    ⟨⟨by simp, b0', b1', ow'⟩, B2⟩
    (fun x a' _ => a' = { tmps := #[.slice (some ⟨g, o, none⟩) 4096 cap, .int .i64 e, .int .i64 s, undef, undef, undef, .pointer (some ⟨w.heap.size, 0, none⟩), .pointer (some ⟨k1, 0, none⟩), .slice (some ⟨g, o + x.val * 512, none⟩) 512 512,
          .slice (some ⟨g, o, none⟩) 4096 cap, .int .i64 4096, .bool false, .bool false, .int .i64 e, .int .i64 s, .bool true, .bool false, .bool false, .int .i64 e, .int .i64 s,
          .slice (some ⟨w.heap.size + 1, 0, none⟩) 8 8, .slice (some ⟨g, o, none⟩) 4096 cap, .func (.func 56) #[] #[.pointer (some ⟨k1 + 1, 0, none⟩)], .slice (some ⟨g, o + x.val * 512, none⟩) 512 512, undef, undef, undef, undef], defers := [] })
    (fun x a' => ownFrom_pure _ _) ?assign ?body ?done ?stop
  case assign =>
    rintro l pre x W K hI hK
    dsimp only [encS]
    gi_wp2
    exact hK _ _ (KeepsFrom.refl _ _) rfl hI rfl
  case body =>
    rintro l pre x a' W hlw ⟨r, hr1⟩ ⟨⟨hp, q0, q1, qo⟩, hB⟩ rfl hlt
    have d1 := q1.cell 0
    have hsx := sec_part (hr.below hB (Nat.le_refl _)) x
    have c3 := prefix_at 512 8 g (o + x.val * 512) (some ⟨w.heap.size + 1, 0, none⟩) (sec xs x.val) M W (sec_length xs x.val HL.out x.isLt) HML.out (Nat.le_refl _) hsx qo.rd
    by_cases hx : (sec xs x.val).take 8 = M
    · have hq : ((sec xs x.val).take 8 == M) = true := by simpa using hx
      rw [hq] at c3
      gi_wp2_with fail
      refine ⟨trivial, ?_⟩
      refine (CallsIn.inRound l ((callsIn_wide (n := 0)).2 c3)).mono ?_
      rintro e' w' ⟨rfl, rfl⟩
      gi_wp2
      exact ⟨KeepsFrom.refl _ _, rfl, ⟨fun p hp' => (List.mem_append.1 hp').elim (hp p) (fun e => by simp at e; subst e; exact hx), q0, q1, qo⟩, hB⟩
    · have hq : ((sec xs x.val).take 8 == M) = false := by simpa using hx
      rw [hq] at c3
      have f0 := q0.frozen 0
      have d0 := q0.cell 0
      gi_wp2_with fail
      refine ⟨trivial, ?_⟩
      refine (CallsIn.inRound l ((callsIn_wide (n := 0)).2 c3)).mono ?_
      rintro e' w' ⟨rfl, rfl⟩
      gi_wp2
      exact ⟨(KeepsOthers.setCell _ _ _).from _, ⟨rfl, ⟨x, by simp, hx⟩, q0.store 0 _⟩, hB.setCell (p := ⟨w.heap.size, 0, none⟩) (by simp) _⟩
  case done =>
    rintro D' ys W hD rfl ⟨⟨hp, q0, q1, qo⟩, hB⟩ hK
    have hall : allMarked xs M = true := by
      unfold allMarked
      rw [List.all_eq_true]
      intro x hx
      simpa using hp x hx
    have f0 := q0.frozen 0
    have d0 := q0.cell 0
    have q2 := q0.store 0 (.bool true)
    have B3 := hB.setCell (p := ⟨w.heap.size, 0, none⟩) (by simp) (.bool true)
    have hK' : (W.setCell ⟨w.heap.size, 0, none⟩ (.bool true)).heap[D']? = some (.deferred (some [])) := (KeepsOthers.setCell W ⟨w.heap.size, 0, none⟩ (.bool true)).same D' _ hK rfl
    gi_wp2
    have q3 := (Box.kept q2 (grownBy_putObj' _ D' (.deferred none)) (fun r e => by cases e; exact ⟨_, hK', rfl⟩)).cell 0
    refine ⟨by simp, .inl ⟨_, _, rfl, run_takeDeferred hK', ?_⟩⟩
    refine ⟨.bool true, ?_, by rw [hall], B3.trans (belowK_b (w := w) (Nat.le_refl _) _ D' _ _ (by omega) hK' rfl rfl)⟩
    simp [results, Try.f16, go_sem, q3]
  case stop =>
    rintro D' c pre W hD ⟨k, hk, rfl⟩ ⟨⟨rfl, ⟨x, hx, hne⟩, q0⟩, hB⟩ hK
    have hall : allMarked xs M = false := by
      unfold allMarked
      rw [List.all_eq_false]
      exact ⟨x, List.mem_of_mem_take hx, by simpa using hne⟩
    gi_wp2
    have q3 := (Box.kept q0 (grownBy_putObj' _ D' (.deferred none)) (fun r e => by cases e; exact ⟨_, hK, rfl⟩)).cell 0
    refine ⟨by simp, .inl ⟨_, _, rfl, run_takeDeferred hK, ?_⟩⟩
    refine ⟨.bool false, ?_, by rw [hall], hB.trans (belowK_b (w := w) (Nat.le_refl _) _ D' _ _ (by omega) hK rfl rfl)⟩
    simp [results, Try.f16, go_sem, q3]

/-- Stamped, of any bytes -/
theorem stamped_at (a : Option Addr) (n cap : Nat) (xs : List UInt8) (e s : Int) (w : World) (hl : xs.length = n) (hcap : n ≤ cap) (hmax : cap ≤ 9223372036854775807) (hr : Rd w a xs) :
    Calls Try.prog 16 #[.slice a n cap, .int .i64 e, .int .i64 s] w fun r w' => r = .returned (.bool (stampedB xs e s)) ∧ Below w.heap.size w w' := by
  by_cases h : n = 4096
  · subst h
    obtain ⟨g, o, rfl, _⟩ := hr (by omega)
    cases hok : okStamp e s with
    | true =>
      refine (stamped_in g o cap xs e s w hl hcap hmax hr hok).mono ?_
      rintro r w' ⟨rfl, hb⟩
      exact ⟨by simp [stampedB, hl, hok], hb⟩
    | false =>
      have c1 : ∀ u, Calls Try.prog 38 #[.int .i64 e, .int .i64 s] u fun x w' => x = .returned (.bool false) ∧ u = w' := fun u => by have := rightStamp_at e s u; rw [hok] at this; exact this
      have hf : Hid (stampedB xs e s = false) := by show _ = _; simp [stampedB, hok]
      generalize stampedB xs e s = q at hf ⊢
      have b0 := Box.new w #[.bool false] 4
      have f0 := b0.frozen 0
      have d0 := b0.cell 0
      have B0 := (Below.refl _ w).alloc (Nat.le_refl _) (.cells #[.bool false] 4)
      go_enter Try.func16, Try.ntmps16
      go_wp2_with fail
      refine (c1 _).mono ?_
      rintro r w' ⟨rfl, rfl⟩
      go_wp2
      refine bodyPost_ret (v := .bool false) (by simp [results, Try.results16, go_sem]) rfl ?_
      exact ⟨by rw [hf.out], B0⟩
  · have hf : Hid (stampedB xs e s = false) := by show _ = _; simp [stampedB, hl, h]
    generalize stampedB xs e s = q at hf ⊢
    have hne : ((n : Int) != 4096) = true := by simp; omega
    have b0 := Box.new w #[.bool false] 4
    have f0 := b0.frozen 0
    have d0 := b0.cell 0
    have B0 := (Below.refl _ w).alloc (Nat.le_refl _) (.cells #[.bool false] 4)
    go_enter Try.func16, Try.ntmps16
    go_wp2
    refine bodyPost_ret (v := .bool false) (by simp [results, Try.results16, go_sem]) rfl ?_
    exact ⟨by rw [hf.out], B0⟩
end Go.Proofs.Ytghcmlkgpedkkaa
