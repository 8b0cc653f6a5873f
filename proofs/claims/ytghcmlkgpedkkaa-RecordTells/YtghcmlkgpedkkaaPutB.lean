/-
  Put.
-/
import Derived.Test.YtghcmlkgpedkkaaPutHb
import Derived.Test.YtghcmlkgpedkkaaHide
import Derived.Test.YtghcmlkgpedkkaaRightG
namespace Go.Proofs.Ytghcmlkgpedkkaa
open Go.RowKit

theorem info31 : (Try.prog.info? 31).map (fun i => (i.zero, i.size, i.bytes)) = some (some (.slice none 0 0), 1, 24) := by kernel_rfl

/-- what was made of an image: its block (h, c), what is hidden (q, d) -/
structure PP where
  b : Int
  xs : List UInt8
  h : Nat
  c : Nat
  q : Nat
  d : Nat
def stB (M xs : List UInt8) : List UInt8 := (hideTo xs M (List.finRange 8)).1
def hdB (M xs : List UInt8) : List UInt8 := (hideTo xs M (List.finRange 8)).2
def rowC (ps : List PP) : List Value := ps.map fun p => .slice (some ⟨p.h, 0, none⟩) 4096 p.c
def entC (ps : List PP) : List Value := ps.flatMap fun p => [.int .i64 p.b, .slice (some ⟨p.q, 0, none⟩) 64 p.d]
theorem entC_length (ps : List PP) : (entC ps).length = ps.length * 2 := by
  induction ps with
  | nil => rfl
  | cons p ps ih => simp only [entC, List.flatMap_cons, List.length_append, List.length_cons, List.length_nil] at ih ⊢; omega
theorem entC_at (ps : List PP) (i : Nat) (h : i < ps.length) : (entC ps)[i * 2]? = some (.int .i64 ps[i].b) ∧ (entC ps)[i * 2 + 1]? = some (.slice (some ⟨ps[i].q, 0, none⟩) 64 ps[i].d) := by
  induction ps generalizing i with
  | nil => simp at h
  | cons p ps ih =>
    cases i with
    | zero => exact ⟨rfl, rfl⟩
    | succ i =>
      obtain ⟨u, v⟩ := ih i (by simpa using h)
      have e1 : (i + 1) * 2 = i * 2 + 1 + 1 := by omega
      simp only [entC, List.flatMap_cons, e1, List.cons_append, List.nil_append, List.getElem?_cons_succ, List.getElem_cons_succ]
      exact ⟨u, v⟩

/-- their entries -/
def esOf (M : List UInt8) (ps : List PP) : List (Nat × List UInt8) := ps.map fun p => (p.b.toNat, hdB M p.xs)

/-- all of them in memory -/
structure PutJ (M : List UInt8) (B : Nat) (W : World) (ps : List PP) : Prop where
  rows : ∀ p ∈ ps, RowB W p.h p.c (stB M p.xs) ∧ RowB W p.q p.d (hdB M p.xs) ∧ B ≤ p.h ∧ B ≤ p.q
  apart : (ps.map PP.h).Nodup
theorem PutJ.mono {M : List UInt8} {B : Nat} {W W' : World} {ps : List PP} (h : PutJ M B W ps) (hk : ∀ g cur, Box W g cur 5 → W'.heap[g]? = W.heap[g]?) : PutJ M B W' ps :=
  ⟨fun p hp => by
    obtain ⟨a1, a2, a3⟩ := h.rows p hp
    refine ⟨a1.same ?_, a2.same ?_, a3⟩
    · obtain ⟨cur, q, _⟩ := a1; exact hk _ _ q
    · obtain ⟨cur, q, _⟩ := a2; exact hk _ _ q, h.apart⟩
theorem PutJ.below {M : List UInt8} {B : Nat} {W W' : World} {ps : List PP} (h : PutJ M B W ps) (hb : Below W.heap.size W W') : PutJ M B W' ps := h.mono fun g _ q => hb.block g q.lt
theorem PutJ.grown {M : List UInt8} {B base e size n : Nat} {W W' : World} {ps : List PP} {v : Value} {xs : List Value} (h : PutJ M B W ps) (ho : W.ownsRow base e size v n xs) (he : (5 : TypeId) ≠ e) (hg : W.grownBy W' v.ownBlock) : PutJ M B W' ps := h.mono fun g cur q => hg.block g q.lt (fun eq => by
  obtain ⟨_, c2, q2⟩ := owns_block ho g eq.symm
  exact q.ne q2 he rfl)
theorem PutJ.store {M : List UInt8} {B b j : Nat} {W : World} {ps : List PP} {cs : Array Value} {t : TypeId} (h : PutJ M B W ps) (hb : Box W b cs t) (ht : (5 : TypeId) ≠ t) (u : Value) : PutJ M B (W.setCell ⟨b, j, none⟩ u) ps := h.mono fun g _ q => heap_setCell_other W ⟨b, j, none⟩ g u (q.ne hb ht)
theorem PutJ.snoc {M : List UInt8} {B : Nat} {W W' : World} {ps : List PP} (h : PutJ M B W ps) (hb : Below W.heap.size W W') (p : PP) (h1 : RowB W' p.h p.c (stB M p.xs)) (h2 : RowB W' p.q p.d (hdB M p.xs)) (h3 : W.heap.size ≤ p.h) (h4 : W.heap.size ≤ p.q) (hB : B ≤ W.heap.size) : PutJ M B W' (ps ++ [p]) :=
  ⟨fun x hx => by
    rcases List.mem_append.1 hx with hx | hx
    · exact (h.below hb).rows x hx
    · simp at hx
      subst hx
      exact ⟨h1, h2, by omega, by omega⟩, by
    rw [List.map_append, List.nodup_append]
    refine ⟨h.apart, by simp, fun x hx y hy => ?_⟩
    obtain ⟨z, hz, rfl⟩ := List.mem_map.1 hx
    simp at hy
    subst hy
    have := (h.rows z hz).1.lt
    omega⟩

set_option maxRecDepth 100000 in
set_option maxHeartbeats 4000000 in
theorem put_in (e s : Nat) (a : Option Addr) (n cap : Nat) (is : List (Int × List UInt8)) (w : World) (hl : is.length = n) (hI : Imgs w a is) (hok : okGroup e s is) (h1 : 1 ≤ n) (h2 : n ≤ 32) :
    Calls Try.prog 7 #[.agg #[.int .i64 (e : Int), .int .i64 (s : Int), .slice a n cap]] w fun r w' => ∃ gl cl h0 ps, r = .returned (.tuple #[.slice (some ⟨gl, 0, none⟩) (n + 1) cl, .int .i64 0]) ∧ w.heap.size ≤ gl ∧ w'.ownsRow w.heap.size 31 1 (.slice (some ⟨gl, 0, none⟩) (n + 1) cl) (n + 1) (.slice (some ⟨h0, 0, none⟩) 4096 4096 :: rowC ps) ∧
      RowB w' h0 4096 (headB e s (esOf (mark e s) ps)) ∧ h0 ∉ ps.map PP.h ∧ w.heap.size ≤ h0 ∧ PutJ (mark e s) w.heap.size w' ps ∧ ps.map (fun p => (p.b, p.xs)) = is ∧ Below w.heap.size w w' := by
  obtain ⟨i0, hi, hz0, hz1, hz2⟩ := info_parts info62
  obtain ⟨j0, ji, jz0, jz1, jz2⟩ := info_parts info31
  have B0 := (Below.refl w.heap.size w).alloc (Nat.le_refl _) (.cells #[.int .i64 (e : Int), .int .i64 (s : Int), .slice a n cap] 28)
  have c1 := rightGroup_at e s a n cap is _ hl (by omega) (hI.below B0)
  have HOK : Hid _ := hok
  have HL : Hid _ := hl
  have hbn : blocksN (n : Int) = (n : Int) + 1 := by unfold blocksN; rw [if_pos (by omega)]
  clear hok hl
  go_enter Try.func7, Try.ntmps7
  go_wp2_with fail
  refine c1.mono ?_
  rintro r w1 ⟨q, rfl, hq, hb1⟩
  have eq1 : q = true := hq.2 HOK.out
  clear hq c1
  subst eq1
  have bG : Box w1 w.heap.size #[.int .i64 (e : Int), .int .i64 (s : Int), .slice a n cap] 28 := (Box.new w _ 28).below hb1
  have B1 := B0.trans (hb1.mono B0.size)
  have g0 := bG.cell 0
  have g1 := bG.cell 1
  have g2 := bG.cell 2
  clear B0 hb1
  have bH := Box.new w1 #[.int .i64 (e : Int), .int .i64 (s : Int), .slice none 0 0] 57
  have bG2 := bG.alloc (.cells #[.int .i64 (e : Int), .int .i64 (s : Int), .slice none 0 0] 57)
  have B2 := B1.alloc B1.size (.cells #[.int .i64 (e : Int), .int .i64 (s : Int), .slice none 0 0] 57)
  have g22 : (w1.alloc (.cells #[.int .i64 (e : Int), .int .i64 (s : Int), .slice none 0 0] 57)).cell? ⟨w.heap.size, 2, none⟩ = some (.slice a n cap) := bG2.cell 2
  obtain ⟨u0, hu0⟩ : ∃ u, u = w1.alloc (.cells #[.int .i64 (e : Int), .int .i64 (s : Int), .slice none 0 0] 57) := ⟨_, rfl⟩
  have HU0 : Hid _ := hu0
  rw [← hu0] at bH bG2 B2
  obtain ⟨bh, hbh⟩ : ∃ b, b = w1.heap.size := ⟨_, rfl⟩
  have hbh1 : w.heap.size < bh := by rw [hbh]; exact bG.lt
  have HBH : Hid _ := hbh
  rw [← hbh] at bH
  clear hu0 hbh bG B1
  go_wp2_with fail
  rw [← HU0.out, ← HBH.out]
  clear g0 g1 g2 g22
  refine (blocks_at (n : Int) _).mono ?_
  rintro r w' ⟨rfl, rfl⟩
  rw [hbn]
  obtain ⟨u1, hm, ow1, hg1⟩ : ∃ u', (Instr.makeSlice 22 (.int .i64 1) (.int .i64 ((n : Int) + 1))).run Try.prog u0 = .ok (.slice (some ⟨u0.heap.size, 0, none⟩) 1 (n + 1)) u' ∧ u'.ownsRow u0.heap.size 31 1 (.slice (some ⟨u0.heap.size, 0, none⟩) 1 (n + 1)) 1 [.slice none 0 0] ∧ u0.grownBy u' none := by
    have h := run_make (P := Try.prog) u0 22 31 j0 (.slice none 0 0) Try.underlying22 ji jz0 .i64 .i64 1 ((n : Int) + 1) (by omega) (by omega) (by rw [jz2]; omega) (by omega)
    have e1 : ((n : Int) + 1).toNat = n + 1 := by omega
    rw [e1, jz1] at h
    refine ⟨_, h, ⟨rfl, .inr ⟨u0.heap.size, n + 1, _, rfl, Nat.le_refl _, heap_alloc_new u0 _, by omega, by unfold maxLen; omega, ?_, ?_⟩⟩, World.grownBy_alloc u0 _ none⟩
    · simp [madeCells, Value.cells]
    · apply List.ext_getElem
      · simp [madeCells, Value.cells]
      · intro i h1 h2
        simp [madeCells, Value.cells, Nat.mod_one]
  have bH1 : Box u1 bh _ 57 := bH.grown hg1 (by simp)
  have bG1 : Box u1 w.heap.size _ 28 := bG2.grown hg1 (by simp)
  have B3 := B2.grown hg1 B2.size (fun k e => by cases e)
  have x2 := bG1.cell 2
  have su : w.heap.size ≤ u0.heap.size := B2.size
  clear bH bG2 B2 hg1
  obtain ⟨M, hM⟩ : ∃ M, M = mark e s := ⟨_, rfl⟩
  have HM : Hid _ := hM
  have hML : M.length = 8 := by rw [hM]; exact mark_length _ _
  clear hM
  go_wp2_with fail
  go_loopw [5, 26] (fun v i wr => ∃ (k : Nat) (ps : List PP), k ≤ n ∧ i = .int .i64 k ∧ ps.map (fun p => (p.b, p.xs)) = is.take k ∧ wr.ownsRow w.heap.size 31 1 v (k + 1) (.slice none 0 0 :: rowC ps) ∧ (∃ ve, Box wr bh #[.int .i64 (e : Int), .int .i64 (s : Int), ve] 57 ∧ wr.ownsRow w.heap.size 62 2 ve k (entC ps)) ∧ PutJ M w.heap.size wr ps ∧ Box wr w.heap.size #[.int .i64 (e : Int), .int .i64 (s : Int), .slice a n cap] 28 ∧ Below w.heap.size w wr) (fun _ i _ => n - (intOf i).toNat)
  case atStart => exact ⟨0, [], Nat.zero_le _, rfl, rfl, owns_base ow1 su, ⟨_, bH1, World.ownsRow_nil _ _ _ _⟩, ⟨fun p hp => by simp at hp, by simp⟩, bG1, B3⟩
  case round =>
    obtain ⟨k, ps, hk, rfl, hps, hown, ⟨ve, bH, hent⟩, hJ, bG, hB⟩ := hrel
    clear bH1 bG1 B3 ow1 x2 hm
    by_cases hlt : k < n
    · have hlt2 : (k : Int) < n := by omega
      have hkl : k < is.length := by rw [HL.out]; exact hlt
      obtain ⟨b, o, rfl, hc⟩ := hI (by omega)
      obtain ⟨q1, x, c, q2, q3, q4, q5, q6⟩ := (hc k hkl).below hB
      have htk := List.take_succ_eq_append_getElem hkl
      have h4 : is[k].2.length = 4096 := HOK.out.2 _ (List.getElem_mem hkl)
      generalize is[k] = I at q1 q2 q3 q6 htk h4
      obtain ⟨ib, dat⟩ := I
      dsimp only at q1 q2 q3 q6 h4
      rw [h4] at q2 q3
      obtain ⟨gx, ox, rfl, _⟩ := q6 (by omega)
      have HT : Hid _ := htk
      have HPS : Hid _ := hps
      clear htk hc q5 hps
      have al := (Below.refl wr.heap.size wr).alloc (Nat.le_refl _) (.cells #[.int .i64 ib, .slice (some ⟨gx, ox, none⟩) 4096 c] 38)
      have bx := Box.new wr #[.int .i64 ib, .slice (some ⟨gx, ox, none⟩) 4096 c] 38
      have bH1 := bH.below al
      have bG1 := bG.below al
      have own1 := owns_below hown al
      have ent1 := owns_below hent al
      have J1 := hJ.below al
      have B1 := hB.trans (al.mono hB.size)
      have rd1 := q6.below al (Nat.le_refl _)
      obtain ⟨av, cv, rfl⟩ := owns_shape hown
      obtain ⟨ae, ce, rfl⟩ := owns_shape hent
      have zz : wr.heap.size + 1 = (wr.alloc (.cells #[.int .i64 ib, .slice (some ⟨gx, ox, none⟩) 4096 c] 38)).heap.size := by simp
      obtain ⟨V, hV⟩ : ∃ V, V = wr.alloc (.cells #[.int .i64 ib, .slice (some ⟨gx, ox, none⟩) 4096 c] 38) := ⟨_, rfl⟩
      have hsz : wr.heap.size < V.heap.size := by rw [hV]; omega
      have HV : Hid _ := hV
      rw [← hV] at bx bH1 bG1 own1 ent1 J1 B1 rd1
      clear hV al bH bG hown hent hJ hB zz
      obtain ⟨bi, hbi⟩ : ∃ b, b = wr.heap.size := ⟨_, rfl⟩
      have HBI : Hid _ := hbi
      rw [← hbi] at bx hsz
      clear hbi
      have hE : True ∧ e ≤ 8388608 ∧ s ≤ 549755813888 := by
        have := (okStamp_iff _ _).1 HOK.out.1.1
        exact ⟨trivial, by omega, by omega⟩
      go_wp2_with fail
      rw [← HV.out, ← HBI.out]
      refine wp_mono (Q := (fun x A W => x = .normal ∧ ∃ g4 h ch q dq, A = { tmps := #[.agg #[.int .i64 (e : Int), .int .i64 (s : Int), .slice (some ⟨b, o, none⟩) n cap], .pointer (some ⟨w.heap.size, 0, none⟩), .slice none 0 0, .int .i64 0, .pointer (some ⟨bh, 0, none⟩), .slice av (k + 1) cv, undef, .pointer (some ⟨bi, 0, none⟩), .slice (some ⟨h, 0, none⟩) 4096 ch, .slice (some ⟨q, 0, none⟩) 64 dq, .agg #[.int .i64 (e : Int), .int .i64 (s : Int), .slice (some ⟨b, o, none⟩) n cap], .bool true, .bool false, .pointer (some ⟨w.heap.size, 0, none⟩), .int .i64 (e : Int), .pointer (some ⟨w.heap.size, 1, none⟩), .int .i64 (s : Int), .agg #[.int .i64 (e : Int), .int .i64 (s : Int), .slice none 0 0], .pointer (some ⟨w.heap.size, 2, none⟩), .slice (some ⟨b, o, none⟩) n cap, .int .i64 (n : Int), .int .i64 ((n : Int) + 1), .slice (some ⟨u0.heap.size, 0, none⟩) 1 (n + 1), .pointer (some ⟨w.heap.size, 2, none⟩), .slice (some ⟨b, o, none⟩) n cap, .int .i64 (n : Int), .int .i64 (k : Int), .bool true, .pointer (some ⟨b, o + k * 2, none⟩), .agg #[.int .i64 ib, .slice (some ⟨gx, ox, none⟩) 4096 c], .tuple #[.slice (some ⟨h, 0, none⟩) 4096 ch, .slice (some ⟨q, 0, none⟩) 64 dq], .pointer (some ⟨bi, 1, none⟩), .slice (some ⟨gx, ox, none⟩) 4096 c, .pointer (some ⟨w.heap.size, 0, none⟩), .int .i64 (e : Int), .pointer (some ⟨w.heap.size, 1, none⟩), .int .i64 (s : Int), .slice (some ⟨g4, 0, none⟩) 8 8, .tuple #[.slice (some ⟨h, 0, none⟩) 4096 ch, .slice (some ⟨q, 0, none⟩) 64 dq], .slice (some ⟨h, 0, none⟩) 4096 ch, .slice (some ⟨q, 0, none⟩) 64 dq, u41, u42, u43, u44, u45, u46, u47, u48, u49, u50, u51, u52, u53, u54, undef, undef, undef, undef, undef], defers := [] } ∧ RowB W h ch (stB M dat) ∧ RowB W q dq (hdB M dat) ∧ V.heap.size ≤ h ∧ V.heap.size ≤ q ∧ Below V.heap.size V W)) ?reg ?tail
      case reg =>
        refine wp_region_any (by kernel_rfl) ?_
        change wpAny _ _ _ _ _ _ _ (World.drew _)
        have bI : Box V.drew bi _ 38 := bx
        replace bG1 : Box V.drew w.heap.size _ 28 := bG1
        have rdV : Rd V (some ⟨gx, ox, none⟩) dat := rd1
        have BV : Below V.heap.size V V.drew := (Below.refl _ _).drew
        clear own1 ent1 J1 B1 bH1 bx q1 q2 q6
        generalize V.drew = V' at bI bG1 BV ⊢
        refine wpAny_take (i := 0) (v := ?_) rfl (by kernel_rfl) (by kernel_rfl) (by kernel_rfl) (fun _ _ _ h => nomatch h.1) (Or.inl ⟨by rfl, ?_⟩) ?_
        rotate_left
        · intro w
          go_simp
          with_reducible rfl
        refine wpAny_take (i := 2) (v := ?_) rfl (by kernel_rfl) (by kernel_rfl) (by kernel_rfl) (fun _ _ _ h => nomatch h.1) (Or.inl ⟨by rfl, ?_⟩) ?_
        rotate_left
        · intro w
          go_simp
          with_reducible rfl
        refine wpAny_take (i := 4) (v := ?_) rfl (by kernel_rfl) (by kernel_rfl) (by kernel_rfl) (fun _ _ _ h => nomatch h.1) (Or.inl ⟨by rfl, ?_⟩) ?_
        rotate_left
        · intro w
          go_simp
          with_reducible rfl
        simp only [Act.put, List.setIfInBounds_toArray, List.set_cons_zero, List.set_cons_succ, List.getElem_toArray, List.getElem_cons_zero, List.getElem_cons_succ]
        refine wpAny_of_late (C := SB [(31, .pointer (some ⟨bi, 1, none⟩)), (33, .pointer (some ⟨w.heap.size, 0, none⟩)), (35, .pointer (some ⟨w.heap.size, 1, none⟩))] [(bi, #[.int .i64 ib, .slice (some ⟨gx, ox, none⟩) 4096 c], 38), (w.heap.size, #[.int .i64 (e : Int), .int .i64 (s : Int), .slice (some ⟨b, o, none⟩) n cap], 28)]) (late := []) _ _ _ _ ?_
        refine wpAnyD_take (i := 1) (v := .slice (some ⟨gx, ox, none⟩) 4096 c) rfl (by kernel_rfl) (by kernel_rfl) (by kernel_rfl) (by kernel_rfl) (fun _ _ _ h => nomatch h.1) ?_ (fun fr u h => (SB.put 32 _ (by rfl)).1 h) (fun fr u h => (SB.put 32 _ (by rfl)).2 h) ?_ ?_
        · intro fr u hh
          obtain ⟨e1, e2⟩ := hh.load (s := 31) (b := bi) (j := 1) (cs := #[.int .i64 ib, .slice (some ⟨gx, ox, none⟩) 4096 c]) (t := 38) (v := .slice (some ⟨gx, ox, none⟩) 4096 c) (by simp) (by simp) (by rfl)
          exact ⟨rfl, by simp [execOp, e1, go_sem, e2]⟩
        · exact ⟨fun p hp => by simp at hp; rcases hp with rfl | rfl | rfl <;> rfl, fun q hq => by simp at hq; rcases hq with rfl | rfl <;> first | exact bI | exact bG1⟩
        simp only [Act.put, List.setIfInBounds_toArray, List.set_cons_zero, List.set_cons_succ, List.getElem_toArray, List.getElem_cons_zero, List.getElem_cons_succ]
        refine wpAnyD_take (i := 3) (v := .int .i64 (e : Int)) rfl (by kernel_rfl) (by kernel_rfl) (by kernel_rfl) (by kernel_rfl) (fun _ _ _ h => nomatch h.1) ?_ (fun fr u h => (SB.put 34 _ (by rfl)).1 h) (fun fr u h => (SB.put 34 _ (by rfl)).2 h) ?_ ?_
        · intro fr u hh
          obtain ⟨e1, e2⟩ := hh.load (s := 33) (b := w.heap.size) (j := 0) (cs := #[.int .i64 (e : Int), .int .i64 (s : Int), .slice (some ⟨b, o, none⟩) n cap]) (t := 28) (v := .int .i64 (e : Int)) (by simp) (by simp) (by rfl)
          exact ⟨rfl, by simp [execOp, e1, go_sem, e2]⟩
        · exact ⟨fun p hp => by simp at hp; rcases hp with rfl | rfl | rfl <;> rfl, fun q hq => by simp at hq; rcases hq with rfl | rfl <;> first | exact bI | exact bG1⟩
        simp only [Act.put, List.setIfInBounds_toArray, List.set_cons_zero, List.set_cons_succ, List.getElem_toArray, List.getElem_cons_zero, List.getElem_cons_succ]
        refine wpAnyD_take (i := 5) (v := .int .i64 (s : Int)) rfl (by kernel_rfl) (by kernel_rfl) (by kernel_rfl) (by kernel_rfl) (fun _ _ _ h => nomatch h.1) ?_ (fun fr u h => (SB.put 36 _ (by rfl)).1 h) (fun fr u h => (SB.put 36 _ (by rfl)).2 h) ?_ ?_
        · intro fr u hh
          obtain ⟨e1, e2⟩ := hh.load (s := 35) (b := w.heap.size) (j := 1) (cs := #[.int .i64 (e : Int), .int .i64 (s : Int), .slice (some ⟨b, o, none⟩) n cap]) (t := 28) (v := .int .i64 (s : Int)) (by simp) (by simp) (by rfl)
          exact ⟨rfl, by simp [execOp, e1, go_sem, e2]⟩
        · exact ⟨fun p hp => by simp at hp; rcases hp with rfl | rfl | rfl <;> rfl, fun q hq => by simp at hq; rcases hq with rfl | rfl <;> first | exact bI | exact bG1⟩
        simp only [Act.put, List.setIfInBounds_toArray, List.set_cons_zero, List.set_cons_succ, List.getElem_toArray, List.getElem_cons_zero, List.getElem_cons_succ]
        refine wpAnyD_ready (rs := [6]) (by kernel_rfl) (by simp) ?_
        refine AllD.cons rfl (fun K hK2 => ?_) ?_
        · skip
          go_simp
          refine (stamp_at e s _ _ V' rfl rfl hE.2.1 hE.2.2).mono ?_
          rintro x V2 ⟨rfl, ho, hb2⟩
          replace bI := bI.below hb2
          replace bG1 := bG1.below hb2
          have BV2 := BV.trans (hb2.mono BV.size)
          refine hK2 _ _ ⟨.inr ⟨fun p hp => by simp at hp; rcases hp with rfl | rfl | rfl <;> rfl, fun q hq => by simp at hq; rcases hq with rfl | rfl <;> first | exact bI | exact bG1⟩, ?_⟩
          clear hK2 K
          rw [← HM.out] at ho
          obtain ⟨g4, hg4⟩ : ∃ g, g = V'.heap.size := ⟨_, rfl⟩
          rw [← hg4] at ho ⊢
          clear hg4
          refine wpAnyD_ready (rs := [7]) (by kernel_rfl) (by simp) ?_
          refine AllD.cons rfl (fun K hK2 => ?_) ?_
          · skip
            go_simp
            refine (hide_in gx ox c g4 dat M V2 h4 (rdV.below BV2 (Nat.le_refl _)) hML ho.rd).mono ?_
            rintro x V3 ⟨h, ch, v9, rfl, hh, r1, r2, hb3⟩
            replace bI := bI.below hb3
            replace bG1 := bG1.below hb3
            have BV3 := BV2.trans (hb3.mono BV2.size)
            obtain ⟨q, dq, rfl, hq, r3⟩ := RowB.owns r2 (by omega)
            refine hK2 _ _ ⟨.inr ⟨fun p hp => by simp at hp; rcases hp with rfl | rfl | rfl <;> rfl, fun q hq => by simp at hq; rcases hq with rfl | rfl <;> first | exact bI | exact bG1⟩, ?_⟩
            clear hK2 K
            refine wpAnyD_ready (rs := [8]) (by kernel_rfl) (by simp) ?_
            refine AllD.cons rfl (fun K hK2 => ?_) ?_
            · skip
              go_simp
              refine hK2 _ _ ⟨.inr ⟨fun p hp => by simp at hp; rcases hp with rfl | rfl | rfl <;> rfl, fun q hq => by simp at hq; rcases hq with rfl | rfl <;> first | exact bI | exact bG1⟩, ?_⟩
              clear hK2 K
              refine wpAnyD_ready (rs := [9, 10]) (by kernel_rfl) (by simp) ?_
              refine AllD.cons rfl (fun K hK2 => ?_) ?_
              · skip
                go_simp
                refine hK2 _ _ ⟨.inr ⟨fun p hp => by simp at hp; rcases hp with rfl | rfl | rfl <;> rfl, fun q hq => by simp at hq; rcases hq with rfl | rfl <;> first | exact bI | exact bG1⟩, ?_⟩
                clear hK2 K
                refine wpAnyD_ready (rs := [10, 11]) (by kernel_rfl) (by simp) ?_
                refine AllD.cons rfl (fun K hK2 => ?_) ?_
                · skip
                  go_simp
                  refine hK2 _ _ ⟨.inr ⟨fun p hp => by simp at hp; rcases hp with rfl | rfl | rfl <;> rfl, fun q hq => by simp at hq; rcases hq with rfl | rfl <;> first | exact bI | exact bG1⟩, ?_⟩
                  clear hK2 K
                  refine wpAnyD_ready (rs := [11]) (by kernel_rfl) (by simp) ?_
                  refine AllD.cons rfl (fun K hK2 => ?_) ?_
                  · skip
                    go_simp
                    refine hK2 _ _ ⟨.inr ⟨fun p hp => by simp at hp; rcases hp with rfl | rfl | rfl <;> rfl, fun q hq => by simp at hq; rcases hq with rfl | rfl <;> first | exact bI | exact bG1⟩, ?_⟩
                    clear hK2 K
                    refine wpAnyD_ready (rs := [12]) (by kernel_rfl) (by simp) ?_
                    refine AllD.cons rfl (fun K hK2 => ?_) ?_
                    · skip
                      go_simp
                      refine hK2 _ _ ⟨.inr ⟨fun p hp => by simp at hp; rcases hp with rfl | rfl | rfl <;> rfl, fun q hq => by simp at hq; rcases hq with rfl | rfl <;> first | exact bI | exact bG1⟩, ?_⟩
                      clear hK2 K
                      refine wpAnyD_done (by kernel_rfl) ?_ _
                      exact ⟨rfl, g4, h, ch, q, dq, rfl, r1, r3, by have := BV2.size; omega, by have := BV2.size; omega, BV3⟩
                    exact AllD.nil
                  exact AllD.nil
                refine AllD.cons rfl (fun K hK2 => ?_) ?_
                · skip
                  go_simp
                  refine hK2 _ _ ⟨.inr ⟨fun p hp => by simp at hp; rcases hp with rfl | rfl | rfl <;> rfl, fun q hq => by simp at hq; rcases hq with rfl | rfl <;> first | exact bI | exact bG1⟩, ?_⟩
                  clear hK2 K
                  refine wpAnyD_ready (rs := [10]) (by kernel_rfl) (by simp) ?_
                  refine AllD.cons rfl (fun K hK2 => ?_) ?_
                  · skip
                    go_simp
                    refine hK2 _ _ ⟨.inr ⟨fun p hp => by simp at hp; rcases hp with rfl | rfl | rfl <;> rfl, fun q hq => by simp at hq; rcases hq with rfl | rfl <;> first | exact bI | exact bG1⟩, ?_⟩
                    clear hK2 K
                    refine wpAnyD_ready (rs := [12]) (by kernel_rfl) (by simp) ?_
                    refine AllD.cons rfl (fun K hK2 => ?_) ?_
                    · skip
                      go_simp
                      refine hK2 _ _ ⟨.inr ⟨fun p hp => by simp at hp; rcases hp with rfl | rfl | rfl <;> rfl, fun q hq => by simp at hq; rcases hq with rfl | rfl <;> first | exact bI | exact bG1⟩, ?_⟩
                      clear hK2 K
                      refine wpAnyD_done (by kernel_rfl) ?_ _
                      exact ⟨rfl, g4, h, ch, q, dq, rfl, r1, r3, by have := BV2.size; omega, by have := BV2.size; omega, BV3⟩
                    exact AllD.nil
                  exact AllD.nil
                exact AllD.nil
              refine AllD.cons rfl (fun K hK2 => ?_) ?_
              · skip
                go_simp
                refine hK2 _ _ ⟨.inr ⟨fun p hp => by simp at hp; rcases hp with rfl | rfl | rfl <;> rfl, fun q hq => by simp at hq; rcases hq with rfl | rfl <;> first | exact bI | exact bG1⟩, ?_⟩
                clear hK2 K
                refine wpAnyD_ready (rs := [9]) (by kernel_rfl) (by simp) ?_
                refine AllD.cons rfl (fun K hK2 => ?_) ?_
                · skip
                  go_simp
                  refine hK2 _ _ ⟨.inr ⟨fun p hp => by simp at hp; rcases hp with rfl | rfl | rfl <;> rfl, fun q hq => by simp at hq; rcases hq with rfl | rfl <;> first | exact bI | exact bG1⟩, ?_⟩
                  clear hK2 K
                  refine wpAnyD_ready (rs := [11]) (by kernel_rfl) (by simp) ?_
                  refine AllD.cons rfl (fun K hK2 => ?_) ?_
                  · skip
                    go_simp
                    refine hK2 _ _ ⟨.inr ⟨fun p hp => by simp at hp; rcases hp with rfl | rfl | rfl <;> rfl, fun q hq => by simp at hq; rcases hq with rfl | rfl <;> first | exact bI | exact bG1⟩, ?_⟩
                    clear hK2 K
                    refine wpAnyD_ready (rs := [12]) (by kernel_rfl) (by simp) ?_
                    refine AllD.cons rfl (fun K hK2 => ?_) ?_
                    · skip
                      go_simp
                      refine hK2 _ _ ⟨.inr ⟨fun p hp => by simp at hp; rcases hp with rfl | rfl | rfl <;> rfl, fun q hq => by simp at hq; rcases hq with rfl | rfl <;> first | exact bI | exact bG1⟩, ?_⟩
                      clear hK2 K
                      refine wpAnyD_done (by kernel_rfl) ?_ _
                      exact ⟨rfl, g4, h, ch, q, dq, rfl, r1, r3, by have := BV2.size; omega, by have := BV2.size; omega, BV3⟩
                    exact AllD.nil
                  exact AllD.nil
                exact AllD.nil
              exact AllD.nil
            exact AllD.nil
          exact AllD.nil
        exact AllD.nil
      case tail =>
        rintro x A W ⟨rfl, g4, h, ch, q, dq, rfl, r1, r3, hh1, hh2, hbW⟩
        have J2 := J1.snoc hbW ⟨ib, dat, h, ch, q, dq⟩ r1 r3 hh1 hh2 B1.size
        replace own1 := owns_below own1 hbW
        replace ent1 := owns_below ent1 hbW
        replace bx := bx.below hbW
        replace bH1 := bH1.below hbW
        replace bG1 := bG1.below hbW
        replace B1 := B1.trans (hbW.mono B1.size)
        clear hbW J1 r1 r3 hh1 hh2 rd1 q6 q1 q2 hsz
        have al := (Below.refl W.heap.size W).alloc (Nat.le_refl _) (.cells #[.slice (some ⟨h, 0, none⟩) 4096 ch] 31)
        have bN := Box.new W #[.slice (some ⟨h, 0, none⟩) 4096 ch] 31
        replace own1 := owns_below own1 al
        replace ent1 := owns_below ent1 al
        replace bx := bx.below al
        replace bH1 := bH1.below al
        replace bG1 := bG1.below al
        replace J2 := J2.below al
        replace B1 := B1.trans (al.mono B1.size)
        have hcN : ∀ j u, ([.slice (some ⟨h, 0, none⟩) 4096 ch] : List Value)[j]? = some u → (W.alloc (.cells #[.slice (some ⟨h, 0, none⟩) 4096 ch] 31)).cell? ((⟨W.heap.size, 0, none⟩ : Addr).add j) = some u := fun j u hj => by
          rw [Addr.add_lit, Nat.zero_add, bN.cell j]
          simpa using hj
        go_wp2_with (at_builtin; refine wpList_append_own _ rfl _ _ 22 rfl w.heap.size 31 j0 (.slice none 0 0) 1 24 Try.underlying22 ji jz0 jz1 jz2 rfl (by decide) _ (k + 1) _ rfl own1 ⟨W.heap.size, 0, none⟩ 1 1 [.slice (some ⟨h, 0, none⟩) 4096 ch] rfl rfl hcN ?c2 ?c3 ?c4 B1.size ?_)
        case c2 => intro u hu; simp at hu; subst hu; rfl
        case c3 => unfold maxLen; omega
        case c4 => omega
        intro v' w4 own4 hg4 _
        have hnx : ∀ {g : Nat} {cs : Array Value} {t : TypeId}, Box _ g cs t → (31 : TypeId) ≠ t → Box w4 g cs t := fun hb ht => hb.grown hg4 (fun e => by
          obtain ⟨_, cur, q⟩ := owns_block own1 _ e
          exact q.ne hb ht rfl)
        have bx4 := hnx bx (by decide)
        have bH4 := hnx bH1 (by decide)
        have bG4 := hnx bG1 (by decide)
        have ent4 : w4.ownsRow w.heap.size 62 2 (.slice ae k ce) k (entC ps) := owns_grown ent1 hg4 (fun g eg e => by
          obtain ⟨_, cur, q⟩ := owns_block own1 _ e
          obtain ⟨_, cur2, q2⟩ := owns_block ent1 _ eg
          exact q.ne q2 (by decide) rfl)
        have J4 := J2.grown own1 (by decide) hg4
        have B4 := B1.grown hg4 B1.size (fun j e => (owns_block own1 j e).1)
        obtain ⟨av4, cv4, rfl⟩ := owns_shape own4
        clear hnx own1 ent1 bx bH1 bG1 J2 B1 bN al hcN hg4
        have y2 := bH4.cell 2
        have y0 := bx4.cell 0
        have al := (Below.refl w4.heap.size w4).alloc (Nat.le_refl _) (.cells #[.int .i64 ib, .slice (some ⟨q, 0, none⟩) 64 dq] 62)
        have bE := Box.new w4 #[.int .i64 ib, .slice (some ⟨q, 0, none⟩) 64 dq] 62
        have ent5 := owns_below ent4 al
        have own5 := owns_below own4 al
        have bH5 := bH4.below al
        have bG5 := bG4.below al
        have J5 := J4.below al
        have B5 := B4.trans (al.mono B4.size)
        go_wp2_with (at_builtin; refine wpList_append_own _ rfl _ _ 55 rfl w.heap.size 62 i0 (.agg #[.int .i64 0, .slice none 0 0]) 2 32 Try.underlying55 hi hz0 hz1 hz2 rfl (by decide) _ k _ rfl ent5 ⟨w4.heap.size, 0, none⟩ 1 1 [.int .i64 ib, .slice (some ⟨q, 0, none⟩) 64 dq] rfl rfl (two_cells bE) ?d2 ?d3 ?d4 B5.size ?_)
        case d2 => intro u hu; simp at hu; rcases hu with rfl | rfl <;> rfl
        case d3 => unfold maxLen; omega
        case d4 => omega
        intro v6 w6 ent6 hg6 _
        have hnx : ∀ {g : Nat} {cs : Array Value} {t : TypeId}, Box _ g cs t → (62 : TypeId) ≠ t → Box w6 g cs t := fun hb ht => hb.grown hg6 (fun e => by
          obtain ⟨_, cur, q⟩ := owns_block ent5 _ e
          exact q.ne hb ht rfl)
        have bH6 := hnx bH5 (by decide)
        have bG6 := hnx bG5 (by decide)
        have own6 : w6.ownsRow w.heap.size 31 1 (.slice av4 (k + 1 + 1) cv4) (k + 1 + 1) _ := owns_grown own5 hg6 (fun g eg e => by
          obtain ⟨_, cur, q⟩ := owns_block ent5 _ e
          obtain ⟨_, cur2, q2⟩ := owns_block own5 _ eg
          exact q.ne q2 (by decide) rfl)
        have J6 := J5.grown ent5 (by decide) hg6
        have B6 := B5.grown hg6 B5.size (fun j e => (owns_block ent5 j e).1)
        obtain ⟨av6, cv6, rfl⟩ := owns_shape ent6
        have f6 := bH6.frozen 2
        have z6 := bH6.cell 2
        have bH7 := bH6.store 2 (.slice av6 (k + 1) cv6)
        have bG7 : Box (w6.setCell ⟨bh, 2, none⟩ (.slice av6 (k + 1) cv6)) w.heap.size _ 28 := (heap_setCell_other w6 ⟨bh, 2, none⟩ w.heap.size _ (by show w.heap.size ≠ bh; omega)).trans bG6
        have J7 := J6.store (j := 2) bH6 (by decide) (.slice av6 (k + 1) cv6)
        have B7 := B6.setCell (p := ⟨bh, 2, none⟩) (by show w.heap.size ≤ bh; omega) (.slice av6 (k + 1) cv6)
        have ent7 : (w6.setCell ⟨bh, 2, none⟩ (.slice av6 (k + 1) cv6)).ownsRow w.heap.size 62 2 (.slice av6 (k + 1) cv6) (k + 1) _ := owns_grown ent6 (grown_store w6 bh 2 _) (fun g eg e => by
          cases e
          obtain ⟨_, cur2, q2⟩ := owns_block ent6 _ eg
          exact q2.ne bH6 (by decide) rfl)
        have own7 : (w6.setCell ⟨bh, 2, none⟩ (.slice av6 (k + 1) cv6)).ownsRow w.heap.size 31 1 (.slice av4 (k + 1 + 1) cv4) (k + 1 + 1) _ := owns_grown own6 (grown_store w6 bh 2 _) (fun g eg e => by
          cases e
          obtain ⟨_, cur2, q2⟩ := owns_block own6 _ eg
          exact q2.ne bH6 (by decide) rfl)
        clear hnx own4 own5 own6 ent4 ent5 ent6 bx4 bH4 bH5 bG4 bG5 bG6 J4 J5 J6 B4 B5 B6 bE al hg6 y2 y0
        go_wp2
        go_roundw
        case rel =>
          refine ⟨k + 1, ps ++ [⟨ib, dat, h, ch, q, dq⟩], by omega, by go_num, ?_, ?_, ⟨_, by simpa using bH7, ?_⟩, J7, bG7, B7⟩
          · rw [HT.out, List.map_append, HPS.out]
            rfl
          · have e1 : (.slice none 0 0 :: rowC (ps ++ [⟨ib, dat, h, ch, q, dq⟩])) = .slice none 0 0 :: rowC ps ++ [.slice (some ⟨h, 0, none⟩) 4096 ch] := by simp [rowC]
            rw [e1]
            exact own7
          · have e1 : entC (ps ++ [⟨ib, dat, h, ch, q, dq⟩]) = entC ps ++ [.int .i64 ib, .slice (some ⟨q, 0, none⟩) 64 dq] := by simp [entC]
            rw [e1]
            exact ent7
        case measure => simp [intOf]; omega
    · obtain rfl : k = n := by omega
      have htk : is.take k = is := List.take_of_length_le (by rw [HL.out]; omega)
      rw [htk] at hps
      have hpl : ps.length = k := by
        have := congrArg List.length hps
        rw [List.length_map] at this
        rw [this]
        exact HL.out
      have hxs : ∀ p ∈ ps, p.xs.length = 4096 ∧ 0 ≤ p.b ∧ p.b ≤ 511 := fun p hp => by
        have h5 : (p.b, p.xs) ∈ is := by rw [← hps]; exact List.mem_map_of_mem hp
        obtain ⟨j, hj, hje⟩ := List.getElem_of_mem h5
        have h6 := HOK.out.2 _ h5
        have h7 := (HOK.out.1.2.2 j (by simpa using hj) (by simpa using hj)).1
        rw [List.getElem_map, hje] at h7
        exact ⟨h6, h7⟩
      obtain ⟨av, cv, rfl⟩ := owns_shape hown
      obtain ⟨ae, ce, rfl⟩ := owns_shape hent
      have hE : e ≤ 8388608 ∧ s ≤ 549755813888 := by
        have := (okStamp_iff _ _).1 HOK.out.1.1
        exact ⟨by omega, by omega⟩
      have hes : Ents wr ae (esOf M ps) := fun hp => by
        have hel : (esOf M ps).length = ps.length := by simp [esOf]
        rw [hel] at hp
        rcases hent.2 with ⟨hv, hn⟩ | ⟨gv, cap', cur, hv, _⟩
        · omega
        · have ha : ae = some ⟨gv, 0, none⟩ := by simpa using (Value.slice.inj hv).1
          subst ha
          refine ⟨gv, 0, rfl, fun j hj => ?_⟩
          rw [hel] at hj
          obtain ⟨e1, e2⟩ := entC_at ps j hj
          have hb : (Value.slice (some ⟨gv, 0, none⟩) k ce).ownBlock = some gv := rfl
          have k1 := hent.cells hb _ _ e1
          have k2 := hent.cells hb _ _ e2
          rw [Addr.add_lit] at k1 k2
          have hm := List.getElem_mem hj
          obtain ⟨a1, a2, a3⟩ := hJ.rows _ hm
          have hx : (esOf M ps)[j]'(by rw [hel]; exact hj) = (ps[j].b.toNat, hdB M ps[j].xs) := by simp [esOf]
          obtain ⟨x1, x2, x3⟩ := hxs _ hm
          have hlen64 : (hdB M ps[j].xs).length = 64 := by
            have := (hideTo_length ps[j].xs M x1 hML (List.finRange 8)).2
            unfold hdB
            rw [this]
            simp
          have hd : 64 ≤ ps[j].d ∧ ps[j].d ≤ 9223372036854775807 := by
            obtain ⟨cur2, _, y1, y2, _⟩ := a2
            unfold maxLen at y2
            omega
          rw [hx]
          have eb : ((ps[j].b.toNat : Nat) : Int) = ps[j].b := by omega
          exact ⟨by dsimp only; rw [eb]; exact k1, _, _, _, by rw [Nat.add_assoc]; exact k2, hd.1, hd.2, hlen64, a2.rd⟩
      have hbl : ∀ x ∈ esOf M ps, x.1 ≤ 511 := fun x hx => by
        obtain ⟨p, hp, rfl⟩ := List.mem_map.1 hx
        have := hxs p hp
        show p.b.toNat ≤ 511
        omega
      have cH := putHeading_in e s ae k ce (esOf M ps) wr hE.1 hE.2 (by simp [esOf, hpl]) (by omega) h2 hes hbl
      have HBL : Hid _ := hbl
      have HES : Hid _ := hes
      have HXS : Hid (∀ p ∈ ps, p.xs.length = 4096 ∧ 0 ≤ p.b ∧ p.b ≤ 511) := hxs
      clear hbl hes hxs
      have y0 := bH.cell 0
      have y1 := bH.cell 1
      have y2 := bH.cell 2
      go_wp2_with fail
      refine cH.mono ?_
      rintro r W ⟨h0, rfl, hh0, r0, hbW⟩
      replace hown := owns_below hown hbW
      have hap : h0 ∉ ps.map PP.h := fun hm => by
        obtain ⟨p, hp, he⟩ := List.mem_map.1 hm
        have := (hJ.rows p hp).1.lt
        omega
      replace hJ := hJ.below hbW
      have hw0 := hB.size
      replace hB := hB.trans (hbW.mono hB.size)
      have hown0 := hown
      rcases hown.2 with ⟨_, hv⟩ | ⟨gv, cap', cur, hv, hgv, hbox, hc1, hc2, hc3, hc4⟩
      · omega
      · obtain ⟨rfl, _, rfl⟩ : av = some ⟨gv, 0, none⟩ ∧ k + 1 = k + 1 ∧ cv = cap' := by simpa using hv
        have hbx : Box W gv cur 31 := hbox
        have t0 : W.cell? ⟨gv, 0, none⟩ = some (.slice none 0 0) := by
          have := hown0.cells (g := gv) rfl 0 (.slice none 0 0) rfl
          rwa [Addr.add_lit] at this
        have f0 := hbx.frozen 0
        have hst := hbx.store 0 (.slice (some ⟨h0, 0, none⟩) 4096 4096)
        have J2 := hJ.store (j := 0) hbx (by decide) (.slice (some ⟨h0, 0, none⟩) 4096 4096)
        have r02 := rowB_store (j := 0) r0 hbx (by decide) (.slice (some ⟨h0, 0, none⟩) 4096 4096)
        have B2 := hB.setCell (p := ⟨gv, 0, none⟩) hgv (.slice (some ⟨h0, 0, none⟩) 4096 4096)
        have own2 : (W.setCell ⟨gv, 0, none⟩ (.slice (some ⟨h0, 0, none⟩) 4096 4096)).ownsRow w.heap.size 31 1 (.slice (some ⟨gv, 0, none⟩) (k + 1) cv) (k + 1) (.slice (some ⟨h0, 0, none⟩) 4096 4096 :: rowC ps) := by
          refine ⟨by simp [rowC, hpl], .inr ⟨gv, cv, cur.setIfInBounds 0 (.slice (some ⟨h0, 0, none⟩) 4096 4096), rfl, hgv, hst, hc1, hc2, by simpa using hc3, ?_⟩⟩
          have e5 : (cur.setIfInBounds 0 (.slice (some ⟨h0, 0, none⟩) 4096 4096)).toList = cur.toList.set 0 (.slice (some ⟨h0, 0, none⟩) 4096 4096) := by simp
          rw [e5, List.take_set, hc4]
          rfl
        clear hown hown0 hbox hst hbx hv cH hJ r0 hB bH bG hent
        go_wp2
        go_ret2
        exact ⟨gv, cv, h0, ps, rfl, hgv, own2, by rw [HM.out] at r02; exact r02, hap, by omega, by rw [HM.out] at J2; exact J2, hps, B2⟩
end Go.Proofs.Ytghcmlkgpedkkaa
