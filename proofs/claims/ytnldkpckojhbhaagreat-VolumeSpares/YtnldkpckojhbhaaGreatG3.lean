/-
  RcPutB, RcBodyOf, RcGetH, RcUnhide, RcGetB, RcHead, RcCat, RcGrp, RcMix, RcSame, RcLow, RcCopyL, RcPutL, RcByte, RcAny, RcMade, JImg, DkBytes: put together.
-/
import Derived.Test.YtnldkpckojhbhaaGreatG2
import Derived.BigQuiet
import Derived.Deep.QuietTactic
import Derived.Deep.RegionHeld3
import Derived.Deep.AppendLies
import Derived.Test.YtnldkpckojhbhaaGreatRows
import Derived.WalkKit
import Derived.WalkSpells
import Derived.WalkLawsBesides
import Derived.Laws.BytesArg
import Derived.Laws.AppendOwnNone
import Derived.ProofKit
/-
  Put.
-/
namespace Go.Proofs.YtnldkpckojhbhaaGreat.Rc
open Go.RowKit

theorem info31 : (Tryz.prog.info? 37).map (fun i => (i.zero, i.size, i.bytes)) = some (some (.slice none 0 0), 1, 24) := by kernel_rfl

/-- what was made of an image: its block (h, c), what is hidden (q, d) -/
structure PP where
  b : Int
  xs : List UInt8
  h : Nat
  c : Nat
  q : Nat
  d : Nat
def stB (M xs : List UInt8) : List UInt8 := (hideTo xs M (List.finRange 8)).1
def hdB (M xs : List UInt8) : List UInt8 := (hideTo xs M (List.finRange 8)).2
def rowC (ps : List PP) : List Value := ps.map fun p => .slice (some ⟨p.h, 0, none⟩) 4096 p.c
def entC (ps : List PP) : List Value := ps.flatMap fun p => [.int .i64 p.b, .slice (some ⟨p.q, 0, none⟩) 64 p.d]
theorem entC_length (ps : List PP) : (entC ps).length = ps.length * 2 := by
  induction ps with
  | nil => rfl
  | cons p ps ih => simp only [entC, List.flatMap_cons, List.length_append, List.length_cons, List.length_nil] at ih ⊢; omega
theorem entC_at (ps : List PP) (i : Nat) (h : i < ps.length) : (entC ps)[i * 2]? = some (.int .i64 ps[i].b) ∧ (entC ps)[i * 2 + 1]? = some (.slice (some ⟨ps[i].q, 0, none⟩) 64 ps[i].d) := by
  induction ps generalizing i with
  | nil => simp at h
  | cons p ps ih =>
    cases i with
    | zero => exact ⟨rfl, rfl⟩
    | succ i =>
      obtain ⟨u, v⟩ := ih i (by simpa using h)
      have e1 : (i + 1) * 2 = i * 2 + 1 + 1 := by omega
      simp only [entC, List.flatMap_cons, e1, List.cons_append, List.nil_append, List.getElem?_cons_succ, List.getElem_cons_succ]
      exact ⟨u, v⟩

/-- their entries -/
def esOf (M : List UInt8) (ps : List PP) : List (Nat × List UInt8) := ps.map fun p => (p.b.toNat, hdB M p.xs)

/-- all of them in memory -/
structure PutJ (M : List UInt8) (B : Nat) (W : World) (ps : List PP) : Prop where
  rows : ∀ p ∈ ps, RowB W p.h p.c (stB M p.xs) ∧ RowB W p.q p.d (hdB M p.xs) ∧ B ≤ p.h ∧ B ≤ p.q
  apart : (ps.map PP.h).Nodup
theorem PutJ.mono {M : List UInt8} {B : Nat} {W W' : World} {ps : List PP} (h : PutJ M B W ps) (hk : ∀ g cur, Box W g cur 5 → W'.heap[g]? = W.heap[g]?) : PutJ M B W' ps :=
  ⟨fun p hp => by
    obtain ⟨a1, a2, a3⟩ := h.rows p hp
    refine ⟨a1.same ?_, a2.same ?_, a3⟩
    · obtain ⟨cur, q, _⟩ := a1; exact hk _ _ q
    · obtain ⟨cur, q, _⟩ := a2; exact hk _ _ q, h.apart⟩
theorem PutJ.below {M : List UInt8} {B : Nat} {W W' : World} {ps : List PP} (h : PutJ M B W ps) (hb : Below W.heap.size W W') : PutJ M B W' ps := h.mono fun g _ q => hb.block g q.lt
theorem PutJ.grown {M : List UInt8} {B base e size n : Nat} {W W' : World} {ps : List PP} {v : Value} {xs : List Value} (h : PutJ M B W ps) (ho : W.ownsRow base e size v n xs) (he : (5 : TypeId) ≠ e) (hg : W.grownBy W' v.ownBlock) : PutJ M B W' ps := h.mono fun g cur q => hg.block g q.lt (fun eq => by
  obtain ⟨_, c2, q2⟩ := owns_block ho g eq.symm
  exact q.ne q2 he rfl)
theorem PutJ.store {M : List UInt8} {B b j : Nat} {W : World} {ps : List PP} {cs : Array Value} {t : TypeId} (h : PutJ M B W ps) (hb : Box W b cs t) (ht : (5 : TypeId) ≠ t) (u : Value) : PutJ M B (W.setCell ⟨b, j, none⟩ u) ps := h.mono fun g _ q => heap_setCell_other W ⟨b, j, none⟩ g u (q.ne hb ht)
theorem PutJ.snoc {M : List UInt8} {B : Nat} {W W' : World} {ps : List PP} (h : PutJ M B W ps) (hb : Below W.heap.size W W') (p : PP) (h1 : RowB W' p.h p.c (stB M p.xs)) (h2 : RowB W' p.q p.d (hdB M p.xs)) (h3 : W.heap.size ≤ p.h) (h4 : W.heap.size ≤ p.q) (hB : B ≤ W.heap.size) : PutJ M B W' (ps ++ [p]) :=
  ⟨fun x hx => by
    rcases List.mem_append.1 hx with hx | hx
    · exact (h.below hb).rows x hx
    · simp at hx
      subst hx
      exact ⟨h1, h2, by omega, by omega⟩, by
    rw [List.map_append, List.nodup_append]
    refine ⟨h.apart, by simp, fun x hx y hy => ?_⟩
    obtain ⟨z, hz, rfl⟩ := List.mem_map.1 hx
    simp at hy
    subst hy
    have := (h.rows z hz).1.lt
    omega⟩

set_option maxRecDepth 100000 in
set_option maxHeartbeats 4000000 in
theorem put_in (e s : Nat) (a : Option Addr) (n cap : Nat) (is : List (Int × List UInt8)) (w : World) (hl : is.length = n) (hI : Imgs w a is) (hok : okGroup e s is) (h1 : 1 ≤ n) (h2 : n ≤ 32) :
    Calls Tryz.prog 150 #[.agg #[.int .i64 (e : Int), .int .i64 (s : Int), .slice a n cap]] w fun r w' => ∃ gl cl h0 ps, r = .returned (.tuple #[.slice (some ⟨gl, 0, none⟩) (n + 1) cl, .int .i64 0]) ∧ w.heap.size ≤ gl ∧ w'.ownsRow w.heap.size 37 1 (.slice (some ⟨gl, 0, none⟩) (n + 1) cl) (n + 1) (.slice (some ⟨h0, 0, none⟩) 4096 4096 :: rowC ps) ∧
      RowB w' h0 4096 (headB e s (esOf (mark e s) ps)) ∧ h0 ∉ ps.map PP.h ∧ w.heap.size ≤ h0 ∧ PutJ (mark e s) w.heap.size w' ps ∧ ps.map (fun p => (p.b, p.xs)) = is ∧ Below w.heap.size w w' := by
  obtain ⟨i0, hi, hz0, hz1, hz2⟩ := info_parts info62
  obtain ⟨j0, ji, jz0, jz1, jz2⟩ := info_parts info31
  have B0 := (Below.refl w.heap.size w).alloc (Nat.le_refl _) (.cells #[.int .i64 (e : Int), .int .i64 (s : Int), .slice a n cap] 203)
  have c1 := rightGroup_at e s a n cap is _ hl (by omega) (hI.below B0)
  have HOK : Hid _ := hok
  have HL : Hid _ := hl
  have hbn : blocksN (n : Int) = (n : Int) + 1 := by unfold blocksN; rw [if_pos (by omega)]
  clear hok hl
  go_enter Tryz.func150, Tryz.ntmps150
  go_wp2_with fail
  refine c1.mono ?_
  rintro r w1 ⟨q, rfl, hq, hb1⟩
  have eq1 : q = true := hq.2 HOK.out
  clear hq c1
  subst eq1
  have bG : Box w1 w.heap.size #[.int .i64 (e : Int), .int .i64 (s : Int), .slice a n cap] 203 := (Box.new w _ 203).below hb1
  have B1 := B0.trans (hb1.mono B0.size)
  have g0 := bG.cell 0
  have g1 := bG.cell 1
  have g2 := bG.cell 2
  clear B0 hb1
  have bH := Box.new w1 #[.int .i64 (e : Int), .int .i64 (s : Int), .slice none 0 0] 250
  have bG2 := bG.alloc (.cells #[.int .i64 (e : Int), .int .i64 (s : Int), .slice none 0 0] 250)
  have B2 := B1.alloc B1.size (.cells #[.int .i64 (e : Int), .int .i64 (s : Int), .slice none 0 0] 250)
  have g22 : (w1.alloc (.cells #[.int .i64 (e : Int), .int .i64 (s : Int), .slice none 0 0] 250)).cell? ⟨w.heap.size, 2, none⟩ = some (.slice a n cap) := bG2.cell 2
  obtain ⟨u0, hu0⟩ : ∃ u, u = w1.alloc (.cells #[.int .i64 (e : Int), .int .i64 (s : Int), .slice none 0 0] 250) := ⟨_, rfl⟩
  have HU0 : Hid _ := hu0
  rw [← hu0] at bH bG2 B2
  obtain ⟨bh, hbh⟩ : ∃ b, b = w1.heap.size := ⟨_, rfl⟩
  have hbh1 : w.heap.size < bh := by rw [hbh]; exact bG.lt
  have HBH : Hid _ := hbh
  rw [← hbh] at bH
  clear hu0 hbh bG B1
  go_wp2_with fail
  rw [← HU0.out, ← HBH.out]
  clear g0 g1 g2 g22
  refine (blocks_at (n : Int) _).mono ?_
  rintro r w' ⟨rfl, rfl⟩
  rw [hbn]
  obtain ⟨u1, hm, ow1, hg1⟩ : ∃ u', (Instr.makeSlice 46 (.int .i64 1) (.int .i64 ((n : Int) + 1))).run Tryz.prog u0 = .ok (.slice (some ⟨u0.heap.size, 0, none⟩) 1 (n + 1)) u' ∧ u'.ownsRow u0.heap.size 37 1 (.slice (some ⟨u0.heap.size, 0, none⟩) 1 (n + 1)) 1 [.slice none 0 0] ∧ u0.grownBy u' none := by
    have h := run_make (P := Tryz.prog) u0 46 37 j0 (.slice none 0 0) Tryz.underlying46 ji jz0 .i64 .i64 1 ((n : Int) + 1) (by omega) (by omega) (by rw [jz2]; omega) (by omega)
    have e1 : ((n : Int) + 1).toNat = n + 1 := by omega
    rw [e1, jz1] at h
    refine ⟨_, h, ⟨rfl, .inr ⟨u0.heap.size, n + 1, _, rfl, Nat.le_refl _, heap_alloc_new u0 _, by omega, by unfold maxLen; omega, ?_, ?_⟩⟩, World.grownBy_alloc u0 _ none⟩
    · simp [madeCells, Value.cells]
    · apply List.ext_getElem
      · simp [madeCells, Value.cells]
      · intro i h1 h2
        simp [madeCells, Value.cells, Nat.mod_one]
  have bH1 : Box u1 bh _ 250 := bH.grown hg1 (by simp)
  have bG1 : Box u1 w.heap.size _ 203 := bG2.grown hg1 (by simp)
  have B3 := B2.grown hg1 B2.size (fun k e => by cases e)
  have x2 := bG1.cell 2
  have su : w.heap.size ≤ u0.heap.size := B2.size
  clear bH bG2 B2 hg1
  obtain ⟨M, hM⟩ : ∃ M, M = mark e s := ⟨_, rfl⟩
  have HM : Hid _ := hM
  have hML : M.length = 8 := by rw [hM]; exact mark_length _ _
  clear hM
  go_wp2_with fail
  go_loopw [5, 26] (fun v i wr => ∃ (k : Nat) (ps : List PP), k ≤ n ∧ i = .int .i64 k ∧ ps.map (fun p => (p.b, p.xs)) = is.take k ∧ wr.ownsRow w.heap.size 37 1 v (k + 1) (.slice none 0 0 :: rowC ps) ∧ (∃ ve, Box wr bh #[.int .i64 (e : Int), .int .i64 (s : Int), ve] 250 ∧ wr.ownsRow w.heap.size 254 2 ve k (entC ps)) ∧ PutJ M w.heap.size wr ps ∧ Box wr w.heap.size #[.int .i64 (e : Int), .int .i64 (s : Int), .slice a n cap] 203 ∧ Below w.heap.size w wr) (fun _ i _ => n - (intOf i).toNat)
  case atStart => exact ⟨0, [], Nat.zero_le _, rfl, rfl, owns_base ow1 su, ⟨_, bH1, World.ownsRow_nil _ _ _ _⟩, ⟨fun p hp => by simp at hp, by simp⟩, bG1, B3⟩
  case round =>
    obtain ⟨k, ps, hk, rfl, hps, hown, ⟨ve, bH, hent⟩, hJ, bG, hB⟩ := hrel
    clear bH1 bG1 B3 ow1 x2 hm
    by_cases hlt : k < n
    · have hlt2 : (k : Int) < n := by omega
      have hkl : k < is.length := by rw [HL.out]; exact hlt
      obtain ⟨b, o, rfl, hc⟩ := hI (by omega)
      obtain ⟨q1, x, c, q2, q3, q4, q5, q6⟩ := (hc k hkl).below hB
      have htk := List.take_succ_eq_append_getElem hkl
      have h4 : is[k].2.length = 4096 := HOK.out.2 _ (List.getElem_mem hkl)
      generalize is[k] = I at q1 q2 q3 q6 htk h4
      obtain ⟨ib, dat⟩ := I
      dsimp only at q1 q2 q3 q6 h4
      rw [h4] at q2 q3
      obtain ⟨gx, ox, rfl, _⟩ := q6 (by omega)
      have HT : Hid _ := htk
      have HPS : Hid _ := hps
      clear htk hc q5 hps
      have al := (Below.refl wr.heap.size wr).alloc (Nat.le_refl _) (.cells #[.int .i64 ib, .slice (some ⟨gx, ox, none⟩) 4096 c] 89)
      have bx := Box.new wr #[.int .i64 ib, .slice (some ⟨gx, ox, none⟩) 4096 c] 89
      have bH1 := bH.below al
      have bG1 := bG.below al
      have own1 := owns_below hown al
      have ent1 := owns_below hent al
      have J1 := hJ.below al
      have B1 := hB.trans (al.mono hB.size)
      have rd1 := q6.below al (Nat.le_refl _)
      obtain ⟨av, cv, rfl⟩ := owns_shape hown
      obtain ⟨ae, ce, rfl⟩ := owns_shape hent
      have zz : wr.heap.size + 1 = (wr.alloc (.cells #[.int .i64 ib, .slice (some ⟨gx, ox, none⟩) 4096 c] 89)).heap.size := by simp
      obtain ⟨V, hV⟩ : ∃ V, V = wr.alloc (.cells #[.int .i64 ib, .slice (some ⟨gx, ox, none⟩) 4096 c] 89) := ⟨_, rfl⟩
      have hsz : wr.heap.size < V.heap.size := by rw [hV]; omega
      have HV : Hid _ := hV
      rw [← hV] at bx bH1 bG1 own1 ent1 J1 B1 rd1
      clear hV al bH bG hown hent hJ hB zz
      obtain ⟨bi, hbi⟩ : ∃ b, b = wr.heap.size := ⟨_, rfl⟩
      have HBI : Hid _ := hbi
      rw [← hbi] at bx hsz
      clear hbi
      have hE : True ∧ e ≤ 8388608 ∧ s ≤ 549755813888 := by
        have := (okStamp_iff _ _).1 HOK.out.1.1
        exact ⟨trivial, by omega, by omega⟩
      go_wp2_with fail
      rw [← HV.out, ← HBI.out]
      refine wp_mono (Q := (fun x A W => x = .normal ∧ ∃ g4 h ch q dq, A = { tmps := #[.agg #[.int .i64 (e : Int), .int .i64 (s : Int), .slice (some ⟨b, o, none⟩) n cap], .pointer (some ⟨w.heap.size, 0, none⟩), .slice none 0 0, .int .i64 0, .pointer (some ⟨bh, 0, none⟩), .slice av (k + 1) cv, undef, .pointer (some ⟨bi, 0, none⟩), .slice (some ⟨h, 0, none⟩) 4096 ch, .slice (some ⟨q, 0, none⟩) 64 dq, .agg #[.int .i64 (e : Int), .int .i64 (s : Int), .slice (some ⟨b, o, none⟩) n cap], .bool true, .bool false, .pointer (some ⟨w.heap.size, 0, none⟩), .int .i64 (e : Int), .pointer (some ⟨w.heap.size, 1, none⟩), .int .i64 (s : Int), .agg #[.int .i64 (e : Int), .int .i64 (s : Int), .slice none 0 0], .pointer (some ⟨w.heap.size, 2, none⟩), .slice (some ⟨b, o, none⟩) n cap, .int .i64 (n : Int), .int .i64 ((n : Int) + 1), .slice (some ⟨u0.heap.size, 0, none⟩) 1 (n + 1), .pointer (some ⟨w.heap.size, 2, none⟩), .slice (some ⟨b, o, none⟩) n cap, .int .i64 (n : Int), .int .i64 (k : Int), .bool true, .pointer (some ⟨b, o + k * 2, none⟩), .agg #[.int .i64 ib, .slice (some ⟨gx, ox, none⟩) 4096 c], .tuple #[.slice (some ⟨h, 0, none⟩) 4096 ch, .slice (some ⟨q, 0, none⟩) 64 dq], .pointer (some ⟨bi, 1, none⟩), .slice (some ⟨gx, ox, none⟩) 4096 c, .pointer (some ⟨w.heap.size, 0, none⟩), .int .i64 (e : Int), .pointer (some ⟨w.heap.size, 1, none⟩), .int .i64 (s : Int), .slice (some ⟨g4, 0, none⟩) 8 8, .tuple #[.slice (some ⟨h, 0, none⟩) 4096 ch, .slice (some ⟨q, 0, none⟩) 64 dq], .slice (some ⟨h, 0, none⟩) 4096 ch, .slice (some ⟨q, 0, none⟩) 64 dq, u41, u42, u43, u44, u45, u46, u47, u48, u49, u50, u51, u52, u53, u54, undef, undef, undef, undef, undef], defers := [] } ∧ RowB W h ch (stB M dat) ∧ RowB W q dq (hdB M dat) ∧ V.heap.size ≤ h ∧ V.heap.size ≤ q ∧ Below V.heap.size V W)) ?reg ?tail
      case reg =>
        refine wp_region_any (by kernel_rfl) ?_
        change wpAny _ _ _ _ _ _ _ (World.drew _)
        have bI : Box V.drew bi _ 89 := bx
        replace bG1 : Box V.drew w.heap.size _ 203 := bG1
        have rdV : Rd V (some ⟨gx, ox, none⟩) dat := rd1
        have BV : Below V.heap.size V V.drew := (Below.refl _ _).drew
        clear own1 ent1 J1 B1 bH1 bx q1 q2 q6
        generalize V.drew = V' at bI bG1 BV ⊢
        refine wpAny_take (i := 0) (v := ?_) rfl (by kernel_rfl) (by kernel_rfl) (by kernel_rfl) (fun _ _ _ h => nomatch h.1) (Or.inl ⟨by rfl, ?_⟩) ?_
        rotate_left
        · intro w
          go_simp
          with_reducible rfl
        refine wpAny_take (i := 2) (v := ?_) rfl (by kernel_rfl) (by kernel_rfl) (by kernel_rfl) (fun _ _ _ h => nomatch h.1) (Or.inl ⟨by rfl, ?_⟩) ?_
        rotate_left
        · intro w
          go_simp
          with_reducible rfl
        refine wpAny_take (i := 4) (v := ?_) rfl (by kernel_rfl) (by kernel_rfl) (by kernel_rfl) (fun _ _ _ h => nomatch h.1) (Or.inl ⟨by rfl, ?_⟩) ?_
        rotate_left
        · intro w
          go_simp
          with_reducible rfl
        simp only [Act.put, List.setIfInBounds_toArray, List.set_cons_zero, List.set_cons_succ, List.getElem_toArray, List.getElem_cons_zero, List.getElem_cons_succ]
        refine wpAny_of_late (C := SB [(31, .pointer (some ⟨bi, 1, none⟩)), (33, .pointer (some ⟨w.heap.size, 0, none⟩)), (35, .pointer (some ⟨w.heap.size, 1, none⟩))] [(bi, #[.int .i64 ib, .slice (some ⟨gx, ox, none⟩) 4096 c], 89), (w.heap.size, #[.int .i64 (e : Int), .int .i64 (s : Int), .slice (some ⟨b, o, none⟩) n cap], 203)]) (late := []) _ _ _ _ ?_
        refine wpAnyD_take (i := 1) (v := .slice (some ⟨gx, ox, none⟩) 4096 c) rfl (by kernel_rfl) (by kernel_rfl) (by kernel_rfl) (by kernel_rfl) (fun _ _ _ h => nomatch h.1) ?_ (fun fr u h => (SB.put 32 _ (by rfl)).1 h) (fun fr u h => (SB.put 32 _ (by rfl)).2 h) ?_ ?_
        · intro fr u hh
          obtain ⟨e1, e2⟩ := hh.load (s := 31) (b := bi) (j := 1) (cs := #[.int .i64 ib, .slice (some ⟨gx, ox, none⟩) 4096 c]) (t := 89) (v := .slice (some ⟨gx, ox, none⟩) 4096 c) (by simp) (by simp) (by rfl)
          exact ⟨rfl, by simp [execOp, e1, go_sem, e2]⟩
        · exact ⟨fun p hp => by simp at hp; rcases hp with rfl | rfl | rfl <;> rfl, fun q hq => by simp at hq; rcases hq with rfl | rfl <;> first | exact bI | exact bG1⟩
        simp only [Act.put, List.setIfInBounds_toArray, List.set_cons_zero, List.set_cons_succ, List.getElem_toArray, List.getElem_cons_zero, List.getElem_cons_succ]
        refine wpAnyD_take (i := 3) (v := .int .i64 (e : Int)) rfl (by kernel_rfl) (by kernel_rfl) (by kernel_rfl) (by kernel_rfl) (fun _ _ _ h => nomatch h.1) ?_ (fun fr u h => (SB.put 34 _ (by rfl)).1 h) (fun fr u h => (SB.put 34 _ (by rfl)).2 h) ?_ ?_
        · intro fr u hh
          obtain ⟨e1, e2⟩ := hh.load (s := 33) (b := w.heap.size) (j := 0) (cs := #[.int .i64 (e : Int), .int .i64 (s : Int), .slice (some ⟨b, o, none⟩) n cap]) (t := 203) (v := .int .i64 (e : Int)) (by simp) (by simp) (by rfl)
          exact ⟨rfl, by simp [execOp, e1, go_sem, e2]⟩
        · exact ⟨fun p hp => by simp at hp; rcases hp with rfl | rfl | rfl <;> rfl, fun q hq => by simp at hq; rcases hq with rfl | rfl <;> first | exact bI | exact bG1⟩
        simp only [Act.put, List.setIfInBounds_toArray, List.set_cons_zero, List.set_cons_succ, List.getElem_toArray, List.getElem_cons_zero, List.getElem_cons_succ]
        refine wpAnyD_take (i := 5) (v := .int .i64 (s : Int)) rfl (by kernel_rfl) (by kernel_rfl) (by kernel_rfl) (by kernel_rfl) (fun _ _ _ h => nomatch h.1) ?_ (fun fr u h => (SB.put 36 _ (by rfl)).1 h) (fun fr u h => (SB.put 36 _ (by rfl)).2 h) ?_ ?_
        · intro fr u hh
          obtain ⟨e1, e2⟩ := hh.load (s := 35) (b := w.heap.size) (j := 1) (cs := #[.int .i64 (e : Int), .int .i64 (s : Int), .slice (some ⟨b, o, none⟩) n cap]) (t := 203) (v := .int .i64 (s : Int)) (by simp) (by simp) (by rfl)
          exact ⟨rfl, by simp [execOp, e1, go_sem, e2]⟩
        · exact ⟨fun p hp => by simp at hp; rcases hp with rfl | rfl | rfl <;> rfl, fun q hq => by simp at hq; rcases hq with rfl | rfl <;> first | exact bI | exact bG1⟩
        simp only [Act.put, List.setIfInBounds_toArray, List.set_cons_zero, List.set_cons_succ, List.getElem_toArray, List.getElem_cons_zero, List.getElem_cons_succ]
        refine wpAnyD_ready (rs := [6]) (by kernel_rfl) (by simp) ?_
        refine AllD.cons rfl (fun K hK2 => ?_) ?_
        · skip
          go_simp
          refine (stamp_at e s _ _ V' rfl rfl hE.2.1 hE.2.2).mono ?_
          rintro x V2 ⟨rfl, ho, hb2⟩
          replace bI := bI.below hb2
          replace bG1 := bG1.below hb2
          have BV2 := BV.trans (hb2.mono BV.size)
          refine hK2 _ _ ⟨.inr ⟨fun p hp => by simp at hp; rcases hp with rfl | rfl | rfl <;> rfl, fun q hq => by simp at hq; rcases hq with rfl | rfl <;> first | exact bI | exact bG1⟩, ?_⟩
          clear hK2 K
          rw [← HM.out] at ho
          obtain ⟨g4, hg4⟩ : ∃ g, g = V'.heap.size := ⟨_, rfl⟩
          rw [← hg4] at ho ⊢
          clear hg4
          refine wpAnyD_ready (rs := [7]) (by kernel_rfl) (by simp) ?_
          refine AllD.cons rfl (fun K hK2 => ?_) ?_
          · skip
            go_simp
            refine (hide_in gx ox c g4 dat M V2 h4 (rdV.below BV2 (Nat.le_refl _)) hML ho.rd).mono ?_
            rintro x V3 ⟨h, ch, v9, rfl, hh, r1, r2, hb3⟩
            replace bI := bI.below hb3
            replace bG1 := bG1.below hb3
            have BV3 := BV2.trans (hb3.mono BV2.size)
            obtain ⟨q, dq, rfl, hq, r3⟩ := RowB.owns r2 (by omega)
            refine hK2 _ _ ⟨.inr ⟨fun p hp => by simp at hp; rcases hp with rfl | rfl | rfl <;> rfl, fun q hq => by simp at hq; rcases hq with rfl | rfl <;> first | exact bI | exact bG1⟩, ?_⟩
            clear hK2 K
            refine wpAnyD_ready (rs := [8]) (by kernel_rfl) (by simp) ?_
            refine AllD.cons rfl (fun K hK2 => ?_) ?_
            · skip
              go_simp
              refine hK2 _ _ ⟨.inr ⟨fun p hp => by simp at hp; rcases hp with rfl | rfl | rfl <;> rfl, fun q hq => by simp at hq; rcases hq with rfl | rfl <;> first | exact bI | exact bG1⟩, ?_⟩
              clear hK2 K
              refine wpAnyD_ready (rs := [9, 10]) (by kernel_rfl) (by simp) ?_
              refine AllD.cons rfl (fun K hK2 => ?_) ?_
              · skip
                go_simp
                refine hK2 _ _ ⟨.inr ⟨fun p hp => by simp at hp; rcases hp with rfl | rfl | rfl <;> rfl, fun q hq => by simp at hq; rcases hq with rfl | rfl <;> first | exact bI | exact bG1⟩, ?_⟩
                clear hK2 K
                refine wpAnyD_ready (rs := [10, 11]) (by kernel_rfl) (by simp) ?_
                refine AllD.cons rfl (fun K hK2 => ?_) ?_
                · skip
                  go_simp
                  refine hK2 _ _ ⟨.inr ⟨fun p hp => by simp at hp; rcases hp with rfl | rfl | rfl <;> rfl, fun q hq => by simp at hq; rcases hq with rfl | rfl <;> first | exact bI | exact bG1⟩, ?_⟩
                  clear hK2 K
                  refine wpAnyD_ready (rs := [11]) (by kernel_rfl) (by simp) ?_
                  refine AllD.cons rfl (fun K hK2 => ?_) ?_
                  · skip
                    go_simp
                    refine hK2 _ _ ⟨.inr ⟨fun p hp => by simp at hp; rcases hp with rfl | rfl | rfl <;> rfl, fun q hq => by simp at hq; rcases hq with rfl | rfl <;> first | exact bI | exact bG1⟩, ?_⟩
                    clear hK2 K
                    refine wpAnyD_ready (rs := [12]) (by kernel_rfl) (by simp) ?_
                    refine AllD.cons rfl (fun K hK2 => ?_) ?_
                    · skip
                      go_simp
                      refine hK2 _ _ ⟨.inr ⟨fun p hp => by simp at hp; rcases hp with rfl | rfl | rfl <;> rfl, fun q hq => by simp at hq; rcases hq with rfl | rfl <;> first | exact bI | exact bG1⟩, ?_⟩
                      clear hK2 K
                      refine wpAnyD_done (by kernel_rfl) ?_ _
                      exact ⟨rfl, g4, h, ch, q, dq, rfl, r1, r3, by have := BV2.size; omega, by have := BV2.size; omega, BV3⟩
                    exact AllD.nil
                  exact AllD.nil
                refine AllD.cons rfl (fun K hK2 => ?_) ?_
                · skip
                  go_simp
                  refine hK2 _ _ ⟨.inr ⟨fun p hp => by simp at hp; rcases hp with rfl | rfl | rfl <;> rfl, fun q hq => by simp at hq; rcases hq with rfl | rfl <;> first | exact bI | exact bG1⟩, ?_⟩
                  clear hK2 K
                  refine wpAnyD_ready (rs := [10]) (by kernel_rfl) (by simp) ?_
                  refine AllD.cons rfl (fun K hK2 => ?_) ?_
                  · skip
                    go_simp
                    refine hK2 _ _ ⟨.inr ⟨fun p hp => by simp at hp; rcases hp with rfl | rfl | rfl <;> rfl, fun q hq => by simp at hq; rcases hq with rfl | rfl <;> first | exact bI | exact bG1⟩, ?_⟩
                    clear hK2 K
                    refine wpAnyD_ready (rs := [12]) (by kernel_rfl) (by simp) ?_
                    refine AllD.cons rfl (fun K hK2 => ?_) ?_
                    · skip
                      go_simp
                      refine hK2 _ _ ⟨.inr ⟨fun p hp => by simp at hp; rcases hp with rfl | rfl | rfl <;> rfl, fun q hq => by simp at hq; rcases hq with rfl | rfl <;> first | exact bI | exact bG1⟩, ?_⟩
                      clear hK2 K
                      refine wpAnyD_done (by kernel_rfl) ?_ _
                      exact ⟨rfl, g4, h, ch, q, dq, rfl, r1, r3, by have := BV2.size; omega, by have := BV2.size; omega, BV3⟩
                    exact AllD.nil
                  exact AllD.nil
                exact AllD.nil
              refine AllD.cons rfl (fun K hK2 => ?_) ?_
              · skip
                go_simp
                refine hK2 _ _ ⟨.inr ⟨fun p hp => by simp at hp; rcases hp with rfl | rfl | rfl <;> rfl, fun q hq => by simp at hq; rcases hq with rfl | rfl <;> first | exact bI | exact bG1⟩, ?_⟩
                clear hK2 K
                refine wpAnyD_ready (rs := [9]) (by kernel_rfl) (by simp) ?_
                refine AllD.cons rfl (fun K hK2 => ?_) ?_
                · skip
                  go_simp
                  refine hK2 _ _ ⟨.inr ⟨fun p hp => by simp at hp; rcases hp with rfl | rfl | rfl <;> rfl, fun q hq => by simp at hq; rcases hq with rfl | rfl <;> first | exact bI | exact bG1⟩, ?_⟩
                  clear hK2 K
                  refine wpAnyD_ready (rs := [11]) (by kernel_rfl) (by simp) ?_
                  refine AllD.cons rfl (fun K hK2 => ?_) ?_
                  · skip
                    go_simp
                    refine hK2 _ _ ⟨.inr ⟨fun p hp => by simp at hp; rcases hp with rfl | rfl | rfl <;> rfl, fun q hq => by simp at hq; rcases hq with rfl | rfl <;> first | exact bI | exact bG1⟩, ?_⟩
                    clear hK2 K
                    refine wpAnyD_ready (rs := [12]) (by kernel_rfl) (by simp) ?_
                    refine AllD.cons rfl (fun K hK2 => ?_) ?_
                    · skip
                      go_simp
                      refine hK2 _ _ ⟨.inr ⟨fun p hp => by simp at hp; rcases hp with rfl | rfl | rfl <;> rfl, fun q hq => by simp at hq; rcases hq with rfl | rfl <;> first | exact bI | exact bG1⟩, ?_⟩
                      clear hK2 K
                      refine wpAnyD_done (by kernel_rfl) ?_ _
                      exact ⟨rfl, g4, h, ch, q, dq, rfl, r1, r3, by have := BV2.size; omega, by have := BV2.size; omega, BV3⟩
                    exact AllD.nil
                  exact AllD.nil
                exact AllD.nil
              exact AllD.nil
            exact AllD.nil
          exact AllD.nil
        exact AllD.nil
      case tail =>
        rintro x A W ⟨rfl, g4, h, ch, q, dq, rfl, r1, r3, hh1, hh2, hbW⟩
        have J2 := J1.snoc hbW ⟨ib, dat, h, ch, q, dq⟩ r1 r3 hh1 hh2 B1.size
        replace own1 := owns_below own1 hbW
        replace ent1 := owns_below ent1 hbW
        replace bx := bx.below hbW
        replace bH1 := bH1.below hbW
        replace bG1 := bG1.below hbW
        replace B1 := B1.trans (hbW.mono B1.size)
        clear hbW J1 r1 r3 hh1 hh2 rd1 q6 q1 q2 hsz
        have al := (Below.refl W.heap.size W).alloc (Nat.le_refl _) (.cells #[.slice (some ⟨h, 0, none⟩) 4096 ch] 37)
        have bN := Box.new W #[.slice (some ⟨h, 0, none⟩) 4096 ch] 37
        replace own1 := owns_below own1 al
        replace ent1 := owns_below ent1 al
        replace bx := bx.below al
        replace bH1 := bH1.below al
        replace bG1 := bG1.below al
        replace J2 := J2.below al
        replace B1 := B1.trans (al.mono B1.size)
        have hcN : ∀ j u, ([.slice (some ⟨h, 0, none⟩) 4096 ch] : List Value)[j]? = some u → (W.alloc (.cells #[.slice (some ⟨h, 0, none⟩) 4096 ch] 37)).cell? ((⟨W.heap.size, 0, none⟩ : Addr).add j) = some u := fun j u hj => by
          rw [Addr.add_lit, Nat.zero_add, bN.cell j]
          simpa using hj
        go_wp2_with (at_builtin; refine wpList_append_own _ rfl _ _ 46 rfl w.heap.size 37 j0 (.slice none 0 0) 1 24 Tryz.underlying46 ji jz0 jz1 jz2 rfl (by decide) _ (k + 1) _ rfl own1 ⟨W.heap.size, 0, none⟩ 1 1 [.slice (some ⟨h, 0, none⟩) 4096 ch] rfl rfl hcN ?c2 ?c3 ?c4 B1.size ?_)
        case c2 => intro u hu; simp at hu; subst hu; rfl
        case c3 => unfold maxLen; omega
        case c4 => omega
        intro v' w4 own4 hg4 _
        have hnx : ∀ {g : Nat} {cs : Array Value} {t : TypeId}, Box _ g cs t → (37 : TypeId) ≠ t → Box w4 g cs t := fun hb ht => hb.grown hg4 (fun e => by
          obtain ⟨_, cur, q⟩ := owns_block own1 _ e
          exact q.ne hb ht rfl)
        have bx4 := hnx bx (by decide)
        have bH4 := hnx bH1 (by decide)
        have bG4 := hnx bG1 (by decide)
        have ent4 : w4.ownsRow w.heap.size 254 2 (.slice ae k ce) k (entC ps) := owns_grown ent1 hg4 (fun g eg e => by
          obtain ⟨_, cur, q⟩ := owns_block own1 _ e
          obtain ⟨_, cur2, q2⟩ := owns_block ent1 _ eg
          exact q.ne q2 (by decide) rfl)
        have J4 := J2.grown own1 (by decide) hg4
        have B4 := B1.grown hg4 B1.size (fun j e => (owns_block own1 j e).1)
        obtain ⟨av4, cv4, rfl⟩ := owns_shape own4
        clear hnx own1 ent1 bx bH1 bG1 J2 B1 bN al hcN hg4
        have y2 := bH4.cell 2
        have y0 := bx4.cell 0
        have al := (Below.refl w4.heap.size w4).alloc (Nat.le_refl _) (.cells #[.int .i64 ib, .slice (some ⟨q, 0, none⟩) 64 dq] 254)
        have bE := Box.new w4 #[.int .i64 ib, .slice (some ⟨q, 0, none⟩) 64 dq] 254
        have ent5 := owns_below ent4 al
        have own5 := owns_below own4 al
        have bH5 := bH4.below al
        have bG5 := bG4.below al
        have J5 := J4.below al
        have B5 := B4.trans (al.mono B4.size)
        go_wp2_with (at_builtin; refine wpList_append_own _ rfl _ _ 248 rfl w.heap.size 254 i0 (.agg #[.int .i64 0, .slice none 0 0]) 2 32 Tryz.underlying248 hi hz0 hz1 hz2 rfl (by decide) _ k _ rfl ent5 ⟨w4.heap.size, 0, none⟩ 1 1 [.int .i64 ib, .slice (some ⟨q, 0, none⟩) 64 dq] rfl rfl (two_cells bE) ?d2 ?d3 ?d4 B5.size ?_)
        case d2 => intro u hu; simp at hu; rcases hu with rfl | rfl <;> rfl
        case d3 => unfold maxLen; omega
        case d4 => omega
        intro v6 w6 ent6 hg6 _
        have hnx : ∀ {g : Nat} {cs : Array Value} {t : TypeId}, Box _ g cs t → (254 : TypeId) ≠ t → Box w6 g cs t := fun hb ht => hb.grown hg6 (fun e => by
          obtain ⟨_, cur, q⟩ := owns_block ent5 _ e
          exact q.ne hb ht rfl)
        have bH6 := hnx bH5 (by decide)
        have bG6 := hnx bG5 (by decide)
        have own6 : w6.ownsRow w.heap.size 37 1 (.slice av4 (k + 1 + 1) cv4) (k + 1 + 1) _ := owns_grown own5 hg6 (fun g eg e => by
          obtain ⟨_, cur, q⟩ := owns_block ent5 _ e
          obtain ⟨_, cur2, q2⟩ := owns_block own5 _ eg
          exact q.ne q2 (by decide) rfl)
        have J6 := J5.grown ent5 (by decide) hg6
        have B6 := B5.grown hg6 B5.size (fun j e => (owns_block ent5 j e).1)
        obtain ⟨av6, cv6, rfl⟩ := owns_shape ent6
        have f6 := bH6.frozen 2
        have z6 := bH6.cell 2
        have bH7 := bH6.store 2 (.slice av6 (k + 1) cv6)
        have bG7 : Box (w6.setCell ⟨bh, 2, none⟩ (.slice av6 (k + 1) cv6)) w.heap.size _ 203 := (heap_setCell_other w6 ⟨bh, 2, none⟩ w.heap.size _ (by show w.heap.size ≠ bh; omega)).trans bG6
        have J7 := J6.store (j := 2) bH6 (by decide) (.slice av6 (k + 1) cv6)
        have B7 := B6.setCell (p := ⟨bh, 2, none⟩) (by show w.heap.size ≤ bh; omega) (.slice av6 (k + 1) cv6)
        have ent7 : (w6.setCell ⟨bh, 2, none⟩ (.slice av6 (k + 1) cv6)).ownsRow w.heap.size 254 2 (.slice av6 (k + 1) cv6) (k + 1) _ := owns_grown ent6 (grown_store w6 bh 2 _) (fun g eg e => by
          cases e
          obtain ⟨_, cur2, q2⟩ := owns_block ent6 _ eg
          exact q2.ne bH6 (by decide) rfl)
        have own7 : (w6.setCell ⟨bh, 2, none⟩ (.slice av6 (k + 1) cv6)).ownsRow w.heap.size 37 1 (.slice av4 (k + 1 + 1) cv4) (k + 1 + 1) _ := owns_grown own6 (grown_store w6 bh 2 _) (fun g eg e => by
          cases e
          obtain ⟨_, cur2, q2⟩ := owns_block own6 _ eg
          exact q2.ne bH6 (by decide) rfl)
        clear hnx own4 own5 own6 ent4 ent5 ent6 bx4 bH4 bH5 bG4 bG5 bG6 J4 J5 J6 B4 B5 B6 bE al hg6 y2 y0
        go_wp2
        go_roundw
        case rel =>
          refine ⟨k + 1, ps ++ [⟨ib, dat, h, ch, q, dq⟩], by omega, by go_num, ?_, ?_, ⟨_, by simpa using bH7, ?_⟩, J7, bG7, B7⟩
          · rw [HT.out, List.map_append, HPS.out]
            rfl
          · have e1 : (.slice none 0 0 :: rowC (ps ++ [⟨ib, dat, h, ch, q, dq⟩])) = .slice none 0 0 :: rowC ps ++ [.slice (some ⟨h, 0, none⟩) 4096 ch] := by simp [rowC]
            rw [e1]
            exact own7
          · have e1 : entC (ps ++ [⟨ib, dat, h, ch, q, dq⟩]) = entC ps ++ [.int .i64 ib, .slice (some ⟨q, 0, none⟩) 64 dq] := by simp [entC]
            rw [e1]
            exact ent7
        case measure => simp [intOf]; omega
    · obtain rfl : k = n := by omega
      have htk : is.take k = is := List.take_of_length_le (by rw [HL.out]; omega)
      rw [htk] at hps
      have hpl : ps.length = k := by
        have := congrArg List.length hps
        rw [List.length_map] at this
        rw [this]
        exact HL.out
      have hxs : ∀ p ∈ ps, p.xs.length = 4096 ∧ 0 ≤ p.b ∧ p.b ≤ 511 := fun p hp => by
        have h5 : (p.b, p.xs) ∈ is := by rw [← hps]; exact List.mem_map_of_mem hp
        obtain ⟨j, hj, hje⟩ := List.getElem_of_mem h5
        have h6 := HOK.out.2 _ h5
        have h7 := (HOK.out.1.2.2 j (by simpa using hj) (by simpa using hj)).1
        rw [List.getElem_map, hje] at h7
        exact ⟨h6, h7⟩
      obtain ⟨av, cv, rfl⟩ := owns_shape hown
      obtain ⟨ae, ce, rfl⟩ := owns_shape hent
      have hE : e ≤ 8388608 ∧ s ≤ 549755813888 := by
        have := (okStamp_iff _ _).1 HOK.out.1.1
        exact ⟨by omega, by omega⟩
      have hes : Ents wr ae (esOf M ps) := fun hp => by
        have hel : (esOf M ps).length = ps.length := by simp [esOf]
        rw [hel] at hp
        rcases hent.2 with ⟨hv, hn⟩ | ⟨gv, cap', cur, hv, _⟩
        · omega
        · have ha : ae = some ⟨gv, 0, none⟩ := by simpa using (Value.slice.inj hv).1
          subst ha
          refine ⟨gv, 0, rfl, fun j hj => ?_⟩
          rw [hel] at hj
          obtain ⟨e1, e2⟩ := entC_at ps j hj
          have hb : (Value.slice (some ⟨gv, 0, none⟩) k ce).ownBlock = some gv := rfl
          have k1 := hent.cells hb _ _ e1
          have k2 := hent.cells hb _ _ e2
          rw [Addr.add_lit] at k1 k2
          have hm := List.getElem_mem hj
          obtain ⟨a1, a2, a3⟩ := hJ.rows _ hm
          have hx : (esOf M ps)[j]'(by rw [hel]; exact hj) = (ps[j].b.toNat, hdB M ps[j].xs) := by simp [esOf]
          obtain ⟨x1, x2, x3⟩ := hxs _ hm
          have hlen64 : (hdB M ps[j].xs).length = 64 := by
            have := (hideTo_length ps[j].xs M x1 hML (List.finRange 8)).2
            unfold hdB
            rw [this]
            simp
          have hd : 64 ≤ ps[j].d ∧ ps[j].d ≤ 9223372036854775807 := by
            obtain ⟨cur2, _, y1, y2, _⟩ := a2
            unfold maxLen at y2
            omega
          rw [hx]
          have eb : ((ps[j].b.toNat : Nat) : Int) = ps[j].b := by omega
          exact ⟨by dsimp only; rw [eb]; exact k1, _, _, _, by rw [Nat.add_assoc]; exact k2, hd.1, hd.2, hlen64, a2.rd⟩
      have hbl : ∀ x ∈ esOf M ps, x.1 ≤ 511 := fun x hx => by
        obtain ⟨p, hp, rfl⟩ := List.mem_map.1 hx
        have := hxs p hp
        show p.b.toNat ≤ 511
        omega
      have cH := putHeading_in e s ae k ce (esOf M ps) wr hE.1 hE.2 (by simp [esOf, hpl]) (by omega) h2 hes hbl
      have HBL : Hid _ := hbl
      have HES : Hid _ := hes
      have HXS : Hid (∀ p ∈ ps, p.xs.length = 4096 ∧ 0 ≤ p.b ∧ p.b ≤ 511) := hxs
      clear hbl hes hxs
      have y0 := bH.cell 0
      have y1 := bH.cell 1
      have y2 := bH.cell 2
      go_wp2_with fail
      refine cH.mono ?_
      rintro r W ⟨h0, rfl, hh0, r0, hbW⟩
      replace hown := owns_below hown hbW
      have hap : h0 ∉ ps.map PP.h := fun hm => by
        obtain ⟨p, hp, he⟩ := List.mem_map.1 hm
        have := (hJ.rows p hp).1.lt
        omega
      replace hJ := hJ.below hbW
      have hw0 := hB.size
      replace hB := hB.trans (hbW.mono hB.size)
      have hown0 := hown
      rcases hown.2 with ⟨_, hv⟩ | ⟨gv, cap', cur, hv, hgv, hbox, hc1, hc2, hc3, hc4⟩
      · omega
      · obtain ⟨rfl, _, rfl⟩ : av = some ⟨gv, 0, none⟩ ∧ k + 1 = k + 1 ∧ cv = cap' := by simpa using hv
        have hbx : Box W gv cur 37 := hbox
        have t0 : W.cell? ⟨gv, 0, none⟩ = some (.slice none 0 0) := by
          have := hown0.cells (g := gv) rfl 0 (.slice none 0 0) rfl
          rwa [Addr.add_lit] at this
        have f0 := hbx.frozen 0
        have hst := hbx.store 0 (.slice (some ⟨h0, 0, none⟩) 4096 4096)
        have J2 := hJ.store (j := 0) hbx (by decide) (.slice (some ⟨h0, 0, none⟩) 4096 4096)
        have r02 := rowB_store (j := 0) r0 hbx (by decide) (.slice (some ⟨h0, 0, none⟩) 4096 4096)
        have B2 := hB.setCell (p := ⟨gv, 0, none⟩) hgv (.slice (some ⟨h0, 0, none⟩) 4096 4096)
        have own2 : (W.setCell ⟨gv, 0, none⟩ (.slice (some ⟨h0, 0, none⟩) 4096 4096)).ownsRow w.heap.size 37 1 (.slice (some ⟨gv, 0, none⟩) (k + 1) cv) (k + 1) (.slice (some ⟨h0, 0, none⟩) 4096 4096 :: rowC ps) := by
          refine ⟨by simp [rowC, hpl], .inr ⟨gv, cv, cur.setIfInBounds 0 (.slice (some ⟨h0, 0, none⟩) 4096 4096), rfl, hgv, hst, hc1, hc2, by simpa using hc3, ?_⟩⟩
          have e5 : (cur.setIfInBounds 0 (.slice (some ⟨h0, 0, none⟩) 4096 4096)).toList = cur.toList.set 0 (.slice (some ⟨h0, 0, none⟩) 4096 4096) := by simp
          rw [e5, List.take_set, hc4]
          rfl
        clear hown hown0 hbox hst hbx hv cH hJ r0 hB bH bG hent
        go_wp2
        go_ret2
        exact ⟨gv, cv, h0, ps, rfl, hgv, own2, by rw [HM.out] at r02; exact r02, hap, by omega, by rw [HM.out] at J2; exact J2, hps, B2⟩
end Go.Proofs.YtnldkpckojhbhaaGreat.Rc

/-
  bodyOf.
-/
namespace Go.Proofs.YtnldkpckojhbhaaGreat.Rc
open Go.RowKit Go.Shelf
attribute [local go_sem] Oper.semAt_some

/-- what stands behind the stamps of these sectors -/
def bodyTo (xs : List UInt8) (pre : List (Fin 8)) : List UInt8 := pre.flatMap fun x => (sec xs x.val).drop 8
theorem bodyTo_snoc (xs : List UInt8) (pre : List (Fin 8)) (x : Fin 8) : bodyTo xs (pre ++ [x]) = bodyTo xs pre ++ (sec xs x.val).drop 8 := by simp [bodyTo]

/-- one round's work on memory -/
theorem bodyOf_round (w W : World) (k0 k1 : Nat) (cs : Array Value) (xs : List UInt8) (pre : List (Fin 8)) (v : Value) (x : Fin 8) (h01 : k0 < k1) (hw : w.heap.size < k0) (hB : Below w.heap.size w W)
    (hv : Box W k0 #[v] 37) (hown : W.ownsRow w.heap.size 5 1 v (pre.length * 504) (bcs (bodyTo xs pre))) (hk : Box W k1 cs 37)
    (v' : Value) (w2 : World) (hown2 : w2.ownsRow w.heap.size 5 1 v' (pre.length * 504 + 504) (bcs (bodyTo xs pre) ++ bcs ((sec xs x.val).drop 8))) (hg2 : W.drew.grownBy w2 v.ownBlock) :
    w2.cell? ⟨k0, 0, none⟩ = some v ∧ w2.frozen? ⟨k0, 0, none⟩ = false ∧ KeepsOthers W (w2.setCell ⟨k0, 0, none⟩ v') ∧ (w2.setCell ⟨k0, 0, none⟩ v').heap[k1]? = W.heap[k1]? ∧
      Box (w2.setCell ⟨k0, 0, none⟩ v') k0 #[v'] 37 ∧ ((w2.setCell ⟨k0, 0, none⟩ v').ownsRow w.heap.size 5 1 v' ((pre ++ [x]).length * 504) (bcs (bodyTo xs (pre ++ [x]))) ∧ Box (w2.setCell ⟨k0, 0, none⟩ v') k1 cs 37) ∧ Below w.heap.size w (w2.setCell ⟨k0, 0, none⟩ v') := by
  have hne : ∀ g', v.ownBlock = some g' → w.heap.size ≤ g' ∧ g' ≠ k0 ∧ g' ≠ k1 := fun g' e => by
    obtain ⟨q1, cur, q2⟩ := owns_block hown g' e
    exact ⟨q1, q2.ne hv (by decide), q2.ne hk (by decide)⟩
  have hv2 : Box w2 k0 #[v] 37 := Box.grown (w := W.drew) hv hg2 (fun e => (hne _ e).2.1 rfl)
  have hk2 : Box w2 k1 cs 37 := Box.grown (w := W.drew) hk hg2 (fun e => (hne _ e).2.2 rfl)
  have hB2 : Below w.heap.size w w2 := (hB.drew).grown hg2 hB.size (fun k e => (hne _ e).1)
  have a1 : w2.heap[k1]? = W.heap[k1]? := hg2.block k1 hk.lt (fun e => (hne _ e.symm).2.2 rfl)
  have a2 : (w2.setCell ⟨k0, 0, none⟩ v').heap[k1]? = w2.heap[k1]? := heap_setCell_other w2 ⟨k0, 0, none⟩ k1 v' (by show k1 ≠ k0; omega)
  refine ⟨hv2.cell 0, hv2.frozen 0, ((KeepsOthers.drew W).trans (keeps_owns (w := W.drew) hown hg2)).trans (KeepsOthers.setCell w2 _ _), a2.trans a1, ?_, ⟨?_, a2.trans hk2⟩, hB2.setCell (p := ⟨k0, 0, none⟩) (by show w.heap.size ≤ k0; omega) v'⟩
  · have := hv2.store 0 v'; simpa using this
  · have e1 : (pre ++ [x]).length * 504 = pre.length * 504 + 504 := by simp; omega
    rw [e1, bodyTo_snoc, bcs_append]
    refine owns_grown hown2 (grown_store w2 k0 0 v') (fun g' e => ?_)
    obtain ⟨_, cur, q⟩ := owns_block hown2 g' e
    intro e2
    cases e2
    exact q.ne hv2 (by decide) rfl

set_option maxRecDepth 100000 in
set_option maxHeartbeats 4000000 in
theorem bodyOf_in (g o cap : Nat) (xs : List UInt8) (w : World) (hl : xs.length = 4096) (hcap : 4096 ≤ cap) (hmax : cap ≤ 9223372036854775807) (hr : Rd w (some ⟨g, o, none⟩) xs) :
    Calls Tryz.prog 295 #[.slice (some ⟨g, o, none⟩) 4096 cap] w fun r w' => ∃ v, r = .returned v ∧ w'.ownsRow w.heap.size 5 1 v 4032 (bcs (bodyTo xs (List.finRange 8))) ∧ Below w.heap.size w w' := by
  refine (callsIn_wide (n := 3)).1 ?_
  obtain ⟨i0, hi, hz0, hz1, hz2⟩ := info_parts info5
  obtain ⟨w1, hmk, ow1, hg1⟩ := run_makeSlice_owned (P := Tryz.prog) w w.heap.size 37 5 i0 (.int .u8 0) 1 Tryz.underlying37 hi hz0 hz1 .i64 .i64 4032 (by omega) (by rw [hz2]; omega) (by unfold maxLen; omega) (Nat.le_refl _)
  have hmk' : (Instr.makeSlice 37 (.int .i64 0) (.int .i64 4032)).run Tryz.prog w = .ok (.slice (some ⟨w.heap.size, 0, none⟩) 0 4032) w1 := hmk
  clear hmk hi hz0 hz1 hz2
  have B1 : Below w.heap.size w w1 := (Below.refl _ _).grown hg1 (Nat.le_refl _) (fun k e => by cases e)
  refine callsIn_of_wp_marks Tryz.func295 rfl trivial ?_ rfl
  simp only [Tryz.ntmps295, List.size_toArray, List.length_cons, List.length_nil, Nat.reduceAdd, Nat.reduceSub, Array.replicate_succ, Array.replicate_zero, List.push_toArray, List.append_toArray, List.nil_append, List.cons_append]
  gi_wp2_with fail
  refine ⟨trivial, ?_⟩
  refine (sectors_in 2 _ _ _ _).mono ?_
  rintro r w' ⟨rfl, rfl⟩
  gi_wp2_with fail
  have hlt : w.heap.size < w1.heap.size := by
    obtain ⟨_, cur, q⟩ := owns_block ow1 w.heap.size rfl
    exact q.lt
  have b0 := (Box.new w1 #[.slice (some ⟨w.heap.size, 0, none⟩) 0 4032] 37)
  have b0' := b0.alloc (.cells #[.slice (some ⟨g, o, none⟩) 4096 cap] 37)
  have b1 := Box.new (w1.alloc (.cells #[.slice (some ⟨w.heap.size, 0, none⟩) 0 4032] 37)) #[.slice (some ⟨g, o, none⟩) 4096 cap] 37
  have s1 : (w1.alloc (.cells #[.slice (some ⟨w.heap.size, 0, none⟩) 0 4032] 37)).heap.size = w1.heap.size + 1 := by simp
  rw [s1] at b1
  have B2 := (B1.alloc B1.size (.cells #[.slice (some ⟨w.heap.size, 0, none⟩) 0 4032] 37)).alloc (by simp; omega) (.cells #[.slice (some ⟨g, o, none⟩) 4096 cap] 37)
  have ow2 := owns_grown (owns_grown ow1 (World.grownBy_alloc w1 (.cells #[.slice (some ⟨w.heap.size, 0, none⟩) 0 4032] 37) none) (fun _ _ e => by cases e)) (World.grownBy_alloc _ (.cells #[.slice (some ⟨g, o, none⟩) 4096 cap] 37) none) (fun _ _ e => by cases e)
  obtain ⟨W0, hW0⟩ : ∃ W, W = (w1.alloc (.cells #[.slice (some ⟨w.heap.size, 0, none⟩) 0 4032] 37)).alloc (.cells #[.slice (some ⟨g, o, none⟩) 4096 cap] 37) := ⟨_, rfl⟩
  have s3 : W0.heap.size = w1.heap.size + 2 := by rw [hW0]; simp
  rw [← hW0] at b0' b1 B2 ow2 ⊢
  clear hW0 b0 s1 B1 hmk' ow1 hg1
  obtain ⟨k0, hk0⟩ : ∃ k, k = w1.heap.size := ⟨_, rfl⟩
  rw [← hk0] at b0' b1 s3 hlt ⊢
  clear hk0
  obtain ⟨k1, hk1⟩ : ∃ k, k = k0 + 1 := ⟨_, rfl⟩
  rw [← hk1] at b1 ⊢
  have h01 : k0 < k1 := by omega
  have hs3 : k1 + 1 ≤ W0.heap.size := by omega
  have hs4 : w.heap.size < W0.heap.size := by omega
  clear s3 hk1
  have HL : Hid _ := hl
  clear hl
  refine wpIn_rangeFunc_ownH (α := Fin 8) rfl (by omega) (gf := 268) (lb := #[.pointer (some ⟨k1, 0, none⟩)]) rfl trivial (enters_of Tryz.func268 (by kernel_rfl) rfl)
    (sect_stops (3 - 1) (by omega) k1 g o cap hcap hmax W0 (by omega) (b1.cell 0)) cellK_t (cellK_b (by omega)) (Below.refl _ _) (fun _ => rfl)
    (fun pre W => (∃ v, Box W k0 #[v] 37 ∧ W.ownsRow w.heap.size 5 1 v (pre.length * 504) (bcs (bodyTo xs pre)) ∧ Box W k1 #[.slice (some ⟨g, o, none⟩) 4096 cap] 37) ∧ Below w.heap.size w W)
    (fun c _ W => False ∧ Below w.heap.size w W)
    (OwnFrom.and (Own.from (fun s A B row hs hg hr => by
      obtain ⟨v, a1, a2, a3⟩ := hs
      exact ⟨v, a1.kept hg hr, owns_kept a2 hg hr, a3.kept hg hr⟩) _) (ownFrom_below (Nat.le_refl _) (by omega)))
    (fun c => OwnFrom.and (Own.from (fun s A B row hs hg hr => hs) _) (ownFrom_below (Nat.le_refl _) (by omega)))
    ⟨⟨_, b0', by simpa [bodyTo, bcs] using ow2, b1⟩, B2⟩
    (fun x a' _ => a' = { tmps := #[.slice (some ⟨g, o, none⟩) 4096 cap, undef, .slice none 0 0, .pointer (some ⟨k0, 0, none⟩), .slice (some ⟨g, o + x.val * 512, none⟩) 512 512, .slice (some ⟨w.heap.size, 0, none⟩) 0 4032, .slice (some ⟨g, o, none⟩) 4096 cap, .func (.func 268) #[] #[.pointer (some ⟨k1, 0, none⟩)], .slice (some ⟨g, o + x.val * 512, none⟩) 512 512, undef, undef, undef, undef, undef], defers := [] })
    (fun x a' => ownFrom_pure _ _) ?assign ?body ?done ?stop
  case assign =>
    rintro l pre x W K hI hK
    dsimp only [encS]
    gi_wp2
    exact hK _ _ (KeepsFrom.refl _ _) rfl hI rfl
  case body =>
    rintro l pre x a' W hlw ⟨r, hr1⟩ ⟨⟨v, q2, q3, q4⟩, hB⟩ rfl hlt2
    have HR : Hid _ := bodyOf_round w W k0 k1 _ xs pre v x h01 hlt hB q2 q3 q4
    have hsz1 : w.heap.size ≤ W.drew.heap.size := hB.size
    have hs8 : ((sec xs x.val).drop 8).length = 504 := by have := sec_length xs x.val HL.out x.isLt; simp [this]
    have hr8 : Rd W (some ⟨g, o + x.val * 512 + 8, none⟩) ((sec xs x.val).drop 8) := by
      have := (sec_part (hr.below hB (Nat.le_refl _)) x).part 8 504
      have e : ((sec xs x.val).drop 8).take 504 = (sec xs x.val).drop 8 := List.take_of_length_le (by omega)
      rw [e] at this
      exact this
    have d5 : W.drew.cell? ⟨k0, 0, none⟩ = some v := q2.cell 0
    clear q2 q4
    gi_wp2_with fail
    refine wpIn_region_any (by kernel_rfl) ?_
    change wpAnyIn _ _ _ _ _ _ _ _ _ (World.drew _)
    refine wpAnyIn_ready (rs := [0, 1]) (by kernel_rfl) (by simp) ?_
    refine AllReadyIn.cons rfl (fun K hK2 => ?_) ?_
    · skip
      go_simp
      refine hK2 _ _ ?_
      clear hK2 K
      refine wpAnyIn_ready (rs := [1]) (by kernel_rfl) (by simp) ?_
      refine AllReadyIn.cons rfl (fun K hK2 => ?_) ?_
      · skip
        go_simp
        refine hK2 _ _ ?_
        clear hK2 K
        refine wpAnyIn_ready (rs := [2]) (by kernel_rfl) (by simp) ?_
        refine AllReadyIn.cons rfl (fun K hK2 => ?_) ?_
        · skip
          go_simp
          refine hK2 _ _ ?_
          clear hK2 K
          refine wpAnyIn_ready (rs := [3]) (by kernel_rfl) (by simp) ?_
          refine AllReadyIn.cons rfl (fun K hK2 => ?_) ?_
          · skip
            refine wpIn_append_bytes rfl _ _ rfl w.heap.size v (pre.length * 504) _ rfl (show W.drew.ownsRow _ _ _ _ _ _ from q3) g (o + x.val * 512 + 8) 504 504 ((sec xs x.val).drop 8) rfl hs8 (show Rd W.drew _ _ from hr8) (by omega) hsz1 ?_
            intro v' w2 hown2 hg2
            refine hK2 _ _ ?_
            clear hK2 K
            obtain ⟨e1, e2, e3, e4, e5, e6, e7⟩ := HR.out v' w2 hown2 hg2
            obtain ⟨av, cv, rfl⟩ := owns_shape hown2
            refine wpAnyIn_ready (rs := [4]) (by kernel_rfl) (by simp) ?_
            refine AllReadyIn.cons rfl (fun K hK2 => ?_) ?_
            · skip
              go_simp
              refine hK2 _ _ ?_
              clear hK2 K
              refine wpAnyIn_done (by kernel_rfl) ?_ _
              gi_wp2
              exact ⟨e3.from _, World.cell?_of_block (a := ⟨k1, 0, none⟩) e4, ⟨⟨_, e5, e6⟩, e7⟩⟩
            exact AllReadyIn.nil
          exact AllReadyIn.nil
        exact AllReadyIn.nil
      exact AllReadyIn.nil
    refine AllReadyIn.cons rfl (fun K hK2 => ?_) ?_
    · skip
      go_simp
      refine hK2 _ _ ?_
      clear hK2 K
      refine wpAnyIn_ready (rs := [0, 2]) (by kernel_rfl) (by simp) ?_
      refine AllReadyIn.cons rfl (fun K hK2 => ?_) ?_
      · skip
        go_simp
        refine hK2 _ _ ?_
        clear hK2 K
        refine wpAnyIn_ready (rs := [2]) (by kernel_rfl) (by simp) ?_
        refine AllReadyIn.cons rfl (fun K hK2 => ?_) ?_
        · skip
          go_simp
          refine hK2 _ _ ?_
          clear hK2 K
          refine wpAnyIn_ready (rs := [3]) (by kernel_rfl) (by simp) ?_
          refine AllReadyIn.cons rfl (fun K hK2 => ?_) ?_
          · skip
            refine wpIn_append_bytes rfl _ _ rfl w.heap.size v (pre.length * 504) _ rfl (show W.drew.ownsRow _ _ _ _ _ _ from q3) g (o + x.val * 512 + 8) 504 504 ((sec xs x.val).drop 8) rfl hs8 (show Rd W.drew _ _ from hr8) (by omega) hsz1 ?_
            intro v' w2 hown2 hg2
            refine hK2 _ _ ?_
            clear hK2 K
            obtain ⟨e1, e2, e3, e4, e5, e6, e7⟩ := HR.out v' w2 hown2 hg2
            obtain ⟨av, cv, rfl⟩ := owns_shape hown2
            refine wpAnyIn_ready (rs := [4]) (by kernel_rfl) (by simp) ?_
            refine AllReadyIn.cons rfl (fun K hK2 => ?_) ?_
            · skip
              go_simp
              refine hK2 _ _ ?_
              clear hK2 K
              refine wpAnyIn_done (by kernel_rfl) ?_ _
              gi_wp2
              exact ⟨e3.from _, World.cell?_of_block (a := ⟨k1, 0, none⟩) e4, ⟨⟨_, e5, e6⟩, e7⟩⟩
            exact AllReadyIn.nil
          exact AllReadyIn.nil
        exact AllReadyIn.nil
      refine AllReadyIn.cons rfl (fun K hK2 => ?_) ?_
      · skip
        go_simp
        refine hK2 _ _ ?_
        clear hK2 K
        refine wpAnyIn_ready (rs := [0]) (by kernel_rfl) (by simp) ?_
        refine AllReadyIn.cons rfl (fun K hK2 => ?_) ?_
        · skip
          go_simp
          refine hK2 _ _ ?_
          clear hK2 K
          refine wpAnyIn_ready (rs := [3]) (by kernel_rfl) (by simp) ?_
          refine AllReadyIn.cons rfl (fun K hK2 => ?_) ?_
          · skip
            refine wpIn_append_bytes rfl _ _ rfl w.heap.size v (pre.length * 504) _ rfl (show W.drew.ownsRow _ _ _ _ _ _ from q3) g (o + x.val * 512 + 8) 504 504 ((sec xs x.val).drop 8) rfl hs8 (show Rd W.drew _ _ from hr8) (by omega) hsz1 ?_
            intro v' w2 hown2 hg2
            refine hK2 _ _ ?_
            clear hK2 K
            obtain ⟨e1, e2, e3, e4, e5, e6, e7⟩ := HR.out v' w2 hown2 hg2
            obtain ⟨av, cv, rfl⟩ := owns_shape hown2
            refine wpAnyIn_ready (rs := [4]) (by kernel_rfl) (by simp) ?_
            refine AllReadyIn.cons rfl (fun K hK2 => ?_) ?_
            · skip
              go_simp
              refine hK2 _ _ ?_
              clear hK2 K
              refine wpAnyIn_done (by kernel_rfl) ?_ _
              gi_wp2
              exact ⟨e3.from _, World.cell?_of_block (a := ⟨k1, 0, none⟩) e4, ⟨⟨_, e5, e6⟩, e7⟩⟩
            exact AllReadyIn.nil
          exact AllReadyIn.nil
        exact AllReadyIn.nil
      exact AllReadyIn.nil
    exact AllReadyIn.nil
  case done =>
    rintro D' ys W hD rfl ⟨⟨v, q2, q3, q4⟩, hB⟩ hK
    have d0 := q2.cell 0
    have e8 : (List.finRange 8).length * 504 = 4032 := by simp
    rw [e8] at q3
    obtain ⟨av, cv, rfl⟩ := owns_shape q3
    gi_wp2
    refine ⟨by simp, .inl ⟨_, _, rfl, run_takeDeferred hK, ?_⟩⟩
    exact ⟨_, by simp [results, Tryz.f295, go_sem], _, rfl, owns_kept q3 (grownBy_putObj' _ D' (.deferred none)) (fun r e => by cases e; exact ⟨_, hK, rfl⟩), hB.trans (belowK_b (w := w) (Nat.le_refl _) _ D' _ _ (by omega) hK rfl rfl)⟩
  case stop =>
    rintro D' c pre W hD _ ⟨hf, _⟩ hK
    exact hf.elim
end Go.Proofs.YtnldkpckojhbhaaGreat.Rc

/-
  getHeading.
-/
namespace Go.Proofs.YtnldkpckojhbhaaGreat.Rc
open Go.RowKit

/-- what a block says, were it a head -/
def saidE (xs : List UInt8) : Nat := beNat (xs.take 8) / 1099511627776
def saidS (xs : List UInt8) : Nat := beNat (xs.take 8) % 1099511627776
def bodyX (xs : List UInt8) : List UInt8 := bodyTo xs (List.finRange 8)
def saidEs (xs : List UInt8) : List (Nat × List UInt8) := if cntOf (bodyX xs) ≤ 32 then entsOf (bodyX xs) (cntOf (bodyX xs)) else []
/-- is it a head? -/
def isHead (xs : List UInt8) : Prop := xs.length = 4096 ∧ okHead (saidE xs) (saidS xs) ((saidEs xs).map fun e => (e.1 : Int)) ∧ xs = headB (saidE xs) (saidS xs) (saidEs xs)

theorem bodyX_length (xs : List UInt8) (hl : xs.length = 4096) : (bodyX xs).length = 4032 := by
  unfold bodyX bodyTo
  have : ∀ pre : List (Fin 8), (pre.flatMap fun x => (sec xs x.val).drop 8).length = pre.length * 504 := by
    intro pre
    induction pre with
    | nil => rfl
    | cons x pre ih =>
      have := sec_length xs x.val hl x.isLt
      rw [List.flatMap_cons, List.length_append, ih, List.length_drop, this, List.length_cons]
      omega
  rw [this]
  simp

theorem be8_lt (l : List UInt8) : beNat (l.take 8) < 18446744073709551616 := beNat_take_lt l 8 (by omega)

/-- entries that lie in blocks from B on -/
def EntsB (B : Nat) (w : World) (a : Option Addr) (es : List (Nat × List UInt8)) : Prop :=
  Ents w a es ∧ (0 < es.length → ∀ b o, a = some ⟨b, o, none⟩ → B ≤ b ∧ ∀ j, j < es.length → ∀ g q c, w.cell? ⟨b, o + j * 2 + 1, none⟩ = some (.slice (some ⟨g, q, none⟩) 64 c) → B ≤ g)
theorem EntsB.below {B : Nat} {w w' : World} {a : Option Addr} {es : List (Nat × List UInt8)} (h : EntsB B w a es) (hb : Below w.heap.size w w') : EntsB B w' a es := by
  refine ⟨h.1.below hb, fun hp b o ha => ?_⟩
  obtain ⟨h1, h2⟩ := h.2 hp b o ha
  refine ⟨h1, fun j hj g q c hc => h2 j hj g q c ?_⟩
  obtain ⟨b', o', ha', hc'⟩ := h.1 hp
  rw [ha] at ha'
  cases ha'
  have hlt : b < w.heap.size := block_lt_of_cell (hc' j hj).1
  rw [← hb.cell (p := ⟨b, o + j * 2 + 1, none⟩) hlt]
  exact hc
theorem EntsB.store {B x i : Nat} {w : World} {a : Option Addr} {es : List (Nat × List UInt8)} {u : Value} (h : EntsB B w a es) (hx : x < B) : EntsB B (w.setCell ⟨x, i, none⟩ u) a es := by
  have hup : Upd (fun k => k = x) w (w.setCell ⟨x, i, none⟩ u) := Upd.setCell (g := x) (Upd.refl (fun k => k = x) w) (.inl rfl) u
  have hcell : ∀ b k, B ≤ b → (w.setCell ⟨x, i, none⟩ u).cell? ⟨b, k, none⟩ = w.cell? ⟨b, k, none⟩ := fun b k hb => World.cell?_of_block (a := ⟨b, k, none⟩) (heap_setCell_other w ⟨x, i, none⟩ b u (by show b ≠ x; omega))
  refine ⟨fun hp => ?_, fun hp b o ha => ?_⟩
  · obtain ⟨b, o, ha, hc⟩ := h.1 hp
    obtain ⟨h1, h2⟩ := h.2 hp b o ha
    refine ⟨b, o, ha, fun j hj => ?_⟩
    obtain ⟨q1, g, q, c, q2, q3, q4, q5, q6⟩ := hc j hj
    have hg := h2 j hj g q c q2
    exact ⟨(hcell _ _ h1).trans q1, g, q, c, (hcell _ _ h1).trans q2, q3, q4, q5, q6.upd hup (by show ¬ g = x; omega)⟩
  · obtain ⟨h1, h2⟩ := h.2 hp b o ha
    exact ⟨h1, fun j hj g q c hc => h2 j hj g q c ((hcell _ _ h1).symm.trans hc)⟩

/-- what getHeading tells -/
def GetH (w : World) (xs : List UInt8) (r : Ending) (w' : World) : Prop :=
  (isHead xs ∧ ∃ a c, r = .returned (.tuple #[.agg #[.int .i64 (saidE xs : Int), .int .i64 (saidS xs : Int), .slice a (saidEs xs).length c], .bool true]) ∧ Ents w' a (saidEs xs) ∧ Below w.heap.size w w') ∨
  (¬ isHead xs ∧ r = .returned (.tuple #[.agg #[.int .i64 0, .int .i64 0, .slice none 0 0], .bool false]) ∧ Below w.heap.size w w')

set_option maxRecDepth 100000 in
theorem getHeading_short (a : Option Addr) (n cap : Nat) (xs : List UInt8) (w : World) (hl : xs.length = n) (hn : n ≠ 4096) :
    Calls Tryz.prog 290 #[.slice a n cap] w (GetH w xs) := by
  have hne : ((n : Int) != 4096) = true := by simp; omega
  have hno : Hid (¬ isHead xs) := fun h => hn (by rw [← hl]; exact h.1)
  have b0 := Box.new w #[.int .i64 0, .int .i64 0, .slice none 0 0] 250
  have y0 := b0.cell 0
  have y1 := b0.cell 1
  have y2 := b0.cell 2
  have B0 := (Below.refl w.heap.size w).alloc (Nat.le_refl _) (.cells #[.int .i64 0, .int .i64 0, .slice none 0 0] 250)
  clear hl
  go_enter Tryz.func290, Tryz.ntmps290
  go_wp2
  refine bodyPost_ret (v := .tuple #[.agg #[.int .i64 0, .int .i64 0, .slice none 0 0], .bool false]) (by simp [results, Tryz.results290, go_sem]) rfl ?_
  exact .inr ⟨hno.out, rfl, B0⟩

set_option maxRecDepth 100000 in
set_option maxHeartbeats 4000000 in
theorem getHeading_in (g o cap : Nat) (xs : List UInt8) (w : World) (hl : xs.length = 4096) (hcap : 4096 ≤ cap) (hmax : cap ≤ 9223372036854775807) (hr : Rd w (some ⟨g, o, none⟩) xs) :
    Calls Tryz.prog 290 #[.slice (some ⟨g, o, none⟩) 4096 cap] w (GetH w xs) := by
  have n8 : numAt xs 0 8 = some (beNat (xs.take 8)) := by have := numAt_some (xs := xs) (k := 0) (size := 8) (by omega); simpa using this
  have B0 := (Below.refl w.heap.size w).alloc (Nat.le_refl _) (.cells #[.int .i64 0, .int .i64 0, .slice none 0 0] 250)
  have b0 := Box.new w #[.int .i64 0, .int .i64 0, .slice none 0 0] 250
  have cU : ∀ u, Below w.heap.size w u → _ := fun u hb => u64_at cap 4096 (some ⟨g, o, none⟩) xs 0 (beNat (xs.take 8)) _ u rfl hl (by omega) (hr.below hb (Nat.le_refl _)) n8
  have cB : ∀ u, Below w.heap.size w u → _ := fun u hb => bodyOf_in g o cap xs u hl hcap hmax (hr.below hb (Nat.le_refl _))
  have hv := be8_lt xs
  have cS : ∀ u, _ := fun u => unstamp_at (beNat (xs.take 8)) _ u rfl hv
  have HE : Hid (saidE xs = beNat (xs.take 8) / 1099511627776) := rfl
  have HS : Hid (saidS xs = beNat (xs.take 8) % 1099511627776) := rfl
  rw [← HE.out, ← HS.out] at cS
  have hbl := bodyX_length xs hl
  have HBX : Hid (bodyTo xs (List.finRange 8) = bodyX xs) := rfl
  rw [HBX.out] at cB
  have HEs : Hid (saidEs xs = if cntOf (bodyX xs) ≤ 32 then entsOf (bodyX xs) (cntOf (bodyX xs)) else []) := rfl
  have HIS : Hid (isHead xs ↔ okHead (saidE xs) (saidS xs) ((saidEs xs).map fun e => (e.1 : Int)) ∧ xs = headB (saidE xs) (saidS xs) (saidEs xs)) := ⟨fun h => h.2, fun h => ⟨hl, h⟩⟩
  have HL : Hid _ := hl
  unfold GetH
  generalize isHead xs = IS at HIS ⊢
  generalize saidE xs = E at cS HIS HE ⊢
  generalize saidS xs = S at cS HIS HS ⊢
  generalize saidEs xs = es at HIS HEs ⊢
  generalize bodyX xs = BB at cB hbl HEs
  generalize beNat (xs.take 8) = v at cU cS hv
  clear n8 hl HBX
  go_enter Tryz.func290, Tryz.ntmps290
  go_wp2_with fail
  refine (cU _ B0).mono ?_
  rintro r w' ⟨rfl, rfl⟩
  clear cU
  go_wp2_with fail
  refine (cB _ B0).mono ?_
  rintro r w1 ⟨vb, rfl, ob, hb1⟩
  clear cB
  replace b0 := b0.below hb1
  have B1 := B0.trans (hb1.mono B0.size)
  obtain ⟨gb, cb, rfl, hgb, rb⟩ := RowB.owns ob (by omega)
  have hgb1 : w.heap.size + 1 ≤ gb := by have : (w.alloc (.cells #[.int .i64 0, .int .i64 0, .slice none 0 0] 250)).heap.size = w.heap.size + 1 := by simp
                                         omega
  have hw11 : w.heap.size + 1 ≤ w1.heap.size := by have : (w.alloc (.cells #[.int .i64 0, .int .i64 0, .slice none 0 0] 250)).heap.size = w.heap.size + 1 := by simp
                                                   have := hb1.size
                                                   omega
  have hcb : 4032 ≤ cb ∧ cb ≤ 9223372036854775807 := by
    obtain ⟨cur, _, q1, q2, _⟩ := rb
    unfold maxLen at q2
    omega
  have c52 : Calls Tryz.prog 294 #[.slice (some ⟨gb, 0, none⟩) 4032 cb] w1 fun r w' => ∃ a c, r = .returned (.slice a es.length c) ∧ EntsB (w.heap.size + 1) w' a es ∧ Below w1.heap.size w1 w' := by
    by_cases hc : cntOf BB ≤ 32
    · refine (entriesOf_in gb 0 cb BB w1 hbl hcb.1 hcb.2 rb.rd hc).mono ?_
      rintro r w' ⟨v', rfl, ow, hb'⟩
      obtain ⟨a, c, rfl, hE⟩ := entsOf_ents hbl hcb.1 hcb.2 (rb.rd.below hb' (Nat.le_refl _)) hc ow
      have e1 : es = entsOf BB (cntOf BB) := by rw [HEs.out, if_pos hc]
      refine ⟨a, c, by rw [e1, entsOf_length], ⟨by rw [e1]; exact hE, fun hp b o ha => ?_⟩, hb'⟩
      subst ha
      obtain ⟨z1, _⟩ := owns_block ow b rfl
      refine ⟨by omega, fun j hj g' q c' hc' => ?_⟩
      rw [e1, entsOf_length] at hj
      obtain ⟨_, y2⟩ := entCells_at BB gb 0 cb (cntOf BB) j hj
      have k2 := ow.cells (g := b) rfl _ _ y2
      rw [Addr.add_lit] at k2
      have ho0 : o = 0 := by
        rcases ow.2 with ⟨hv, _⟩ | ⟨gv, cap', cur, hv, _⟩
        · simp at hv
        · have := (Value.slice.inj hv).1
          simp at this
          exact this.2
      subst ho0
      rw [Nat.add_assoc, k2] at hc'
      simp at hc'
      omega
    · refine (entriesOf_many gb 0 cb BB w1 hbl rb.rd (by omega)).mono ?_
      rintro r w' ⟨rfl, rfl⟩
      have e1 : es = [] := by rw [HEs.out, if_neg hc]
      exact ⟨none, 0, by rw [e1]; rfl, ⟨by rw [e1]; intro h; simp at h, by rw [e1]; intro h; simp at h⟩, Below.refl _ _⟩
  clear ob hcb hgb rb
  go_wp2_with fail
  refine c52.mono ?_
  rintro r w2 ⟨a, c, rfl, hEn, hb2⟩
  clear c52
  replace b0 := b0.below hb2
  have B2 := B1.trans (hb2.mono B1.size)
  have hlt2 := b0.lt
  have bh := Box.new w2 #[.int .i64 0, .int .i64 0, .slice a es.length c] 250
  have al := (Below.refl w2.heap.size w2).alloc (Nat.le_refl _) (.cells #[.int .i64 0, .int .i64 0, .slice a es.length c] 250)
  obtain ⟨w3, hw3⟩ : ∃ x, x = w2.alloc (.cells #[.int .i64 0, .int .i64 0, .slice a es.length c] 250) := ⟨_, rfl⟩
  have HW3 : Hid _ := hw3
  obtain ⟨hb, hhb⟩ : ∃ x, x = w2.heap.size := ⟨_, rfl⟩
  have HHB : Hid _ := hhb
  rw [← hw3] at bh al
  rw [← hhb] at bh
  have hbge : w2.heap.size ≤ hb := Nat.le_of_eq hhb.symm
  clear hw3 hhb
  go_wp2_with fail
  rw [← HW3.out, ← HHB.out]
  refine (cS w3).mono ?_
  rintro r w' ⟨rfl, rfl⟩
  clear cS
  have d0 := bh.cell 0
  have f0 := bh.frozen 0
  have bh1 : Box (w3.setCell ⟨hb, 0, none⟩ (.int .i64 (E : Int))) hb #[.int .i64 (E : Int), .int .i64 0, .slice a es.length c] 250 := by have := bh.store 0 (.int .i64 (E : Int)); simpa using this
  have d1 := bh1.cell 1
  have f1 := bh1.frozen 1
  have bh2 : Box ((w3.setCell ⟨hb, 0, none⟩ (.int .i64 (E : Int))).setCell ⟨hb, 1, none⟩ (.int .i64 (S : Int))) hb #[.int .i64 (E : Int), .int .i64 (S : Int), .slice a es.length c] 250 := by have := bh1.store 1 (.int .i64 (S : Int)); simpa using this
  have al2 := (al.setCell (p := ⟨hb, 0, none⟩) hbge (.int .i64 (E : Int))).setCell (p := ⟨hb, 1, none⟩) hbge (.int .i64 (S : Int))
  obtain ⟨w4, hw4⟩ : ∃ x, x = (w3.setCell ⟨hb, 0, none⟩ (.int .i64 (E : Int))).setCell ⟨hb, 1, none⟩ (.int .i64 (S : Int)) := ⟨_, rfl⟩
  have HW4 : Hid _ := hw4
  rw [← hw4] at bh2 al2
  clear hw4 al bh
  have c0 := bh2.cell 0
  have c1 := bh2.cell 1
  have c2 := bh2.cell 2
  have c0' : ((w3.setCell ⟨hb, 0, none⟩ (.int .i64 (E : Int))).setCell ⟨hb, 1, none⟩ (.int .i64 (S : Int))).cell? ⟨hb, 0, none⟩ = some (.int .i64 (E : Int)) := by rw [← HW4.out]; exact c0
  have c1' : ((w3.setCell ⟨hb, 0, none⟩ (.int .i64 (E : Int))).setCell ⟨hb, 1, none⟩ (.int .i64 (S : Int))).cell? ⟨hb, 1, none⟩ = some (.int .i64 (S : Int)) := by rw [← HW4.out]; exact c1
  have c2' : ((w3.setCell ⟨hb, 0, none⟩ (.int .i64 (E : Int))).setCell ⟨hb, 1, none⟩ (.int .i64 (S : Int))).cell? ⟨hb, 2, none⟩ = some (.slice a es.length c) := by rw [← HW4.out]; exact c2
  have cR := rightHeading_at (E : Int) (S : Int) a es.length c (es.map fun e => (e.1 : Int)) w4 (by simp) (hEn.below al2).1.blks
  go_wp2_with fail
  rw [← HW4.out]
  refine cR.mono ?_
  rintro r w5 ⟨q, rfl, hq, hb5⟩
  clear cR c0' c1' c2' d0 f0 d1 f1 bh1
  have bh5 := bh2.below hb5
  have al5 := al2.trans (hb5.mono al2.size)
  have b05 := b0.below al5
  have hE5 := hEn.below al5
  have B5 := B2.trans (al5.mono B2.size)
  have e0 := bh5.cell 0
  have e1 := bh5.cell 1
  have e2 := bh5.cell 2
  have r0 := b05.cell 0
  have r1 := b05.cell 1
  have r2 := b05.cell 2
  cases q with
  | false =>
    have hno : Hid (¬ IS) := fun h => by
      have := hq.2 (HIS.out.1 h).1
      cases this
    clear hq
    have fr0 := b05.frozen 0
    have fr1 := b05.frozen 1
    have fr2 := b05.frozen 2
    go_wp2
    refine bodyPost_ret (v := .tuple #[.agg #[.int .i64 0, .int .i64 0, .slice none 0 0], .bool false]) (by simp [results, Tryz.results290, go_sem, r0, r1, r2]) rfl ?_
    exact .inr ⟨hno.out, rfl, ((B5.setCell (p := ⟨w.heap.size, 0, none⟩) (by simp) _).setCell (p := ⟨w.heap.size, 1, none⟩) (by simp) _).setCell (p := ⟨w.heap.size, 2, none⟩) (by simp) _⟩
  | true =>
    have hok := hq.1 rfl
    clear hq
    obtain ⟨hk1, hk2, hk3⟩ := hok
    have hEb := (okStamp_iff _ _).1 hk1
    have hln : 0 < es.length ∧ es.length ≤ 32 := by have := hk2; rw [List.length_map] at this; omega
    have hbl5 : ∀ x ∈ es, x.1 ≤ 511 := fun x hx => by
      obtain ⟨j, hj, rfl⟩ := List.getElem_of_mem hx
      have h7 := (hk3 j (by simpa using hj) (by simpa using hj)).1
      rw [List.getElem_map] at h7
      have := h7.2
      omega
    have cP := putHeading_in E S a es.length c es w5 (by omega) (by omega) rfl hln.1 hln.2 hE5.1 hbl5
    have HOK : Hid _ := (⟨hk1, hk2, hk3⟩ : okHead (E : Int) (S : Int) (es.map fun e => (e.1 : Int)))
    have HB5 : Hid _ := hbl5
    clear hk1 hk2 hk3 hEb hln hbl5
    go_wp2_with fail
    refine cP.mono ?_
    rintro r w6 ⟨h, rfl, hh, rh, hb6⟩
    clear cP
    have B6 := B5.trans (hb6.mono B5.size)
    have hHl : (headB E S es).length = 4096 := by
      obtain ⟨cur, _, _, _, _, ht⟩ := rh
      unfold headB
      refine putTo_length _ _ _ (nought_length _) (mark_length _ _) ?_ _ (by simp)
      exact bodyB_length es (fun x hx => by
        obtain ⟨j, hj, rfl⟩ := List.getElem_of_mem hx
        obtain ⟨b, o, _, hc⟩ := hE5.1 (by omega)
        obtain ⟨_, _, _, _, _, _, _, q, _⟩ := hc j hj
        exact q) (by have := HOK.out.2.1.2; simpa using this)
    have cQ := equal_at cap 4096 4096 4096 (some ⟨g, o, none⟩) (some ⟨h, 0, none⟩) xs (headB E S es) w6 HL.out hHl (hr.below B6 (Nat.le_refl _)) rh.rd
    have b06 := b05.below hb6
    have bh6 := bh5.below hb6
    have hE6 := hE5.below hb6
    clear rh hh
    have r0' := b06.cell 0
    have r1' := b06.cell 1
    have r2' := b06.cell 2
    have fr0 := b06.frozen 0
    have fr1 := b06.frozen 1
    have fr2 := b06.frozen 2
    have z0 := bh6.cell 0
    have z1 := bh6.cell 1
    have z2 := bh6.cell 2
    by_cases hx : xs = headB E S es
    · have hqq : (xs == headB E S es) = true := by simpa using hx
      rw [hqq] at cQ
      have hyes : Hid IS := HIS.out.2 ⟨HOK.out, hx⟩
      clear hqq hx
      have st0 : Box (w6.setCell ⟨w.heap.size, 0, none⟩ (.int .i64 (E : Int))) w.heap.size #[.int .i64 (E : Int), .int .i64 0, .slice none 0 0] 250 := by have := b06.store 0 (.int .i64 (E : Int)); simpa using this
      have st1 : Box ((w6.setCell ⟨w.heap.size, 0, none⟩ (.int .i64 (E : Int))).setCell ⟨w.heap.size, 1, none⟩ (.int .i64 (S : Int))) w.heap.size #[.int .i64 (E : Int), .int .i64 (S : Int), .slice none 0 0] 250 := by have := st0.store 1 (.int .i64 (S : Int)); simpa using this
      have st2 : Box (((w6.setCell ⟨w.heap.size, 0, none⟩ (.int .i64 (E : Int))).setCell ⟨w.heap.size, 1, none⟩ (.int .i64 (S : Int))).setCell ⟨w.heap.size, 2, none⟩ (.slice a es.length c)) w.heap.size #[.int .i64 (E : Int), .int .i64 (S : Int), .slice a es.length c] 250 := by have := st1.store 2 (.slice a es.length c); simpa using this
      have g1 := st0.frozen 1
      have g2 := st1.frozen 2
      have g1c := st0.cell 1
      have g2c := st1.cell 2
      have m0 := st2.cell 0
      have m1 := st2.cell 1
      have m2 := st2.cell 2
      have B7 := ((B6.setCell (p := ⟨w.heap.size, 0, none⟩) (by simp) (.int .i64 (E : Int))).setCell (p := ⟨w.heap.size, 1, none⟩) (by simp) (.int .i64 (S : Int))).setCell (p := ⟨w.heap.size, 2, none⟩) (by simp) (.slice a es.length c)
      go_wp2_with fail
      refine cQ.mono ?_
      rintro r w' ⟨rfl, rfl⟩
      clear cQ
      have hE7 : Ents _ a es := (((hE6.store (x := w.heap.size) (i := 0) (u := .int .i64 (E : Int)) (by omega)).store (x := w.heap.size) (i := 1) (u := .int .i64 (S : Int)) (by omega)).store (x := w.heap.size) (i := 2) (u := .slice a es.length c) (by omega)).1
      go_wp2
      refine bodyPost_ret (v := .tuple #[.agg #[.int .i64 (E : Int), .int .i64 (S : Int), .slice a es.length c], .bool true]) (by simp [results, Tryz.results290, go_sem, m0, m1, m2]) rfl ?_
      exact .inl ⟨hyes.out, a, c, rfl, hE7, B7⟩
    · have hqq : (xs == headB E S es) = false := by simpa using hx
      rw [hqq] at cQ
      have hno : Hid (¬ IS) := fun h => hx (HIS.out.1 h).2
      clear hqq hx
      go_wp2_with fail
      refine cQ.mono ?_
      rintro r w' ⟨rfl, rfl⟩
      clear cQ
      go_wp2
      refine bodyPost_ret (v := .tuple #[.agg #[.int .i64 0, .int .i64 0, .slice none 0 0], .bool false]) (by simp [results, Tryz.results290, go_sem, r0', r1', r2']) rfl ?_
      exact .inr ⟨hno.out, rfl, ((B6.setCell (p := ⟨w.heap.size, 0, none⟩) (by simp) _).setCell (p := ⟨w.heap.size, 1, none⟩) (by simp) _).setCell (p := ⟨w.heap.size, 2, none⟩) (by simp) _⟩
end Go.Proofs.YtnldkpckojhbhaaGreat.Rc

/-
  unhide.
-/
namespace Go.Proofs.YtnldkpckojhbhaaGreat.Rc
open Go.RowKit Go.Shelf
attribute [local go_sem] Oper.semAt_some

/-- what was hidden laid back, sector by sector -/
def unhideStep (H : List UInt8) (st : List UInt8 × Nat) (x : Fin 8) : List UInt8 × Nat := (over st.1 (x.val * 512) ((H.drop (st.2 * 8)).take 8), st.2 + 1)
def unhideTo (xs H : List UInt8) (pre : List (Fin 8)) : List UInt8 × Nat := pre.foldl (unhideStep H) (xs, 0)
theorem unhideTo_snoc (xs H : List UInt8) (pre : List (Fin 8)) (x : Fin 8) : unhideTo xs H (pre ++ [x]) = unhideStep H (unhideTo xs H pre) x := by simp [unhideTo]
theorem unhideTo_two (xs H : List UInt8) (pre : List (Fin 8)) : (unhideTo xs H pre).2 = pre.length := by
  unfold unhideTo
  have : ∀ (pre : List (Fin 8)) (st : List UInt8 × Nat), (pre.foldl (unhideStep H) st).2 = st.2 + pre.length := by
    intro pre
    induction pre with
    | nil => intro st; rfl
    | cons x pre ih =>
      intro st
      rw [List.foldl_cons, ih]
      simp [unhideStep]
      omega
  rw [this]
  simp
theorem unhideTo_length (xs H : List UInt8) (hl : xs.length = 4096) (pre : List (Fin 8)) : (unhideTo xs H pre).1.length = 4096 := by
  unfold unhideTo
  have : ∀ (pre : List (Fin 8)) (st : List UInt8 × Nat), st.1.length = 4096 → (pre.foldl (unhideStep H) st).1.length = 4096 := by
    intro pre
    induction pre with
    | nil => intro st h; exact h
    | cons x pre ih =>
      intro st h
      have hx := x.isLt
      rw [List.foldl_cons]
      refine ih _ ?_
      unfold unhideStep
      rw [over_length _ _ _ (by rw [h]; simp; omega)]
      exact h
  exact this pre _ hl

/-- what stands in memory while the sectors come -/
def UnhideI (w : World) (h c gm om cm : Nat) (d : List UInt8) (k : Nat) (W : World) : Prop :=
  RowB W h c d ∧ (∃ o', Box W w.heap.size #[.slice (some ⟨gm, o', none⟩) (64 - k * 8) (cm - k * 8)] 37 ∧ (k < 8 → o' = om + k * 8))

set_option maxRecDepth 100000 in
set_option maxHeartbeats 4000000 in
theorem unhide_in (g o cap gm om cm : Nat) (xs H : List UInt8) (w : World) (hl : xs.length = 4096) (hr : Rd w (some ⟨g, o, none⟩) xs) (hHl : H.length = 64) (hcm0 : 64 ≤ cm) (hcmax : cm ≤ 9223372036854775807) (hH : Rd w (some ⟨gm, om, none⟩) H) :
    Calls Tryz.prog 292 #[.slice (some ⟨g, o, none⟩) 4096 cap, .slice (some ⟨gm, om, none⟩) 64 cm] w fun r w' => ∃ h c, r = .returned (.slice (some ⟨h, 0, none⟩) 4096 c) ∧ w.heap.size ≤ h ∧
      RowB w' h c (unhideTo xs H (List.finRange 8)).1 ∧ Below w.heap.size w w' := by
  refine (callsIn_wide (n := 3)).1 ?_
  have c1 : ∀ u, Below w.heap.size w u → _ := fun u hb => clone_at cap 4096 g o xs u hl (by omega) (by omega) (hr.below hb (Nat.le_refl _))
  refine callsIn_of_wp_marks Tryz.func292 rfl trivial ?_ rfl
  simp only [Tryz.ntmps292, List.size_toArray, List.length_cons, List.length_nil, Nat.reduceAdd, Nat.reduceSub, Array.replicate_succ, Array.replicate_zero, List.push_toArray, List.append_toArray, List.nil_append, List.cons_append]
  gi_wp2_with fail
  refine ⟨trivial, ?_⟩
  refine ((callsIn_wide (n := 2)).2 (c1 _ ((Below.refl _ w).alloc (Nat.le_refl _) _))).mono ?_
  rintro r w1 ⟨h, c, rfl, hh, hrow, hb1⟩
  gi_wp2_with fail
  refine ⟨trivial, ?_⟩
  refine (sectors_in 2 _ _ _ _).mono ?_
  rintro r w' ⟨rfl, rfl⟩
  gi_wp2_with fail
  have bN := Box.new w #[.slice (some ⟨gm, om, none⟩) 64 cm] 37
  have s1 : (w.alloc (.cells #[.slice (some ⟨gm, om, none⟩) 64 cm] 37)).heap.size = w.heap.size + 1 := by simp
  rw [s1] at hh hb1
  have B0 := (Below.refl w.heap.size w).alloc (Nat.le_refl _) (.cells #[.slice (some ⟨gm, om, none⟩) 64 cm] 37)
  have B1 : Below w.heap.size w w1 := B0.trans (hb1.mono (by omega))
  have bN1 : Box w1 w.heap.size #[.slice (some ⟨gm, om, none⟩) 64 cm] 37 := (hb1.block _ (by omega)).trans bN
  have hlt := hrow.lt
  have hcm : 4096 ≤ c ∧ c ≤ 9223372036854775807 := by
    obtain ⟨cur, _, q1, q2, _⟩ := hrow
    unfold maxLen at q2
    omega
  have bS := Box.new w1 #[.slice (some ⟨h, 0, none⟩) 4096 c] 37
  have bN2 := bN1.alloc (.cells #[.slice (some ⟨h, 0, none⟩) 4096 c] 37)
  have rw2 : RowB (w1.alloc (.cells #[.slice (some ⟨h, 0, none⟩) 4096 c] 37)) h c xs := hrow.same (Below.heap_alloc w1 _ h hlt)
  have B2 := B1.alloc B1.size (.cells #[.slice (some ⟨h, 0, none⟩) 4096 c] 37)
  obtain ⟨W0, hW0⟩ : ∃ W, W = w1.alloc (.cells #[.slice (some ⟨h, 0, none⟩) 4096 c] 37) := ⟨_, rfl⟩
  have s3 : W0.heap.size = w1.heap.size + 1 := by rw [hW0]; simp
  rw [← hW0] at bS bN2 rw2 B2 ⊢
  clear hW0 bN s1 B0 hb1 bN1 hrow
  obtain ⟨k1, hk1⟩ : ∃ k, k = w1.heap.size := ⟨_, rfl⟩
  rw [← hk1] at bS s3 hlt ⊢
  clear hk1 B1 c1
  have hs3 : k1 + 1 ≤ W0.heap.size := by omega
  have hs4 : w.heap.size < W0.heap.size := by omega
  have S3 : Hid _ := s3
  clear s3
  have HHL : Hid _ := hHl
  have HL : Hid _ := hl
  clear hHl hl
  have Hh : Hid _ := hh
  clear hh
  obtain ⟨hc1, hc2⟩ := hcm
  have z1 : 64 - 0 * 8 = 64 := rfl
  have z2 : cm - 0 * 8 = cm := by omega
  refine wpIn_rangeFunc_ownH (α := Fin 8) rfl (by omega) (gf := 268) (lb := #[.pointer (some ⟨k1, 0, none⟩)]) rfl trivial (enters_of Tryz.func268 (by kernel_rfl) rfl)
    (sect_stops (3 - 1) (by omega) k1 h 0 c hc1 hc2 W0 (by omega) (bS.cell 0)) cellK_t (cellK_b (by omega)) (Below.refl _ _) (fun _ => rfl)
    (fun pre W => (UnhideI w h c gm om cm (unhideTo xs H pre).1 pre.length W ∧ k1 + 1 ≤ W.heap.size) ∧ Below w.heap.size w W)
    (fun c _ W => False ∧ Below w.heap.size w W)
    (OwnFrom.and (Own.from (fun s A B row hs hg hr => by
      obtain ⟨⟨a1, o', a2, a3⟩, a5⟩ := hs
      exact ⟨⟨a1.kept hg hr, o', a2.kept hg hr, a3⟩, Nat.le_trans a5 hg.size⟩) _) (ownFrom_below (Nat.le_refl _) (by omega)))
    (fun c => OwnFrom.and (Own.from (fun s A B row hs hg hr => hs) _) (ownFrom_below (Nat.le_refl _) (by omega)))
    ⟨⟨⟨rw2, om, by rw [List.length_nil, z1, z2]; exact bN2, fun _ => by simp⟩, hs3⟩, B2⟩
    (fun x a' _ => a' = { tmps := #[.slice (some ⟨g, o, none⟩) 4096 cap, .slice (some ⟨gm, om, none⟩) 64 cm, undef, .pointer (some ⟨w.heap.size, 0, none⟩), .slice none 0 0, .slice (some ⟨h, 0, none⟩) 4096 c, .slice (some ⟨h, x.val * 512, none⟩) 512 512, .slice (some ⟨g, o, none⟩) 4096 cap, .slice (some ⟨h, 0, none⟩) 4096 c, .slice (some ⟨h, 0, none⟩) 4096 c, .func (.func 268) #[] #[.pointer (some ⟨k1, 0, none⟩)], .slice (some ⟨h, x.val * 512, none⟩) 512 512, undef, undef, undef, undef, undef, undef, undef], defers := [] })
    (fun x a' => ownFrom_pure _ _) ?assign ?body ?done ?stop
  case assign =>
    rintro l pre x W K hI hK
    dsimp only [encS]
    simp only [Nat.zero_add]
    gi_wp2
    exact hK _ _ (KeepsFrom.refl _ _) rfl hI rfl
  case body =>
    rintro l pre x a' W hlw ⟨r, hr1⟩ ⟨⟨⟨q1, o', q2, q3⟩, q5⟩, hB⟩ rfl hlt2
    have hx8 := x.isLt
    have hd1 := unhideTo_length xs H HL.out pre
    have hd2 := unhideTo_two xs H pre
    obtain ⟨k, hk⟩ : ∃ k, pre.length = k := ⟨_, rfl⟩
    rw [hk] at q2 q3 hlt2 hd2
    obtain rfl := q3 hlt2
    obtain ⟨d, hd⟩ : ∃ d, (unhideTo xs H pre).1 = d := ⟨_, rfl⟩
    rw [hd] at q1 hd1
    have hsnoc : Hid ((unhideTo xs H (pre ++ [x])).1 = over d (x.val * 512) ((H.drop (k * 8)).take 8)) := by
      show _ = _
      rw [unhideTo_snoc]
      unfold unhideStep
      rw [hd, hd2]
    have hlen : Hid ((pre ++ [x]).length = k + 1) := by show _ = _; simp [hk]
    clear q3 hk hd hd2
    have h8 : ((H.drop (k * 8)).take 8).length = 8 := by have := HHL.out; simp; omega
    have hr8 : Rd W (some ⟨gm, om + k * 8, none⟩) ((H.drop (k * 8)).take 8) := (hH.below hB (Nat.le_refl _)).part (k * 8) 8
    obtain ⟨W5, hrun, hrow5, hg5⟩ := copy_row h c (x.val * 512) 512 512 (some ⟨gm, om + k * 8, none⟩) (cm - k * 8) _ d W q1 hr8 (by omega) (by omega) (by omega)
    rw [h8] at hrun
    have hB5 := hB.grown hg5 hB.size (fun k e => by cases e; have := Hh.out; omega)
    have q25 : Box W5 w.heap.size _ 37 := q2.grown hg5 (fun e => by cases e; have := Hh.out; omega)
    have d3 := q2.cell 0
    have d5 := q25.cell 0
    have f5 := q25.frozen 0
    have keep5 : KeepsOthers W W5 := by obtain ⟨cur, hc, _⟩ := q1; exact keeps_grown hc hg5
    have bk1 : W5.heap[k1]? = W.heap[k1]? := hg5.block k1 (by omega) (fun e => by cases e; omega)
    have hs5 := hg5.size
    have m1 : 8 ≤ 64 - k * 8 := by omega
    have m2 : 8 ≤ cm - k * 8 := by omega
    have e1 : 64 - (k + 1) * 8 = 64 - k * 8 - 8 := by omega
    have e2 : cm - (k + 1) * 8 = cm - k * 8 - 8 := by omega
    have e3 : 64 - k * 8 ≤ cm - k * 8 := by omega
    have m4 : cm - k * 8 ≤ 9223372036854775807 := by omega
    obtain ⟨L, hL⟩ : ∃ L, L = 64 - k * 8 := ⟨_, rfl⟩
    obtain ⟨C, hC⟩ : ∃ C, C = cm - k * 8 := ⟨_, rfl⟩
    rw [← hL] at d3 d5 q2 q25 m1 e1 e3
    rw [← hC] at d3 d5 q2 q25 m2 e2 e3 m4 hrun
    have e6 : (k + 1 < 8 → C ≠ 8) := by omega
    have HE : Hid (64 - (k + 1) * 8 = L - 8 ∧ cm - (k + 1) * 8 = C - 8 ∧ (k + 1 < 8 → C ≠ 8)) := ⟨e1, e2, e6⟩
    clear hL hC e1 e2 e6
    by_cases hC8 : C = 8
    · subst hC8
      gi_wp2
      refine ⟨(keep5.trans (KeepsOthers.setCell _ _ _)).from _, ?_, ⟨⟨?_, om + k * 8, ?_, ?_⟩, ?_⟩, hB5.setCell (p := ⟨w.heap.size, 0, none⟩) (by simp) _⟩
      · exact (World.cell?_of_block (a := ⟨k1, 0, none⟩) (heap_setCell_other W5 ⟨w.heap.size, 0, none⟩ k1 _ (by show k1 ≠ w.heap.size; have := Hh.out; omega))).trans (World.cell?_of_block (a := ⟨k1, 0, none⟩) bk1)
      · rw [hsnoc.out]; exact rowB_store (j := 0) hrow5 q25 (by decide) _
      · obtain ⟨a1, a2, a3⟩ := HE.out
        rw [hlen.out, a1, a2]
        have hL8 : L - 8 = 0 := by omega
        rw [hL8]
        have := q25.store 0 (.slice (some ⟨gm, om + k * 8, none⟩) 0 0)
        simpa using this
      · rw [hlen.out]
        intro hk8
        exact absurd rfl (HE.out.2.2 hk8)
      · simp; omega
    · have hC9 : ¬ C = 8 := hC8
      have hC7 : 8 < C := by omega
      gi_wp2
      refine ⟨(keep5.trans (KeepsOthers.setCell _ _ _)).from _, ?_, ⟨⟨?_, om + k * 8 + 8, ?_, ?_⟩, ?_⟩, hB5.setCell (p := ⟨w.heap.size, 0, none⟩) (by simp) _⟩
      · exact (World.cell?_of_block (a := ⟨k1, 0, none⟩) (heap_setCell_other W5 ⟨w.heap.size, 0, none⟩ k1 _ (by show k1 ≠ w.heap.size; have := Hh.out; omega))).trans (World.cell?_of_block (a := ⟨k1, 0, none⟩) bk1)
      · rw [hsnoc.out]; exact rowB_store (j := 0) hrow5 q25 (by decide) _
      · obtain ⟨a1, a2, a3⟩ := HE.out
        rw [hlen.out, a1, a2]
        have := q25.store 0 (.slice (some ⟨gm, om + k * 8 + 8, none⟩) (L - 8) (C - 8))
        simpa using this
      · rw [hlen.out]
        intro hk8
        omega
      · simp; omega
  case done =>
    rintro D' ys W hD rfl ⟨⟨⟨q1, o', q2, q3⟩, q5⟩, hB⟩ hK
    gi_wp2
    refine ⟨by simp, .inl ⟨_, _, rfl, run_takeDeferred hK, ?_⟩⟩
    exact ⟨_, by simp [results, Tryz.f292, go_sem], h, c, rfl, by have := Hh.out; omega, q1.kept (grownBy_putObj' _ D' (.deferred none)) (fun r e => by cases e; exact ⟨_, hK, rfl⟩), hB.trans (belowK_b (w := w) (Nat.le_refl _) _ D' _ _ (by omega) hK rfl rfl)⟩
  case stop =>
    rintro D' c pre W hD _ ⟨hf, _⟩ hK
    exact hf.elim
end Go.Proofs.YtnldkpckojhbhaaGreat.Rc

/-
  Head, Get.
-/
namespace Go.Proofs.YtnldkpckojhbhaaGreat.Rc
open Go.RowKit

theorem getHeading_at (a : Option Addr) (n cap : Nat) (xs : List UInt8) (w : World) (hl : xs.length = n) (hcap : n ≤ cap) (hmax : cap ≤ 9223372036854775807) (hr : Rd w a xs) :
    Calls Tryz.prog 290 #[.slice a n cap] w (GetH w xs) := by
  by_cases h : n = 4096
  · subst h
    obtain ⟨g, o, rfl, _⟩ := hr (by omega)
    exact getHeading_in g o cap xs w hl hcap hmax hr
  · exact getHeading_short a n cap xs w hl h

/-- bytes, list by list -/
def LstAt (w : World) (b o : Nat) (xs : List UInt8) : Prop := ∃ x c, w.cell? ⟨b, o, none⟩ = some (.slice x xs.length c) ∧ xs.length ≤ c ∧ c ≤ 9223372036854775807 ∧ (x = none → c = 0) ∧ Rd w x xs
def Lsts (w : World) (a : Option Addr) (ls : List (List UInt8)) : Prop :=
  0 < ls.length → ∃ b o, a = some ⟨b, o, none⟩ ∧ ∀ j (h : j < ls.length), LstAt w b (o + j) ls[j]
theorem LstAt.below {w w' : World} {b o : Nat} {xs : List UInt8} (h : LstAt w b o xs) (hb : Below w.heap.size w w') : LstAt w' b o xs := by
  obtain ⟨x, c, h2, h3, h4, h5, h6⟩ := h
  have hlt : b < w.heap.size := block_lt_of_cell h2
  exact ⟨x, c, (hb.cell (p := ⟨b, o, none⟩) hlt).trans h2, h3, h4, h5, h6.below hb (Nat.le_refl _)⟩
theorem Lsts.below {w w' : World} {a : Option Addr} {ls : List (List UInt8)} (h : Lsts w a ls) (hb : Below w.heap.size w w') : Lsts w' a ls := fun hp => by
  obtain ⟨b, o, ha, hc⟩ := h hp
  exact ⟨b, o, ha, fun j hj => (hc j hj).below hb⟩

/-- an image that was got: its data lie at (h, c) -/
structure GG where
  b : Int
  xs : List UInt8
  h : Nat
  c : Nat
def imgC (ps : List GG) : List Value := ps.flatMap fun p => [.int .i64 p.b, .slice (some ⟨p.h, 0, none⟩) 4096 p.c]
theorem imgC_length (ps : List GG) : (imgC ps).length = ps.length * 2 := by
  induction ps with
  | nil => rfl
  | cons p ps ih => simp only [imgC, List.flatMap_cons, List.length_append, List.length_cons, List.length_nil] at ih ⊢; omega
theorem imgC_at (ps : List GG) (i : Nat) (h : i < ps.length) : (imgC ps)[i * 2]? = some (.int .i64 ps[i].b) ∧ (imgC ps)[i * 2 + 1]? = some (.slice (some ⟨ps[i].h, 0, none⟩) 4096 ps[i].c) := by
  induction ps generalizing i with
  | nil => simp at h
  | cons p ps ih =>
    cases i with
    | zero => exact ⟨rfl, rfl⟩
    | succ i =>
      obtain ⟨u, v⟩ := ih i (by simpa using h)
      have e1 : (i + 1) * 2 = i * 2 + 1 + 1 := by omega
      simp only [imgC, List.flatMap_cons, e1, List.cons_append, List.nil_append, List.getElem?_cons_succ, List.getElem_cons_succ]
      exact ⟨u, v⟩
structure GetJ (B : Nat) (W : World) (ps : List GG) : Prop where
  rows : ∀ p ∈ ps, RowB W p.h p.c p.xs ∧ B ≤ p.h ∧ p.xs.length = 4096
  apart : (ps.map GG.h).Nodup
theorem GetJ.mono {B : Nat} {W W' : World} {ps : List GG} (h : GetJ B W ps) (hk : ∀ g cur, Box W g cur 5 → W'.heap[g]? = W.heap[g]?) : GetJ B W' ps :=
  ⟨fun p hp => by
    obtain ⟨a1, a2⟩ := h.rows p hp
    refine ⟨a1.same ?_, a2⟩
    obtain ⟨cur, q, _⟩ := a1; exact hk _ _ q, h.apart⟩
theorem GetJ.below {B : Nat} {W W' : World} {ps : List GG} (h : GetJ B W ps) (hb : Below W.heap.size W W') : GetJ B W' ps := h.mono fun g _ q => hb.block g q.lt
theorem GetJ.grown {B base e size n : Nat} {W W' : World} {ps : List GG} {v : Value} {xs : List Value} (h : GetJ B W ps) (ho : W.ownsRow base e size v n xs) (he : (5 : TypeId) ≠ e) (hg : W.grownBy W' v.ownBlock) : GetJ B W' ps := h.mono fun g cur q => hg.block g q.lt (fun eq => by
  obtain ⟨_, c2, q2⟩ := owns_block ho g eq.symm
  exact q.ne q2 he rfl)
theorem GetJ.store {B b j : Nat} {W : World} {ps : List GG} {cs : Array Value} {t : TypeId} (h : GetJ B W ps) (hb : Box W b cs t) (ht : (5 : TypeId) ≠ t) (u : Value) : GetJ B (W.setCell ⟨b, j, none⟩ u) ps := h.mono fun g _ q => heap_setCell_other W ⟨b, j, none⟩ g u (q.ne hb ht)
theorem GetJ.snoc {B : Nat} {W W' : World} {ps : List GG} (h : GetJ B W ps) (hb : Below W.heap.size W W') (p : GG) (h1 : RowB W' p.h p.c p.xs) (h3 : W.heap.size ≤ p.h) (h4 : p.xs.length = 4096) (hB : B ≤ W.heap.size) : GetJ B W' (ps ++ [p]) :=
  ⟨fun x hx => by
    rcases List.mem_append.1 hx with hx | hx
    · exact (h.below hb).rows x hx
    · simp at hx
      subst hx
      exact ⟨h1, by omega, h4⟩, by
    rw [List.map_append, List.nodup_append]
    refine ⟨h.apart, by simp, fun x hx y hy => ?_⟩
    obtain ⟨z, hz, rfl⟩ := List.mem_map.1 hx
    simp at hy
    subst hy
    have := (h.rows z hz).1.lt
    omega⟩

/-- image j of blocks whose head says es -/
def imgOf (ls : List (List UInt8)) (es : List (Nat × List UInt8)) (j : Nat) : Int × List UInt8 := (((es[j]?.getD (0, [])).1 : Int), (unhideTo (ls[j + 1]?.getD []) (es[j]?.getD (0, [])).2 (List.finRange 8)).1)
def imgsTo (ls : List (List UInt8)) (es : List (Nat × List UInt8)) (k : Nat) : List (Int × List UInt8) := (List.range k).map (imgOf ls es)
theorem imgsTo_succ (ls : List (List UInt8)) (es : List (Nat × List UInt8)) (k : Nat) : imgsTo ls es (k + 1) = imgsTo ls es k ++ [imgOf ls es k] := by simp [imgsTo, List.range_succ]
/-- the first k images' blocks bear the stamp -/
def stampedTo (ls : List (List UInt8)) (e s : Int) (k : Nat) : Prop := ∀ j, j < k → stampedB (ls[j + 1]?.getD []) e s = true
/-- are these the blocks of a group? -/
def isGrp (ls : List (List UInt8)) : Prop := 0 < ls.length ∧ isHead (ls[0]?.getD []) ∧ ls.length = (saidEs (ls[0]?.getD [])).length + 1 ∧ stampedTo ls (saidE (ls[0]?.getD [])) (saidS (ls[0]?.getD [])) (saidEs (ls[0]?.getD [])).length

theorem info38 : (Tryz.prog.info? 89).map (fun i => (i.zero, i.size, i.bytes)) = some (some (.agg #[.int .i64 0, .slice none 0 0]), 2, 32) := by kernel_rfl

/-- what Get tells -/
def GetR (w : World) (ls : List (List UInt8)) (r : Ending) (w' : World) : Prop :=
  (isGrp ls ∧ ∃ a c ps, r = .returned (.tuple #[.agg #[.int .i64 (saidE (ls[0]?.getD []) : Int), .int .i64 (saidS (ls[0]?.getD []) : Int), .slice a (saidEs (ls[0]?.getD [])).length c], .int .i64 0]) ∧ w'.ownsRow w.heap.size 89 2 (.slice a (saidEs (ls[0]?.getD [])).length c) (saidEs (ls[0]?.getD [])).length (imgC ps) ∧
    GetJ w.heap.size w' ps ∧ ps.map (fun p => (p.b, p.xs)) = imgsTo ls (saidEs (ls[0]?.getD [])) (saidEs (ls[0]?.getD [])).length ∧ Below w.heap.size w w') ∨
  (¬ isGrp ls ∧ r = .returned (.tuple #[.agg #[.int .i64 0, .int .i64 0, .slice none 0 0], .int .i64 80]) ∧ Below w.heap.size w w')

theorem zero_below {w W : World} (B : Below w.heap.size w W) : Below w.heap.size w (((W.setCell ⟨w.heap.size, 0, none⟩ (.int .i64 0)).setCell ⟨w.heap.size, 1, none⟩ (.int .i64 0)).setCell ⟨w.heap.size, 2, none⟩ (.slice none 0 0)) :=
  ((B.setCell (p := ⟨w.heap.size, 0, none⟩) (by simp) _).setCell (p := ⟨w.heap.size, 1, none⟩) (by simp) _).setCell (p := ⟨w.heap.size, 2, none⟩) (by simp) _

theorem zero_box {w W : World} (b : Box W w.heap.size #[.int .i64 0, .int .i64 0, .slice none 0 0] 203) : Box (((W.setCell ⟨w.heap.size, 0, none⟩ (.int .i64 0)).setCell ⟨w.heap.size, 1, none⟩ (.int .i64 0)).setCell ⟨w.heap.size, 2, none⟩ (.slice none 0 0)) w.heap.size #[.int .i64 0, .int .i64 0, .slice none 0 0] 203 := by
  have := ((b.store 0 (.int .i64 0)).store 1 (.int .i64 0)).store 2 (.slice none 0 0)
  simpa using this

set_option maxRecDepth 100000 in
theorem get_none (a : Option Addr) (cap : Nat) (w : World) : Calls Tryz.prog 273 #[.slice a 0 cap] w (GetR w []) := by
  have hno : Hid (¬ isGrp []) := fun h => by simp [isGrp] at h
  have b0 := Box.new w #[.int .i64 0, .int .i64 0, .slice none 0 0] 203
  have y0 := b0.cell 0
  have y1 := b0.cell 1
  have y2 := b0.cell 2
  have B0 := (Below.refl w.heap.size w).alloc (Nat.le_refl _) (.cells #[.int .i64 0, .int .i64 0, .slice none 0 0] 203)
  go_enter Tryz.func273, Tryz.ntmps273
  go_wp2
  refine bodyPost_ret (v := .tuple #[.agg #[.int .i64 0, .int .i64 0, .slice none 0 0], .int .i64 80]) (by simp [results, Tryz.results273, go_sem]) rfl ?_
  exact .inr ⟨hno.out, rfl, B0⟩

set_option maxRecDepth 100000 in
set_option maxHeartbeats 4000000 in
theorem get_in (a : Option Addr) (n cap : Nat) (ls : List (List UInt8)) (w : World) (hl : ls.length = n) (h0 : 0 < n) (hn : n ≤ 1000000000) (hL : Lsts w a ls) : Calls Tryz.prog 273 #[.slice a n cap] w (GetR w ls) := by
  obtain ⟨i0, hi, hz0, hz1, hz2⟩ := info_parts info38
  obtain ⟨b, o, rfl, hc⟩ := hL (by omega)
  have HC : Hid (∀ j (h : j < ls.length), LstAt w b (o + j) ls[j]) := hc
  obtain ⟨xs, hxs⟩ : ∃ xs, xs = ls[0]?.getD [] := ⟨_, rfl⟩
  have hx0 : ls[0]'(by omega) = xs := by rw [hxs, List.getElem?_eq_getElem (by omega)]; rfl
  obtain ⟨x0, c0, q1, q2, q3, q4, q5⟩ := hc 0 (by omega)
  rw [hx0] at q1 q2 q5
  rw [Nat.add_zero] at q1
  have hblt : b < w.heap.size := block_lt_of_cell q1
  have HG : Hid (isGrp ls ↔ isHead xs ∧ n = (saidEs xs).length + 1 ∧ stampedTo ls (saidE xs) (saidS xs) (saidEs xs).length) := by
    show _ ↔ _
    unfold isGrp
    rw [← hxs, hl]
    exact ⟨fun h => h.2, fun h => ⟨h0, h⟩⟩
  unfold GetR
  rw [← hxs]
  have HL : Hid _ := hl
  have HX : Hid _ := hxs
  generalize isGrp ls = IG at HG ⊢
  clear hc hx0 hl hxs hL
  have b0 := Box.new w #[.int .i64 0, .int .i64 0, .slice none 0 0] 203
  have B0 := (Below.refl w.heap.size w).alloc (Nat.le_refl _) (.cells #[.int .i64 0, .int .i64 0, .slice none 0 0] 203)
  have q1' := (B0.cell (p := ⟨b, o, none⟩) hblt).trans q1
  have cH := getHeading_at x0 xs.length c0 xs _ rfl q2 q3 (q5.below B0 (Nat.le_refl _))
  have hni : ((n : Int) == 0) = false := by simp; omega
  have hnp : (0 : Int) < n := by omega
  go_enter Tryz.func273, Tryz.ntmps273
  go_wp2_with fail
  refine cH.mono ?_
  rintro r w1 (⟨hhd, ah, ch, rfl, hEn, hb1⟩ | ⟨hhd, rfl, hb1⟩)
  · replace b0 := b0.below hb1
    have B1 := B0.trans (hb1.mono B0.size)
    have hcnt : 1 ≤ (saidEs xs).length ∧ (saidEs xs).length ≤ 32 := by have := hhd.2.1.2.1; rw [List.length_map] at this; exact this
    have hE64 : ∀ x ∈ saidEs xs, x.2.length = 64 := fun x hx => by
      obtain ⟨j, hj, rfl⟩ := List.getElem_of_mem hx
      obtain ⟨b, o, _, hc⟩ := hEn (by omega)
      obtain ⟨_, _, _, _, _, _, _, q, _⟩ := hc j hj
      exact q
    have HG2 : Hid (IG ↔ n = (saidEs xs).length + 1 ∧ stampedTo ls (saidE xs) (saidS xs) (saidEs xs).length) := ⟨fun h => (HG.out.1 h).2, fun h => HG.out.2 ⟨hhd, h⟩⟩
    clear hhd hb1 cH q1' HG
    obtain ⟨E, hEE⟩ : ∃ E, E = saidE xs := ⟨_, rfl⟩
    obtain ⟨S, hSS⟩ : ∃ S, S = saidS xs := ⟨_, rfl⟩
    obtain ⟨es, hes⟩ : ∃ es, es = saidEs xs := ⟨_, rfl⟩
    rw [← hEE, ← hSS, ← hes] at HG2
    rw [← hes] at hEn hcnt hE64
    rw [← hEE, ← hSS, ← hes]
    have HEE : Hid _ := hEE
    have HSS : Hid _ := hSS
    have HES : Hid _ := hes
    clear hEE hSS hes
    obtain ⟨m, hm⟩ : ∃ m, m = es.length := ⟨_, rfl⟩
    rw [← hm] at hcnt HG2 ⊢
    have HM : Hid _ := hm
    clear hm
    obtain ⟨hc1, hc2⟩ := hcnt
    have hbn : blocksN (m : Int) = (m : Int) + 1 := by unfold blocksN; rw [if_pos (by omega)]
    have al := (Below.refl w1.heap.size w1).alloc (Nat.le_refl _) (.cells #[.int .i64 (E : Int), .int .i64 (S : Int), .slice ah m ch] 250)
    have bh := Box.new w1 #[.int .i64 (E : Int), .int .i64 (S : Int), .slice ah m ch] 250
    have hlt1 := b0.lt
    have BOXW : Hid (∀ u, Below w1.heap.size w1 u → Box u w.heap.size #[.int .i64 0, .int .i64 0, .slice none 0 0] 203) := fun u hb => b0.below hb
    obtain ⟨w2, hw2⟩ : ∃ x, x = w1.alloc (.cells #[.int .i64 (E : Int), .int .i64 (S : Int), .slice ah m ch] 250) := ⟨_, rfl⟩
    have hs2 : w1.heap.size < w2.heap.size := by rw [hw2]; simp
    have HW2 : Hid _ := hw2
    rw [← hw2] at al bh
    obtain ⟨hb, hhb⟩ : ∃ x, x = w1.heap.size := ⟨_, rfl⟩
    have HHB : Hid _ := hhb
    rw [← hhb] at bh
    have hbge : w1.heap.size ≤ hb := Nat.le_of_eq hhb.symm
    have hbl2 : hb < w2.heap.size := by rw [hhb]; exact hs2
    have d2 : (w1.alloc (.cells #[.int .i64 (E : Int), .int .i64 (S : Int), .slice ah m ch] 250)).cell? ⟨w1.heap.size, 2, none⟩ = some (.slice ah m ch) := by rw [← hw2, ← hhb]; exact bh.cell 2
    clear hw2 hhb
    go_wp2_with fail
    rw [← HW2.out, ← HHB.out]
    clear d2
    refine (blocks_at (m : Int) w2).mono ?_
    rintro r w' ⟨rfl, rfl⟩
    rw [hbn]
    have b02 := b0.below al
    have B2 := B1.trans (al.mono B1.size)
    by_cases hnm : n = m + 1
    · have hq : ((n : Int) != (m : Int) + 1) = false := by simp; omega
      have hg3 : Hid (IG ↔ stampedTo ls E S m) := ⟨fun h => (HG2.out.1 h).2, fun h => HG2.out.2 ⟨hnm, h⟩⟩
      clear HG2
      have d0 := bh.cell 0
      have d1 := bh.cell 1
      have d2 := bh.cell 2
      have al3 := (Below.refl w2.heap.size w2).alloc (Nat.le_refl _) (.cells #[.int .i64 (E : Int), .int .i64 (S : Int), .slice none 0 0] 203)
      have bg := Box.new w2 #[.int .i64 (E : Int), .int .i64 (S : Int), .slice none 0 0] 203
      obtain ⟨w3, hw3⟩ : ∃ x, x = w2.alloc (.cells #[.int .i64 (E : Int), .int .i64 (S : Int), .slice none 0 0] 203) := ⟨_, rfl⟩
      have HW3 : Hid _ := hw3
      obtain ⟨gb, hgb⟩ : ∃ x, x = w2.heap.size := ⟨_, rfl⟩
      have HGB : Hid _ := hgb
      have x3 : (w2.alloc (.cells #[.int .i64 (E : Int), .int .i64 (S : Int), .slice none 0 0] 203)).cell? ⟨hb, 2, none⟩ = some (.slice ah m ch) := (bh.below al3).cell 2
      rw [← hw3] at al3 bg
      rw [← hgb] at bg
      have hgb1 : w1.heap.size < gb := by rw [hgb]; exact hs2
      have hgb2 : hb < gb := by rw [hgb]; exact hbl2
      have bh3 := bh.below al3
      have b03 := b02.below al3
      have al13 := al.trans (al3.mono al.size)
      have B3 := B2.trans (al3.mono B2.size)
      clear hw3 hgb bh b02
      go_wp2_with fail
      rw [← HW3.out, ← HGB.out]
      clear d0 d1 d2 x3
      go_loopw [41] (fun i wr => ∃ (k : Nat) (ps : List GG), k ≤ m ∧ i = .int .i64 k ∧ ps.map (fun p => (p.b, p.xs)) = imgsTo ls es k ∧ stampedTo ls E S k ∧ (∃ v, Box wr gb #[.int .i64 (E : Int), .int .i64 (S : Int), v] 203 ∧ wr.ownsRow w1.heap.size 89 2 v k (imgC ps)) ∧ GetJ w.heap.size wr ps ∧ Box wr hb #[.int .i64 (E : Int), .int .i64 (S : Int), .slice ah m ch] 250 ∧ Below w1.heap.size w1 wr) (fun i _ => m - (intOf i).toNat)
      case atStart => exact ⟨0, [], Nat.zero_le _, rfl, rfl, fun j h => absurd h (by omega), ⟨_, bg, World.ownsRow_nil _ _ _ _⟩, ⟨fun p hp => by simp at hp, by simp⟩, bh3, al13⟩
      case round =>
        obtain ⟨k, ps, hk, rfl, hps, hst, ⟨v, bG, hown⟩, hJ, bH, hB1⟩ := hrel
        clear bg bh3 b03 B3 al13 al3 al
        have hB := B1.trans (hB1.mono B1.size)
        have HPS : Hid _ := hps
        have HST : Hid _ := hst
        clear hps hst
        by_cases hlt : k < m
        · have hlt2 : (k : Int) < m := by omega
          have hke : k < es.length := by rw [← HM.out]; exact hlt
          have hkn : k + 1 < ls.length := by rw [HL.out]; omega
          have hkn2 : (k : Int) + 1 < n := by omega
          obtain ⟨ba, oa, rfl, hca⟩ := hEn (by omega)
          obtain ⟨p1, gq, oq, cq, p2, p3, p4, p5, p6⟩ := (hca k hke).below hB1
          obtain ⟨xk, ck, t1, t2, t3, t4, t5⟩ := (HC.out (k + 1) hkn).below hB
          have hio : imgOf ls es k = ((es[k].1 : Int), (unhideTo ls[k + 1] es[k].2 (List.finRange 8)).1) := by
            unfold imgOf
            rw [List.getElem?_eq_getElem hke, List.getElem?_eq_getElem hkn]
            rfl
          have hsk : ls[k + 1]?.getD [] = ls[k + 1] := by rw [List.getElem?_eq_getElem hkn]; rfl
          generalize es[k] = en at p1 p2 p5 p6 hio
          generalize ls[k + 1] = ys at t1 t2 t5 hio hsk
          obtain ⟨eb, eh⟩ := en
          dsimp only at p1 p2 p5 p6 hio
          have HIO : Hid _ := hio
          have HSK : Hid _ := hsk
          clear hio hsk hca
          have al := (Below.refl wr.heap.size wr).alloc (Nat.le_refl _) (.cells #[.int .i64 (eb : Int), .slice (some ⟨gq, oq, none⟩) 64 cq] 254)
          have be := Box.new wr #[.int .i64 (eb : Int), .slice (some ⟨gq, oq, none⟩) 64 cq] 254
          have bG1 := bG.below al
          have bH1 := bH.below al
          have own1 := owns_belowH hown al
          have J1 := hJ.below al
          have A1 := hB1.trans (al.mono hB1.size)
          have B1' := hB.trans (al.mono hB.size)
          have t1' := (al.cell (p := ⟨b, o + (k + 1), none⟩) (block_lt_of_cell t1)).trans t1
          have t5' := t5.below al (Nat.le_refl _)
          have p6' := p6.below al (Nat.le_refl _)
          obtain ⟨av, cv, rfl⟩ := owns_shape hown
          obtain ⟨V, hV⟩ : ∃ V, V = wr.alloc (.cells #[.int .i64 (eb : Int), .slice (some ⟨gq, oq, none⟩) 64 cq] 254) := ⟨_, rfl⟩
          have hsz : wr.heap.size < V.heap.size := by rw [hV]; simp
          have HV : Hid _ := hV
          have u0 : (wr.alloc (.cells #[.int .i64 (eb : Int), .slice (some ⟨gq, oq, none⟩) 64 cq] 254)).cell? ⟨hb, 0, none⟩ = some (.int .i64 (E : Int)) := bH1.cell 0
          have u1 : (wr.alloc (.cells #[.int .i64 (eb : Int), .slice (some ⟨gq, oq, none⟩) 64 cq] 254)).cell? ⟨hb, 1, none⟩ = some (.int .i64 (S : Int)) := bH1.cell 1
          rw [← hV] at be bG1 bH1 own1 J1 A1 B1' t5' p6'
          obtain ⟨bi, hbi⟩ : ∃ x, x = wr.heap.size := ⟨_, rfl⟩
          have HBI : Hid _ := hbi
          rw [← hbi] at be hsz
          clear hV al bG bH hown hJ hB1 hB t5 p6 hbi
          have cS := stamped_at xk ys.length ck ys (E : Int) (S : Int) V rfl t2 t3 t5'
          go_wp2_with fail
          rw [← HV.out, ← HBI.out]
          refine cS.mono ?_
          rintro r V2 ⟨rfl, hbV⟩
          clear cS t1' t1 u0 u1 p1 p2
          replace be := be.below hbV
          replace bG1 := bG1.below hbV
          replace bH1 := bH1.below hbV
          replace own1 := owns_belowH own1 hbV
          replace J1 := J1.below hbV
          replace A1 := A1.trans (hbV.mono A1.size)
          replace B1' := B1'.trans (hbV.mono B1'.size)
          replace p6' := p6'.below hbV (Nat.le_refl _)
          replace t5' := t5'.below hbV (Nat.le_refl _)
          replace hsz : bi < V2.heap.size := Nat.lt_of_lt_of_le hsz hbV.size
          clear hbV
          cases hsb : stampedB ys (E : Int) (S : Int) with
          | false =>
            have hno : Hid (¬ IG) := fun h => by
              have := hg3.out.1 h k hlt
              rw [HSK.out, hsb] at this
              cases this
            have b0V := (BOXW.out _ A1)
            have y0 := b0V.cell 0
            have y1 := b0V.cell 1
            have y2 := b0V.cell 2
            have f0 := b0V.frozen 0
            have f1 := b0V.frozen 1
            have f2 := b0V.frozen 2
            have zb := zero_box b0V
            have m0 := zb.cell 0
            have m1 := zb.cell 1
            have m2 := zb.cell 2
            go_wp2
            refine bodyPost_ret (v := .tuple #[.agg #[.int .i64 0, .int .i64 0, .slice none 0 0], .int .i64 80]) (by simp [results, Tryz.results273, go_sem, m0, m1, m2]) rfl ?_
            exact .inr ⟨hno.out, rfl, zero_below B1'⟩
          | true =>
            have hy4 : ys.length = 4096 := by
              unfold stampedB at hsb
              simp at hsb
              exact hsb.1
            rw [hy4] at t2 ⊢
            obtain ⟨gy, oy, rfl, _⟩ := t5' (by omega)
            go_wp2_with fail
            have hyl : ys.length = 4096 := hy4
            have HY4 : Hid _ := hy4
            clear hy4 hyl
            refine wp_region_any (by kernel_rfl) ?_
            change wpAny _ _ _ _ _ _ _ (World.drew _)
            replace be : Box V2.drew bi _ 254 := be
            replace bG1 : Box V2.drew gb _ 203 := bG1
            replace bH1 : Box V2.drew hb _ 250 := bH1
            replace own1 : V2.drew.ownsRow w1.heap.size 89 2 (.slice av k cv) k (imgC ps) := own1
            replace J1 : GetJ w.heap.size V2.drew ps := J1.below (Below.refl _ _).drew
            replace A1 : Below w1.heap.size w1 V2.drew := A1.drew
            replace B1' : Below w.heap.size w V2.drew := B1'.drew
            replace p6' : Rd V2.drew (some ⟨gq, oq, none⟩) eh := p6'
            replace t5' : Rd V2.drew (some ⟨gy, oy, none⟩) ys := t5'
            generalize V2.drew = W at be bG1 bH1 own1 J1 A1 B1' p6' t5' ⊢
            refine wpAny_take (i := 0) (v := ?_) rfl (by kernel_rfl) (by kernel_rfl) (by kernel_rfl) (fun _ _ _ h => h) (Or.inl ⟨by rfl, ?_⟩) ?_
            rotate_left
            · intro w
              go_simp
              with_reducible rfl
            refine wpAny_take (i := 2) (v := ?_) rfl (by kernel_rfl) (by kernel_rfl) (by kernel_rfl) (fun _ _ _ h => h) (Or.inl ⟨by rfl, ?_⟩) ?_
            rotate_left
            · intro w
              go_simp
              with_reducible rfl
            refine wpAny_take (i := 4) (v := ?_) rfl (by kernel_rfl) (by kernel_rfl) (by kernel_rfl) (fun _ _ _ h => h) (Or.inl ⟨by rfl, ?_⟩) ?_
            rotate_left
            · intro w
              go_simp
              with_reducible rfl
            refine wpAny_take (i := 5) (v := ?_) rfl (by kernel_rfl) (by kernel_rfl) (by kernel_rfl) (fun _ _ _ h => h) (Or.inl ⟨by rfl, ?_⟩) ?_
            rotate_left
            · intro w
              go_simp
              with_reducible rfl
            simp only [Act.put, List.setIfInBounds_toArray, List.set_cons_zero, List.set_cons_succ, List.getElem_toArray, List.getElem_cons_zero, List.getElem_cons_succ]
            refine wpAny_of_late (C := SB [(59, .pointer (some ⟨gb, 2, none⟩)), (61, .pointer (some ⟨bi, 0, none⟩)), (64, .pointer (some ⟨bi, 1, none⟩))] [(gb, #[.int .i64 (E : Int), .int .i64 (S : Int), .slice av k cv], 203), (bi, #[.int .i64 (eb : Int), .slice (some ⟨gq, oq, none⟩) 64 cq], 254)]) (late := [12]) _ _ _ _ ?_
            refine wpAnyD_take (i := 1) (v := .slice av k cv) rfl (by kernel_rfl) (by kernel_rfl) (by kernel_rfl) (by kernel_rfl) (fun _ _ _ h => h) ?_ (fun fr u h => (SB.put 60 _ (by rfl)).1 h) (fun fr u h => (SB.put 60 _ (by rfl)).2 h) ?_ ?_
            · intro fr u hh
              obtain ⟨e1, e2⟩ := hh.load (s := 59) (b := gb) (j := 2) (cs := #[.int .i64 (E : Int), .int .i64 (S : Int), .slice av k cv]) (t := 203) (v := .slice av k cv) (by simp) (by simp) (by rfl)
              exact ⟨rfl, by simp [execOp, e1, go_sem, e2]⟩
            · exact ⟨fun p hp => by simp at hp; rcases hp with rfl | rfl | rfl <;> rfl, fun q hq => by simp at hq; rcases hq with rfl | rfl <;> first | exact bG1 | exact be⟩
            simp only [Act.put, List.setIfInBounds_toArray, List.set_cons_zero, List.set_cons_succ, List.getElem_toArray, List.getElem_cons_zero, List.getElem_cons_succ]
            refine wpAnyD_take (i := 3) (v := .int .i64 (eb : Int)) rfl (by kernel_rfl) (by kernel_rfl) (by kernel_rfl) (by kernel_rfl) (fun _ _ _ h => h) ?_ (fun fr u h => (SB.put 62 _ (by rfl)).1 h) (fun fr u h => (SB.put 62 _ (by rfl)).2 h) ?_ ?_
            · intro fr u hh
              obtain ⟨e1, e2⟩ := hh.load (s := 61) (b := bi) (j := 0) (cs := #[.int .i64 (eb : Int), .slice (some ⟨gq, oq, none⟩) 64 cq]) (t := 254) (v := .int .i64 (eb : Int)) (by simp) (by simp) (by rfl)
              exact ⟨rfl, by simp [execOp, e1, go_sem, e2]⟩
            · exact ⟨fun p hp => by simp at hp; rcases hp with rfl | rfl | rfl <;> rfl, fun q hq => by simp at hq; rcases hq with rfl | rfl <;> first | exact bG1 | exact be⟩
            simp only [Act.put, List.setIfInBounds_toArray, List.set_cons_zero, List.set_cons_succ, List.getElem_toArray, List.getElem_cons_zero, List.getElem_cons_succ]
            refine wpAnyD_take (i := 6) (v := .slice (some ⟨gq, oq, none⟩) 64 cq) rfl (by kernel_rfl) (by kernel_rfl) (by kernel_rfl) (by kernel_rfl) (fun _ _ _ h => h) ?_ (fun fr u h => (SB.put 65 _ (by rfl)).1 h) (fun fr u h => (SB.put 65 _ (by rfl)).2 h) ?_ ?_
            · intro fr u hh
              obtain ⟨e1, e2⟩ := hh.load (s := 64) (b := bi) (j := 1) (cs := #[.int .i64 (eb : Int), .slice (some ⟨gq, oq, none⟩) 64 cq]) (t := 254) (v := .slice (some ⟨gq, oq, none⟩) 64 cq) (by simp) (by simp) (by rfl)
              exact ⟨rfl, by simp [execOp, e1, go_sem, e2]⟩
            · exact ⟨fun p hp => by simp at hp; rcases hp with rfl | rfl | rfl <;> rfl, fun q hq => by simp at hq; rcases hq with rfl | rfl <;> first | exact bG1 | exact be⟩
            simp only [Act.put, List.setIfInBounds_toArray, List.set_cons_zero, List.set_cons_succ, List.getElem_toArray, List.getElem_cons_zero, List.getElem_cons_succ]
            refine wpAnyD_one (i := 7) (by kernel_rfl) rfl (fun K hK2 => ?_)
            go_simp
            refine (unhide_in gy oy ck gq oq cq ys eh W HY4.out t5' p5 p3 p4 p6').mono ?_
            rintro r W2 ⟨h, c, rfl, hh, r1, hbW⟩
            have J2 := J1.snoc hbW ⟨(eb : Int), _, h, c⟩ r1 hh (unhideTo_length ys eh HY4.out _) B1'.size
            replace be := be.below hbW
            replace bG1 := bG1.below hbW
            replace bH1 := bH1.below hbW
            replace own1 := owns_belowH own1 hbW
            replace A1 := A1.trans (hbW.mono A1.size)
            replace B1' := B1'.trans (hbW.mono B1'.size)
            refine hK2 _ _ ⟨.inr ⟨fun p hp => by simp at hp; rcases hp with rfl | rfl | rfl <;> rfl, fun q hq => by simp at hq; rcases hq with rfl | rfl <;> first | exact bG1 | exact be⟩, ?_⟩
            clear hK2 K hbW r1 hh J1 p6' t5'
            refine wpAnyD_one (i := 8) (by kernel_rfl) rfl (fun K hK2 => ?_)
            go_simp
            refine hK2 _ _ ⟨.inr ⟨fun p hp => by simp at hp; rcases hp with rfl | rfl | rfl <;> rfl, fun q hq => by simp at hq; rcases hq with rfl | rfl <;> first | exact bG1 | exact be⟩, ?_⟩
            clear hK2 K
            have al := (Below.refl W2.heap.size W2).alloc (Nat.le_refl _) (.cells #[.int .i64 (eb : Int), .slice (some ⟨h, 0, none⟩) 4096 c] 89)
            have bN := Box.new W2 #[.int .i64 (eb : Int), .slice (some ⟨h, 0, none⟩) 4096 c] 89
            refine wpAnyD_one (i := 9) (by kernel_rfl) rfl (fun K hK2 => ?_)
            go_simp
            replace be := be.below al
            replace bG1 := bG1.below al
            replace bH1 := bH1.below al
            replace own1 := owns_belowH own1 al
            replace J2 := J2.below al
            replace A1 := A1.trans (al.mono A1.size)
            replace B1' := B1'.trans (al.mono B1'.size)
            refine hK2 _ _ ⟨.inr ⟨fun p hp => by simp at hp; rcases hp with rfl | rfl | rfl <;> rfl, fun q hq => by simp at hq; rcases hq with rfl | rfl <;> first | exact bG1 | exact be⟩, ?_⟩
            clear hK2 K
            refine wpAnyD_one (i := 10) (by kernel_rfl) rfl (fun K hK2 => ?_)
            rw [if_pos (by rfl)]
            refine wp_append_own _ _ _ 29 rfl w1.heap.size 89 i0 (.agg #[.int .i64 0, .slice none 0 0]) 2 32 Tryz.underlying29 hi hz0 hz1 hz2 rfl (by decide) _ k _ rfl own1 ⟨W2.heap.size, 0, none⟩ 1 1 [.int .i64 (eb : Int), .slice (some ⟨h, 0, none⟩) 4096 c] rfl rfl (two_cells bN) (fun u hu => by simp at hu; rcases hu with rfl | rfl <;> rfl) (by unfold maxLen; omega) (by omega) A1.size ?_
            intro v' w4 own4 hg4 _
            have hnx : ∀ {g : Nat} {cs : Array Value} {t : TypeId}, Box _ g cs t → (89 : TypeId) ≠ t → Box w4 g cs t := fun hb ht => hb.grown hg4 (fun e => by
              obtain ⟨_, cur, q⟩ := owns_block own1 _ e
              exact q.ne hb ht rfl)
            replace be := hnx be (by decide)
            replace bG1 := hnx bG1 (by decide)
            replace bH1 := hnx bH1 (by decide)
            replace J2 := J2.grown own1 (by decide) hg4
            have own1b := own1
            have A4 : Below w1.heap.size w1 w4 := A1.grown hg4 A1.size (fun j e => (owns_block own1b j e).1)
            have B4 := B1'.grown hg4 B1'.size (fun j e => Nat.le_trans B1.size (owns_block own1b j e).1)
            refine hK2 _ _ ⟨.inr ⟨fun p hp => by simp at hp; rcases hp with rfl | rfl | rfl <;> rfl, fun q hq => by simp at hq; rcases hq with rfl | rfl <;> first | exact bG1 | exact be⟩, ?_⟩
            clear hK2 K hnx own1 own1b A1 B1' bN al hg4
            obtain ⟨av4, cv4, rfl⟩ := owns_shape own4
            refine wpAnyD_one (i := 11) (by kernel_rfl) rfl (fun K hK2 => ?_)
            go_simp
            refine hK2 _ _ ⟨.inr ⟨fun p hp => by simp at hp; rcases hp with rfl | rfl | rfl <;> rfl, fun q hq => by simp at hq; rcases hq with rfl | rfl <;> first | exact bG1 | exact be⟩, ?_⟩
            clear hK2 K
            have f4 := bG1.frozen 2
            have z4 := bG1.cell 2
            refine wpAnyD_one (i := 12) (by kernel_rfl) rfl (fun K hK2 => ?_)
            go_simp
            refine hK2 _ _ ⟨.inl rfl, ?_⟩
            clear hK2 K
            have bG5 := bG1.store 2 (.slice av4 (k + 1) cv4)
            have bH5 : Box (w4.setCell ⟨gb, 2, none⟩ (.slice av4 (k + 1) cv4)) hb _ 250 := (heap_setCell_other w4 ⟨gb, 2, none⟩ hb _ (by show hb ≠ gb; omega)).trans bH1
            have J5 := J2.store (j := 2) bG1 (by decide) (.slice av4 (k + 1) cv4)
            have A5 := A4.setCell (p := ⟨gb, 2, none⟩) (by show w1.heap.size ≤ gb; omega) (.slice av4 (k + 1) cv4)
            have own5 : (w4.setCell ⟨gb, 2, none⟩ (.slice av4 (k + 1) cv4)).ownsRow w1.heap.size 89 2 (.slice av4 (k + 1) cv4) (k + 1) _ := owns_grown own4 (grown_store w4 gb 2 _) (fun g eg e => by
              cases e
              obtain ⟨_, cur2, q2⟩ := owns_block own4 _ eg
              exact q2.ne bG1 (by decide) rfl)
            refine wpAnyD_done (by kernel_rfl) ?_ _
            clear own4 bG1 bH1 J2 A4 B4 be f4 z4
            go_wp2
            go_roundw
            case rel =>
              refine ⟨k + 1, ps ++ [⟨(eb : Int), _, h, c⟩], by omega, by go_num, ?_, ?_, ⟨_, by simpa using bG5, ?_⟩, J5, bH5, A5⟩
              · rw [List.map_append, HPS.out, imgsTo_succ, HIO.out]
                rfl
              · intro j hj
                by_cases hjk : j < k
                · exact HST.out j hjk
                · obtain rfl : j = k := by omega
                  rw [HSK.out]
                  exact hsb
              · have e1 : imgC (ps ++ [⟨(eb : Int), (unhideTo ys eh (List.finRange 8)).1, h, c⟩]) = imgC ps ++ [.int .i64 (eb : Int), .slice (some ⟨h, 0, none⟩) 4096 c] := by simp [imgC]
                rw [e1]
                exact own5
            case measure => simp [intOf]; omega
        · obtain rfl : k = m := by omega
          obtain ⟨av, cv, rfl⟩ := owns_shape hown
          have hyes : Hid IG := hg3.out.2 HST.out
          have b0V := BOXW.out _ hB1
          have g0 := bG.cell 0
          have g1 := bG.cell 1
          have g2 := bG.cell 2
          have y0 := b0V.cell 0
          have y1 := b0V.cell 1
          have y2 := b0V.cell 2
          have f0 := b0V.frozen 0
          have st0 : Box (wr.setCell ⟨w.heap.size, 0, none⟩ (.int .i64 (E : Int))) w.heap.size #[.int .i64 (E : Int), .int .i64 0, .slice none 0 0] 203 := by have := b0V.store 0 (.int .i64 (E : Int)); simpa using this
          have st1 : Box ((wr.setCell ⟨w.heap.size, 0, none⟩ (.int .i64 (E : Int))).setCell ⟨w.heap.size, 1, none⟩ (.int .i64 (S : Int))) w.heap.size #[.int .i64 (E : Int), .int .i64 (S : Int), .slice none 0 0] 203 := by have := st0.store 1 (.int .i64 (S : Int)); simpa using this
          have st2 : Box (((wr.setCell ⟨w.heap.size, 0, none⟩ (.int .i64 (E : Int))).setCell ⟨w.heap.size, 1, none⟩ (.int .i64 (S : Int))).setCell ⟨w.heap.size, 2, none⟩ (.slice av k cv)) w.heap.size #[.int .i64 (E : Int), .int .i64 (S : Int), .slice av k cv] 203 := by have := st1.store 2 (.slice av k cv); simpa using this
          have fr1 := b0V.frozen 1
          have fr2 := b0V.frozen 2
          have h1 := st0.frozen 1
          have h2 := st1.frozen 2
          have h1c := st0.cell 1
          have h2c := st1.cell 2
          have m0 := st2.cell 0
          have m1 := st2.cell 1
          have m2 := st2.cell 2
          have J3 := ((hJ.store (j := 0) b0V (by decide) (.int .i64 (E : Int))).store (j := 1) st0 (by decide) (.int .i64 (S : Int))).store (j := 2) st1 (by decide) (.slice av k cv)
          have hneO : ∀ g', (Value.slice av k cv).ownBlock = some g' → some w.heap.size ≠ some g' := fun g' eg e => by
            cases e
            obtain ⟨_, cur2, q2⟩ := owns_block hown _ eg
            exact q2.ne b0V (by decide) rfl
          have own3 := owns_grown (owns_grown (owns_grown hown (grown_store wr w.heap.size 0 (.int .i64 (E : Int))) hneO) (grown_store _ w.heap.size 1 (.int .i64 (S : Int))) hneO) (grown_store _ w.heap.size 2 (.slice av k cv)) hneO
          have B9 := ((hB.setCell (p := ⟨w.heap.size, 0, none⟩) (by simp) (.int .i64 (E : Int))).setCell (p := ⟨w.heap.size, 1, none⟩) (by simp) (.int .i64 (S : Int))).setCell (p := ⟨w.heap.size, 2, none⟩) (by simp) (.slice av k cv)
          clear bG bH hown hJ hneO hB1
          go_wp2
          refine bodyPost_ret (v := .tuple #[.agg #[.int .i64 (E : Int), .int .i64 (S : Int), .slice av k cv], .int .i64 0]) (by simp [results, Tryz.results273, go_sem, m0, m1, m2]) rfl ?_
          exact .inl ⟨hyes.out, av, cv, ps, by rw [← HEE.out, ← HSS.out, ← HES.out, ← HM.out], by rw [← HES.out, ← HM.out]; exact owns_base own3 B1.size, J3, by rw [← HES.out, ← HM.out]; exact HPS.out, B9⟩
    · have hq : ((n : Int) != (m : Int) + 1) = true := by simp; omega
      have hno : Hid (¬ IG) := fun h => hnm (HG2.out.1 h).1
      have y0 := b02.cell 0
      have y1 := b02.cell 1
      have y2 := b02.cell 2
      have f0 := b02.frozen 0
      have f1 := b02.frozen 1
      have f2 := b02.frozen 2
      have zb := zero_box b02
      have m0 := zb.cell 0
      have m1 := zb.cell 1
      have m2 := zb.cell 2
      clear hnm HG2
      go_wp2
      refine bodyPost_ret (v := .tuple #[.agg #[.int .i64 0, .int .i64 0, .slice none 0 0], .int .i64 80]) (by simp [results, Tryz.results273, go_sem, m0, m1, m2]) rfl ?_
      exact .inr ⟨hno.out, rfl, zero_below B2⟩
  · replace b0 := b0.below hb1
    have B1 := B0.trans (hb1.mono B0.size)
    have hno : Hid (¬ IG) := fun h => hhd (HG.out.1 h).1
    have al := (Below.refl w1.heap.size w1).alloc (Nat.le_refl _) (.cells #[.int .i64 0, .int .i64 0, .slice none 0 0] 250)
    replace b0 := b0.below al
    have B2 := B1.trans (al.mono B1.size)
    clear hhd hb1 cH q1'
    have y0 := b0.cell 0
    have y1 := b0.cell 1
    have y2 := b0.cell 2
    have f0 := b0.frozen 0
    have f1 := b0.frozen 1
    have f2 := b0.frozen 2
    have zb := zero_box b0
    have m0 := zb.cell 0
    have m1 := zb.cell 1
    have m2 := zb.cell 2
    go_wp2
    refine bodyPost_ret (v := .tuple #[.agg #[.int .i64 0, .int .i64 0, .slice none 0 0], .int .i64 80]) (by simp [results, Tryz.results273, go_sem, m0, m1, m2]) rfl ?_
    exact .inr ⟨hno.out, rfl, zero_below B2⟩
end Go.Proofs.YtnldkpckojhbhaaGreat.Rc

/-
  Put of what is no right group; Head.
-/
namespace Go.Proofs.YtnldkpckojhbhaaGreat.Rc
open Go.RowKit

set_option maxRecDepth 100000 in
theorem put_no (e s : Int) (a : Option Addr) (n cap : Nat) (is : List (Int × List UInt8)) (w : World) (hl : is.length = n) (hn : n * 32 ≤ 140737488355328) (hI : Imgs w a is) (hno : ¬ okGroup e s is) :
    Calls Tryz.prog 150 #[.agg #[.int .i64 e, .int .i64 s, .slice a n cap]] w fun r w' => r = .returned (.tuple #[.slice none 0 0, .int .i64 80]) ∧ Below w.heap.size w w' := by
  have B0 := (Below.refl w.heap.size w).alloc (Nat.le_refl _) (.cells #[.int .i64 e, .int .i64 s, .slice a n cap] 203)
  have c1 := rightGroup_at e s a n cap is _ hl hn (hI.below B0)
  have HNO : Hid _ := hno
  clear hno hI
  go_enter Tryz.func150, Tryz.ntmps150
  go_wp2_with fail
  refine c1.mono ?_
  rintro r w1 ⟨q, rfl, hq, hb1⟩
  have B1 := B0.trans (hb1.mono B0.size)
  cases q with
  | true => exact (HNO.out (hq.1 rfl)).elim
  | false =>
    clear hq c1 hb1
    go_wp2
    go_ret2
    exact ⟨rfl, B1⟩

/-- what Head tells -/
def HeadR (w : World) (xs : List UInt8) (r : Ending) (w' : World) : Prop :=
  (isHead xs ∧ r = .returned (.tuple #[.int .i64 (saidE xs : Int), .int .i64 (saidS xs : Int), .int .i64 ((saidEs xs).length : Int), .bool true]) ∧ Below w.heap.size w w') ∨
  (¬ isHead xs ∧ r = .returned (.tuple #[.int .i64 0, .int .i64 0, .int .i64 0, .bool false]) ∧ Below w.heap.size w w')

set_option maxRecDepth 100000 in
set_option maxHeartbeats 1000000 in
theorem head_at (a : Option Addr) (n cap : Nat) (xs : List UInt8) (w : World) (hl : xs.length = n) (hcap : n ≤ cap) (hmax : cap ≤ 9223372036854775807) (hr : Rd w a xs) : Calls Tryz.prog 272 #[.slice a n cap] w (HeadR w xs) := by
  have c := getHeading_at a n cap xs w hl hcap hmax hr
  clear hl
  go_enter Tryz.func272, Tryz.ntmps272
  go_wp2_with fail
  refine c.mono ?_
  rintro r w1 (⟨hhd, ah, ch, rfl, hEn, hb1⟩ | ⟨hhd, rfl, hb1⟩)
  · have hx : Hid (isHead xs) := hhd
    clear hhd c hEn
    have bh := Box.new w1 #[.int .i64 (saidE xs : Int), .int .i64 (saidS xs : Int), .slice ah (saidEs xs).length ch] 250
    have B1 := hb1.alloc hb1.size (.cells #[.int .i64 (saidE xs : Int), .int .i64 (saidS xs : Int), .slice ah (saidEs xs).length ch] 250)
    have y0 := bh.cell 0
    have y1 := bh.cell 1
    have y2 := bh.cell 2
    go_wp2_with fail
    go_quiet (fail)
    go_wp2
    refine bodyPost_ret (v := .tuple #[.int .i64 (saidE xs : Int), .int .i64 (saidS xs : Int), .int .i64 ((saidEs xs).length : Int), .bool true]) (by simp [results, Tryz.results272, go_sem]) rfl ?_
    exact .inl ⟨hx.out, rfl, ⟨B1.os, B1.tape, B1.output, B1.size, B1.block⟩⟩
  · have hx : Hid (¬ isHead xs) := hhd
    clear hhd c
    have bh := Box.new w1 #[.int .i64 0, .int .i64 0, .slice none 0 0] 250
    have B1 := hb1.alloc hb1.size (.cells #[.int .i64 0, .int .i64 0, .slice none 0 0] 250)
    have y0 := bh.cell 0
    have y1 := bh.cell 1
    have y2 := bh.cell 2
    go_wp2_with fail
    go_quiet (fail)
    go_wp2
    refine bodyPost_ret (v := .tuple #[.int .i64 0, .int .i64 0, .int .i64 0, .bool false]) (by simp [results, Tryz.results272, go_sem]) rfl ?_
    exact .inr ⟨hx.out, rfl, ⟨B1.os, B1.tape, B1.output, B1.size, B1.block⟩⟩
end Go.Proofs.YtnldkpckojhbhaaGreat.Rc

/-
  Blocks, sector by sector: what the walks through sectors come to. No walk here.
-/
namespace Go.Proofs.YtnldkpckojhbhaaGreat.Rc

/-- eight parts, one behind the other -/
def cat (f : Fin 8 → List UInt8) (k : Nat) : List UInt8 := (firsts k).flatMap f
theorem cat_succ (f : Fin 8 → List UInt8) (k : Nat) (h : k < 8) : cat f (k + 1) = cat f k ++ f ⟨k, h⟩ := by unfold cat; rw [firsts_succ k h]; simp
theorem cat_length (f : Fin 8 → List UInt8) (n : Nat) (hf : ∀ x, (f x).length = n) : ∀ k, k ≤ 8 → (cat f k).length = k * n
  | 0, _ => by simp [cat, firsts]
  | k + 1, h => by rw [cat_succ f k h, List.length_append, cat_length f n hf k (by omega), hf, Nat.add_mul, Nat.one_mul]
theorem over_app (A B M : List UInt8) (off : Nat) (h : A.length = off) : over (A ++ B) off M = A ++ (M ++ B.drop M.length) := by
  subst h
  unfold over
  rw [List.take_left, List.drop_append]
  congr 2
  rw [List.drop_eq_nil_of_le (by omega), List.nil_append]
  congr 1
  omega
theorem drop_sec (xs : List UInt8) (k : Nat) : xs.drop (k * 512 + 8) = (sec xs k).drop 8 ++ xs.drop ((k + 1) * 512) := by
  unfold sec
  rw [List.drop_take, List.drop_drop]
  have e : xs.drop ((k + 1) * 512) = (xs.drop (k * 512 + 8)).drop 504 := by rw [List.drop_drop]; exact congrArg (fun i => xs.drop i) (by omega)
  rw [e]
  exact (List.take_append_drop 504 _).symm
theorem sec_app (A B : List UInt8) (k : Nat) (h : A.length = k * 512) : sec (A ++ B) k = B.take 512 := by
  unfold sec
  rw [List.drop_append, List.drop_eq_nil_of_le (by omega), List.nil_append, h, Nat.sub_self, List.drop_zero]

theorem hideTo_firsts (xs M : List UInt8) (hl : xs.length = 4096) (hm : M.length = 8) : ∀ k, k ≤ 8 → hideTo xs M (firsts k) = (cat (fun x => M ++ (sec xs x.val).drop 8) k ++ xs.drop (k * 512), cat (fun x => (sec xs x.val).take 8) k)
  | 0, _ => by simp [hideTo, firsts, cat]
  | k + 1, h => by
    have hA : (cat (fun x => M ++ (sec xs x.val).drop 8) k).length = k * 512 := cat_length _ 512 (fun x => by have := sec_length xs x.val hl x.isLt; simp [this, hm]) k (by omega)
    rw [firsts_succ k h, hideTo_snoc, hideTo_firsts xs M hl hm k (by omega), cat_succ _ k h, cat_succ _ k h]
    unfold hideStep
    dsimp only
    rw [over_app _ _ _ _ hA, sec_app _ _ _ hA, hm, List.drop_drop, drop_sec]
    simp only [List.append_assoc]
    rfl
theorem unhideTo_firsts (xs H : List UInt8) (hl : xs.length = 4096) (hh : H.length = 64) : ∀ k, k ≤ 8 → unhideTo xs H (firsts k) = (cat (fun x => (H.drop (x.val * 8)).take 8 ++ (sec xs x.val).drop 8) k ++ xs.drop (k * 512), k)
  | 0, _ => by simp [unhideTo, firsts, cat]
  | k + 1, h => by
    have hA : (cat (fun x => (H.drop (x.val * 8)).take 8 ++ (sec xs x.val).drop 8) k).length = k * 512 := cat_length _ 512 (fun x => by have := sec_length xs x.val hl x.isLt; have := x.isLt; simp; omega) k (by omega)
    have h8 : ((H.drop (k * 8)).take 8).length = 8 := by simp; omega
    rw [firsts_succ k h, unhideTo_snoc, unhideTo_firsts xs H hl hh k (by omega), cat_succ _ k h]
    unfold unhideStep
    dsimp only
    rw [over_app _ _ _ _ hA, h8, List.drop_drop, drop_sec]
    simp only [List.append_assoc]
theorem putTo_firsts (Z M BB : List UInt8) (hl : Z.length = 4096) (hm : M.length = 8) (hb : BB.length = 4032) : ∀ k, k ≤ 8 → putTo Z M BB (firsts k) = (cat (fun x => M ++ (BB.drop (x.val * 504)).take 504) k ++ Z.drop (k * 512), k)
  | 0, _ => by simp [putTo, firsts, cat]
  | k + 1, h => by
    have hA : (cat (fun x => M ++ (BB.drop (x.val * 504)).take 504) k).length = k * 512 := cat_length _ 512 (fun x => by have := x.isLt; simp [hm]; omega) k (by omega)
    have h5 : ((BB.drop (k * 504)).take 504).length = 504 := by simp; omega
    rw [firsts_succ k h, putTo_snoc, putTo_firsts Z M BB hl hm hb k (by omega), cat_succ _ k h]
    unfold putStep
    dsimp only
    rw [over_app _ _ _ _ hA, ← List.append_assoc, over_app _ _ _ (k * 512 + 8) (by rw [List.length_append, hA, hm]), h5, hm, List.drop_drop, List.drop_drop]
    have e0 : k * 512 + 8 + 504 = (k + 1) * 512 := by omega
    rw [e0]
    simp only [List.append_assoc]

/-- what the calls come to -/
theorem stB_cat (M xs : List UInt8) (hl : xs.length = 4096) (hm : M.length = 8) : stB M xs = cat (fun x => M ++ (sec xs x.val).drop 8) 8 := by
  unfold stB
  rw [← firsts_all, hideTo_firsts xs M hl hm 8 (by omega)]
  simp [List.drop_eq_nil_of_le, hl]
theorem hdB_cat (M xs : List UInt8) (hl : xs.length = 4096) (hm : M.length = 8) : hdB M xs = cat (fun x => (sec xs x.val).take 8) 8 := by
  unfold hdB
  rw [← firsts_all, hideTo_firsts xs M hl hm 8 (by omega)]
theorem unhide_cat (xs H : List UInt8) (hl : xs.length = 4096) (hh : H.length = 64) : (unhideTo xs H (List.finRange 8)).1 = cat (fun x => (H.drop (x.val * 8)).take 8 ++ (sec xs x.val).drop 8) 8 := by
  rw [← firsts_all, unhideTo_firsts xs H hl hh 8 (by omega)]
  simp [List.drop_eq_nil_of_le, hl]
theorem headB_cat (e s : Nat) (es : List (Nat × List UInt8)) (hb : (bodyB es).length = 4032) : headB e s es = cat (fun x => mark e s ++ ((bodyB es).drop (x.val * 504)).take 504) 8 := by
  unfold headB
  rw [← firsts_all, putTo_firsts _ _ _ (nought_length _) (mark_length _ _) hb 8 (by omega)]
  have : (nought 4096).drop (8 * 512) = [] := List.drop_eq_nil_of_le (by rw [nought_length]; omega)
  rw [this, List.append_nil]
theorem bodyX_cat (xs : List UInt8) : bodyX xs = cat (fun x => (sec xs x.val).drop 8) 8 := by unfold bodyX bodyTo cat; rw [firsts_all]

/-- part x of eight parts -/
theorem part_cat (f : Fin 8 → List UInt8) (n : Nat) (hf : ∀ x, (f x).length = n) (x : Fin 8) : ∀ k, k ≤ 8 → x.val < k → ((cat f k).drop (x.val * n)).take n = f x
  | 0, _, h => absurd h (by omega)
  | k + 1, hk, h => by
    have hl := cat_length f n hf k (by omega)
    rw [cat_succ f k hk]
    by_cases hx : x.val < k
    · have h1 : x.val * n + n ≤ k * n := by
        have := Nat.mul_le_mul_right n (show x.val + 1 ≤ k from hx)
        rw [Nat.add_mul, Nat.one_mul] at this
        exact this
      rw [List.drop_append_of_le_length (by omega), List.take_append_of_le_length (by rw [List.length_drop]; omega)]
      exact part_cat f n hf x k (by omega) hx
    · obtain ⟨xv, hxv⟩ := x
      obtain rfl : xv = k := by simp at h hx; omega
      rw [List.drop_append, List.drop_eq_nil_of_le (by rw [hl]; exact Nat.le_refl _), List.nil_append, hl, Nat.sub_self, List.drop_zero, List.take_of_length_le (by rw [hf]; exact Nat.le_refl _)]
theorem sec_cat (f : Fin 8 → List UInt8) (hf : ∀ x, (f x).length = 512) (x : Fin 8) : sec (cat f 8) x.val = f x := part_cat f 512 hf x 8 (by omega) x.isLt
/-- a block is its sectors -/
theorem cat_sec (xs : List UInt8) (hl : xs.length = 4096) : cat (fun x => sec xs x.val) 8 = xs := by
  have : ∀ k, k ≤ 8 → cat (fun x => sec xs x.val) k = xs.take (k * 512) := by
    intro k
    induction k with
    | zero => intro _; simp [cat, firsts]
    | succ k ih =>
      intro h
      rw [cat_succ _ k h, ih (by omega)]
      unfold sec
      have e : (k + 1) * 512 = k * 512 + 512 := by omega
      rw [e, List.take_add]
  rw [this 8 (by omega)]
  exact List.take_of_length_le (by omega)

/-- what is hidden is laid back -/
theorem unhide_hide (M xs : List UInt8) (hl : xs.length = 4096) (hm : M.length = 8) : (unhideTo (stB M xs) (hdB M xs) (List.finRange 8)).1 = xs := by
  have hf : ∀ x : Fin 8, (M ++ (sec xs x.val).drop 8).length = 512 := fun x => by have := sec_length xs x.val hl x.isLt; simp [this, hm]
  have hg : ∀ x : Fin 8, ((sec xs x.val).take 8).length = 8 := fun x => by have := sec_length xs x.val hl x.isLt; simp [this]
  have h1 : (stB M xs).length = 4096 := by rw [stB_cat M xs hl hm, cat_length _ 512 hf 8 (by omega)]
  have h2 : (hdB M xs).length = 64 := by rw [hdB_cat M xs hl hm, cat_length _ 8 hg 8 (by omega)]
  rw [unhide_cat _ _ h1 h2]
  have : (fun x : Fin 8 => ((hdB M xs).drop (x.val * 8)).take 8 ++ (sec (stB M xs) x.val).drop 8) = fun x => sec xs x.val := by
    funext x
    rw [hdB_cat M xs hl hm, part_cat _ 8 hg x 8 (by omega) x.isLt, stB_cat M xs hl hm, sec_cat _ hf x]
    have : (M ++ (sec xs x.val).drop 8).drop 8 = (sec xs x.val).drop 8 := List.drop_left' hm
    rw [this]
    exact List.take_append_drop 8 _
  rw [this]
  exact cat_sec xs hl
end Go.Proofs.YtnldkpckojhbhaaGreat.Rc

/-
  What is put is got: no walk here.
-/
namespace Go.Proofs.YtnldkpckojhbhaaGreat.Rc

/-- parts of 504, one behind the other -/
theorem cat_parts (bb : List UInt8) (hl : bb.length = 4032) : cat (fun x => (bb.drop (x.val * 504)).take 504) 8 = bb := by
  have : ∀ k, k ≤ 8 → cat (fun x => (bb.drop (x.val * 504)).take 504) k = bb.take (k * 504) := by
    intro k
    induction k with
    | zero => intro _; simp [cat, firsts]
    | succ k ih =>
      intro h
      rw [cat_succ _ k h, ih (by omega)]
      have e : (k + 1) * 504 = k * 504 + 504 := by omega
      rw [e, List.take_add]
  rw [this 8 (by omega)]
  exact List.take_of_length_le (by omega)

section
variable {e s : Nat} {es : List (Nat × List UInt8)}
theorem part_len (hb : (bodyB es).length = 4032) (x : Fin 8) : (mark e s ++ ((bodyB es).drop (x.val * 504)).take 504).length = 512 := by
  have := x.isLt
  simp [mark_length, hb]
  omega
theorem sec_head (hb : (bodyB es).length = 4032) (x : Fin 8) : sec (headB e s es) x.val = mark e s ++ ((bodyB es).drop (x.val * 504)).take 504 := by
  rw [headB_cat e s es hb]
  exact sec_cat _ (part_len hb) x
theorem headB_length (hb : (bodyB es).length = 4032) : (headB e s es).length = 4096 := by
  rw [headB_cat e s es hb, cat_length _ 512 (part_len hb) 8 (by omega)]
theorem body_head (hb : (bodyB es).length = 4032) : bodyX (headB e s es) = bodyB es := by
  rw [bodyX_cat]
  have : (fun x : Fin 8 => (sec (headB e s es) x.val).drop 8) = fun x => ((bodyB es).drop (x.val * 504)).take 504 := by
    funext x
    rw [sec_head hb x]
    exact List.drop_left' (mark_length _ _)
  rw [this]
  exact cat_parts _ hb
theorem take8_sec (xs : List UInt8) : xs.take 8 = (sec xs 0).take 8 := by
  unfold sec
  rw [Nat.zero_mul, List.drop_zero, List.take_take]
  rfl
theorem take8_head (hb : (bodyB es).length = 4032) : (headB e s es).take 8 = mark e s := by
  rw [take8_sec, show sec (headB e s es) 0 = _ from sec_head hb (0 : Fin 8)]
  exact List.take_left' (mark_length _ _)
theorem be_mark (he : e ≤ 8388608) (hs : s ≤ 549755813888) : beNat (mark e s) = stampN e s := by
  unfold mark
  rw [beNat_toBE]
  refine Nat.mod_eq_of_lt ?_
  unfold stampN
  omega
theorem said_head (hb : (bodyB es).length = 4032) (he : e ≤ 8388608) (hs : s ≤ 549755813888) : saidE (headB e s es) = e ∧ saidS (headB e s es) = s := by
  unfold saidE saidS
  rw [take8_head hb, be_mark he hs]
  unfold stampN
  omega
theorem cnt_body (hn : es.length ≤ 32) : cntOf (bodyB es) = es.length := by
  unfold cntOf bodyB
  rw [List.append_assoc, List.take_left' (toBE_length _ _), beNat_toBE]
  omega
theorem entsB_split (h : ∀ x ∈ es, x.2.length = 64) (i : Nat) (hi : i < es.length) : ∃ r, entsB es = entsB (es.take i) ++ (toBE 2 es[i].1 ++ (es[i].2 ++ r)) ∧ (entsB (es.take i)).length = i * 66 := by
  refine ⟨entsB (es.drop (i + 1)), ?_, ?_⟩
  · have e1 : es = es.take i ++ es[i] :: es.drop (i + 1) := by simp
    have : entsB es = entsB (es.take i ++ es[i] :: es.drop (i + 1)) := by rw [← e1]
    rw [this]
    unfold entsB
    rw [List.flatMap_append, List.flatMap_cons]
    simp only [List.append_assoc]
  · rw [entsB_length _ (fun x hx => h x (List.mem_of_mem_take hx))]
    rw [List.length_take, Nat.min_eq_left (by omega)]
theorem ent_body (h : ∀ x ∈ es, x.2.length = 64) (hb : ∀ x ∈ es, x.1 ≤ 511) (i : Nat) (hi : i < es.length) : entOf (bodyB es) i = es[i] := by
  obtain ⟨r, e1, e2⟩ := entsB_split h i hi
  have hm := List.getElem_mem hi
  have d6 : (bodyB es).drop (6 + i * 66) = toBE 2 es[i].1 ++ (es[i].2 ++ (r ++ nought (4026 - es.length * 66))) := by
    unfold bodyB restB
    rw [← List.drop_drop, List.drop_left' (by rw [List.length_append, toBE_length, toBE_length]), e1]
    simp only [List.append_assoc]
    exact List.drop_left' e2
  have d8 : (bodyB es).drop (8 + i * 66) = es[i].2 ++ (r ++ nought (4026 - es.length * 66)) := by
    rw [show 8 + i * 66 = (6 + i * 66) + 2 by omega, ← List.drop_drop, d6]
    exact List.drop_left' (toBE_length _ _)
  unfold entOf
  rw [d6, d8, List.take_left' (toBE_length _ _), List.take_left' (h _ hm), beNat_toBE, Nat.mod_eq_of_lt (by have := hb _ hm; omega)]
theorem ents_body (h : ∀ x ∈ es, x.2.length = 64) (hb : ∀ x ∈ es, x.1 ≤ 511) : entsOf (bodyB es) es.length = es := by
  refine List.ext_getElem (entsOf_length _ _) (fun i h1 h2 => ?_)
  have : (entsOf (bodyB es) es.length)[i] = entOf (bodyB es) i := by simp [entsOf]
  rw [this]
  exact ent_body h hb i h2
/-- what a head says -/
theorem said_es (h : ∀ x ∈ es, x.2.length = 64) (hb : ∀ x ∈ es, x.1 ≤ 511) (hn : es.length ≤ 32) : saidEs (headB e s es) = es := by
  unfold saidEs
  rw [body_head (bodyB_length es h hn), cnt_body hn, if_pos hn]
  exact ents_body h hb
theorem head_is (h : ∀ x ∈ es, x.2.length = 64) (hb : ∀ x ∈ es, x.1 ≤ 511) (hn : es.length ≤ 32) (hok : okHead e s (es.map fun x => (x.1 : Int))) : isHead (headB e s es) := by
  have hl := bodyB_length es h hn
  have hst := (okStamp_iff _ _).1 hok.1
  obtain ⟨q1, q2⟩ := said_head (e := e) (s := s) hl (by omega) (by omega)
  unfold isHead
  rw [q1, q2, said_es h hb hn]
  exact ⟨headB_length hl, hok, rfl⟩
end

/-- a group's entries, its blocks -/
def entL (M : List UInt8) (is : List (Int × List UInt8)) : List (Nat × List UInt8) := is.map fun i => (i.1.toNat, hdB M i.2)
def putL (e s : Nat) (is : List (Int × List UInt8)) : List (List UInt8) := headB e s (entL (mark e s) is) :: is.map fun i => stB (mark e s) i.2

section
variable {e s : Nat} {is : List (Int × List UInt8)}
theorem hdB_length (M xs : List UInt8) (hl : xs.length = 4096) (hm : M.length = 8) : (hdB M xs).length = 64 := by
  rw [hdB_cat M xs hl hm, cat_length _ 8 (fun x => by have := sec_length xs x.val hl x.isLt; simp [this]) 8 (by omega)]
theorem stB_length (M xs : List UInt8) (hl : xs.length = 4096) (hm : M.length = 8) : (stB M xs).length = 4096 := by
  rw [stB_cat M xs hl hm, cat_length _ 512 (fun x => by have := sec_length xs x.val hl x.isLt; simp [this, hm]) 8 (by omega)]
theorem okTo_each {bs : List Int} (h : okTo bs bs.length) : ∀ b ∈ bs, 0 ≤ b ∧ b ≤ 511 := fun b hb => by
  obtain ⟨j, hj, rfl⟩ := List.getElem_of_mem hb
  exact (h j hj hj).1
theorem entL_len (hok : okGroup e s is) : ∀ x ∈ entL (mark e s) is, x.2.length = 64 := fun x hx => by
  obtain ⟨i, hi, rfl⟩ := List.mem_map.1 hx
  exact hdB_length _ _ (hok.2 i hi) (mark_length _ _)
theorem entL_blk (hok : okGroup e s is) : ∀ x ∈ entL (mark e s) is, x.1 ≤ 511 := fun x hx => by
  obtain ⟨i, hi, rfl⟩ := List.mem_map.1 hx
  have := okTo_each hok.1.2.2 i.1 (List.mem_map.2 ⟨i, hi, rfl⟩)
  show i.1.toNat ≤ 511
  omega
theorem entL_map (hok : okGroup e s is) (M : List UInt8) : ((entL M is).map fun x => (x.1 : Int)) = is.map (·.1) := by
  unfold entL
  rw [List.map_map]
  refine List.map_congr_left (fun i hi => ?_)
  have := okTo_each hok.1.2.2 i.1 (List.mem_map.2 ⟨i, hi, rfl⟩)
  show ((i.1.toNat : Nat) : Int) = i.1
  omega
theorem entL_length (M : List UInt8) : (entL M is).length = is.length := by simp [entL]
theorem is_length (hok : okGroup e s is) : 1 ≤ is.length ∧ is.length ≤ 32 := by have := hok.1.2.1; simpa using this
theorem put_head (hok : okGroup e s is) : isHead (headB e s (entL (mark e s) is)) :=
  head_is (entL_len hok) (entL_blk hok) (by rw [entL_length]; exact (is_length hok).2) (by rw [entL_map hok]; exact hok.1)
theorem put_said (hok : okGroup e s is) : saidE (headB e s (entL (mark e s) is)) = e ∧ saidS (headB e s (entL (mark e s) is)) = s ∧ saidEs (headB e s (entL (mark e s) is)) = entL (mark e s) is := by
  have hn : (entL (mark e s) is).length ≤ 32 := by rw [entL_length]; exact (is_length hok).2
  have hst := (okStamp_iff _ _).1 hok.1.1
  obtain ⟨q1, q2⟩ := said_head (e := e) (s := s) (bodyB_length _ (entL_len hok) hn) (by omega) (by omega)
  exact ⟨q1, q2, said_es (entL_len hok) (entL_blk hok) hn⟩
theorem sec_st (M xs : List UInt8) (hl : xs.length = 4096) (hm : M.length = 8) (x : Fin 8) : sec (stB M xs) x.val = M ++ (sec xs x.val).drop 8 := by
  rw [stB_cat M xs hl hm]
  exact sec_cat _ (fun x => by have := sec_length xs x.val hl x.isLt; simp [this, hm]) x
theorem st_stamped (hok : okGroup e s is) (i : Int × List UInt8) (hi : i ∈ is) : stampedB (stB (mark e s) i.2) (e : Int) (s : Int) = true := by
  unfold stampedB
  have hl := hok.2 i hi
  have h1 := stB_length (mark e s) i.2 hl (mark_length _ _)
  have h2 : okStamp (e : Int) (s : Int) = true := hok.1.1
  rw [h2]
  simp only [h1, decide_true, Bool.true_and]
  unfold allMarked
  rw [List.all_eq_true]
  intro x _
  rw [sec_st _ _ hl (mark_length _ _) x, List.take_left' (mark_length _ _)]
  simp
/-- what is put is a group -/
theorem put_grp (hok : okGroup e s is) : isGrp (putL e s is) := by
  obtain ⟨q1, q2, q3⟩ := put_said hok
  unfold isGrp
  have e0 : (putL e s is)[0]?.getD [] = headB e s (entL (mark e s) is) := rfl
  rw [e0, q1, q2, q3, entL_length]
  refine ⟨by simp [putL], put_head hok, by simp [putL], fun j hj => ?_⟩
  have : (putL e s is)[j + 1]?.getD [] = stB (mark e s) (is[j]).2 := by simp [putL, hj]
  rw [this]
  exact st_stamped hok _ (List.getElem_mem hj)
/-- and that group is got -/
theorem put_imgs (hok : okGroup e s is) : imgsTo (putL e s is) (entL (mark e s) is) is.length = is := by
  refine List.ext_getElem (by simp [imgsTo]) (fun j h1 h2 => ?_)
  have e9 : (imgsTo (putL e s is) (entL (mark e s) is) is.length)[j] = imgOf (putL e s is) (entL (mark e s) is) j := by simp [imgsTo]
  rw [e9]
  unfold imgOf
  have hm := List.getElem_mem h2
  have e1 : (putL e s is)[j + 1]?.getD [] = stB (mark e s) (is[j]).2 := by simp [putL, h2]
  have e2 : (entL (mark e s) is)[j]?.getD (0, []) = ((is[j]).1.toNat, hdB (mark e s) (is[j]).2) := by simp [entL, h2]
  rw [e1, e2]
  dsimp only
  rw [unhide_hide _ _ (hok.2 _ hm) (mark_length _ _)]
  have := okTo_each hok.1.2.2 (is[j]).1 (List.mem_map.2 ⟨_, hm, rfl⟩)
  refine Prod.ext ?_ rfl
  show (((is[j]).1.toNat : Nat) : Int) = (is[j]).1
  omega
end
end Go.Proofs.YtnldkpckojhbhaaGreat.Rc

/-
  A group is taken only if all of it was written: no walk here.
-/
namespace Go.Proofs.YtnldkpckojhbhaaGreat.Rc

theorem mark_inj {e s e' s' : Nat} (he : e ≤ 8388608) (hs : s ≤ 549755813888) (he' : e' ≤ 8388608) (hs' : s' ≤ 549755813888) (h : mark e s = mark e' s') : e = e' ∧ s = s' := by
  have h1 := congrArg beNat h
  rw [be_mark he hs, be_mark he' hs'] at h1
  unfold stampN at h1
  omega
/-- no noughts bear a stamp -/
theorem mark_ne {e s : Nat} (he : 1 ≤ e) (he2 : e ≤ 8388608) (hs : s ≤ 549755813888) : mark e s ≠ List.replicate 8 0 := fun h => by
  have h1 := congrArg beNat h
  rw [be_mark he2 hs] at h1
  have h2 : beNat (List.replicate 8 0) = 0 := by decide
  rw [h2] at h1
  unfold stampN at h1
  omega

/-- every sector of a group bears the stamp that it says -/
theorem grp_marks {ls : List (List UInt8)} (h : isGrp ls) (b : Nat) (hb : b < ls.length) (x : Fin 8) : (sec ls[b] x.val).take 8 = mark (saidE (ls[0]?.getD [])) (saidS (ls[0]?.getD [])) := by
  obtain ⟨h0, hh, hn, hs⟩ := h
  cases b with
  | zero =>
    have e0 : ls[0] = ls[0]?.getD [] := by simp [h0]
    rw [e0]
    obtain ⟨h1, h2, h3⟩ := hh
    have hlen : ∀ y ∈ saidEs (ls[0]?.getD []), y.2.length = 64 := by
      intro y hy
      unfold saidEs at hy
      split at hy
      · unfold entsOf at hy
        obtain ⟨i, hi, rfl⟩ := List.mem_map.1 hy
        have hi' : i < cntOf (bodyX (ls[0]?.getD [])) := by simpa using hi
        have hbl := bodyX_length _ h1
        unfold entOf
        show ((List.drop (8 + i * 66) _).take 64).length = 64
        rw [List.length_take, List.length_drop, hbl]
        omega
      · cases hy
    have hbd : (bodyB (saidEs (ls[0]?.getD []))).length = 4032 := bodyB_length _ hlen (by have := h2.2.1; simpa using this.2)
    have h4 := sec_head (e := saidE (ls[0]?.getD [])) (s := saidS (ls[0]?.getD [])) hbd x
    rw [← h3] at h4
    rw [h4]
    exact List.take_left' (mark_length _ _)
  | succ j =>
    have hj : j < (saidEs (ls[0]?.getD [])).length := by omega
    have h1 := hs j hj
    have e1 : ls[j + 1]?.getD [] = ls[j + 1] := by simp [hb]
    rw [e1] at h1
    unfold stampedB allMarked at h1
    simp only [Bool.and_eq_true, List.all_eq_true] at h1
    have h2 := h1.2.2 x (List.mem_finRange x)
    simpa using h2
theorem grp_ok {ls : List (List UInt8)} (h : isGrp ls) : okStamp (saidE (ls[0]?.getD [])) (saidS (ls[0]?.getD [])) = true := h.2.1.2.1.1
theorem grp_len {ls : List (List UInt8)} (h : isGrp ls) (b : Nat) (hb : b < ls.length) : ls[b].length = 4096 := by
  obtain ⟨h0, hh, hn, hs⟩ := h
  cases b with
  | zero =>
    have e0 : ls[0] = ls[0]?.getD [] := by simp [h0]
    rw [e0]
    exact hh.1
  | succ j =>
    have h1 := hs j (by omega)
    have e1 : ls[j + 1]?.getD [] = ls[j + 1] := by simp [hb]
    rw [e1] at h1
    unfold stampedB at h1
    simp only [Bool.and_eq_true, decide_eq_true_eq] at h1
    exact h1.1

section
variable {e s e' s' : Nat} {is is' : List (Int × List UInt8)}
theorem put_marks (hok : okGroup e s is) (b : Nat) (hb : b < (putL e s is).length) (x : Fin 8) : (sec (putL e s is)[b] x.val).take 8 = mark e s := by
  have h := grp_marks (put_grp hok) b hb x
  have e0 : (putL e s is)[0]?.getD [] = headB e s (entL (mark e s) is) := rfl
  rw [e0, (put_said hok).1, (put_said hok).2.1] at h
  exact h

/-- where one sector is another group's, or was never written, only the other group whole is a group -/
theorem mix_grp (hok : okGroup e s is) (hok' : okGroup e' s' is') (hne : ¬(e = e' ∧ s = s')) (X : List (List UInt8)) (hl : X.length = (putL e s is).length)
    (hsec : ∀ b (h : b < X.length) (x : Fin 8), sec X[b] x.val = sec ((putL e s is)[b]'(by omega)) x.val ∨ (∃ h' : b < (putL e' s' is').length, sec X[b] x.val = sec ((putL e' s' is')[b]) x.val) ∨ (sec X[b] x.val).take 8 = List.replicate 8 0)
    (hsome : ∃ b, ∃ h : b < X.length, ∃ x : Fin 8, (∃ h' : b < (putL e' s' is').length, sec X[b] x.val = sec ((putL e' s' is')[b]) x.val) ∨ (sec X[b] x.val).take 8 = List.replicate 8 0)
    (hg : isGrp X) : X = putL e' s' is' := by
  have st := (okStamp_iff _ _).1 (grp_ok hg)
  have st1 := (okStamp_iff _ _).1 hok.1.1
  have st2 := (okStamp_iff _ _).1 hok'.1.1
  have noz : mark (saidE (X[0]?.getD [])) (saidS (X[0]?.getD [])) ≠ List.replicate 8 0 := mark_ne (by omega) (by omega) (by omega)
  have hthe : saidE (X[0]?.getD []) = e' ∧ saidS (X[0]?.getD []) = s' := by
    obtain ⟨b, hb, x, ⟨h', hx⟩ | hx⟩ := hsome
    · have h1 := grp_marks hg b hb x
      rw [hx, put_marks hok' b h' x] at h1
      obtain ⟨q1, q2⟩ := mark_inj (by omega) (by omega) (by omega) (by omega) h1
      exact ⟨q1.symm, q2.symm⟩
    · exact absurd ((grp_marks hg b hb x).symm.trans hx) noz
  have hall : ∀ b (hb : b < X.length), ∃ h' : b < (putL e' s' is').length, X[b] = (putL e' s' is')[b] := by
    intro b hb
    have each : ∀ x : Fin 8, ∃ h' : b < (putL e' s' is').length, sec X[b] x.val = sec ((putL e' s' is')[b]) x.val := by
      intro x
      rcases hsec b hb x with hx | hx | hx
      · have h1 := grp_marks hg b hb x
        rw [hx, put_marks hok b (by omega) x, hthe.1, hthe.2] at h1
        exact absurd (mark_inj (by omega) (by omega) (by omega) (by omega) h1) hne
      · exact hx
      · exact absurd ((grp_marks hg b hb x).symm.trans hx) noz
    obtain ⟨h', _⟩ := each 0
    refine ⟨h', ?_⟩
    rw [← cat_sec X[b] (grp_len hg b hb), ← cat_sec _ (grp_len (put_grp hok') b h')]
    congr 1
    funext x
    obtain ⟨_, h2⟩ := each x
    exact h2
  have h0 : 0 < X.length := hg.1
  obtain ⟨h0', e0⟩ := hall 0 h0
  have hX0 : X[0]?.getD [] = headB e' s' (entL (mark e' s') is') := by
    rw [List.getElem?_eq_getElem h0, Option.getD_some, e0]
    rfl
  have hlen : X.length = (putL e' s' is').length := by
    have := hg.2.2.1
    rw [hX0, (put_said hok').2.2, entL_length] at this
    rw [this]
    simp [putL]
  refine List.ext_getElem hlen (fun b h1 h2 => ?_)
  obtain ⟨_, e1⟩ := hall b h1
  exact e1
end
end Go.Proofs.YtnldkpckojhbhaaGreat.Rc

/-
  SameLists, SameImages, SameGroup.
-/
namespace Go.Proofs.YtnldkpckojhbhaaGreat.Rc
open Go.RowKit

theorem below_drewN {B : Nat} {a w : World} (h : Below B a w) (n : Nat) : Below B a (w.drewN n) := ⟨h.os, h.tape, h.output, h.size, h.block⟩
theorem LstAt.drewN {w : World} {b o : Nat} {xs : List UInt8} (h : LstAt w b o xs) (n : Nat) : LstAt (w.drewN n) b o xs := h.below (below_drewN (Below.refl _ _) n)

set_option maxRecDepth 100000 in
theorem sameLists_at (a a' : Option Addr) (n c n' c' : Nat) (ls ms : List (List UInt8)) (w : World) (hl : ls.length = n) (hm : ms.length = n') (hn : n ≤ 1000000000) (hL : Lsts w a ls) (hM : Lsts w a' ms) :
    Calls Tryz.prog 55 #[.slice a n c, .slice a' n' c'] w fun r w' => r = .returned (.bool (decide (ls = ms))) ∧ Below w.heap.size w w' := by
  by_cases hnn : n = n'
  · subst hnn
    have HL : Hid (ls.length = n) := hl
    have HM : Hid (ms.length = n) := hm
    have HLL : Hid (Lsts w a ls) := hL
    have HMM : Hid (Lsts w a' ms) := hM
    clear hl hm hL hM
    obtain ⟨q, hq⟩ : ∃ q, q = decide (ls = ms) := ⟨_, rfl⟩
    rw [← hq]
    have HQ : Hid (q = decide (ls = ms)) := hq
    clear hq
    go_enter Tryz.func55, Tryz.ntmps55
    go_wp2_with fail
    go_loopw [5] (fun v u => ∃ k : Nat, k ≤ n ∧ v = .int .i64 (k : Int) ∧ ls.take k = ms.take k ∧ Below w.heap.size w u) (fun v _ => n - (intOf v).toNat)
    case atStart => exact ⟨0, Nat.zero_le _, rfl, by simp, Below.refl _ _⟩
    case round =>
      obtain ⟨k, hk, rfl, ht, B⟩ := hrel
      have HT : Hid (ls.take k = ms.take k) := ht
      clear ht
      by_cases hlt : k < n
      · have k1 : k < ls.length := by rw [HL.out]; exact hlt
        have k2 : k < ms.length := by rw [HM.out]; exact hlt
        obtain ⟨b, o, rfl, hc⟩ := HLL.out (by omega)
        obtain ⟨b', o', rfl, hc'⟩ := HMM.out (by omega)
        obtain ⟨x, cx, g1, g2, g3, g4, g5⟩ := hc k k1
        obtain ⟨y, cy, f1, f2, f3, f4, f5⟩ := hc' k k2
        have lb : b < w.heap.size := block_lt_of_cell g1
        have lb' : b' < w.heap.size := block_lt_of_cell f1
        rw [← B.cell (p := ⟨b, o + k, none⟩) lb] at g1
        rw [← B.cell (p := ⟨b', o' + k, none⟩) lb'] at f1
        have r1 := g5.below B (Nat.le_refl _)
        have r2 := f5.below B (Nat.le_refl _)
        have hstep : Hid (ls.take (k + 1) = ls.take k ++ [ls[k]] ∧ ms.take (k + 1) = ms.take k ++ [ms[k]]) := ⟨List.take_succ_eq_append_getElem k1, List.take_succ_eq_append_getElem k2⟩
        have hmem : Hid (ls = ms → (ls[k]'k1) = (ms[k]'k2)) := fun e => by subst e; rfl
        generalize (ls[k]'k1) = xs at g1 g2 r1 hstep hmem
        generalize (ms[k]'k2) = ys at f1 f2 r2 hstep hmem
        have cS : ∀ q : Nat, Calls Tryz.prog 29 #[.slice x xs.length cx, .slice y ys.length cy] (wr.drewN q) fun e w' => e = .returned (.bool (xs == ys)) ∧ w' = wr.drewN q := fun q => (same_at cx cy xs.length ys.length x y xs ys (wr.drewN q) rfl rfl r1 r2).mono fun e w' ⟨h1, h2⟩ => ⟨h1, h2.symm⟩
        clear hc hc' g2 g3 g4 g5 f2 f3 f4 f5 lb lb' r1 r2
        by_cases hxy : xs = ys
        · have hb : (xs == ys) = true := by simp [hxy]
          rw [hb] at cS
          have HCS : Hid _ := cS
          have HXY : Hid _ := hxy
          clear cS hb hxy
          go_wp2_with fail
          go_quiet ((go_at_call 29; exact Calls.quiet_of_same (HCS.out _)))
          have B2 := below_drewN B nq
          clear HCS g1 f1
          go_wp2_with fail
          go_roundw
          case rel => exact ⟨k + 1, by omega, by push_cast; rfl, by rw [hstep.out.1, hstep.out.2, HT.out, HXY.out], B2⟩
          case measure => simp [intOf]; omega
        · have hb : (xs == ys) = false := by simp [hxy]
          rw [hb] at cS
          have HCS : Hid _ := cS
          have hqf : q = false := by rw [HQ.out]; exact decide_eq_false (fun e => hxy (hmem.out e))
          have HXY : Hid _ := hxy
          clear cS hb hxy
          go_wp2_with fail
          go_quiet ((go_at_call 29; exact Calls.quiet_of_same (HCS.out _)))
          have B2 := below_drewN B nq
          clear HCS g1 f1
          go_wp2_with fail
          go_ret
          exact ⟨by rw [hqf]; rfl, B2⟩
      · have hke : k = n := by omega
        have hqt : q = true := by
          rw [HQ.out]
          refine decide_eq_true ?_
          have := HT.out
          rwa [List.take_of_length_le (by rw [HL.out]; omega), List.take_of_length_le (by rw [HM.out]; omega)] at this
        go_wp2_with fail
        go_ret
        exact ⟨by rw [hqt]; rfl, B⟩
  · rw [decide_eq_false (fun e => hnn (by rw [← hl, ← hm, e]))]
    have hnb : ((n : Int) == (n' : Int)) = false := by simp; omega
    clear hl hm
    go_enter Tryz.func55, Tryz.ntmps55
    go_wp2_with fail
    go_ret
    exact ⟨rfl, Below.refl _ _⟩

end Go.Proofs.YtnldkpckojhbhaaGreat.Rc

/-
  What the laws' own helpers make: filled, one, CopyLists.
-/
namespace Go.Proofs.YtnldkpckojhbhaaGreat.Rc
open Go.RowKit

/-- the first k bytes are c, the others noughts -/
def fillK (c : UInt8) (k : Nat) : List UInt8 := (List.range 4096).map fun i => if i < k then c else 0
def fill (c : UInt8) : List UInt8 := fillK c 4096
theorem fillK_length (c : UInt8) (k : Nat) : (fillK c k).length = 4096 := by simp [fillK]
theorem fill_length (c : UInt8) : (fill c).length = 4096 := fillK_length c 4096
theorem fillK_get (c : UInt8) (k i : Nat) : (fillK c k)[i]? = if i < 4096 then some (if i < k then c else 0) else none := by
  unfold fillK
  rw [List.getElem?_map]
  by_cases h : i < 4096
  · rw [List.getElem?_range h, if_pos h]; rfl
  · rw [List.getElem?_eq_none (by simp; omega), if_neg h]; rfl
theorem fillK_zero (c : UInt8) : fillK c 0 = List.replicate 4096 0 := by
  apply List.ext_getElem?
  intro i
  rw [fillK_get, List.getElem?_replicate]
  simp
theorem fillK_set (c : UInt8) (k : Nat) (h : k < 4096) : (fillK c k).set k c = fillK c (k + 1) := by
  apply List.ext_getElem?
  intro i
  rw [List.getElem?_set, fillK_get, fillK_get, fillK_length]
  by_cases e : k = i
  · subst e
    rw [if_pos rfl, if_pos h, if_pos h, if_pos (by omega)]
  · rw [if_neg e]
    by_cases h1 : i < k
    · rw [if_pos h1, if_pos (show i < k + 1 by omega)]
    · rw [if_neg h1, if_neg (show ¬ i < k + 1 by omega)]
theorem fill_get (c : UInt8) (i : Nat) (h : i < 4096) : (fill c)[i]? = some c := by
  unfold fill
  rw [fillK_get, if_pos h, if_pos h]

theorem nought_fill (c : UInt8) : nought 4096 = fillK c 0 := by rw [fillK_zero]; rfl

end Go.Proofs.YtnldkpckojhbhaaGreat.Rc

/-
  CopyLists: blocks in memory of their own.
-/
namespace Go.Proofs.YtnldkpckojhbhaaGreat.Rc
open Go.RowKit

def lstC (ps : List GG) : List Value := ps.map fun p => .slice (some ⟨p.h, 0, none⟩) 4096 p.c

set_option maxRecDepth 100000 in
set_option maxHeartbeats 1000000 in
theorem copyLists_at (a : Option Addr) (n cap : Nat) (ls : List (List UInt8)) (w : World) (hl : ls.length = n) (hn : n ≤ 1000) (hL : Lsts w a ls) (h4 : ∀ x ∈ ls, x.length = 4096) :
    Calls Tryz.prog 117 #[.slice a n cap] w fun r w' => ∃ v ps, r = .returned v ∧ w'.ownsRow w.heap.size 37 1 v n (lstC ps) ∧ GetJ w.heap.size w' ps ∧ ps.map GG.xs = ls ∧ Below w.heap.size w w' := by
  obtain ⟨j0, ji, jz0, jz1, jz2⟩ := info_parts info31
  have HL : Hid (ls.length = n) := hl
  have HLL : Hid (Lsts w a ls) := hL
  have H4 : Hid (∀ x ∈ ls, x.length = 4096) := h4
  clear hl hL h4
  go_enter Tryz.func117, Tryz.ntmps117
  go_wp2_with fail
  go_loopw [3, 4] (fun v i u => ∃ (k : Nat) (ps : List GG), k ≤ n ∧ i = .int .i64 (k : Int) ∧ u.ownsRow w.heap.size 37 1 v k (lstC ps) ∧ GetJ w.heap.size u ps ∧ ps.map GG.xs = ls.take k ∧ Below w.heap.size w u) (fun _ i _ => n - (intOf i).toNat)
  case atStart => exact ⟨0, [], Nat.zero_le _, rfl, World.ownsRow_nil _ _ _ _, ⟨fun p hp => (by cases hp), List.nodup_nil⟩, by simp, Below.refl _ _⟩
  case round =>
    obtain ⟨k, ps, hk, rfl, hown, hJ, hps, B⟩ := hrel
    have HPS : Hid (ps.map GG.xs = ls.take k) := hps
    have HJ : Hid (GetJ w.heap.size wr ps) := hJ
    have HOWN : Hid _ := hown
    clear hps hJ
    obtain ⟨av, cv, rfl⟩ := owns_shape hown
    by_cases hlt : k < n
    · have k1 : k < ls.length := by rw [HL.out]; exact hlt
      obtain ⟨b, o, rfl, hc⟩ := HLL.out (by omega)
      obtain ⟨x, cx, g1, g2, g3, g4, g5⟩ := hc k k1
      have lb : b < w.heap.size := block_lt_of_cell g1
      rw [← B.cell (p := ⟨b, o + k, none⟩) lb] at g1
      have r1 := g5.below B (Nat.le_refl _)
      have hx4 : (ls[k]'k1).length = 4096 := H4.out _ (List.getElem_mem k1)
      have hstep : Hid (ls.take (k + 1) = ls.take k ++ [ls[k]'k1]) := List.take_succ_eq_append_getElem k1
      generalize (ls[k]'k1) = xs at g1 g2 r1 hx4 hstep
      rw [hx4] at g1 g2
      have cC := copyBytes_at cx 4096 x xs wr hx4 (by omega) r1 g4
      have HX4 : Hid (xs.length = 4096) := hx4
      clear hc g2 g3 g4 g5 lb r1 hx4 hown
      go_wp2_with fail
      refine cC.mono ?_
      rintro r W ⟨v, rfl, hv, bW⟩
      clear cC g1
      obtain ⟨gx, cp, rfl, hgx, hrow⟩ := RowB.owns hv (by omega)
      have J2 : GetJ w.heap.size W (ps ++ [⟨0, xs, gx, cp⟩]) := HJ.out.snoc bW ⟨0, xs, gx, cp⟩ hrow hgx HX4.out B.size
      have own1 := owns_below HOWN.out bW
      have B1 := B.trans (bW.mono B.size)
      have al := (Below.refl W.heap.size W).alloc (Nat.le_refl _) (.cells #[.slice (some ⟨gx, 0, none⟩) 4096 cp] 37)
      have bN := Box.new W #[.slice (some ⟨gx, 0, none⟩) 4096 cp] 37
      replace own1 := owns_below own1 al
      replace J2 := J2.below al
      replace B1 := B1.trans (al.mono B1.size)
      have hcN : ∀ j u, ([.slice (some ⟨gx, 0, none⟩) 4096 cp] : List Value)[j]? = some u → (W.alloc (.cells #[.slice (some ⟨gx, 0, none⟩) 4096 cp] 37)).cell? ((⟨W.heap.size, 0, none⟩ : Addr).add j) = some u := fun j u hj => by
        rw [Addr.add_lit, Nat.zero_add, bN.cell j]
        simpa using hj
      clear hv hrow HJ HOWN bW
      go_wp2_with (at_builtin; refine wpList_append_own _ rfl _ _ 46 rfl w.heap.size 37 j0 (.slice none 0 0) 1 24 Tryz.underlying46 ji jz0 jz1 jz2 rfl (by decide) _ k _ rfl own1 ⟨W.heap.size, 0, none⟩ 1 1 [.slice (some ⟨gx, 0, none⟩) 4096 cp] rfl rfl hcN ?c2 ?c3 ?c4 B1.size ?_)
      case c2 => intro u hu; simp at hu; subst hu; rfl
      case c3 => unfold maxLen; omega
      case c4 => omega
      intro v' w4 own4 hg4 _
      have J4 := J2.grown own1 (by decide) hg4
      have B4 := B1.grown hg4 B1.size (fun j e => (owns_block own1 j e).1)
      have own5 : w4.ownsRow w.heap.size 37 1 v' (k + 1) (lstC (ps ++ [⟨0, xs, gx, cp⟩])) := by
        have e : lstC (ps ++ [⟨0, xs, gx, cp⟩]) = lstC ps ++ [.slice (some ⟨gx, 0, none⟩) 4096 cp] := by simp [lstC]
        rw [e]
        exact own4
      clear own1 J2 B1 bN al hcN hg4 own4
      go_wp2_with fail
      go_roundw
      case rel => exact ⟨k + 1, _, by omega, by push_cast; rfl, own5, J4, by rw [List.map_append, HPS.out, hstep.out]; rfl, B4⟩
      case measure => simp [intOf]; omega
    · have hke : k = n := by omega
      rw [hke] at HOWN HPS ⊢
      clear hke hlt hk hown
      go_wp2_with fail
      go_ret
      exact ⟨_, ps, rfl, HOWN.out, HJ.out, by rw [HPS.out]; exact List.take_of_length_le (by rw [HL.out]; omega), B⟩
end Go.Proofs.YtnldkpckojhbhaaGreat.Rc

/-
  What Put leaves, as lists.
-/
namespace Go.Proofs.YtnldkpckojhbhaaGreat.Rc
open Go.RowKit

theorem cap_le {c : Nat} (h : c ≤ maxLen) : c ≤ 9223372036854775807 := by unfold maxLen at h; omega
theorem lst_row {w : World} {g o h c : Nat} {bl : List UInt8} (hc : w.cell? ⟨g, o, none⟩ = some (.slice (some ⟨h, 0, none⟩) 4096 c)) (hr : RowB w h c bl) (hl : bl.length = 4096) : LstAt w g o bl := by
  have q2 := hr
  obtain ⟨cur, hb, k1, k2, k3⟩ := q2
  exact ⟨some ⟨h, 0, none⟩, c, by rw [hl]; exact hc, k1, cap_le k2, fun h => (by cases h), hr.rd⟩
theorem rowC_at (ps : List PP) (i : Nat) (h : i < ps.length) : (rowC ps)[i]? = some (.slice (some ⟨(ps[i]).h, 0, none⟩) 4096 (ps[i]).c) := by simp [rowC, h]
theorem esOf_entL (M : List UInt8) (ps : List PP) : esOf M ps = entL M (ps.map fun p => (p.b, p.xs)) := by simp [esOf, entL]

theorem put_lsts {w' : World} {B gl cl h0 n e s : Nat} {ps : List PP} {is : List (Int × List UInt8)} (hn : is.length = n) (hok : okGroup e s is)
    (ho : w'.ownsRow B 37 1 (.slice (some ⟨gl, 0, none⟩) (n + 1) cl) (n + 1) (.slice (some ⟨h0, 0, none⟩) 4096 4096 :: rowC ps)) (hr : RowB w' h0 4096 (headB e s (esOf (mark e s) ps)))
    (hj : PutJ (mark e s) B w' ps) (hm : ps.map (fun p => (p.b, p.xs)) = is) : Lsts w' (some ⟨gl, 0, none⟩) (putL e s is) := fun _ => by
  have hlen : ps.length = n := by rw [← hn, ← hm]; simp
  rw [esOf_entL, hm] at hr
  refine ⟨gl, 0, rfl, fun j hjl => ?_⟩
  have hjn : j < n + 1 := by simpa [putL, hn] using hjl
  have cell : w'.cell? ⟨gl, 0 + j, none⟩ = (.slice (some ⟨h0, 0, none⟩) 4096 4096 :: rowC ps)[j]? := by
    rcases ho.2 with ⟨h1, _⟩ | ⟨g, cap, cur, h1, _, hg2, hnc, hcm, hcs, ht⟩
    · cases h1
    · injection h1 with h1
      injection h1 with h1
      injection h1 with h1
      subst h1
      have hB : Box w' gl cur 37 := hg2
      rw [Nat.zero_add, hB.cell j, ← ht, List.getElem?_take, if_pos (by omega)]
      simp
  cases j with
  | zero =>
    have e0 : (putL e s is)[0] = headB e s (entL (mark e s) is) := rfl
    have hl : (headB e s (entL (mark e s) is)).length = 4096 := headB_length (bodyB_length _ (entL_len hok) (by rw [entL_length]; exact (is_length hok).2))
    rw [e0]
    refine ⟨some ⟨h0, 0, none⟩, 4096, ?_, Nat.le_of_eq hl, by decide, fun h => (by cases h), hr.rd⟩
    rw [hl, cell]
    rfl
  | succ i =>
    have hi : i < ps.length := by omega
    have hii : i < is.length := by omega
    have e1 : (putL e s is)[i + 1] = stB (mark e s) (is[i]).2 := by simp [putL]
    have e2 : (is[i]).2 = (ps[i]).xs := by subst hm; simp
    obtain ⟨q1, _⟩ := hj.rows ps[i] (List.getElem_mem hi)
    have hd4 : (is[i]).2.length = 4096 := hok.2 (is[i]) (List.getElem_mem hii)
    have hl := stB_length (mark e s) (is[i]).2 hd4 (mark_length e s)
    rw [← e2] at q1
    have c2 : w'.cell? ⟨gl, 0 + (i + 1), none⟩ = some (.slice (some ⟨(ps[i]).h, 0, none⟩) 4096 (ps[i]).c) := by
      rw [cell, List.getElem?_cons_succ]
      exact rowC_at ps i hi
    have fin := lst_row c2 q1 hl
    rw [← e1] at fin
    exact fin
theorem putL_len {e s : Nat} {is : List (Int × List UInt8)} (hok : okGroup e s is) (x : List UInt8) (hx : x ∈ putL e s is) : x.length = 4096 := by
  have h1 := headB_length (e := e) (s := s) (bodyB_length (entL (mark e s) is) (entL_len hok) (by rw [entL_length]; exact (is_length hok).2))
  unfold putL at hx
  generalize headB e s (entL (mark e s) is) = hd at h1 hx
  rcases List.mem_cons.1 hx with q | q
  · rw [q]
    exact h1
  · obtain ⟨i, hi, q2⟩ := List.mem_map.1 q
    have h2 := stB_length (mark e s) i.2 (hok.2 i hi) (mark_length e s)
    rw [q2] at h2
    exact h2
end Go.Proofs.YtnldkpckojhbhaaGreat.Rc

/-
  A byte of one of many blocks is written.
-/
namespace Go.Proofs.YtnldkpckojhbhaaGreat.Rc
open Go.RowKit

/-- block i with byte j anew -/
def byteP (ps : List GG) (i j : Nat) (v : UInt8) : List GG := ps.modify i fun p => { p with xs := p.xs.set j v }
theorem byteP_h (ps : List GG) (i j : Nat) (v : UInt8) : (byteP ps i j v).map GG.h = ps.map GG.h := by
  unfold byteP
  refine List.ext_getElem? (fun k => ?_)
  simp only [List.getElem?_map, List.getElem?_modify]
  cases ps[k]? with
  | none => simp
  | some p => by_cases e : i = k <;> simp [e]
theorem byteP_c (ps : List GG) (i j : Nat) (v : UInt8) : lstC (byteP ps i j v) = lstC ps := by
  unfold byteP lstC
  refine List.ext_getElem? (fun k => ?_)
  simp only [List.getElem?_map, List.getElem?_modify]
  cases ps[k]? with
  | none => simp
  | some p => by_cases e : i = k <;> simp [e]
theorem byteP_x (ps : List GG) (i j : Nat) (v : UInt8) : (byteP ps i j v).map GG.xs = (ps.map GG.xs).modify i fun x => x.set j v := by
  unfold byteP
  refine List.ext_getElem? (fun k => ?_)
  simp only [List.getElem?_map, List.getElem?_modify]
  cases ps[k]? with
  | none => simp
  | some p => by_cases e : i = k <;> simp [e]
theorem RowB.byte {w : World} {g c : Nat} {ys : List UInt8} (h : RowB w g c ys) (j : Nat) (_hj : j < ys.length) (v : UInt8) : RowB (w.setCell ⟨g, j, none⟩ (.int .u8 (v.toNat : Int))) g c (ys.set j v) := by
  obtain ⟨cur, hb, h1, h2, h3, h4⟩ := h
  refine ⟨_, hb.store j _, by simpa using h1, h2, by simpa using h3, ?_⟩
  have e : bcs (ys.set j v) = (bcs ys).set j (.int .u8 (v.toNat : Int)) := by
    unfold bcs
    rw [List.map_set]
    rfl
  rw [Array.toList_setIfInBounds, List.length_set, e, ← h4, List.take_set]
theorem GetJ.byte {B : Nat} {W : World} {ps : List GG} (h : GetJ B W ps) (i : Nat) (hi : i < ps.length) (j : Nat) (hj : j < 4096) (v : UInt8) : GetJ B (W.setCell ⟨(ps[i]).h, j, none⟩ (.int .u8 (v.toNat : Int))) (byteP ps i j v) := by
  have hnd := h.apart
  refine ⟨fun p hp => ?_, by rw [byteP_h]; exact hnd⟩
  obtain ⟨k, hk, rfl⟩ := List.getElem_of_mem hp
  have hk' : k < ps.length := by simpa [byteP] using hk
  obtain ⟨a1, a2, a3⟩ := h.rows ps[k] (List.getElem_mem hk')
  by_cases e : i = k
  · subst e
    have : (byteP ps i j v)[i] = { ps[i] with xs := (ps[i]).xs.set j v } := by simp [byteP]
    rw [this]
    exact ⟨a1.byte j (by omega) v, a2, by simpa using a3⟩
  · have : (byteP ps i j v)[k] = ps[k] := by simp [byteP, e]
    rw [this]
    refine ⟨a1.same (heap_setCell_other W ⟨(ps[i]).h, j, none⟩ (ps[k]).h _ (fun q => ?_)), a2, a3⟩
    have h1 : (ps.map GG.h)[k]'(by simpa using hk') = (ps.map GG.h)[i]'(by simpa using hi) := by simpa using q
    exact e ((List.getElem_inj hnd).1 h1).symm
end Go.Proofs.YtnldkpckojhbhaaGreat.Rc

/-
  Put and Get in one form each: what comes back, as lists in memory.
-/
namespace Go.Proofs.YtnldkpckojhbhaaGreat.Rc
open Go.RowKit

theorem owns_cells {w : World} {B e size n m : Nat} {a : Option Addr} {c : Nat} {xs : List Value} (ho : w.ownsRow B e size (.slice a n c) m xs) (h0 : 0 < m) :
    ∃ g, a = some ⟨g, 0, none⟩ ∧ B ≤ g ∧ (∃ cur, Box w g cur e) ∧ ∀ j, j < m * size → w.cell? ⟨g, j, none⟩ = xs[j]? := by
  rcases ho.2 with ⟨h1, h2⟩ | ⟨g, cap, cur, h1, hBg, hg2, hnc, hcm, hcs, ht⟩
  · omega
  · injection h1 with h1
    subst h1
    have hB : Box w g cur e := hg2
    refine ⟨g, rfl, hBg, ⟨cur, hB⟩, fun j hj => ?_⟩
    rw [hB.cell j, ← ht, List.getElem?_take, if_pos hj]
    simp
theorem imgs_of {w : World} {B m : Nat} {a : Option Addr} {n c : Nat} {qs : List GG} (ho : w.ownsRow B 89 2 (.slice a n c) m (imgC qs)) (hj : GetJ B w qs) (hm : qs.length = m) : Imgs w a (qs.map fun p => (p.b, p.xs)) := fun h0 => by
  have hq : 0 < qs.length := by simpa using h0
  obtain ⟨g, rfl, _, _, hc⟩ := owns_cells ho (by omega)
  refine ⟨g, 0, rfl, fun j hjl => ?_⟩
  have hjq : j < qs.length := by simpa using hjl
  obtain ⟨q1, _, q3⟩ := hj.rows qs[j] (List.getElem_mem hjq)
  obtain ⟨k0, k1⟩ := imgC_at qs j hjq
  have q4 := q1
  obtain ⟨cur, hb, p1, p2, _⟩ := q4
  rw [List.getElem_map]
  refine ⟨?_, some ⟨(qs[j]).h, 0, none⟩, (qs[j]).c, ?_, p1, cap_le p2, fun h => (by cases h), q1.rd⟩
  · show w.cell? ⟨g, 0 + j * 2, none⟩ = _
    rw [Nat.zero_add, hc _ (by omega), k0]
  · show w.cell? ⟨g, 0 + j * 2 + 1, none⟩ = some (.slice (some ⟨(qs[j]).h, 0, none⟩) (qs[j]).xs.length (qs[j]).c)
    rw [Nat.zero_add, hc _ (by omega), k1, q3]
theorem lsts_of {w : World} {B m : Nat} {a : Option Addr} {n c : Nat} {qs : List GG} (ho : w.ownsRow B 37 1 (.slice a n c) m (lstC qs)) (hj : GetJ B w qs) (hm : qs.length = m) : Lsts w a (qs.map GG.xs) := fun h0 => by
  have hq : 0 < qs.length := by simpa using h0
  obtain ⟨g, rfl, _, _, hc⟩ := owns_cells ho (by omega)
  refine ⟨g, 0, rfl, fun j hjl => ?_⟩
  have hjq : j < qs.length := by simpa using hjl
  obtain ⟨q1, _, q3⟩ := hj.rows qs[j] (List.getElem_mem hjq)
  rw [List.getElem_map]
  refine lst_row ?_ q1 q3
  rw [Nat.zero_add, hc j (by omega)]
  simp [lstC, hjq]

/-- what Put leaves -/
def PutR (w : World) (e s : Int) (is : List (Int × List UInt8)) (n : Nat) (r : Ending) (w' : World) : Prop :=
  (∃ (E S : Nat), e = (E : Int) ∧ s = (S : Int) ∧ okGroup E S is ∧ ∃ gl cl, r = .returned (.tuple #[.slice (some ⟨gl, 0, none⟩) (n + 1) cl, .int .i64 0]) ∧ Lsts w' (some ⟨gl, 0, none⟩) (putL E S is) ∧ Below w.heap.size w w') ∨
  (¬ okGroup e s is ∧ r = .returned (.tuple #[.slice none 0 0, .int .i64 80]) ∧ Below w.heap.size w w')
theorem putG_any (e s : Int) (a : Option Addr) (n cap : Nat) (is : List (Int × List UInt8)) (w : World) (hl : is.length = n) (hn : n * 32 ≤ 140737488355328) (hI : Imgs w a is) :
    Calls Tryz.prog 150 #[.agg #[.int .i64 e, .int .i64 s, .slice a n cap]] w (PutR w e s is n) := by
  by_cases hok : okGroup e s is
  · have hst := (okStamp_iff _ _).1 hok.1.1
    obtain ⟨E, rfl⟩ : ∃ E : Nat, e = (E : Int) := ⟨e.toNat, by omega⟩
    obtain ⟨S, rfl⟩ : ∃ S : Nat, s = (S : Int) := ⟨s.toNat, by omega⟩
    have hlen := is_length hok
    refine (put_in E S a n cap is w hl hI hok (by omega) (by omega)).mono ?_
    rintro r w' ⟨gl, cl, h0, ps, rfl, hgl, ho, hr, _, _, hj, hm, b⟩
    subst hl
    exact .inl ⟨E, S, rfl, rfl, hok, gl, cl, rfl, put_lsts rfl hok ho hr hj hm, b⟩
  · refine (put_no e s a n cap is w hl hn hI hok).mono ?_
    rintro r w' ⟨rfl, b⟩
    exact .inr ⟨hok, rfl, b⟩
theorem putL_length (e s : Nat) (is : List (Int × List UInt8)) : (putL e s is).length = is.length + 1 := by simp [putL]
/-- what was put is got -/
theorem get_put (E S : Nat) (is : List (Int × List UInt8)) (a : Option Addr) (m n cap : Nat) (w : World) (hok : okGroup E S is) (hm : is.length = m) (hn : n = m + 1) (hL : Lsts w a (putL E S is)) :
    Calls Tryz.prog 273 #[.slice a n cap] w fun r w' => ∃ a9 c9, r = .returned (.tuple #[.agg #[.int .i64 (E : Int), .int .i64 (S : Int), .slice a9 m c9], .int .i64 0]) ∧ Imgs w' a9 is ∧ Below w.heap.size w w' := by
  subst hm hn
  have hlen := is_length hok
  refine (get_in a (is.length + 1) cap (putL E S is) w (putL_length _ _ _) (by omega) (by omega) hL).mono ?_
  intro r w' hG
  obtain ⟨q1, q2, q3⟩ := put_said hok
  have e0 : (putL E S is)[0]?.getD [] = headB E S (entL (mark E S) is) := rfl
  rcases hG with ⟨_, a9, c, ps, h1, h2, h3, h4, h5⟩ | ⟨h1, _⟩
  · rw [e0, q1, q2, q3, entL_length] at h1
    rw [e0, q3, entL_length] at h2 h4
    rw [put_imgs hok] at h4
    refine ⟨a9, c, h1, ?_, h5⟩
    have := imgs_of h2 h3 (by rw [← h4]; simp)
    rwa [h4] at this
  · exact absurd (put_grp hok) h1
theorem get_no (a : Option Addr) (n cap : Nat) (ls : List (List UInt8)) (w : World) (hl : ls.length = n) (h0 : 0 < n) (hn : n ≤ 1000000000) (hL : Lsts w a ls) (hno : ¬ isGrp ls) :
    Calls Tryz.prog 273 #[.slice a n cap] w fun r w' => r = .returned (.tuple #[.agg #[.int .i64 0, .int .i64 0, .slice none 0 0], .int .i64 80]) ∧ Below w.heap.size w w' := by
  refine (get_in a n cap ls w hl h0 hn hL).mono ?_
  rintro r w' (⟨h1, _⟩ | ⟨_, h2, h3⟩)
  · exact absurd h1 hno
  · exact ⟨h2, h3⟩
/-- a row of slices stays when a byte is written -/
theorem owns_byte {w : World} {B n g j : Nat} {v : Value} {cs : List Value} {c : Nat} {ys : List UInt8} (ho : w.ownsRow B 37 1 v n cs) (hr : RowB w g c ys) (u : Value) : (w.setCell ⟨g, j, none⟩ u).ownsRow B 37 1 v n cs := by
  refine owns_grown ho (grown_store w g j u) (fun k hk e => ?_)
  injection e with e
  subst e
  obtain ⟨_, cur, hb⟩ := owns_block ho _ hk
  obtain ⟨cur2, hb2, _⟩ := hr
  exact Box.ne hb2 hb (by decide) rfl
theorem RowB.cellAt {w : World} {g c j : Nat} {ys : List UInt8} (h : RowB w g c ys) (hj : j < ys.length) : w.cell? ⟨g, j, none⟩ = some (.int .u8 (ys[j].toNat : Int)) ∧ w.frozen? ⟨g, j, none⟩ = false := by
  obtain ⟨g', o, e, hc⟩ := h.rd (by omega)
  simp at e
  obtain ⟨rfl, rfl⟩ := e
  have := hc j hj
  rw [Nat.zero_add] at this
  obtain ⟨cur, hb, _⟩ := h
  exact ⟨this, hb.frozen j⟩
end Go.Proofs.YtnldkpckojhbhaaGreat.Rc

/-
  Made: so many bytes, out of a number.
-/
namespace Go.Proofs.YtnldkpckojhbhaaGreat.Rc
open Go.RowKit

def nx (x : Int) : Int := IntKind.u64.wrap (IntKind.u64.wrap (x * 2862933555777941757) + 3037000493)
/-- the number behind k bytes -/
def seedAt (s : Int) : Nat → Int
  | 0 => nx (IntKind.u64.wrap s)
  | k + 1 => if k % 8 = 0 then nx (seedAt s k) else seedAt s k
def byteAt (s : Int) (k : Nat) : UInt8 := UInt8.ofNat (seedAt s (k + 1) / 1099511627776 % 256).toNat
def madeK (s : Int) (n : Nat) : Nat → List UInt8
  | 0 => nought n
  | k + 1 => (madeK s n k).set k (byteAt s k)
def madeL (s : Int) (n : Nat) : List UInt8 := madeK s n n
theorem madeK_length (s : Int) (n : Nat) : ∀ k, (madeK s n k).length = n
  | 0 => nought_length n
  | k + 1 => by rw [madeK, List.length_set, madeK_length s n k]
theorem byteAt_eq (s : Int) (k : Nat) : ((byteAt s k).toNat : Int) = seedAt s (k + 1) / 1099511627776 % 256 := by
  unfold byteAt
  have h1 : 0 ≤ seedAt s (k + 1) / 1099511627776 % 256 := Int.emod_nonneg _ (by decide)
  have h2 : seedAt s (k + 1) / 1099511627776 % 256 < 256 := Int.emod_lt_of_pos _ (by decide)
  rw [UInt8.toNat_ofNat']
  omega
theorem seedAt_step (s : Int) (k : Nat) (h : k % 8 = 0) : seedAt s (k + 1) = nx (seedAt s k) := by rw [seedAt, if_pos h]
theorem seedAt_same (s : Int) (k : Nat) (h : ¬ k % 8 = 0) : seedAt s (k + 1) = seedAt s k := by rw [seedAt, if_neg h]
theorem nx_range (x : Int) : 0 ≤ nx x ∧ nx x ≤ 18446744073709551615 := by unfold nx; rw [IntKind.wrap_u64]; omega
theorem seedAt_range (s : Int) : ∀ k, 0 ≤ seedAt s k ∧ seedAt s k ≤ 18446744073709551615
  | 0 => nx_range _
  | k + 1 => by rw [seedAt]; split; exact nx_range _; exact seedAt_range s k

set_option maxRecDepth 100000 in
set_option maxHeartbeats 2000000 in
theorem made_at (s : Int) (n : Nat) (w : World) (hn : n ≤ 1000000) :
    Calls Tryz.prog 21 #[.int .i64 s, .int .i64 (n : Int)] w fun e w' => e = .returned (.slice (some ⟨w.heap.size, 0, none⟩) n n) ∧ Own w' w.heap.size (madeL s n) ∧ Below w.heap.size w w' := by
  have hm : ∀ u : World, (Instr.makeSlice 37 (.int .i64 (n : Int)) (.int .i64 (n : Int))).run Tryz.prog u = .ok (.slice (some ⟨u.heap.size, 0, none⟩) n n) (u.alloc (.cells (bcs (madeK s n 0)).toArray 5)) := make_run n (by omega)
  have o0 := own_lit w (madeK s n 0)
  have B0 := (Below.refl w.heap.size w).alloc (Nat.le_refl _) (.cells (bcs (madeK s n 0)).toArray 5)
  obtain ⟨U, hU⟩ : ∃ U, U = w.alloc (.cells (bcs (madeK s n 0)).toArray 5) := ⟨_, rfl⟩
  rw [← hU] at o0 B0
  have HU : Hid _ := hU
  clear hU
  go_enter Tryz.func21, Tryz.ntmps21
  go_wp2_with fail
  rw [← HU.out]
  go_loopw [6, 7] (fun x i wr => ∃ k : Nat, k ≤ n ∧ x = .int .u64 (seedAt s k) ∧ i = .int .i64 k ∧ Own wr w.heap.size (madeK s n k) ∧ Below w.heap.size w wr) (fun _ i _ => n - (intOf i).toNat)
  case atStart => exact ⟨0, Nat.zero_le _, rfl, rfl, o0, B0⟩
  case round =>
    obtain ⟨k, hk, rfl, rfl, o, B⟩ := hrel
    clear o0 B0 hm HU
    by_cases hlt : k < n
    · have hlt2 : (k : Int) < (n : Int) := by omega
      have c0 := o.cell k (by rw [madeK_length]; exact hlt)
      have f0 := o.frozen k
      have o1 := o.store k (byteAt s k)
      have B1 := B.setCell (p := ⟨w.heap.size, k, none⟩) (Nat.le_refl _) (.int .u8 ((byteAt s k).toNat : Int))
      generalize ((madeK s n k)[k]'(by rw [madeK_length]; exact hlt)) = q at c0
      have o1' : Own _ w.heap.size (madeK s n (k + 1)) := o1
      clear o1
      rw [byteAt_eq] at o1' B1
      have r0 := seedAt_range s k
      by_cases h8 : k % 8 = 0
      · have e8 : ((k : Int) % 8 == 0) = true := by simp; omega
        rw [seedAt_step s k h8] at o1' B1
        unfold nx at o1' B1
        have Hs : Hid _ := seedAt_step s k h8
        clear h8
        go_wp2
        go_roundw
        case rel => exact ⟨k + 1, by omega, by rw [Hs.out]; rfl, by go_num, o1', B1⟩
        case measure => simp [intOf]; omega
      · have e8 : ((k : Int) % 8 == 0) = false := by simp; omega
        rw [seedAt_same s k h8] at o1' B1
        have Hs : Hid _ := seedAt_same s k h8
        clear h8
        go_wp2
        go_roundw
        case rel => exact ⟨k + 1, by omega, by rw [Hs.out], by go_num, o1', B1⟩
        case measure => simp [intOf]; omega
    · have hkn : k = n := by omega
      subst k
      go_wp2
      go_ret
      exact ⟨rfl, o, B⟩
end Go.Proofs.YtnldkpckojhbhaaGreat.Rc

/-
  The law's images, at blocks, made of a number.
-/
namespace Go.Proofs.YtnldkpckojhbhaaGreat.J
open Go.RowKit
open Go.Proofs.YtnldkpckojhbhaaGreat.Rc (GG GetJ imgC madeL RowB owns_below owns_shape owns_block)

/-- the number behind k images -/
def nk (N : Nat) : Nat → Nat
  | 0 => N
  | k + 1 => nk N k / 2 + k
theorem nk_le (N : Nat) (h : N ≤ 2000000) : ∀ k, k ≤ 100 → nk N k ≤ 2000000
  | 0, _ => h
  | k + 1, hk => by
    have := nk_le N h k (by omega)
    show nk N k / 2 + k ≤ _
    omega
/-- the images of the first k blocks -/
def imgL (bs : List Int) (N k : Nat) : List (Int × List UInt8) := (List.range k).map fun i => (bs.getD i 0, madeL (nk N i : Int) 4096)
theorem imgL_succ (bs : List Int) (N k : Nat) (h : k < bs.length) : imgL bs N (k + 1) = imgL bs N k ++ [(bs[k], madeL (nk N k : Int) 4096)] := by simp [imgL, List.range_succ, h]
theorem imgL_length (bs : List Int) (N k : Nat) : (imgL bs N k).length = k := by simp [imgL]

set_option maxRecDepth 100000 in
set_option maxHeartbeats 4000000 in
theorem images_at (w : World) (b o n c N : Nat) (bs : List Int) (hl : bs.length = n) (hn : n ≤ 40) (hN : N ≤ 2000000) (hb : ∀ j (h : j < bs.length), w.cell? ⟨b, o + j, none⟩ = some (.int .i64 bs[j])) :
    Calls Tryz.prog 16 #[.slice (some ⟨b, o, none⟩) n c, .int .i64 (N : Int)] w fun r w' => ∃ a' c' qs, r = .returned (.slice a' n c') ∧ w'.ownsRow w.heap.size 89 2 (.slice a' n c') n (imgC qs) ∧ GetJ w.heap.size w' qs ∧ qs.map (fun p => (p.b, p.xs)) = imgL bs N n ∧ Below w.heap.size w w' := by
  obtain ⟨i0, hi, hz0, hz1, hz2⟩ := info_parts Rc.info38
  have HL : Hid (bs.length = n) := hl
  have HB : Hid (∀ j (h : j < bs.length), w.cell? ⟨b, o + j, none⟩ = some (.int .i64 bs[j])) := hb
  clear hl hb
  go_enter Tryz.func16, Tryz.ntmps16
  go_wp2_with fail
  go_loopw [1, 5, 6] (fun x v i u => ∃ (k : Nat) (qs : List GG), k ≤ n ∧ i = .int .i64 (k : Int) ∧ x = .int .i64 (nk N k : Int) ∧ u.ownsRow w.heap.size 89 2 v k (imgC qs) ∧ GetJ w.heap.size u qs ∧ qs.map (fun p => (p.b, p.xs)) = imgL bs N k ∧ Below w.heap.size w u) (fun _ _ i _ => n - (intOf i).toNat)
  case atStart => exact ⟨0, [], Nat.zero_le _, rfl, rfl, World.ownsRow_nil _ _ _ _, ⟨fun p hp => (by cases hp), List.nodup_nil⟩, rfl, Below.refl _ _⟩
  case round =>
    obtain ⟨k, qs, hk, rfl, rfl, hown, hJ, hps, B⟩ := hrel
    have HPS : Hid (qs.map (fun p => (p.b, p.xs)) = imgL bs N k) := hps
    have HJ : Hid (GetJ w.heap.size wr qs) := hJ
    have HOWN : Hid (wr.ownsRow w.heap.size 89 2 u5 k (imgC qs)) := hown
    clear hps hJ
    obtain ⟨av, cv, rfl⟩ := owns_shape hown
    by_cases hlt : k < n
    · have k1 : k < bs.length := by rw [HL.out]; exact hlt
      have g0 := HB.out k k1
      have lb : b < w.heap.size := block_lt_of_cell g0
      have hstep : Hid (imgL bs N (k + 1) = imgL bs N k ++ [(bs[k], madeL (nk N k : Int) 4096)]) := imgL_succ bs N k k1
      have hml : Hid ((madeL (nk N k : Int) 4096).length = 4096) := Rc.madeK_length _ _ _
      have cM := Rc.made_at (nk N k : Int) 4096 wr.drew (by omega)
      have hnk := nk_le N hN k (by omega)
      have hnx : Hid (nk N (k + 1) = nk N k / 2 + k) := rfl
      generalize nk N k = nn at cM hstep hml hnk hnx ⊢
      obtain ⟨ml, hmd⟩ : ∃ l, l = madeL (nn : Int) 4096 := ⟨_, rfl⟩
      rw [← hmd] at cM hstep hml
      generalize (bs[k]'k1) = bx at g0 hstep
      clear hmd
      have HS : Hid (∀ u : World, Below w.heap.size w u → u.cell? ⟨b, o + k, none⟩ = some (.int .i64 bx) ∧ Hid (Below w.heap.size w u)) := fun u hu =>
        ⟨(hu.cell (p := ⟨b, o + k, none⟩) lb).trans g0, hu⟩
      have hk0 : (0 : Int) ≤ (k : Int) := by omega
      have hki : (k : Int) < (n : Int) := by omega
      have hk40 : (k : Int) < 40 := by omega
      have hdv : ((nn : Int).tdiv 2) = ((nn / 2 : Nat) : Int) := by rw [Int.tdiv_eq_ediv_of_nonneg (by omega)]; omega
      have hd2 : nn / 2 ≤ 1000000 := by omega
      generalize hnq : nn / 2 = nq at hdv hnx hd2
      have hwq : IntKind.i64.wrap (nq : Int) = (nq : Int) := by rw [IntKind.wrap_i64]; omega
      clear hnq
      clear g0 lb hown
      go_wp2_with fail
      go_region_held3 (fun u => u.cell? ⟨b, o + k, none⟩ = some (.int .i64 bx) ∧ Hid (Below w.heap.size w u))
        (first | with_reducible exact HS.out _ B.drew | with_reducible exact HS.out _ B1 | with_reducible exact HS.out _ B2 | with_reducible exact HS.out _ (B1.alloc B1.size _))
        (first
          | (go_at_call 21; refine Calls.mono cM ?_; rintro r W ⟨rfl, om, bW⟩
             have rowM : Hid (RowB W wr.heap.size 4096 ml) := by
               have := Rc.RowB.own om (by rw [hml.out]; decide)
               rwa [hml.out] at this
             have J2 : Hid (GetJ w.heap.size W (qs ++ [⟨bx, ml, wr.heap.size, 4096⟩])) := (HJ.out.below ((Below.refl wr.heap.size wr).drew)).snoc bW ⟨bx, ml, wr.heap.size, 4096⟩ rowM.out (Nat.le_refl _) hml.out B.size
             have O2 : Hid (W.ownsRow w.heap.size 89 2 (.slice av k cv) k (imgC qs)) := owns_below (owns_below HOWN.out ((Below.refl wr.heap.size wr).drew)) bW
             have B1 := B.drew.trans (bW.mono B.size)
             clear om bW cM B)
          | ((refine step_append_lies _ (by rfl) _ _ _ (by rfl) w.heap.size 89 i0 _ 2 32 Tryz.underlying29 hi hz0 hz1 hz2 rfl (by omega) (.slice av k cv) k (imgC qs) (by rfl) (owns_below O2.out ((Below.refl _ W).alloc (Nat.le_refl _) _))
                ⟨W.heap.size, 0, none⟩ 1 1 [.int .i64 bx, .slice (some ⟨wr.heap.size, 0, none⟩) 4096 4096] (by rfl) (by rfl) (World.news_of_block (cs := #[.int .i64 bx, .slice (some ⟨wr.heap.size, 0, none⟩) 4096 4096]) (t := 89) (fr := (0, 0)) (heap_alloc_new W _)) (by intro u hu; simp at hu; rcases hu with rfl | rfl <;> rfl)
                (by omega) (by unfold maxLen; omega) (by omega) (by simp; exact Nat.le_succ_of_le B1.size) (W.heap.size + 1) (by simp) ?_)
             intro gg gc w1 hown1 hgrow hat hlt1
             have B2 := (B1.alloc B1.size (.cells #[.int .i64 bx, .slice (some ⟨wr.heap.size, 0, none⟩) 4096 4096] 89)).grown hgrow (by simp; exact Nat.le_succ_of_le B1.size) (fun j e => (owns_block O2.out j e).1)
             have J3 : Hid (GetJ w.heap.size w1 (qs ++ [⟨bx, ml, wr.heap.size, 4096⟩])) := (J2.out.below ((Below.refl _ W).alloc (Nat.le_refl _) (.cells #[.int .i64 bx, .slice (some ⟨wr.heap.size, 0, none⟩) 4096 4096] 89))).grown (owns_below O2.out ((Below.refl _ W).alloc (Nat.le_refl _) _)) (by decide) hgrow
             clear hgrow hat hlt1))
      have O5 : Hid (w1.ownsRow w.heap.size 89 2 (.slice (some ⟨gg, 0, none⟩) (k + 1) gc) (k + 1) (imgC (qs ++ [⟨bx, ml, wr.heap.size, 4096⟩]))) := by
        have e : imgC (qs ++ [⟨bx, ml, wr.heap.size, 4096⟩]) = imgC qs ++ [.int .i64 bx, .slice (some ⟨wr.heap.size, 0, none⟩) 4096 4096] := by simp [imgC]
        rw [e]
        exact hown1
      clear hown1 J2 O2 B1
      go_wp2_with fail
      go_roundw
      case rel => exact ⟨k + 1, _, by omega, by push_cast; rfl, by rw [hnx.out]; push_cast; rfl, O5.out, J3.out, by rw [List.map_append, HPS.out, hstep.out]; rfl, B2⟩
      case measure => simp [intOf]; omega
    · have hke : k = n := by omega
      rw [hke] at HOWN HPS ⊢
      clear hke hlt hk hown
      go_wp2_with fail
      go_ret
      exact ⟨_, _, qs, rfl, HOWN.out, HJ.out, HPS.out, B⟩
end Go.Proofs.YtnldkpckojhbhaaGreat.J

/-
  Bytes in memory, whatever the program: rows that are read, rows of one's own, copies; told over this seat's tables.
-/
namespace Go.Proofs.YtnldkpckojhbhaaGreat.Dk
open Go.RowKit

theorem u8_lt (c : UInt8) : c.toNat < 256 := c.toNat_lt
theorem ofNat_toNat (v : Nat) : (UInt8.ofNat v).toNat = v % 256 := by simp
def bc (c : UInt8) : Value := .int .u8 (c.toNat : Int)
def bcs (l : List UInt8) : List Value := l.map bc
theorem bcs_length (l : List UInt8) : (bcs l).length = l.length := by simp [bcs]
theorem bcs_append (l r : List UInt8) : bcs (l ++ r) = bcs l ++ bcs r := by simp [bcs]
theorem bcs_getElem? (l : List UInt8) (j : Nat) (h : j < l.length) : (bcs l)[j]? = some (.int .u8 (l[j].toNat : Int)) := by simp [bcs, bc, List.getElem?_eq_getElem h]
theorem bcs_oneCell (l : List UInt8) : ∀ v ∈ bcs l, v.oneCell' = true := by
  intro v hv
  obtain ⟨_, _, rfl⟩ := List.mem_map.1 hv
  rfl

/-- Block g holds just these bytes, and may be written. -/
def Own (w : World) (g : Nat) (ys : List UInt8) : Prop := w.heap[g]? = some (.cells (bcs ys).toArray 5 (0, 0))

theorem Own.cell {w : World} {g : Nat} {ys : List UInt8} (h : Own w g ys) (j : Nat) (hj : j < ys.length) : w.cell? ⟨g, j, none⟩ = some (.int .u8 (ys[j].toNat : Int)) := by
  rw [cell_of_row w g j _ 5 (0, 0) h]
  simpa using bcs_getElem? ys j hj
theorem Own.frozen {w : World} {g : Nat} {ys : List UInt8} (h : Own w g ys) (j : Nat) : w.frozen? ⟨g, j, none⟩ = false := frozen_of_row w g j _ 5 h
theorem Own.lt {w : World} {g : Nat} {ys : List UInt8} (h : Own w g ys) : g < w.heap.size := (Array.getElem?_eq_some_iff.1 h).1
theorem Own.store {w : World} {g : Nat} {ys : List UInt8} (h : Own w g ys) (j : Nat) (c : UInt8) : Own (w.setCell ⟨g, j, none⟩ (.int .u8 (c.toNat : Int))) g (ys.set j c) := by
  unfold Own
  rw [heap_setCell_same w g j _ 5 _ h]
  congr 2
  apply Array.toList_inj.1
  simp [bcs, bc]
/-- What lies below a mark stays. -/
theorem Own.below {B : Nat} {w w' : World} {g : Nat} {ys : List UInt8} (h : Own w g ys) (hb : Below B w w') (hg : g < B) : Own w' g ys := (hb.block g hg).trans h

theorem grown_trans {a b c : World} {row : Option Nat} (h : a.grownBy b row) (k : b.grownBy c row) : a.grownBy c row :=
  ⟨k.os.trans h.os, k.tape.trans h.tape, k.output.trans h.output, Nat.le_trans h.size k.size, fun i hi hr => (k.block i (Nat.lt_of_lt_of_le hi h.size) hr).trans (h.block i hi hr)⟩
theorem grown_store (w : World) (g j : Nat) (u : Value) : w.grownBy (w.setCell ⟨g, j, none⟩ u) (some g) :=
  ⟨rfl, rfl, rfl, by simp, fun k _ hk => heap_setCell_other w ⟨g, j, none⟩ k u (fun e => hk (by simp [e]))⟩
theorem grown_setRow (w : World) (g : Nat) (cs : Array Value) : w.grownBy (w.setRow g cs) (some g) :=
  ⟨rfl, rfl, rfl, by simp [World.setRow], fun k _ hk => setRow_other w g k cs (fun e => hk (by simp [e]))⟩

/-- The bytes xs lie where a says (of no bytes nothing is asked). -/
def Rd (w : World) (a : Option Addr) (xs : List UInt8) : Prop :=
  0 < xs.length → ∃ b o, a = some ⟨b, o, none⟩ ∧ ∀ j (h : j < xs.length), w.cell? ⟨b, o + j, none⟩ = some (.int .u8 (xs[j].toNat : Int))
theorem Rd.nil (w : World) (a : Option Addr) : Rd w a [] := fun h => absurd h (by simp)
theorem Own.rd {w : World} {g : Nat} {ys : List UInt8} (h : Own w g ys) : Rd w (some ⟨g, 0, none⟩) ys := fun _ => ⟨g, 0, rfl, fun j hj => by rw [Nat.zero_add]; exact h.cell j hj⟩
/-- What is read stays as long as old blocks stay. -/
theorem Rd.below {B : Nat} {w w' : World} {a : Option Addr} {xs : List UInt8} (h : Rd w a xs) (hb : Below B w w') (hB : w.heap.size ≤ B) : Rd w' a xs := fun hp => by
  obtain ⟨b, o, ha, hc⟩ := h hp
  refine ⟨b, o, ha, fun j hj => ?_⟩
  have hlt : b < w.heap.size := block_lt_of_cell (hc j hj)
  rw [hb.cell (p := ⟨b, o + j, none⟩) (Nat.lt_of_lt_of_le hlt hB)]
  exact hc j hj

theorem info5 : (Tryz.prog.info? 5).map (fun i => (i.zero, i.size, i.bytes)) = some (some (.int .u8 0), 1, 1) := by kernel_rfl
theorem size5 : (Tryz.prog.info? 5).map (·.size) = some 1 := by kernel_rfl

theorem below_of_grown {w u : World} {g : Nat} (h : w.grownBy u (some g)) (hg : w.heap.size ≤ g) : Below w.heap.size w u := (Below.refl _ _).grown h (Nat.le_refl _) (fun k hk => by simp at hk; omega)

theorem made_zero (n : Nat) : (madeCells #[Value.int .u8 0] n) = (bcs (List.replicate n 0)).toArray := by
  apply Array.toList_inj.1
  apply List.ext_getElem
  · simp [madeCells, bcs]
  · intro i h1 h2
    simp [madeCells, bcs, bc, Nat.mod_one]

/-- string(bytes). -/
theorem conv_run (u : World) (a : Option Addr) (cap : Nat) (xs : List UInt8) (hr : Rd u a xs) : (convert 37 9 (.slice a xs.length cap)).run Tryz.prog u = .ok (.string ⟨xs.toArray⟩) u := by
  cases a with
  | none =>
    by_cases h0 : 0 < xs.length
    · obtain ⟨b, o, h, _⟩ := hr h0
      simp at h
    · obtain rfl : xs = [] := List.eq_nil_of_length_eq_zero (by omega)
      exact run_convert_bytes_nil u 37 5 Tryz.underlying37 Tryz.underlying5 0 cap 9 Tryz.underlying9
  | some a =>
    exact run_convert_bytes_back u 37 9 5 a cap xs Tryz.underlying37 Tryz.underlying5 Tryz.underlying9 (fun j hj => by
      obtain ⟨b, o, h, hc⟩ := hr (by omega)
      obtain rfl := Option.some.inj h
      rw [Addr.add_lit]
      exact hc j hj)

theorem same_any (a b : Option Addr) (ca cb : Nat) (xs ys : List UInt8) (w : World) (ha : Rd w a xs) (hb : Rd w b ys) :
    Calls Tryz.prog 29 #[.slice a xs.length ca, .slice b ys.length cb] w fun e w' => e = .returned (.bool (xs == ys)) ∧ w = w' := by
  have h1 := conv_run w a ca xs ha
  have h2 := conv_run w b cb ys hb
  go_enter Tryz.func29, Tryz.ntmps29
  go_wp2
  go_ret
  exact ⟨rfl, rfl⟩

theorem own_lit (w : World) (xs : List UInt8) : Own (w.alloc (.cells (bcs xs).toArray 5)) w.heap.size xs := heap_alloc_new w _

theorem same_at (ca cb n m : Nat) (a b : Option Addr) (xs ys : List UInt8) (w : World) (hn : xs.length = n) (hm : ys.length = m) (ha : Rd w a xs) (hb : Rd w b ys) :
    Calls Tryz.prog 29 #[.slice a n ca, .slice b m cb] w fun e w' => e = .returned (.bool (xs == ys)) ∧ w = w' := by
  subst hn hm; exact same_any a b ca cb xs ys w ha hb

theorem bytes5 : Tryz.prog.bytesOf 5 = 1 := by kernel_rfl

theorem u8_bounds {n : Int} (h : (Lit.int .u8 n).wf = true) : 0 ≤ n ∧ n ≤ 255 := by
  simpa [Lit.wf, IntKind.min, IntKind.max, IntKind.signed, IntKind.bits] using h
theorem u64_bounds {n : Int} (h : (Lit.int .u64 n).wf = true) : 0 ≤ n ∧ n ≤ 18446744073709551615 := by
  simpa [Lit.wf, IntKind.min, IntKind.max, IntKind.signed, IntKind.bits] using h
theorem u32_bounds {n : Int} (h : (Lit.int .u32 n).wf = true) : 0 ≤ n ∧ n ≤ 4294967295 := by
  simpa [Lit.wf, IntKind.min, IntKind.max, IntKind.signed, IntKind.bits] using h
theorem i64_bounds {n : Int} (h : (Lit.int .i64 n).wf = true) : -9223372036854775808 ≤ n ∧ n ≤ 9223372036854775807 := by
  simpa [Lit.wf, IntKind.min, IntKind.max, IntKind.signed, IntKind.bits] using h

theorem bytes_of_ints {w : World} {a : Addr} {len cap : Nat} {zs : List Int} (hl : len ≤ cap) (hz : zs.length = cap)
    (hcell : ∀ i, i < zs.length → w.cell? (a.add i) = some (.int .u8 (zs.getD i 0))) (hwz : ∀ n ∈ zs, (Lit.int .u8 n).wf = true) :
    ∃ xs : List UInt8, xs.length = len ∧ Rd w (some a) xs := by
  refine ⟨(zs.take len).map fun n => UInt8.ofNat n.toNat, by simp; omega, fun hp => ?_⟩
  have hlen : 0 < len := by simp at hp; omega
  have h0 := hcell 0 (by omega)
  obtain ⟨b, o, sp⟩ := a
  have hsp : sp = none := by simpa [Addr.add] using World.cell?_spot h0
  subst hsp
  refine ⟨b, o, rfl, fun j hj => ?_⟩
  have hj' : j < len := by simp at hj; omega
  have hjz : j < zs.length := by omega
  have h := hcell j hjz
  rw [Addr.add_lit] at h
  rw [h]
  have hb := u8_bounds (hwz zs[j] (List.getElem_mem hjz))
  have e : zs.getD j 0 = zs[j] := by simp [List.getD, List.getElem?_eq_getElem hjz]
  rw [e]
  simp only [List.getElem_map, List.getElem_take]
  congr 2
  rw [ofNat_toNat]
  omega

/-! ### rows that grow -/
theorem owns_rd {w : World} {B n : Nat} {v : Value} {ys : List UInt8} (h : w.ownsRow B 5 1 v n (bcs ys)) :
    ∃ a cap, v = .slice a n cap ∧ ys.length = n ∧ n ≤ cap ∧ cap ≤ maxLen ∧ Rd w a ys ∧ (0 < n → ∃ g, a = some ⟨g, 0, none⟩ ∧ B ≤ g ∧ g < w.heap.size) := by
  have hl : ys.length = n := by have := h.1; rw [bcs_length] at this; omega
  rcases h.2 with ⟨rfl, rfl⟩ | ⟨g, cap, cur, rfl, hb, hg, hnc, hcm, hcs, htake⟩
  · have h0 : ys = [] := List.eq_nil_of_length_eq_zero hl
    subst h0
    exact ⟨none, 0, rfl, rfl, Nat.le_refl _, by simp [maxLen], Rd.nil _ _, fun h => by omega⟩
  · refine ⟨some ⟨g, 0, none⟩, cap, rfl, hl, hnc, hcm, fun _ => ⟨g, 0, rfl, fun j hj => ?_⟩, fun _ => ⟨g, rfl, hb, (Array.getElem?_eq_some_iff.1 hg).1⟩⟩
    have := h.cells (g := g) rfl j _ (bcs_getElem? ys j hj)
    rw [Addr.add_lit] at this
    exact this

/-- copy of bytes in memory of their own -/
theorem copyBytes_at (cap n : Nat) (a : Option Addr) (xs : List UInt8) (w : World) (hl : xs.length = n) (hn : n ≤ 140737488355328) (hr : Rd w a xs) (hnil : a = none → cap = 0) :
    Calls Tryz.prog 35 #[.slice a n cap] w fun e w' => ∃ v, e = .returned v ∧ w'.ownsRow w.heap.size 5 1 v n (bcs xs) ∧ Below w.heap.size w w' := by
  obtain ⟨i0, hi, hz0, hz1, hz2⟩ := info_parts info5
  cases a with
  | none =>
    obtain rfl := hnil rfl
    have h0 : xs.length = 0 := by
      apply Decidable.byContradiction
      intro h
      obtain ⟨_, _, h', _⟩ := hr (by omega)
      simp at h'
    obtain rfl : xs = [] := List.eq_nil_of_length_eq_zero h0
    obtain rfl : n = 0 := hl.symm
    go_enter Tryz.func35, Tryz.ntmps35
    go_wp2_with (at_builtin; refine wpList_append_own_none rfl _ _ 37 rfl w.heap.size 5 i0 1 Tryz.underlying37 hi (.slice none 0 0) 0 [] rfl (World.ownsRow_nil _ _ _ _) rfl ?_)
    go_ret
    exact ⟨_, rfl, World.ownsRow_nil _ _ _ _, Below.refl _ _⟩
  | some ad =>
    have hm : n ≤ maxLen := by unfold maxLen; omega
    go_enter Tryz.func35, Tryz.ntmps35
    go_wp2_with (at_builtin; refine wpList_append_own _ rfl _ _ 37 rfl w.heap.size 5 i0 (.int .u8 0) 1 1 Tryz.underlying37 hi hz0 hz1 hz2 rfl (by decide) (.slice none 0 0) 0 [] rfl (World.ownsRow_nil _ _ _ _) ad n cap (bcs xs) rfl ?c0 ?c1 (bcs_oneCell xs) ?c2 ?c3 (Nat.le_refl _) ?_)
    case c0 => rw [bcs_length]; omega
    case c1 =>
      intro j u hj
      have hj' : j < xs.length := by have := (List.getElem?_eq_some_iff.1 hj).1; simpa [bcs_length] using this
      rw [bcs_getElem? xs j hj'] at hj
      obtain ⟨b, o, he, hc⟩ := hr (by omega)
      obtain rfl := Option.some.inj he
      rw [Addr.add_lit, hc j hj']
      exact hj
    case c2 => omega
    case c3 => omega
    · intro v' w1 hown hgrow _
      have hown1 : w1.ownsRow w.heap.size 5 1 v' n (bcs xs) := by simpa using hown
      have hb : Below w.heap.size w w1 := (Below.refl _ _).grown hgrow (Nat.le_refl _) (fun k hk => by simp [Value.ownBlock] at hk)
      clear hgrow hown
      go_wp2
      go_ret
      exact ⟨_, rfl, hown1, hb⟩

theorem append_bcs (xs : List UInt8) (c : UInt8) : bcs xs ++ [.int .u8 (c.toNat : Int)] = bcs (xs ++ [c]) := by simp [bcs, bc]

/-- a copy with three marks behind its end -/
theorem lent_at (cap n : Nat) (a : Option Addr) (xs : List UInt8) (w : World) (hl : xs.length = n) (hn : n ≤ 140737488355300) (hr : Rd w a xs) (hnil : a = none → cap = 0) :
    Calls Tryz.prog 131 #[.slice a n cap] w fun e w' => ∃ g cap', e = .returned (.slice (some ⟨g, 0, none⟩) n cap') ∧ n + 3 ≤ cap' ∧ cap' ≤ 9223372036854775807 ∧ w.heap.size ≤ g ∧ Rd w' (some ⟨g, 0, none⟩) (xs ++ [77, 78, 79]) ∧ Below w.heap.size w w' := by
  obtain ⟨i0, hi, hz0, hz1, hz2⟩ := info_parts info5
  go_enter Tryz.func131, Tryz.ntmps131
  go_wp2_with (go_at_call 35; refine (copyBytes_at cap n a xs w hl (by omega) hr hnil).mono ?_)
  rintro e w1 ⟨v, rfl, ho, hb⟩
  have Hl : Hid (xs.length = n) := hl
  clear hl hr hnil
  go_wp2_with (at_builtin; refine wpList_append_own _ rfl _ _ 37 rfl w.heap.size 5 i0 (.int .u8 0) 1 1 Tryz.underlying37 hi hz0 hz1 hz2 rfl (by decide) v n (bcs xs) rfl (ho.alloc _) ⟨w1.heap.size, 0, none⟩ 3 3 [.int .u8 77, .int .u8 78, .int .u8 79] rfl rfl ?c1 ?c2 ?c3 ?c4 ?c5 ?_)
  case c1 =>
    intro j u hj
    match j, hj with
    | 0, hj => simp at hj; subst hj; simp [Addr.add]
    | 1, hj => simp at hj; subst hj; simp [Addr.add]
    | 2, hj => simp at hj; subst hj; simp [Addr.add]
  case c2 => intro u hu; simp at hu; rcases hu with rfl | rfl | rfl <;> rfl
  case c3 => unfold maxLen; omega
  case c4 => omega
  case c5 => have := hb.size; simp; omega
  · intro v' w2 hown hgrow _
    have hown2 : w2.ownsRow w.heap.size 5 1 v' (n + 3) (bcs (xs ++ [77, 78, 79])) := by
      have e : bcs xs ++ [.int .u8 77, .int .u8 78, .int .u8 79] = bcs (xs ++ [77, 78, 79]) := by simp [bcs, bc]
      rw [← e]; exact hown
    have hb2 : Below w.heap.size w w2 := (hb.alloc hb.size _).grown hgrow (by have := hb.size; simp; omega) (fun k hk => (ho.lt k hk).1)
    obtain ⟨a', cap', hv, hl', hnc, hcm, hrd, hpos⟩ := owns_rd hown2
    obtain ⟨g, rfl, hg, _⟩ := hpos (by omega)
    subst hv
    unfold maxLen at hcm
    clear hown hgrow hown2 ho hb
    have Hl' : Hid ((xs ++ [77, 78, 79]).length = n + 3) := hl'
    clear hl'
    go_wp2
    go_ret
    exact ⟨g, cap', rfl, hnc, hcm, hg, hrd, hb2⟩

/-- bytes from anywhere (none, too) behind a row of one's own -/
theorem wpList_append_bytes {w : World} {ops : Array Oper} {rest : List Oper} {o : Oper} {a : Act} {Q : Exit → Act → World → Prop} (hgd : o.guard = none) (s x : Operand)
    (ho : o.op = .call { callee := .builtin .append, args := #[s, x], argTypes := #[37, 37] })
    (base : Nat) (v : Value) (n : Nat) (xs : List Value) (hs : a.eval s = v) (hown : w.ownsRow base 5 1 v n xs)
    (ao : Option Addr) (m c : Nat) (ys : List UInt8) (hx : a.eval x = .slice ao m c) (hl : ys.length = m) (hr : Rd w ao ys) (hnil : ao = none → c = 0) (hb : n + m ≤ 140737488355328) (hbase : base ≤ w.heap.size)
    (h : ∀ v' w', w'.ownsRow base 5 1 v' (n + m) (xs ++ bcs ys) → w.grownBy w' v.ownBlock → wpList Tryz.prog ops Q rest (a.put o.dst v') w') : wpList Tryz.prog ops Q (o :: rest) a w := by
  obtain ⟨i0, hi, hz0, hz1, hz2⟩ := info_parts info5
  cases ao with
  | none =>
    obtain rfl := hnil rfl
    have h0 : ys.length = 0 := by
      apply Decidable.byContradiction
      intro h'
      obtain ⟨_, _, h', _⟩ := hr (by omega)
      simp at h'
    obtain rfl : ys = [] := List.eq_nil_of_length_eq_zero h0
    obtain rfl : m = 0 := hl.symm
    exact wpList_append_own_none hgd s x 37 ho base 5 i0 1 Tryz.underlying37 hi v n xs hs hown hx (h v w (by simpa [bcs] using hown) (World.grownBy.refl _ _))
  | some ad =>
    refine wpList_append_own w hgd s x 37 ho base 5 i0 (.int .u8 0) 1 1 Tryz.underlying37 hi hz0 hz1 hz2 rfl (by decide) v n xs hs hown ad m c (bcs ys) hx (by rw [bcs_length]; omega) ?_ (bcs_oneCell ys) (by unfold maxLen; omega) (by omega) hbase (fun v' w' h1 h2 _ => h v' w' h1 h2)
    intro j u hj
    have hj' : j < ys.length := by have := (List.getElem?_eq_some_iff.1 hj).1; simpa [bcs_length] using this
    rw [bcs_getElem? ys j hj'] at hj
    obtain ⟨b, o', he, hc⟩ := hr (by omega)
    obtain rfl := Option.some.inj he
    rw [Addr.add_lit, hc j hj']
    exact hj

theorem Rd.head {w : World} {a : Option Addr} {xs ys : List UInt8} (h : Rd w a (xs ++ ys)) : Rd w a xs := fun hp => by
  obtain ⟨b, o, ha, hc⟩ := h (by simp; omega)
  refine ⟨b, o, ha, fun j hj => ?_⟩
  rw [hc j (by simp; omega), List.getElem_append_left hj]

/-- a copy that must be as it was, its room too -/
theorem kept_at (g cap ca n : Nat) (b : Option Addr) (xs : List UInt8) (w : World) (hl : xs.length = n) (hn : n ≤ 140737488355300) (hc : n + 3 ≤ cap) (hr : Rd w (some ⟨g, 0, none⟩) (xs ++ [77, 78, 79])) (hb : Rd w b xs) :
    Calls Tryz.prog 133 #[.slice (some ⟨g, 0, none⟩) n cap, .slice b n ca] w fun e w' => e = .returned (.bool true) ∧ w = w' := by
  obtain ⟨b', o', he, hcell⟩ := hr (by simp)
  simp only [Option.some.injEq, Addr.mk.injEq, and_true] at he
  obtain ⟨rfl, rfl⟩ := he
  have c0 : w.cell? ⟨g, n, none⟩ = some (.int .u8 77) := by
    have := hcell n (by simp; omega)
    rw [Nat.zero_add] at this
    rw [this]; simp [List.getElem_append_right, hl]
  have c1 : w.cell? ⟨g, n + 1, none⟩ = some (.int .u8 78) := by
    have := hcell (n + 1) (by simp; omega)
    rw [Nat.zero_add] at this
    rw [this]; simp [List.getElem_append_right, hl]
  have c2 : w.cell? ⟨g, n + 2, none⟩ = some (.int .u8 79) := by
    have := hcell (n + 2) (by simp; omega)
    rw [Nat.zero_add] at this
    rw [this]; simp [List.getElem_append_right, hl]
  have hh := hr.head
  have Hl : Hid (xs.length = n) := hl
  clear hcell hr hl
  go_enter Tryz.func133, Tryz.ntmps133
  go_wp2_with fail
  refine (same_at _ _ n n _ _ xs xs w Hl.out Hl.out hh hb).mono ?_
  rintro e w' ⟨rfl, rfl⟩
  go_wp2
  go_ret
  exact ⟨rfl, rfl⟩


end Go.Proofs.YtnldkpckojhbhaaGreat.Dk
