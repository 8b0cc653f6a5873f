/-
  Head, Get.
-/
import Derived.Test.YtghcmlkgpedkkaaGetH
import Derived.Test.YtghcmlkgpedkkaaUnhide
import Derived.Test.YtghcmlkgpedkkaaStamped
import Derived.Test.YtghcmlkgpedkkaaDraw
namespace Go.Proofs.Ytghcmlkgpedkkaa
open Go.RowKit

theorem getHeading_at (a : Option Addr) (n cap : Nat) (xs : List UInt8) (w : World) (hl : xs.length = n) (hcap : n ≤ cap) (hmax : cap ≤ 9223372036854775807) (hr : Rd w a xs) :
    Calls Try.prog 34 #[.slice a n cap] w (GetH w xs) := by
  by_cases h : n = 4096
  · subst h
    obtain ⟨g, o, rfl, _⟩ := hr (by omega)
    exact getHeading_in g o cap xs w hl hcap hmax hr
  · exact getHeading_short a n cap xs w hl h

/-- bytes, list by list -/
def LstAt (w : World) (b o : Nat) (xs : List UInt8) : Prop := ∃ x c, w.cell? ⟨b, o, none⟩ = some (.slice x xs.length c) ∧ xs.length ≤ c ∧ c ≤ 9223372036854775807 ∧ (x = none → c = 0) ∧ Rd w x xs
def Lsts (w : World) (a : Option Addr) (ls : List (List UInt8)) : Prop :=
  0 < ls.length → ∃ b o, a = some ⟨b, o, none⟩ ∧ ∀ j (h : j < ls.length), LstAt w b (o + j) ls[j]
theorem LstAt.below {w w' : World} {b o : Nat} {xs : List UInt8} (h : LstAt w b o xs) (hb : Below w.heap.size w w') : LstAt w' b o xs := by
  obtain ⟨x, c, h2, h3, h4, h5, h6⟩ := h
  have hlt : b < w.heap.size := block_lt_of_cell h2
  exact ⟨x, c, (hb.cell (p := ⟨b, o, none⟩) hlt).trans h2, h3, h4, h5, h6.below hb (Nat.le_refl _)⟩
theorem Lsts.below {w w' : World} {a : Option Addr} {ls : List (List UInt8)} (h : Lsts w a ls) (hb : Below w.heap.size w w') : Lsts w' a ls := fun hp => by
  obtain ⟨b, o, ha, hc⟩ := h hp
  exact ⟨b, o, ha, fun j hj => (hc j hj).below hb⟩

/-- an image that was got: its data lie at (h, c) -/
structure GG where
  b : Int
  xs : List UInt8
  h : Nat
  c : Nat
def imgC (ps : List GG) : List Value := ps.flatMap fun p => [.int .i64 p.b, .slice (some ⟨p.h, 0, none⟩) 4096 p.c]
theorem imgC_length (ps : List GG) : (imgC ps).length = ps.length * 2 := by
  induction ps with
  | nil => rfl
  | cons p ps ih => simp only [imgC, List.flatMap_cons, List.length_append, List.length_cons, List.length_nil] at ih ⊢; omega
theorem imgC_at (ps : List GG) (i : Nat) (h : i < ps.length) : (imgC ps)[i * 2]? = some (.int .i64 ps[i].b) ∧ (imgC ps)[i * 2 + 1]? = some (.slice (some ⟨ps[i].h, 0, none⟩) 4096 ps[i].c) := by
  induction ps generalizing i with
  | nil => simp at h
  | cons p ps ih =>
    cases i with
    | zero => exact ⟨rfl, rfl⟩
    | succ i =>
      obtain ⟨u, v⟩ := ih i (by simpa using h)
      have e1 : (i + 1) * 2 = i * 2 + 1 + 1 := by omega
      simp only [imgC, List.flatMap_cons, e1, List.cons_append, List.nil_append, List.getElem?_cons_succ, List.getElem_cons_succ]
      exact ⟨u, v⟩
structure GetJ (B : Nat) (W : World) (ps : List GG) : Prop where
  rows : ∀ p ∈ ps, RowB W p.h p.c p.xs ∧ B ≤ p.h ∧ p.xs.length = 4096
  apart : (ps.map GG.h).Nodup
theorem GetJ.mono {B : Nat} {W W' : World} {ps : List GG} (h : GetJ B W ps) (hk : ∀ g cur, Box W g cur 5 → W'.heap[g]? = W.heap[g]?) : GetJ B W' ps :=
  ⟨fun p hp => by
    obtain ⟨a1, a2⟩ := h.rows p hp
    refine ⟨a1.same ?_, a2⟩
    obtain ⟨cur, q, _⟩ := a1; exact hk _ _ q, h.apart⟩
theorem GetJ.below {B : Nat} {W W' : World} {ps : List GG} (h : GetJ B W ps) (hb : Below W.heap.size W W') : GetJ B W' ps := h.mono fun g _ q => hb.block g q.lt
theorem GetJ.grown {B base e size n : Nat} {W W' : World} {ps : List GG} {v : Value} {xs : List Value} (h : GetJ B W ps) (ho : W.ownsRow base e size v n xs) (he : (5 : TypeId) ≠ e) (hg : W.grownBy W' v.ownBlock) : GetJ B W' ps := h.mono fun g cur q => hg.block g q.lt (fun eq => by
  obtain ⟨_, c2, q2⟩ := owns_block ho g eq.symm
  exact q.ne q2 he rfl)
theorem GetJ.store {B b j : Nat} {W : World} {ps : List GG} {cs : Array Value} {t : TypeId} (h : GetJ B W ps) (hb : Box W b cs t) (ht : (5 : TypeId) ≠ t) (u : Value) : GetJ B (W.setCell ⟨b, j, none⟩ u) ps := h.mono fun g _ q => heap_setCell_other W ⟨b, j, none⟩ g u (q.ne hb ht)
theorem GetJ.snoc {B : Nat} {W W' : World} {ps : List GG} (h : GetJ B W ps) (hb : Below W.heap.size W W') (p : GG) (h1 : RowB W' p.h p.c p.xs) (h3 : W.heap.size ≤ p.h) (h4 : p.xs.length = 4096) (hB : B ≤ W.heap.size) : GetJ B W' (ps ++ [p]) :=
  ⟨fun x hx => by
    rcases List.mem_append.1 hx with hx | hx
    · exact (h.below hb).rows x hx
    · simp at hx
      subst hx
      exact ⟨h1, by omega, h4⟩, by
    rw [List.map_append, List.nodup_append]
    refine ⟨h.apart, by simp, fun x hx y hy => ?_⟩
    obtain ⟨z, hz, rfl⟩ := List.mem_map.1 hx
    simp at hy
    subst hy
    have := (h.rows z hz).1.lt
    omega⟩

/-- image j of blocks whose head says es -/
def imgOf (ls : List (List UInt8)) (es : List (Nat × List UInt8)) (j : Nat) : Int × List UInt8 := (((es[j]?.getD (0, [])).1 : Int), (unhideTo (ls[j + 1]?.getD []) (es[j]?.getD (0, [])).2 (List.finRange 8)).1)
def imgsTo (ls : List (List UInt8)) (es : List (Nat × List UInt8)) (k : Nat) : List (Int × List UInt8) := (List.range k).map (imgOf ls es)
theorem imgsTo_succ (ls : List (List UInt8)) (es : List (Nat × List UInt8)) (k : Nat) : imgsTo ls es (k + 1) = imgsTo ls es k ++ [imgOf ls es k] := by simp [imgsTo, List.range_succ]
/-- the first k images' blocks bear the stamp -/
def stampedTo (ls : List (List UInt8)) (e s : Int) (k : Nat) : Prop := ∀ j, j < k → stampedB (ls[j + 1]?.getD []) e s = true
/-- are these the blocks of a group? -/
def isGrp (ls : List (List UInt8)) : Prop := 0 < ls.length ∧ isHead (ls[0]?.getD []) ∧ ls.length = (saidEs (ls[0]?.getD [])).length + 1 ∧ stampedTo ls (saidE (ls[0]?.getD [])) (saidS (ls[0]?.getD [])) (saidEs (ls[0]?.getD [])).length

theorem info38 : (Try.prog.info? 38).map (fun i => (i.zero, i.size, i.bytes)) = some (some (.agg #[.int .i64 0, .slice none 0 0]), 2, 32) := by kernel_rfl

/-- what Get tells -/
def GetR (w : World) (ls : List (List UInt8)) (r : Ending) (w' : World) : Prop :=
  (isGrp ls ∧ ∃ a c ps, r = .returned (.tuple #[.agg #[.int .i64 (saidE (ls[0]?.getD []) : Int), .int .i64 (saidS (ls[0]?.getD []) : Int), .slice a (saidEs (ls[0]?.getD [])).length c], .int .i64 0]) ∧ w'.ownsRow w.heap.size 38 2 (.slice a (saidEs (ls[0]?.getD [])).length c) (saidEs (ls[0]?.getD [])).length (imgC ps) ∧
    GetJ w.heap.size w' ps ∧ ps.map (fun p => (p.b, p.xs)) = imgsTo ls (saidEs (ls[0]?.getD [])) (saidEs (ls[0]?.getD [])).length ∧ Below w.heap.size w w') ∨
  (¬ isGrp ls ∧ r = .returned (.tuple #[.agg #[.int .i64 0, .int .i64 0, .slice none 0 0], .int .i64 80]) ∧ Below w.heap.size w w')

theorem zero_below {w W : World} (B : Below w.heap.size w W) : Below w.heap.size w (((W.setCell ⟨w.heap.size, 0, none⟩ (.int .i64 0)).setCell ⟨w.heap.size, 1, none⟩ (.int .i64 0)).setCell ⟨w.heap.size, 2, none⟩ (.slice none 0 0)) :=
  ((B.setCell (p := ⟨w.heap.size, 0, none⟩) (by simp) _).setCell (p := ⟨w.heap.size, 1, none⟩) (by simp) _).setCell (p := ⟨w.heap.size, 2, none⟩) (by simp) _

theorem zero_box {w W : World} (b : Box W w.heap.size #[.int .i64 0, .int .i64 0, .slice none 0 0] 28) : Box (((W.setCell ⟨w.heap.size, 0, none⟩ (.int .i64 0)).setCell ⟨w.heap.size, 1, none⟩ (.int .i64 0)).setCell ⟨w.heap.size, 2, none⟩ (.slice none 0 0)) w.heap.size #[.int .i64 0, .int .i64 0, .slice none 0 0] 28 := by
  have := ((b.store 0 (.int .i64 0)).store 1 (.int .i64 0)).store 2 (.slice none 0 0)
  simpa using this

set_option maxRecDepth 100000 in
theorem get_none (a : Option Addr) (cap : Nat) (w : World) : Calls Try.prog 11 #[.slice a 0 cap] w (GetR w []) := by
  have hno : Hid (¬ isGrp []) := fun h => by simp [isGrp] at h
  have b0 := Box.new w #[.int .i64 0, .int .i64 0, .slice none 0 0] 28
  have y0 := b0.cell 0
  have y1 := b0.cell 1
  have y2 := b0.cell 2
  have B0 := (Below.refl w.heap.size w).alloc (Nat.le_refl _) (.cells #[.int .i64 0, .int .i64 0, .slice none 0 0] 28)
  go_enter Try.func11, Try.ntmps11
  go_wp2
  refine bodyPost_ret (v := .tuple #[.agg #[.int .i64 0, .int .i64 0, .slice none 0 0], .int .i64 80]) (by simp [results, Try.results11, go_sem]) rfl ?_
  exact .inr ⟨hno.out, rfl, B0⟩

set_option maxRecDepth 100000 in
set_option maxHeartbeats 4000000 in
theorem get_in (a : Option Addr) (n cap : Nat) (ls : List (List UInt8)) (w : World) (hl : ls.length = n) (h0 : 0 < n) (hn : n ≤ 1000000000) (hL : Lsts w a ls) : Calls Try.prog 11 #[.slice a n cap] w (GetR w ls) := by
  obtain ⟨i0, hi, hz0, hz1, hz2⟩ := info_parts info38
  obtain ⟨b, o, rfl, hc⟩ := hL (by omega)
  have HC : Hid (∀ j (h : j < ls.length), LstAt w b (o + j) ls[j]) := hc
  obtain ⟨xs, hxs⟩ : ∃ xs, xs = ls[0]?.getD [] := ⟨_, rfl⟩
  have hx0 : ls[0]'(by omega) = xs := by rw [hxs, List.getElem?_eq_getElem (by omega)]; rfl
  obtain ⟨x0, c0, q1, q2, q3, q4, q5⟩ := hc 0 (by omega)
  rw [hx0] at q1 q2 q5
  rw [Nat.add_zero] at q1
  have hblt : b < w.heap.size := block_lt_of_cell q1
  have HG : Hid (isGrp ls ↔ isHead xs ∧ n = (saidEs xs).length + 1 ∧ stampedTo ls (saidE xs) (saidS xs) (saidEs xs).length) := by
    show _ ↔ _
    unfold isGrp
    rw [← hxs, hl]
    exact ⟨fun h => h.2, fun h => ⟨h0, h⟩⟩
  unfold GetR
  rw [← hxs]
  have HL : Hid _ := hl
  have HX : Hid _ := hxs
  generalize isGrp ls = IG at HG ⊢
  clear hc hx0 hl hxs hL
  have b0 := Box.new w #[.int .i64 0, .int .i64 0, .slice none 0 0] 28
  have B0 := (Below.refl w.heap.size w).alloc (Nat.le_refl _) (.cells #[.int .i64 0, .int .i64 0, .slice none 0 0] 28)
  have q1' := (B0.cell (p := ⟨b, o, none⟩) hblt).trans q1
  have cH := getHeading_at x0 xs.length c0 xs _ rfl q2 q3 (q5.below B0 (Nat.le_refl _))
  have hni : ((n : Int) == 0) = false := by simp; omega
  have hnp : (0 : Int) < n := by omega
  go_enter Try.func11, Try.ntmps11
  go_wp2_with fail
  refine cH.mono ?_
  rintro r w1 (⟨hhd, ah, ch, rfl, hEn, hb1⟩ | ⟨hhd, rfl, hb1⟩)
  · replace b0 := b0.below hb1
    have B1 := B0.trans (hb1.mono B0.size)
    have hcnt : 1 ≤ (saidEs xs).length ∧ (saidEs xs).length ≤ 32 := by have := hhd.2.1.2.1; rw [List.length_map] at this; exact this
    have hE64 : ∀ x ∈ saidEs xs, x.2.length = 64 := fun x hx => by
      obtain ⟨j, hj, rfl⟩ := List.getElem_of_mem hx
      obtain ⟨b, o, _, hc⟩ := hEn (by omega)
      obtain ⟨_, _, _, _, _, _, _, q, _⟩ := hc j hj
      exact q
    have HG2 : Hid (IG ↔ n = (saidEs xs).length + 1 ∧ stampedTo ls (saidE xs) (saidS xs) (saidEs xs).length) := ⟨fun h => (HG.out.1 h).2, fun h => HG.out.2 ⟨hhd, h⟩⟩
    clear hhd hb1 cH q1' HG
    obtain ⟨E, hEE⟩ : ∃ E, E = saidE xs := ⟨_, rfl⟩
    obtain ⟨S, hSS⟩ : ∃ S, S = saidS xs := ⟨_, rfl⟩
    obtain ⟨es, hes⟩ : ∃ es, es = saidEs xs := ⟨_, rfl⟩
    rw [← hEE, ← hSS, ← hes] at HG2
    rw [← hes] at hEn hcnt hE64
    rw [← hEE, ← hSS, ← hes]
    have HEE : Hid _ := hEE
    have HSS : Hid _ := hSS
    have HES : Hid _ := hes
    clear hEE hSS hes
    obtain ⟨m, hm⟩ : ∃ m, m = es.length := ⟨_, rfl⟩
    rw [← hm] at hcnt HG2 ⊢
    have HM : Hid _ := hm
    clear hm
    obtain ⟨hc1, hc2⟩ := hcnt
    have hbn : blocksN (m : Int) = (m : Int) + 1 := by unfold blocksN; rw [if_pos (by omega)]
    have al := (Below.refl w1.heap.size w1).alloc (Nat.le_refl _) (.cells #[.int .i64 (E : Int), .int .i64 (S : Int), .slice ah m ch] 57)
    have bh := Box.new w1 #[.int .i64 (E : Int), .int .i64 (S : Int), .slice ah m ch] 57
    have hlt1 := b0.lt
    have BOXW : Hid (∀ u, Below w1.heap.size w1 u → Box u w.heap.size #[.int .i64 0, .int .i64 0, .slice none 0 0] 28) := fun u hb => b0.below hb
    obtain ⟨w2, hw2⟩ : ∃ x, x = w1.alloc (.cells #[.int .i64 (E : Int), .int .i64 (S : Int), .slice ah m ch] 57) := ⟨_, rfl⟩
    have hs2 : w1.heap.size < w2.heap.size := by rw [hw2]; simp
    have HW2 : Hid _ := hw2
    rw [← hw2] at al bh
    obtain ⟨hb, hhb⟩ : ∃ x, x = w1.heap.size := ⟨_, rfl⟩
    have HHB : Hid _ := hhb
    rw [← hhb] at bh
    have hbge : w1.heap.size ≤ hb := Nat.le_of_eq hhb.symm
    have hbl2 : hb < w2.heap.size := by rw [hhb]; exact hs2
    have d2 : (w1.alloc (.cells #[.int .i64 (E : Int), .int .i64 (S : Int), .slice ah m ch] 57)).cell? ⟨w1.heap.size, 2, none⟩ = some (.slice ah m ch) := by rw [← hw2, ← hhb]; exact bh.cell 2
    clear hw2 hhb
    go_wp2_with fail
    rw [← HW2.out, ← HHB.out]
    clear d2
    refine (blocks_at (m : Int) w2).mono ?_
    rintro r w' ⟨rfl, rfl⟩
    rw [hbn]
    have b02 := b0.below al
    have B2 := B1.trans (al.mono B1.size)
    by_cases hnm : n = m + 1
    · have hq : ((n : Int) != (m : Int) + 1) = false := by simp; omega
      have hg3 : Hid (IG ↔ stampedTo ls E S m) := ⟨fun h => (HG2.out.1 h).2, fun h => HG2.out.2 ⟨hnm, h⟩⟩
      clear HG2
      have d0 := bh.cell 0
      have d1 := bh.cell 1
      have d2 := bh.cell 2
      have al3 := (Below.refl w2.heap.size w2).alloc (Nat.le_refl _) (.cells #[.int .i64 (E : Int), .int .i64 (S : Int), .slice none 0 0] 28)
      have bg := Box.new w2 #[.int .i64 (E : Int), .int .i64 (S : Int), .slice none 0 0] 28
      obtain ⟨w3, hw3⟩ : ∃ x, x = w2.alloc (.cells #[.int .i64 (E : Int), .int .i64 (S : Int), .slice none 0 0] 28) := ⟨_, rfl⟩
      have HW3 : Hid _ := hw3
      obtain ⟨gb, hgb⟩ : ∃ x, x = w2.heap.size := ⟨_, rfl⟩
      have HGB : Hid _ := hgb
      have x3 : (w2.alloc (.cells #[.int .i64 (E : Int), .int .i64 (S : Int), .slice none 0 0] 28)).cell? ⟨hb, 2, none⟩ = some (.slice ah m ch) := (bh.below al3).cell 2
      rw [← hw3] at al3 bg
      rw [← hgb] at bg
      have hgb1 : w1.heap.size < gb := by rw [hgb]; exact hs2
      have hgb2 : hb < gb := by rw [hgb]; exact hbl2
      have bh3 := bh.below al3
      have b03 := b02.below al3
      have al13 := al.trans (al3.mono al.size)
      have B3 := B2.trans (al3.mono B2.size)
      clear hw3 hgb bh b02
      go_wp2_with fail
      rw [← HW3.out, ← HGB.out]
      clear d0 d1 d2 x3
      go_loopw [41] (fun i wr => ∃ (k : Nat) (ps : List GG), k ≤ m ∧ i = .int .i64 k ∧ ps.map (fun p => (p.b, p.xs)) = imgsTo ls es k ∧ stampedTo ls E S k ∧ (∃ v, Box wr gb #[.int .i64 (E : Int), .int .i64 (S : Int), v] 28 ∧ wr.ownsRow w1.heap.size 38 2 v k (imgC ps)) ∧ GetJ w.heap.size wr ps ∧ Box wr hb #[.int .i64 (E : Int), .int .i64 (S : Int), .slice ah m ch] 57 ∧ Below w1.heap.size w1 wr) (fun i _ => m - (intOf i).toNat)
      case atStart => exact ⟨0, [], Nat.zero_le _, rfl, rfl, fun j h => absurd h (by omega), ⟨_, bg, World.ownsRow_nil _ _ _ _⟩, ⟨fun p hp => by simp at hp, by simp⟩, bh3, al13⟩
      case round =>
        obtain ⟨k, ps, hk, rfl, hps, hst, ⟨v, bG, hown⟩, hJ, bH, hB1⟩ := hrel
        clear bg bh3 b03 B3 al13 al3 al
        have hB := B1.trans (hB1.mono B1.size)
        have HPS : Hid _ := hps
        have HST : Hid _ := hst
        clear hps hst
        by_cases hlt : k < m
        · have hlt2 : (k : Int) < m := by omega
          have hke : k < es.length := by rw [← HM.out]; exact hlt
          have hkn : k + 1 < ls.length := by rw [HL.out]; omega
          have hkn2 : (k : Int) + 1 < n := by omega
          obtain ⟨ba, oa, rfl, hca⟩ := hEn (by omega)
          obtain ⟨p1, gq, oq, cq, p2, p3, p4, p5, p6⟩ := (hca k hke).below hB1
          obtain ⟨xk, ck, t1, t2, t3, t4, t5⟩ := (HC.out (k + 1) hkn).below hB
          have hio : imgOf ls es k = ((es[k].1 : Int), (unhideTo ls[k + 1] es[k].2 (List.finRange 8)).1) := by
            unfold imgOf
            rw [List.getElem?_eq_getElem hke, List.getElem?_eq_getElem hkn]
            rfl
          have hsk : ls[k + 1]?.getD [] = ls[k + 1] := by rw [List.getElem?_eq_getElem hkn]; rfl
          generalize es[k] = en at p1 p2 p5 p6 hio
          generalize ls[k + 1] = ys at t1 t2 t5 hio hsk
          obtain ⟨eb, eh⟩ := en
          dsimp only at p1 p2 p5 p6 hio
          have HIO : Hid _ := hio
          have HSK : Hid _ := hsk
          clear hio hsk hca
          have al := (Below.refl wr.heap.size wr).alloc (Nat.le_refl _) (.cells #[.int .i64 (eb : Int), .slice (some ⟨gq, oq, none⟩) 64 cq] 62)
          have be := Box.new wr #[.int .i64 (eb : Int), .slice (some ⟨gq, oq, none⟩) 64 cq] 62
          have bG1 := bG.below al
          have bH1 := bH.below al
          have own1 := owns_belowH hown al
          have J1 := hJ.below al
          have A1 := hB1.trans (al.mono hB1.size)
          have B1' := hB.trans (al.mono hB.size)
          have t1' := (al.cell (p := ⟨b, o + (k + 1), none⟩) (block_lt_of_cell t1)).trans t1
          have t5' := t5.below al (Nat.le_refl _)
          have p6' := p6.below al (Nat.le_refl _)
          obtain ⟨av, cv, rfl⟩ := owns_shape hown
          obtain ⟨V, hV⟩ : ∃ V, V = wr.alloc (.cells #[.int .i64 (eb : Int), .slice (some ⟨gq, oq, none⟩) 64 cq] 62) := ⟨_, rfl⟩
          have hsz : wr.heap.size < V.heap.size := by rw [hV]; simp
          have HV : Hid _ := hV
          have u0 : (wr.alloc (.cells #[.int .i64 (eb : Int), .slice (some ⟨gq, oq, none⟩) 64 cq] 62)).cell? ⟨hb, 0, none⟩ = some (.int .i64 (E : Int)) := bH1.cell 0
          have u1 : (wr.alloc (.cells #[.int .i64 (eb : Int), .slice (some ⟨gq, oq, none⟩) 64 cq] 62)).cell? ⟨hb, 1, none⟩ = some (.int .i64 (S : Int)) := bH1.cell 1
          rw [← hV] at be bG1 bH1 own1 J1 A1 B1' t5' p6'
          obtain ⟨bi, hbi⟩ : ∃ x, x = wr.heap.size := ⟨_, rfl⟩
          have HBI : Hid _ := hbi
          rw [← hbi] at be hsz
          clear hV al bG bH hown hJ hB1 hB t5 p6 hbi
          have cS := stamped_at xk ys.length ck ys (E : Int) (S : Int) V rfl t2 t3 t5'
          go_wp2_with fail
          rw [← HV.out, ← HBI.out]
          refine cS.mono ?_
          rintro r V2 ⟨rfl, hbV⟩
          clear cS t1' t1 u0 u1 p1 p2
          replace be := be.below hbV
          replace bG1 := bG1.below hbV
          replace bH1 := bH1.below hbV
          replace own1 := owns_belowH own1 hbV
          replace J1 := J1.below hbV
          replace A1 := A1.trans (hbV.mono A1.size)
          replace B1' := B1'.trans (hbV.mono B1'.size)
          replace p6' := p6'.below hbV (Nat.le_refl _)
          replace t5' := t5'.below hbV (Nat.le_refl _)
          replace hsz : bi < V2.heap.size := Nat.lt_of_lt_of_le hsz hbV.size
          clear hbV
          cases hsb : stampedB ys (E : Int) (S : Int) with
          | false =>
            have hno : Hid (¬ IG) := fun h => by
              have := hg3.out.1 h k hlt
              rw [HSK.out, hsb] at this
              cases this
            have b0V := (BOXW.out _ A1)
            have y0 := b0V.cell 0
            have y1 := b0V.cell 1
            have y2 := b0V.cell 2
            have f0 := b0V.frozen 0
            have f1 := b0V.frozen 1
            have f2 := b0V.frozen 2
            have zb := zero_box b0V
            have m0 := zb.cell 0
            have m1 := zb.cell 1
            have m2 := zb.cell 2
            go_wp2
            refine bodyPost_ret (v := .tuple #[.agg #[.int .i64 0, .int .i64 0, .slice none 0 0], .int .i64 80]) (by simp [results, Try.results11, go_sem, m0, m1, m2]) rfl ?_
            exact .inr ⟨hno.out, rfl, zero_below B1'⟩
          | true =>
            have hy4 : ys.length = 4096 := by
              unfold stampedB at hsb
              simp at hsb
              exact hsb.1
            rw [hy4] at t2 ⊢
            obtain ⟨gy, oy, rfl, _⟩ := t5' (by omega)
            go_wp2_with fail
            have hyl : ys.length = 4096 := hy4
            have HY4 : Hid _ := hy4
            clear hy4 hyl
            refine wp_region_any (by kernel_rfl) ?_
            change wpAny _ _ _ _ _ _ _ (World.drew _)
            replace be : Box V2.drew bi _ 62 := be
            replace bG1 : Box V2.drew gb _ 28 := bG1
            replace bH1 : Box V2.drew hb _ 57 := bH1
            replace own1 : V2.drew.ownsRow w1.heap.size 38 2 (.slice av k cv) k (imgC ps) := own1
            replace J1 : GetJ w.heap.size V2.drew ps := J1.below (Below.refl _ _).drew
            replace A1 : Below w1.heap.size w1 V2.drew := A1.drew
            replace B1' : Below w.heap.size w V2.drew := B1'.drew
            replace p6' : Rd V2.drew (some ⟨gq, oq, none⟩) eh := p6'
            replace t5' : Rd V2.drew (some ⟨gy, oy, none⟩) ys := t5'
            generalize V2.drew = W at be bG1 bH1 own1 J1 A1 B1' p6' t5' ⊢
            refine wpAny_take (i := 0) (v := ?_) rfl (by kernel_rfl) (by kernel_rfl) (by kernel_rfl) (fun _ _ _ h => h) (Or.inl ⟨by rfl, ?_⟩) ?_
            rotate_left
            · intro w
              go_simp
              with_reducible rfl
            refine wpAny_take (i := 2) (v := ?_) rfl (by kernel_rfl) (by kernel_rfl) (by kernel_rfl) (fun _ _ _ h => h) (Or.inl ⟨by rfl, ?_⟩) ?_
            rotate_left
            · intro w
              go_simp
              with_reducible rfl
            refine wpAny_take (i := 4) (v := ?_) rfl (by kernel_rfl) (by kernel_rfl) (by kernel_rfl) (fun _ _ _ h => h) (Or.inl ⟨by rfl, ?_⟩) ?_
            rotate_left
            · intro w
              go_simp
              with_reducible rfl
            refine wpAny_take (i := 5) (v := ?_) rfl (by kernel_rfl) (by kernel_rfl) (by kernel_rfl) (fun _ _ _ h => h) (Or.inl ⟨by rfl, ?_⟩) ?_
            rotate_left
            · intro w
              go_simp
              with_reducible rfl
            simp only [Act.put, List.setIfInBounds_toArray, List.set_cons_zero, List.set_cons_succ, List.getElem_toArray, List.getElem_cons_zero, List.getElem_cons_succ]
            refine wpAny_of_late (C := SB [(59, .pointer (some ⟨gb, 2, none⟩)), (61, .pointer (some ⟨bi, 0, none⟩)), (64, .pointer (some ⟨bi, 1, none⟩))] [(gb, #[.int .i64 (E : Int), .int .i64 (S : Int), .slice av k cv], 28), (bi, #[.int .i64 (eb : Int), .slice (some ⟨gq, oq, none⟩) 64 cq], 62)]) (late := [12]) _ _ _ _ ?_
            refine wpAnyD_take (i := 1) (v := .slice av k cv) rfl (by kernel_rfl) (by kernel_rfl) (by kernel_rfl) (by kernel_rfl) (fun _ _ _ h => h) ?_ (fun fr u h => (SB.put 60 _ (by rfl)).1 h) (fun fr u h => (SB.put 60 _ (by rfl)).2 h) ?_ ?_
            · intro fr u hh
              obtain ⟨e1, e2⟩ := hh.load (s := 59) (b := gb) (j := 2) (cs := #[.int .i64 (E : Int), .int .i64 (S : Int), .slice av k cv]) (t := 28) (v := .slice av k cv) (by simp) (by simp) (by rfl)
              exact ⟨rfl, by simp [execOp, e1, go_sem, e2]⟩
            · exact ⟨fun p hp => by simp at hp; rcases hp with rfl | rfl | rfl <;> rfl, fun q hq => by simp at hq; rcases hq with rfl | rfl <;> first | exact bG1 | exact be⟩
            simp only [Act.put, List.setIfInBounds_toArray, List.set_cons_zero, List.set_cons_succ, List.getElem_toArray, List.getElem_cons_zero, List.getElem_cons_succ]
            refine wpAnyD_take (i := 3) (v := .int .i64 (eb : Int)) rfl (by kernel_rfl) (by kernel_rfl) (by kernel_rfl) (by kernel_rfl) (fun _ _ _ h => h) ?_ (fun fr u h => (SB.put 62 _ (by rfl)).1 h) (fun fr u h => (SB.put 62 _ (by rfl)).2 h) ?_ ?_
            · intro fr u hh
              obtain ⟨e1, e2⟩ := hh.load (s := 61) (b := bi) (j := 0) (cs := #[.int .i64 (eb : Int), .slice (some ⟨gq, oq, none⟩) 64 cq]) (t := 62) (v := .int .i64 (eb : Int)) (by simp) (by simp) (by rfl)
              exact ⟨rfl, by simp [execOp, e1, go_sem, e2]⟩
            · exact ⟨fun p hp => by simp at hp; rcases hp with rfl | rfl | rfl <;> rfl, fun q hq => by simp at hq; rcases hq with rfl | rfl <;> first | exact bG1 | exact be⟩
            simp only [Act.put, List.setIfInBounds_toArray, List.set_cons_zero, List.set_cons_succ, List.getElem_toArray, List.getElem_cons_zero, List.getElem_cons_succ]
            refine wpAnyD_take (i := 6) (v := .slice (some ⟨gq, oq, none⟩) 64 cq) rfl (by kernel_rfl) (by kernel_rfl) (by kernel_rfl) (by kernel_rfl) (fun _ _ _ h => h) ?_ (fun fr u h => (SB.put 65 _ (by rfl)).1 h) (fun fr u h => (SB.put 65 _ (by rfl)).2 h) ?_ ?_
            · intro fr u hh
              obtain ⟨e1, e2⟩ := hh.load (s := 64) (b := bi) (j := 1) (cs := #[.int .i64 (eb : Int), .slice (some ⟨gq, oq, none⟩) 64 cq]) (t := 62) (v := .slice (some ⟨gq, oq, none⟩) 64 cq) (by simp) (by simp) (by rfl)
              exact ⟨rfl, by simp [execOp, e1, go_sem, e2]⟩
            · exact ⟨fun p hp => by simp at hp; rcases hp with rfl | rfl | rfl <;> rfl, fun q hq => by simp at hq; rcases hq with rfl | rfl <;> first | exact bG1 | exact be⟩
            simp only [Act.put, List.setIfInBounds_toArray, List.set_cons_zero, List.set_cons_succ, List.getElem_toArray, List.getElem_cons_zero, List.getElem_cons_succ]
            refine wpAnyD_one (i := 7) (by kernel_rfl) rfl (fun K hK2 => ?_)
            go_simp
            refine (unhide_in gy oy ck gq oq cq ys eh W HY4.out t5' p5 p3 p4 p6').mono ?_
            rintro r W2 ⟨h, c, rfl, hh, r1, hbW⟩
            have J2 := J1.snoc hbW ⟨(eb : Int), _, h, c⟩ r1 hh (unhideTo_length ys eh HY4.out _) B1'.size
            replace be := be.below hbW
            replace bG1 := bG1.below hbW
            replace bH1 := bH1.below hbW
            replace own1 := owns_belowH own1 hbW
            replace A1 := A1.trans (hbW.mono A1.size)
            replace B1' := B1'.trans (hbW.mono B1'.size)
            refine hK2 _ _ ⟨.inr ⟨fun p hp => by simp at hp; rcases hp with rfl | rfl | rfl <;> rfl, fun q hq => by simp at hq; rcases hq with rfl | rfl <;> first | exact bG1 | exact be⟩, ?_⟩
            clear hK2 K hbW r1 hh J1 p6' t5'
            refine wpAnyD_one (i := 8) (by kernel_rfl) rfl (fun K hK2 => ?_)
            go_simp
            refine hK2 _ _ ⟨.inr ⟨fun p hp => by simp at hp; rcases hp with rfl | rfl | rfl <;> rfl, fun q hq => by simp at hq; rcases hq with rfl | rfl <;> first | exact bG1 | exact be⟩, ?_⟩
            clear hK2 K
            have al := (Below.refl W2.heap.size W2).alloc (Nat.le_refl _) (.cells #[.int .i64 (eb : Int), .slice (some ⟨h, 0, none⟩) 4096 c] 38)
            have bN := Box.new W2 #[.int .i64 (eb : Int), .slice (some ⟨h, 0, none⟩) 4096 c] 38
            refine wpAnyD_one (i := 9) (by kernel_rfl) rfl (fun K hK2 => ?_)
            go_simp
            replace be := be.below al
            replace bG1 := bG1.below al
            replace bH1 := bH1.below al
            replace own1 := owns_belowH own1 al
            replace J2 := J2.below al
            replace A1 := A1.trans (al.mono A1.size)
            replace B1' := B1'.trans (al.mono B1'.size)
            refine hK2 _ _ ⟨.inr ⟨fun p hp => by simp at hp; rcases hp with rfl | rfl | rfl <;> rfl, fun q hq => by simp at hq; rcases hq with rfl | rfl <;> first | exact bG1 | exact be⟩, ?_⟩
            clear hK2 K
            refine wpAnyD_one (i := 10) (by kernel_rfl) rfl (fun K hK2 => ?_)
            rw [if_pos (by rfl)]
            refine wp_append_own _ _ _ 26 rfl w1.heap.size 38 i0 (.agg #[.int .i64 0, .slice none 0 0]) 2 32 Try.underlying26 hi hz0 hz1 hz2 rfl (by decide) _ k _ rfl own1 ⟨W2.heap.size, 0, none⟩ 1 1 [.int .i64 (eb : Int), .slice (some ⟨h, 0, none⟩) 4096 c] rfl rfl (two_cells bN) (fun u hu => by simp at hu; rcases hu with rfl | rfl <;> rfl) (by unfold maxLen; omega) (by omega) A1.size ?_
            intro v' w4 own4 hg4 _
            have hnx : ∀ {g : Nat} {cs : Array Value} {t : TypeId}, Box _ g cs t → (38 : TypeId) ≠ t → Box w4 g cs t := fun hb ht => hb.grown hg4 (fun e => by
              obtain ⟨_, cur, q⟩ := owns_block own1 _ e
              exact q.ne hb ht rfl)
            replace be := hnx be (by decide)
            replace bG1 := hnx bG1 (by decide)
            replace bH1 := hnx bH1 (by decide)
            replace J2 := J2.grown own1 (by decide) hg4
            have own1b := own1
            have A4 : Below w1.heap.size w1 w4 := A1.grown hg4 A1.size (fun j e => (owns_block own1b j e).1)
            have B4 := B1'.grown hg4 B1'.size (fun j e => Nat.le_trans B1.size (owns_block own1b j e).1)
            refine hK2 _ _ ⟨.inr ⟨fun p hp => by simp at hp; rcases hp with rfl | rfl | rfl <;> rfl, fun q hq => by simp at hq; rcases hq with rfl | rfl <;> first | exact bG1 | exact be⟩, ?_⟩
            clear hK2 K hnx own1 own1b A1 B1' bN al hg4
            obtain ⟨av4, cv4, rfl⟩ := owns_shape own4
            refine wpAnyD_one (i := 11) (by kernel_rfl) rfl (fun K hK2 => ?_)
            go_simp
            refine hK2 _ _ ⟨.inr ⟨fun p hp => by simp at hp; rcases hp with rfl | rfl | rfl <;> rfl, fun q hq => by simp at hq; rcases hq with rfl | rfl <;> first | exact bG1 | exact be⟩, ?_⟩
            clear hK2 K
            have f4 := bG1.frozen 2
            have z4 := bG1.cell 2
            refine wpAnyD_one (i := 12) (by kernel_rfl) rfl (fun K hK2 => ?_)
            go_simp
            refine hK2 _ _ ⟨.inl rfl, ?_⟩
            clear hK2 K
            have bG5 := bG1.store 2 (.slice av4 (k + 1) cv4)
            have bH5 : Box (w4.setCell ⟨gb, 2, none⟩ (.slice av4 (k + 1) cv4)) hb _ 57 := (heap_setCell_other w4 ⟨gb, 2, none⟩ hb _ (by show hb ≠ gb; omega)).trans bH1
            have J5 := J2.store (j := 2) bG1 (by decide) (.slice av4 (k + 1) cv4)
            have A5 := A4.setCell (p := ⟨gb, 2, none⟩) (by show w1.heap.size ≤ gb; omega) (.slice av4 (k + 1) cv4)
            have own5 : (w4.setCell ⟨gb, 2, none⟩ (.slice av4 (k + 1) cv4)).ownsRow w1.heap.size 38 2 (.slice av4 (k + 1) cv4) (k + 1) _ := owns_grown own4 (grown_store w4 gb 2 _) (fun g eg e => by
              cases e
              obtain ⟨_, cur2, q2⟩ := owns_block own4 _ eg
              exact q2.ne bG1 (by decide) rfl)
            refine wpAnyD_done (by kernel_rfl) ?_ _
            clear own4 bG1 bH1 J2 A4 B4 be f4 z4
            go_wp2
            go_roundw
            case rel =>
              refine ⟨k + 1, ps ++ [⟨(eb : Int), _, h, c⟩], by omega, by go_num, ?_, ?_, ⟨_, by simpa using bG5, ?_⟩, J5, bH5, A5⟩
              · rw [List.map_append, HPS.out, imgsTo_succ, HIO.out]
                rfl
              · intro j hj
                by_cases hjk : j < k
                · exact HST.out j hjk
                · obtain rfl : j = k := by omega
                  rw [HSK.out]
                  exact hsb
              · have e1 : imgC (ps ++ [⟨(eb : Int), (unhideTo ys eh (List.finRange 8)).1, h, c⟩]) = imgC ps ++ [.int .i64 (eb : Int), .slice (some ⟨h, 0, none⟩) 4096 c] := by simp [imgC]
                rw [e1]
                exact own5
            case measure => simp [intOf]; omega
        · obtain rfl : k = m := by omega
          obtain ⟨av, cv, rfl⟩ := owns_shape hown
          have hyes : Hid IG := hg3.out.2 HST.out
          have b0V := BOXW.out _ hB1
          have g0 := bG.cell 0
          have g1 := bG.cell 1
          have g2 := bG.cell 2
          have y0 := b0V.cell 0
          have y1 := b0V.cell 1
          have y2 := b0V.cell 2
          have f0 := b0V.frozen 0
          have st0 : Box (wr.setCell ⟨w.heap.size, 0, none⟩ (.int .i64 (E : Int))) w.heap.size #[.int .i64 (E : Int), .int .i64 0, .slice none 0 0] 28 := by have := b0V.store 0 (.int .i64 (E : Int)); simpa using this
          have st1 : Box ((wr.setCell ⟨w.heap.size, 0, none⟩ (.int .i64 (E : Int))).setCell ⟨w.heap.size, 1, none⟩ (.int .i64 (S : Int))) w.heap.size #[.int .i64 (E : Int), .int .i64 (S : Int), .slice none 0 0] 28 := by have := st0.store 1 (.int .i64 (S : Int)); simpa using this
          have st2 : Box (((wr.setCell ⟨w.heap.size, 0, none⟩ (.int .i64 (E : Int))).setCell ⟨w.heap.size, 1, none⟩ (.int .i64 (S : Int))).setCell ⟨w.heap.size, 2, none⟩ (.slice av k cv)) w.heap.size #[.int .i64 (E : Int), .int .i64 (S : Int), .slice av k cv] 28 := by have := st1.store 2 (.slice av k cv); simpa using this
          have fr1 := b0V.frozen 1
          have fr2 := b0V.frozen 2
          have h1 := st0.frozen 1
          have h2 := st1.frozen 2
          have h1c := st0.cell 1
          have h2c := st1.cell 2
          have m0 := st2.cell 0
          have m1 := st2.cell 1
          have m2 := st2.cell 2
          have J3 := ((hJ.store (j := 0) b0V (by decide) (.int .i64 (E : Int))).store (j := 1) st0 (by decide) (.int .i64 (S : Int))).store (j := 2) st1 (by decide) (.slice av k cv)
          have hneO : ∀ g', (Value.slice av k cv).ownBlock = some g' → some w.heap.size ≠ some g' := fun g' eg e => by
            cases e
            obtain ⟨_, cur2, q2⟩ := owns_block hown _ eg
            exact q2.ne b0V (by decide) rfl
          have own3 := owns_grown (owns_grown (owns_grown hown (grown_store wr w.heap.size 0 (.int .i64 (E : Int))) hneO) (grown_store _ w.heap.size 1 (.int .i64 (S : Int))) hneO) (grown_store _ w.heap.size 2 (.slice av k cv)) hneO
          have B9 := ((hB.setCell (p := ⟨w.heap.size, 0, none⟩) (by simp) (.int .i64 (E : Int))).setCell (p := ⟨w.heap.size, 1, none⟩) (by simp) (.int .i64 (S : Int))).setCell (p := ⟨w.heap.size, 2, none⟩) (by simp) (.slice av k cv)
          clear bG bH hown hJ hneO hB1
          go_wp2
          refine bodyPost_ret (v := .tuple #[.agg #[.int .i64 (E : Int), .int .i64 (S : Int), .slice av k cv], .int .i64 0]) (by simp [results, Try.results11, go_sem, m0, m1, m2]) rfl ?_
          exact .inl ⟨hyes.out, av, cv, ps, by rw [← HEE.out, ← HSS.out, ← HES.out, ← HM.out], by rw [← HES.out, ← HM.out]; exact owns_base own3 B1.size, J3, by rw [← HES.out, ← HM.out]; exact HPS.out, B9⟩
    · have hq : ((n : Int) != (m : Int) + 1) = true := by simp; omega
      have hno : Hid (¬ IG) := fun h => hnm (HG2.out.1 h).1
      have y0 := b02.cell 0
      have y1 := b02.cell 1
      have y2 := b02.cell 2
      have f0 := b02.frozen 0
      have f1 := b02.frozen 1
      have f2 := b02.frozen 2
      have zb := zero_box b02
      have m0 := zb.cell 0
      have m1 := zb.cell 1
      have m2 := zb.cell 2
      clear hnm HG2
      go_wp2
      refine bodyPost_ret (v := .tuple #[.agg #[.int .i64 0, .int .i64 0, .slice none 0 0], .int .i64 80]) (by simp [results, Try.results11, go_sem, m0, m1, m2]) rfl ?_
      exact .inr ⟨hno.out, rfl, zero_below B2⟩
  · replace b0 := b0.below hb1
    have B1 := B0.trans (hb1.mono B0.size)
    have hno : Hid (¬ IG) := fun h => hhd (HG.out.1 h).1
    have al := (Below.refl w1.heap.size w1).alloc (Nat.le_refl _) (.cells #[.int .i64 0, .int .i64 0, .slice none 0 0] 57)
    replace b0 := b0.below al
    have B2 := B1.trans (al.mono B1.size)
    clear hhd hb1 cH q1'
    have y0 := b0.cell 0
    have y1 := b0.cell 1
    have y2 := b0.cell 2
    have f0 := b0.frozen 0
    have f1 := b0.frozen 1
    have f2 := b0.frozen 2
    have zb := zero_box b0
    have m0 := zb.cell 0
    have m1 := zb.cell 1
    have m2 := zb.cell 2
    go_wp2
    refine bodyPost_ret (v := .tuple #[.agg #[.int .i64 0, .int .i64 0, .slice none 0 0], .int .i64 80]) (by simp [results, Try.results11, go_sem, m0, m1, m2]) rfl ?_
    exact .inr ⟨hno.out, rfl, zero_below B2⟩
end Go.Proofs.Ytghcmlkgpedkkaa
