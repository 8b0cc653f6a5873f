/-
  SProd, SHands, SInv, RcMade, SImg, SAhead, SGroups, SErr, DkLists, DkLow, DkInts, DkAwake, DkSteps, DkMade: put together.
-/
import Derived.Test.YtkhejjddmbegaaaGreatG7
import Derived.Shelf.Abstract
import Derived.Shelf.RegionOpen
import Derived.WalkKit
import Derived.OwnWalkIn
import Derived.TacticsInMore
import Derived.LoopNIn
import Derived.LoopIn
import Derived.Deep.AppendLies
import Derived.Maps.OwnIn
import Derived.Deep.RegionHeld3
/-
  The groups of a ring, handed on one by one.
-/
namespace Go.Proofs.YtkhejjddmbegaaaGreat.S
open Go.RowKit Go.Shelf
open Go.Proofs.YtkhejjddmbegaaaGreat.Dk (Box)
attribute [local go_sem] Oper.semAt_some

/-- what who ranges writes into: two boxes, and the row that the first one speaks of -/
def Cons (bt bb : Nat) (W : World) (k : Nat) : Prop := k = bt ∨ k = bb ∨ ∃ v, W.cell? ⟨bt, 0, none⟩ = some v ∧ v.ownBlock = some k
/-- a round: all other cells stand -/
structure Kp (bt bb : Nat) (W W' : World) : Prop where
  size : W.heap.size ≤ W'.heap.size
  block : ∀ (k : Nat) (o : Obj), W.heap[k]? = some o → o.isCells = true → ¬ Cons bt bb W k → W'.heap[k]? = some o
  cons : ∀ k, Cons bt bb W' k → Cons bt bb W k ∨ (W.heap.size ≤ k ∧ k < W'.heap.size)
/-- what is written into lies behind n0, and is not the reader -/
def Tl (n0 bt bb Br : Nat) (W : World) : Prop := Br < W.heap.size ∧ ∀ k, Cons bt bb W k → n0 ≤ k ∧ k < W.heap.size ∧ k ≠ Br
theorem Kp.trans {bt bb : Nat} {A B C : World} (h : Kp bt bb A B) (k : Kp bt bb B C) : Kp bt bb A C := by
  refine ⟨Nat.le_trans h.size k.size, fun i o hi ho hc => k.block i o (h.block i o hi ho hc) ho (fun hB => ?_), fun i hi => ?_⟩
  · have hlt := (Array.getElem?_eq_some_iff.1 hi).1
    rcases h.cons i hB with h1 | h1
    · exact hc h1
    · omega
  · have := h.size
    have := k.size
    rcases k.cons i hi with h1 | h1
    · rcases h.cons i h1 with h2 | h2
      · exact .inl h2
      · exact .inr (by omega)
    · exact .inr (by omega)
theorem Tl.kp {n0 bt bb Br : Nat} {A B : World} (h : Tl n0 bt bb Br A) (k : Kp bt bb A B) (hn : n0 ≤ A.heap.size) : Tl n0 bt bb Br B := by
  refine ⟨Nat.lt_of_lt_of_le h.1 k.size, fun i hi => ?_⟩
  have := k.size
  have hB := h.1
  rcases k.cons i hi with h1 | h1
  · obtain ⟨a1, a2, a3⟩ := h.2 i h1
    exact ⟨a1, by omega, a3⟩
  · exact ⟨by omega, h1.2, by omega⟩
theorem Cons.below {bt bb : Nat} {A B : World} (b : Below A.heap.size A B) (hbt : bt < A.heap.size) {k : Nat} (h : Cons bt bb B k) : Cons bt bb A k := by
  rcases h with h | h | ⟨v, h1, h2⟩
  · exact .inl h
  · exact .inr (.inl h)
  · exact .inr (.inr ⟨v, (b.cell (p := ⟨bt, 0, none⟩) hbt).symm.trans h1, h2⟩)
theorem Tl.below {n0 bt bb Br : Nat} {A B : World} (h : Tl n0 bt bb Br A) (b : Below A.heap.size A B) : Tl n0 bt bb Br B := by
  have hz := b.size
  refine ⟨Nat.lt_of_lt_of_le h.1 hz, fun k hk => ?_⟩
  obtain ⟨_, hbt, _⟩ := h.2 bt (.inl rfl)
  obtain ⟨a1, a2, a3⟩ := h.2 k (hk.below b hbt)
  exact ⟨a1, by omega, a3⟩

/-- a group as it is handed on: where it begins, its number, its images -/
structure Gx where
  b : Nat
  s : Nat
  m : Nat
  a : Option Addr
  c : Nat
  ps : List Rc.GG
def encG (E : Nat) (x : Gx) : Array Value := #[.agg #[.int .i64 (E : Int), .int .i64 (x.s : Int), .slice x.a x.m x.c], .int .i64 0]
/-- what lies in memory of it -/
def GA (D : Dk.DS) (t E : Nat) (x : Gx) (W : World) : Prop :=
  GOk D t E x.b x.s ∧ x.m = cntAt D t x.b ∧ W.ownsRow 0 108 2 (.slice x.a x.m x.c) x.m (Rc.imgC x.ps) ∧ Rc.GetJ 0 W x.ps ∧ x.ps.map (fun p => (p.b, p.xs)) = gimgs D t x.b
/-- the groups behind one another, as many as there are -/
def Run (D : Dk.DS) (t E : Nat) : Nat → Nat → List Gx → Prop
  | b, s, [] => ¬ GOk D t E b s
  | b, s, x :: r => (x.b = b ∧ x.s = s ∧ GOk D t E b s ∧ x.m = cntAt D t b) ∧ Run D t E (b + (cntAt D t b + 1)) (s + 1) r
/-- a beginning of them: up to b', s' -/
def Upto (D : Dk.DS) (t E : Nat) : Nat → Nat → List Gx → Nat → Nat → Prop
  | b, s, [], b', s' => b = b' ∧ s = s'
  | b, s, x :: r, b', s' => (x.b = b ∧ x.s = s ∧ GOk D t E b s ∧ x.m = cntAt D t b) ∧ Upto D t E (b + (cntAt D t b + 1)) (s + 1) r b' s'
theorem Upto.snoc {D : Dk.DS} {t E : Nat} : ∀ {xs : List Gx} {b s b' s' : Nat} {x : Gx}, Upto D t E b s xs b' s' → (x.b = b' ∧ x.s = s' ∧ GOk D t E b' s' ∧ x.m = cntAt D t b') → Upto D t E b s (xs ++ [x]) (b' + (cntAt D t b' + 1)) (s' + 1)
  | [], _, _, _, _, _, ⟨rfl, rfl⟩, h => ⟨h, rfl, rfl⟩
  | _ :: _, _, _, _, _, _, ⟨h1, h2⟩, h => ⟨h1, h2.snoc h⟩
theorem Upto.len {D : Dk.DS} {t E : Nat} : ∀ {xs : List Gx} {b s b' s' : Nat}, Upto D t E b s xs b' s' → b + xs.length ≤ b'
  | [], _, _, _, _, ⟨rfl, _⟩ => Nat.le_refl _
  | _ :: _, _, _, _, _, ⟨_, h2⟩ => by
    have := h2.len
    simp only [List.length_cons]
    omega
theorem Upto.done {D : Dk.DS} {t E : Nat} : ∀ {xs : List Gx} {b s b' s' : Nat}, Upto D t E b s xs b' s' → ¬ GOk D t E b' s' → Run D t E b s xs
  | [], _, _, _, _, ⟨rfl, rfl⟩, h => h
  | _ :: _, _, _, _, _, ⟨h1, h2⟩, h => ⟨h1, h2.done h⟩

theorem box_kp {bt bb g : Nat} {A B : World} {cs : Array Value} {ty : TypeId} (h : Box A g cs ty) (k : Kp bt bb A B) (hc : ¬ Cons bt bb A g) : Box B g cs ty := k.block g _ h rfl hc

set_option maxRecDepth 100000 in
set_option maxHeartbeats 4000000 in
theorem prod_in (n : Nat) (hn : 1 ≤ n) (l Br bt bb dg n0 : Nat) (D : Dk.DS) (F : Nat → Prop) (t E S0 : Nat) (Bk : Int) (ht : t < 16) (hnb : D.nb = 64) (hgn : D.gone = false) (hlim : D.uf.length ≤ 1000000) (hS0 : S0 ≤ 549755813888) (J : List Gx → World → Prop) (W : World)
    (hd : Dk.IsDisk W dg D F) (hFc : ∀ k, F k → k < n0 ∧ ∃ o : Obj, W.heap[k]? = some o ∧ o.isCells = true) (hBr : Box W Br (rC dg Bk (E : Int) (S0 : Int) (t : Int)) 65) (hT : Tl n0 bt bb Br W) (hn0 : n0 ≤ W.heap.size)
    (hJ : ∀ pre A B, J pre A → Below A.heap.size A B → J pre B)
    (hY : ∀ pre x W1, J pre W1 → GA D t E x W1 → pre.length < 16 → YieldAt Fence.wide (n - 1) Tryz.prog l (encG E x) W1 fun e W' => e = .returned (.bool true) ∧ J (pre ++ [x]) W' ∧ Kp bt bb W1 W') (h0 : J [] W) :
    CallsIn Fence.wide n Tryz.prog 48 #[.func (.yield l) #[] #[], .pointer (some ⟨Br, 0, none⟩)] W fun e W' => (∃ v, e = .returned v) ∧ ∃ xs, Run D t E 0 S0 xs ∧ J xs W' := by
  have c10 := (r_cells hBr).2.2.2.2.2.2.2.2.2.2.1
  have HD : Hid (∀ A : World, (∀ k, F k → A.heap[k]? = W.heap[k]?) → W.heap.size ≤ A.heap.size → Dk.IsDisk A dg D F) := fun A hA hz => by
    obtain ⟨gd, cd, vu, ps, hl⟩ := hd
    exact ⟨gd, cd, vu, ps, hl.kept hA hz⟩
  have HFc : Hid (∀ k, F k → k < n0 ∧ ∃ o : Obj, W.heap[k]? = some o ∧ o.isCells = true) := hFc
  have HT : Hid (Tl n0 bt bb Br W) := hT
  have HBr : Hid (Box W Br (rC dg Bk (E : Int) (S0 : Int) (t : Int)) 65) := hBr
  have HJ : Hid (∀ pre A B, J pre A → Below A.heap.size A B → J pre B) := hJ
  have HY : Hid (∀ pre x W1, J pre W1 → GA D t E x W1 → pre.length < 16 → YieldAt Fence.wide (n - 1) Tryz.prog l (encG E x) W1 fun e W' => e = .returned (.bool true) ∧ J (pre ++ [x]) W' ∧ Kp bt bb W1 W') := hY
  have H0 : Hid (J [] W) := h0
  clear hd hFc hBr hT hJ hY h0
  refine callsIn_of_wp Tryz.func48 rfl trivial ?_ rfl
  simp only [Tryz.ntmps48, List.size_toArray, List.length_cons, List.length_nil, Nat.reduceAdd, Nat.reduceSub, Array.replicate_succ, Array.replicate_zero, List.push_toArray, List.append_toArray, List.nil_append, List.cons_append]
  gi_wp2
  clear c10
  gi_loopw [3, 4] (fun v3 v4 wr => ∃ (b s : Nat) (xs : List Gx), b ≤ 16 ∧ s ≤ S0 + b ∧ v3 = .int .i64 (b : Int) ∧ v4 = .int .i64 (s : Int) ∧ Upto D t E 0 S0 xs b s ∧ J xs wr ∧ (∀ k, F k → wr.heap[k]? = W.heap[k]?) ∧ Box wr Br (rC dg Bk (E : Int) (S0 : Int) (t : Int)) 65 ∧ Tl n0 bt bb Br wr ∧ W.heap.size ≤ wr.heap.size)
    (fun v3 _ _ => 17 - (intOf v3).toNat)
  case atStart => exact ⟨0, S0, [], by omega, by omega, rfl, rfl, ⟨rfl, rfl⟩, H0.out, fun _ _ => rfl, HBr.out, HT.out, Nat.le_refl _⟩
  case round =>
    obtain ⟨b, s, xs, hb, hs, rfl, rfl, hU, hJs, hFs, hBx, hTs, hz⟩ := hrel
    obtain ⟨y0, y1, y2, y3, y4, y5, y6, y7, y8, y9, y10, y11⟩ := r_cells hBx
    have cG := group_at (HD.out wr hFs hz) hnb hgn hlim Bk (S0 : Int) t E b s ht hb
    have HU : Hid (Upto D t E 0 S0 xs b s) := hU
    have HJs : Hid (J xs wr) := hJs
    have HFs : Hid (∀ k, F k → wr.heap[k]? = W.heap[k]?) := hFs
    have HBx : Hid (Box wr Br (rC dg Bk (E : Int) (S0 : Int) (t : Int)) 65) := hBx
    have HTs : Hid (Tl n0 bt bb Br wr) := hTs
    clear hU hJs hFs hBx hTs
    unfold rC at cG
    gi_wp2_with fail
    refine ⟨trivial, ?_⟩
    refine ((callsIn_wide (n := n - 1)).2 cG).mono ?_
    rintro r u1 (⟨hG, a, c, ps, rfl, ho, hj, hps, bb1⟩ | ⟨hG, rfl, bb1⟩)
    · have hfit := hG.2.1
      have hm1 : 1 ≤ cntAt D t b ∧ cntAt D t b ≤ 32 := by
        have h := hG.1.1.2.1.2.1
        simpa [cntAt] using h
      obtain ⟨m, hm⟩ : ∃ m, m = cntAt D t b := ⟨_, rfl⟩
      have HM : Hid (m = cntAt D t b) := hm
      rw [← hm] at ho hfit hm1 ⊢
      clear hm
      have al := (Below.refl u1.heap.size u1).alloc (Nat.le_refl _) (.cells #[.int .i64 (E : Int), .int .i64 (s : Int), .slice a m c] 40)
      have bz := bb1.trans (al.mono bb1.size)
      have hJz := HJ.out xs wr _ HJs.out bz
      have hTz := HTs.out.below bz
      have hGA : GA D t E ⟨b, s, m, a, c, ps⟩ (u1.alloc (.cells #[.int .i64 (E : Int), .int .i64 (s : Int), .slice a m c] 40)) := by
        refine ⟨hG, HM.out, ?_, ⟨fun p hp => ?_, hj.apart⟩, hps⟩
        · have ho' := Rc.owns_below ho al
          refine ⟨ho'.1, ?_⟩
          rcases ho'.2 with h1 | ⟨g', cap', cur, e, _, rr⟩
          · exact .inl h1
          · exact .inr ⟨g', cap', cur, e, Nat.zero_le _, rr⟩
        · obtain ⟨a1, _, a3⟩ := hj.rows p hp
          exact ⟨a1.same (al.block p.h a1.lt), Nat.zero_le _, a3⟩
      obtain ⟨fn, tmps, assign, body, hy, hR⟩ := HY.out xs ⟨b, s, m, a, c, ps⟩ _ hJz hGA (by have := HU.out.len; omega)
      dsimp only [encG] at hy
      have x5 := Dk.Box.new u1 #[.int .i64 (E : Int), .int .i64 (s : Int), .slice a m c] 40
      have hc5 : ¬ Cons bt bb (u1.alloc (.cells #[.int .i64 (E : Int), .int .i64 (s : Int), .slice a m c] 40)) u1.heap.size := fun h => by
        have hbt := (HTs.out.2 bt (.inl rfl)).2.1
        have h' := h.below bz hbt
        have h2 := (HTs.out.2 _ h').2.1
        have := bb1.size
        omega
      have HG : Hid (GOk D t E b s) := hG
      have HRs : Hid (∀ B : World, Kp bt bb (u1.alloc (.cells #[.int .i64 (E : Int), .int .i64 (s : Int), .slice a m c] 40)) B → (∀ k, F k → B.heap[k]? = W.heap[k]?) ∧ Box B Br (rC dg Bk (E : Int) (S0 : Int) (t : Int)) 65 ∧ Tl n0 bt bb Br B ∧ W.heap.size ≤ B.heap.size ∧ Box B u1.heap.size #[.int .i64 (E : Int), .int .i64 (s : Int), .slice a m c] 40) := fun B hk => by
        refine ⟨fun k hF => ?_, box_kp (HBx.out.below bz) hk (fun h => (hTz.2 _ h).2.2 rfl), hTz.kp hk (by have := bz.size; omega), by have := bz.size; have := hk.size; omega, box_kp x5 hk hc5⟩
        obtain ⟨h1, o, h2, h3⟩ := HFc.out k hF
        have h4 : (u1.alloc (.cells #[.int .i64 (E : Int), .int .i64 (s : Int), .slice a m c] 40)).heap[k]? = some o := (bz.block k (by omega)).trans ((HFs.out k hF).trans h2)
        rw [hk.block k o h4 h3 (fun h => by have := (hTz.2 _ h).1; omega), h2]
      have cB := Rc.blocks_at (m : Int)
      have ebl : Rc.blocksN (m : Int) = ((m + 1 : Nat) : Int) := by
        unfold Rc.blocksN
        rw [if_pos (by omega)]
        omega
      rw [ebl] at cB
      clear ebl cG bb1 bz al hJz hTz hGA ho hj hps hG y0 y1 y2 y3 y4 y5 y6 y7 y8 y9 y10 y11
      have q0 := x5.cell 0
      have q1 := x5.cell 1
      have q2 := x5.cell 2
      simp at q0 q1 q2
      gi_wp2_with fail
      refine hR.mono ?_
      rintro e W3 ⟨rfl, hJ3, hk3⟩
      obtain ⟨f1, f2, f3, f4, f5⟩ := HRs.out W3 hk3
      have e2 := f5.cell 2
      simp at e2
      have HJ3 : Hid (J (xs ++ [⟨b, s, m, a, c, ps⟩]) W3) := hJ3
      have HF1 : Hid (∀ k, F k → W3.heap[k]? = W.heap[k]?) := f1
      have HF2 : Hid (Box W3 Br (rC dg Bk (E : Int) (S0 : Int) (t : Int)) 65) := f2
      have HF3 : Hid (Tl n0 bt bb Br W3) := f3
      clear hJ3 f1 f2 f3 hk3 hR q0 q1 q2 hy HRs
      gi_wp2_with fail
      refine ⟨trivial, ?_⟩
      refine ((callsIn_wide (n := n - 1)).2 (cB W3)).mono ?_
      rintro r W4 ⟨rfl, rfl⟩
      gi_wp2_with fail
      go_roundw
      case rel => exact ⟨b + (m + 1), s + 1, _, hfit, by omega, by push_cast; rfl, by push_cast; rfl, by have h := HU.out.snoc (x := ⟨b, s, m, a, c, ps⟩) ⟨rfl, rfl, HG.out, HM.out⟩; rw [← HM.out] at h; exact h, HJ3.out, HF1.out, HF2.out, HF3.out, f4⟩
      case measure => simp [intOf]; omega
    · have bz := bb1.alloc bb1.size (.cells #[.int .i64 0, .int .i64 0, .slice none 0 0] 40)
      have hJz := HJ.out xs wr _ HJs.out bz
      have hRun := HU.out.done hG
      clear cG bb1 bz y0 y1 y2 y3 y4 y5 y6 y7 y8 y9 y10 y11
      gi_wp2_with fail
      refine bodyPost_ret (results_none rfl _ _ _) rfl ?_
      exact ⟨⟨_, rfl⟩, xs, hRun, hJz⟩
end Go.Proofs.YtkhejjddmbegaaaGreat.S

/-
  The reader's groups as a function that is ranged over.
-/
namespace Go.Proofs.YtkhejjddmbegaaaGreat.S
open Go.RowKit Go.Shelf
open Go.Proofs.YtkhejjddmbegaaaGreat.Dk (Box)

theorem hands9 (n : Nat) (hn : 1 ≤ n) (Br bt bb dg n0 : Nat) (D : Dk.DS) (F : Nat → Prop) (t E S0 : Nat) (Bk : Int) (ht : t < 16) (hnb : D.nb = 64) (hgn : D.gone = false) (hlim : D.uf.length ≤ 1000000) (hS0 : S0 ≤ 549755813888) (w : World)
    (hd : Dk.IsDisk w dg D F) (hFc : ∀ k, F k → k < n0 ∧ ∃ o : Obj, w.heap[k]? = some o ∧ o.isCells = true) (hBr : Box w Br (rC dg Bk (E : Int) (S0 : Int) (t : Int)) 65) (hT : Tl n0 bt bb Br w) (hn0 : n0 ≤ w.heap.size) :
    Hands Fence.wide n Tryz.prog 48 #[.pointer (some ⟨Br, 0, none⟩)] (encG E) (fun pre x W => GA D t E x W ∧ pre.length < 16) (Kp bt bb) (Run D t E 0 S0) w := by
  intro l J W b hA hY h0
  refine prod_in n hn l Br bt bb dg n0 D F t E S0 Bk ht hnb hgn hlim hS0 J W (hd.below b) (fun k hk => ?_) (hBr.below b) (hT.below b) (by have := b.size; omega) (fun pre A B hs hb => ?_) (fun pre x W1 hj hg hp => hY pre x W1 hj ⟨hg, hp⟩) h0
  · obtain ⟨h1, o, h2, h3⟩ := hFc k hk
    exact ⟨h1, o, (b.block k (by omega)).trans h2, h3⟩
  · exact hA pre A B none hs ⟨hb.os, hb.tape, hb.output, hb.size, fun k hk _ => hb.block k hk⟩ (fun r e => by cases e)
theorem reader_at (w : World) (dg : Nat) (Bk E S t : Int) : Calls Tryz.prog 25 #[.agg (rC dg Bk E S t)] w fun r w' => r = .returned (.func (.func 48) #[] #[.pointer (some ⟨w.heap.size, 0, none⟩)]) ∧ Box w' w.heap.size (rC dg Bk E S t) 65 ∧ Below w.heap.size w w' := by
  have b := (Below.refl w.heap.size w).alloc (Nat.le_refl _) (.cells (rC dg Bk E S t) 65)
  have x := Dk.Box.new w (rC dg Bk E S t) 65
  unfold rC at b x ⊢
  go_enter Tryz.func25, Tryz.ntmps25
  go_wp2_with fail
  go_ret
  exact ⟨rfl, x, b⟩
/-- of a disk's own blocks those that hold cells are enough -/
theorem disk_cells {w : World} {g : Nat} {D : Dk.DS} {F : Nat → Prop} (h : Dk.IsDisk w g D F) : Dk.IsDisk w g D (fun k => F k ∧ ∃ o : Obj, w.heap[k]? = some o ∧ o.isCells = true) := by
  obtain ⟨gd, cd, vu, ps, h⟩ := h
  refine ⟨gd, cd, vu, ps, ⟨h.box, h.dur, h.row, h.len, fun k h1 h2 => ?_, ⟨h.fg, _, h.box, rfl⟩, ⟨h.fd, ?_⟩, fun k hk => ⟨h.fu k hk, ?_⟩, fun i hi => h.flt i hi.1, h.ok⟩⟩
  · obtain ⟨a, b, c, d⟩ := h.each k h1 h2
    refine ⟨a, b, c, d, ?_⟩
    obtain ⟨cur, hb, _⟩ := b
    exact ⟨_, hb, rfl⟩
  · obtain ⟨cur, hb, _⟩ := h.dur
    exact ⟨_, hb, rfl⟩
  · obtain ⟨_, cur, hb⟩ := Rc.owns_block h.row k hk
    exact ⟨_, hb, rfl⟩
end Go.Proofs.YtkhejjddmbegaaaGreat.S

/-
  What holds while Groups ranges over its groups.
-/
namespace Go.Proofs.YtkhejjddmbegaaaGreat.S
open Go.RowKit Go.Shelf
open Go.Proofs.YtkhejjddmbegaaaGreat.Dk (Box)

/-- how many places they take -/
def tot (xs : List Gx) : Nat := (xs.map fun x => x.m + 1).sum
/-- groups as cells -/
def gsC (E : Nat) (xs : List Gx) : List Value := xs.flatMap fun x => [.int .i64 (E : Int), .int .i64 (x.s : Int), .slice x.a x.m x.c]
theorem tot_snoc (xs : List Gx) (x : Gx) : tot (xs ++ [x]) = tot xs + (x.m + 1) := by simp [tot]
theorem gsC_snoc (E : Nat) (xs : List Gx) (x : Gx) : gsC E (xs ++ [x]) = gsC E xs ++ [.int .i64 (E : Int), .int .i64 (x.s : Int), .slice x.a x.m x.c] := by simp [gsC]

/-- cells stand but for those of k -/
theorem GA.kept {D : Dk.DS} {t E : Nat} {x : Gx} {W W' : World} (h : GA D t E x W) (hk : ∀ (k : Nat) (cs : Array Value) (ty : TypeId), Box W k cs ty → ty = 108 ∨ ty = 5 → W'.heap[k]? = W.heap[k]?) : GA D t E x W' := by
  obtain ⟨h1, h2, h3, h4, h5⟩ := h
  refine ⟨h1, h2, J.owns_kept h3 (fun k hk' => ?_), ⟨fun p hp => ?_, h4.apart⟩, h5⟩
  · obtain ⟨_, cur, hb⟩ := Rc.owns_block h3 k hk'
    exact hk k _ _ hb (.inl rfl)
  · obtain ⟨a1, a2⟩ := h4.rows p hp
    obtain ⟨cur, hb, rest⟩ := a1
    exact ⟨Rc.RowB.same ⟨cur, hb, rest⟩ (hk p.h _ _ hb (.inr rfl)), a2⟩

structure I9 (w : World) (D : Dk.DS) (t E S0 dg bt bb rd : Nat) (pre : List Gx) (W : World) : Prop where
  row : ∃ v, Box W bt #[v] 26 ∧ W.ownsRow w.heap.size 40 3 v pre.length (gsC E pre)
  sum : Box W bb #[.int .i64 (tot pre : Int)] 3
  all : ∀ x ∈ pre, GA D t E x W
  rdr : Box W rd (rC dg 64 (E : Int) (S0 : Int) (t : Int)) 65
  o2 : Box W (w.heap.size + 2) #[.slice none 0 0] 26
  o3 : Box W (w.heap.size + 3) #[.int .i64 0] 3
  o4 : Box W (w.heap.size + 4) #[.int .i64 0] 23
  bel : Below w.heap.size w W
section
variable {w W W' : World} {D : Dk.DS} {t E S0 dg bt bb rd : Nat} {pre : List Gx}
theorem I9.kept (h : I9 w D t E S0 dg bt bb rd pre W) (hk : ∀ (k : Nat) (cs : Array Value) (ty : TypeId), Box W k cs ty → W'.heap[k]? = W.heap[k]?) (b : Below w.heap.size w W') : I9 w D t E S0 dg bt bb rd pre W' := by
  obtain ⟨⟨v, h1, h2⟩, h3, h4, h5, h6, h7, h8, _⟩ := h
  refine ⟨⟨v, (hk _ _ _ h1).trans h1, J.owns_kept h2 (fun k hk' => ?_)⟩, (hk _ _ _ h3).trans h3, fun x hx => (h4 x hx).kept (fun k cs ty hb _ => hk k cs ty hb), (hk _ _ _ h5).trans h5, (hk _ _ _ h6).trans h6, (hk _ _ _ h7).trans h7, (hk _ _ _ h8).trans h8, b⟩
  obtain ⟨_, cur, hb⟩ := Rc.owns_block h2 k hk'
  exact hk k _ _ hb
theorem I9.own {B : Nat} (hB : w.heap.size ≤ B) : OwnFrom B (fun pre W => I9 w D t E S0 dg bt bb rd pre W) := fun pre A C row hs hg hr =>
  I9.kept hs (fun k cs ty hb => hg.block k hb.lt (fun e => by
    obtain ⟨_, o, ho, hc⟩ := hr k e.symm
    have hb' : A.heap[k]? = some (.cells cs ty) := hb
    rw [hb'] at ho
    cases ho
    cases hc)) (hs.bel.grown hg hs.bel.size (fun k e => Nat.le_trans hB (hr k e).1))
theorem I9.below (h : I9 w D t E S0 dg bt bb rd pre W) (b : Below W.heap.size W W') : I9 w D t E S0 dg bt bb rd pre W' := h.kept (fun k _ _ hb => b.block k hb.lt) (h.bel.trans (b.mono h.bel.size))
/-- one of the range's own objects is turned -/
theorem kp_put {B l : Nat} {o : Obj} (o' : Obj) (hbt : bt < B) (hl : B ≤ l) (ho : W.heap[l]? = some o) (hc : o.isCells = false) : Kp bt bb W (W.putObj l o') := by
  have hlt := (Array.getElem?_eq_some_iff.1 ho).1
  refine ⟨by simp [World.putObj], fun k o2 h2 c2 _ => ?_, fun k hk => .inl ?_⟩
  · by_cases hkl : k = l
    · subst hkl
      rw [ho] at h2
      cases h2
      rw [hc] at c2
      cases c2
    · exact (World.putObj_heap_other hkl).trans h2
  · rcases hk with h | h | ⟨v, h1, h2⟩
    · exact .inl h
    · exact .inr (.inl h)
    · refine .inr (.inr ⟨v, ?_, h2⟩)
      rw [← h1]
      exact (World.cell?_of_block (World.putObj_heap_other (by show bt ≠ l; omega))).symm
end
end Go.Proofs.YtkhejjddmbegaaaGreat.S

/-
  Made: so many bytes, out of a number.
-/
namespace Go.Proofs.YtkhejjddmbegaaaGreat.Rc
open Go.RowKit

def nx (x : Int) : Int := IntKind.u64.wrap (IntKind.u64.wrap (x * 2862933555777941757) + 3037000493)
/-- the number behind k bytes -/
def seedAt (s : Int) : Nat → Int
  | 0 => nx (IntKind.u64.wrap s)
  | k + 1 => if k % 8 = 0 then nx (seedAt s k) else seedAt s k
def byteAt (s : Int) (k : Nat) : UInt8 := UInt8.ofNat (seedAt s (k + 1) / 1099511627776 % 256).toNat
def madeK (s : Int) (n : Nat) : Nat → List UInt8
  | 0 => nought n
  | k + 1 => (madeK s n k).set k (byteAt s k)
def madeL (s : Int) (n : Nat) : List UInt8 := madeK s n n
theorem madeK_length (s : Int) (n : Nat) : ∀ k, (madeK s n k).length = n
  | 0 => nought_length n
  | k + 1 => by rw [madeK, List.length_set, madeK_length s n k]
theorem byteAt_eq (s : Int) (k : Nat) : ((byteAt s k).toNat : Int) = seedAt s (k + 1) / 1099511627776 % 256 := by
  unfold byteAt
  have h1 : 0 ≤ seedAt s (k + 1) / 1099511627776 % 256 := Int.emod_nonneg _ (by decide)
  have h2 : seedAt s (k + 1) / 1099511627776 % 256 < 256 := Int.emod_lt_of_pos _ (by decide)
  rw [UInt8.toNat_ofNat']
  omega
theorem seedAt_step (s : Int) (k : Nat) (h : k % 8 = 0) : seedAt s (k + 1) = nx (seedAt s k) := by rw [seedAt, if_pos h]
theorem seedAt_same (s : Int) (k : Nat) (h : ¬ k % 8 = 0) : seedAt s (k + 1) = seedAt s k := by rw [seedAt, if_neg h]
theorem nx_range (x : Int) : 0 ≤ nx x ∧ nx x ≤ 18446744073709551615 := by unfold nx; rw [IntKind.wrap_u64]; omega
theorem seedAt_range (s : Int) : ∀ k, 0 ≤ seedAt s k ∧ seedAt s k ≤ 18446744073709551615
  | 0 => nx_range _
  | k + 1 => by rw [seedAt]; split; exact nx_range _; exact seedAt_range s k

set_option maxRecDepth 100000 in
set_option maxHeartbeats 2000000 in
theorem made_at (s : Int) (n : Nat) (w : World) (hn : n ≤ 1000000) :
    Calls Tryz.prog 52 #[.int .i64 s, .int .i64 (n : Int)] w fun e w' => e = .returned (.slice (some ⟨w.heap.size, 0, none⟩) n n) ∧ Own w' w.heap.size (madeL s n) ∧ Below w.heap.size w w' := by
  have hm : ∀ u : World, (Instr.makeSlice 41 (.int .i64 (n : Int)) (.int .i64 (n : Int))).run Tryz.prog u = .ok (.slice (some ⟨u.heap.size, 0, none⟩) n n) (u.alloc (.cells (bcs (madeK s n 0)).toArray 5)) := make_run n (by omega)
  have o0 := own_lit w (madeK s n 0)
  have B0 := (Below.refl w.heap.size w).alloc (Nat.le_refl _) (.cells (bcs (madeK s n 0)).toArray 5)
  obtain ⟨U, hU⟩ : ∃ U, U = w.alloc (.cells (bcs (madeK s n 0)).toArray 5) := ⟨_, rfl⟩
  rw [← hU] at o0 B0
  have HU : Hid _ := hU
  clear hU
  go_enter Tryz.func52, Tryz.ntmps52
  go_wp2_with fail
  rw [← HU.out]
  go_loopw [6, 7] (fun x i wr => ∃ k : Nat, k ≤ n ∧ x = .int .u64 (seedAt s k) ∧ i = .int .i64 k ∧ Own wr w.heap.size (madeK s n k) ∧ Below w.heap.size w wr) (fun _ i _ => n - (intOf i).toNat)
  case atStart => exact ⟨0, Nat.zero_le _, rfl, rfl, o0, B0⟩
  case round =>
    obtain ⟨k, hk, rfl, rfl, o, B⟩ := hrel
    clear o0 B0 hm HU
    by_cases hlt : k < n
    · have hlt2 : (k : Int) < (n : Int) := by omega
      have c0 := o.cell k (by rw [madeK_length]; exact hlt)
      have f0 := o.frozen k
      have o1 := o.store k (byteAt s k)
      have B1 := B.setCell (p := ⟨w.heap.size, k, none⟩) (Nat.le_refl _) (.int .u8 ((byteAt s k).toNat : Int))
      generalize ((madeK s n k)[k]'(by rw [madeK_length]; exact hlt)) = q at c0
      have o1' : Own _ w.heap.size (madeK s n (k + 1)) := o1
      clear o1
      rw [byteAt_eq] at o1' B1
      have r0 := seedAt_range s k
      by_cases h8 : k % 8 = 0
      · have e8 : ((k : Int) % 8 == 0) = true := by simp; omega
        rw [seedAt_step s k h8] at o1' B1
        unfold nx at o1' B1
        have Hs : Hid _ := seedAt_step s k h8
        clear h8
        go_wp2
        go_roundw
        case rel => exact ⟨k + 1, by omega, by rw [Hs.out]; rfl, by go_num, o1', B1⟩
        case measure => simp [intOf]; omega
      · have e8 : ((k : Int) % 8 == 0) = false := by simp; omega
        rw [seedAt_same s k h8] at o1' B1
        have Hs : Hid _ := seedAt_same s k h8
        clear h8
        go_wp2
        go_roundw
        case rel => exact ⟨k + 1, by omega, by rw [Hs.out], by go_num, o1', B1⟩
        case measure => simp [intOf]; omega
    · have hkn : k = n := by omega
      subst k
      go_wp2
      go_ret
      exact ⟨rfl, o, B⟩
end Go.Proofs.YtkhejjddmbegaaaGreat.Rc

/-
  The law's images, made of a number; the layout of its disk.
-/
namespace Go.Proofs.YtkhejjddmbegaaaGreat.S
open Go.RowKit
open Go.Proofs.YtkhejjddmbegaaaGreat.Rc (GG GetJ imgC madeL RowB owns_below owns_shape owns_block)

/-- k images, made of z -/
def im9 (z : Int) (k : Nat) : List (Int × List UInt8) := (List.range k).map fun (i : Nat) => (30 + (i : Int), madeL (IntKind.i64.wrap (z + (i : Int))) 4096)
theorem im9_succ (z : Int) (k : Nat) : im9 z (k + 1) = im9 z k ++ [(30 + (k : Int), madeL (IntKind.i64.wrap (z + (k : Int))) 4096)] := by simp [im9, List.range_succ]
theorem im9_length (z : Int) (k : Nat) : (im9 z k).length = k := by simp [im9]

set_option maxRecDepth 100000 in
set_option maxHeartbeats 4000000 in
theorem images9_at (w : World) (n : Nat) (z : Int) (hn : n ≤ 40) :
    Calls Tryz.prog 30 #[.int .i64 (n : Int), .int .i64 z] w fun r w' => ∃ a' c' qs, r = .returned (.slice a' n c') ∧ w'.ownsRow w.heap.size 108 2 (.slice a' n c') n (imgC qs) ∧ GetJ w.heap.size w' qs ∧ qs.map (fun p => (p.b, p.xs)) = im9 z n ∧ Below w.heap.size w w' := by
  obtain ⟨i0, hi, hz0, hz1, hz2⟩ := info_parts Rc.info38
  go_enter Tryz.func30, Tryz.ntmps30
  go_wp2_with fail
  go_loopw [5, 6] (fun v i u => ∃ (k : Nat) (qs : List GG), k ≤ n ∧ i = .int .i64 (k : Int) ∧ u.ownsRow w.heap.size 108 2 v k (imgC qs) ∧ GetJ w.heap.size u qs ∧ qs.map (fun p => (p.b, p.xs)) = im9 z k ∧ Below w.heap.size w u) (fun _ i _ => n - (intOf i).toNat)
  case atStart => exact ⟨0, [], Nat.zero_le _, rfl, World.ownsRow_nil _ _ _ _, ⟨fun p hp => (by cases hp), List.nodup_nil⟩, rfl, Below.refl _ _⟩
  case round =>
    obtain ⟨k, qs, hk, rfl, hown, hJ, hps, B⟩ := hrel
    have HPS : Hid (qs.map (fun p => (p.b, p.xs)) = im9 z k) := hps
    have HJ : Hid (GetJ w.heap.size wr qs) := hJ
    have HOWN : Hid (wr.ownsRow w.heap.size 108 2 u5 k (imgC qs)) := hown
    clear hps hJ
    obtain ⟨av, cv, rfl⟩ := owns_shape hown
    by_cases hlt : k < n
    · have hki : (k : Int) < (n : Int) := by omega
      have hstep : Hid (im9 z (k + 1) = im9 z k ++ [(30 + (k : Int), madeL (IntKind.i64.wrap (z + (k : Int))) 4096)]) := im9_succ z k
      have hml : Hid ((madeL (IntKind.i64.wrap (z + (k : Int))) 4096).length = 4096) := Rc.madeK_length _ _ _
      have cM := Rc.made_at (IntKind.i64.wrap (z + (k : Int))) 4096 wr (by omega)
      obtain ⟨zz, hzz⟩ : ∃ zz, IntKind.i64.wrap (z + (k : Int)) = zz := ⟨_, rfl⟩
      rw [hzz] at cM hstep hml
      obtain ⟨ml, hmd⟩ : ∃ l, l = madeL zz 4096 := ⟨_, rfl⟩
      rw [← hmd] at cM hstep hml
      clear hmd hown
      go_wp2_with fail
      refine Calls.mono cM ?_
      rintro r W ⟨rfl, om, bW⟩
      have rowM : Hid (RowB W wr.heap.size 4096 ml) := by
        have := Rc.RowB.own om (by rw [hml.out]; decide)
        rwa [hml.out] at this
      have J2 : Hid (GetJ w.heap.size W (qs ++ [⟨30 + (k : Int), ml, wr.heap.size, 4096⟩])) := HJ.out.snoc bW ⟨30 + (k : Int), ml, wr.heap.size, 4096⟩ rowM.out (Nat.le_refl _) hml.out B.size
      have O2 : Hid (W.ownsRow w.heap.size 108 2 (.slice av k cv) k (imgC qs)) := owns_below HOWN.out bW
      have B1 := B.trans (bW.mono B.size)
      have own1 := (O2.out).alloc (.cells #[.int .i64 (30 + (k : Int)), .slice (some ⟨wr.heap.size, 0, none⟩) 4096 4096] 108)
      have z1 := B1.size
      clear om bW cM B
      go_wp2_with (at_builtin; refine wpList_append_own _ rfl _ _ 38 rfl w.heap.size 108 i0 _ 2 32 Tryz.underlying38 hi hz0 hz1 hz2 rfl (by decide) _ k _ rfl own1 ⟨W.heap.size, 0, none⟩ 1 1 [.int .i64 (30 + (k : Int)), .slice (some ⟨wr.heap.size, 0, none⟩) 4096 4096] rfl rfl ?c1 ?c2 ?c3 ?c4 ?c5 ?_)
      case c1 => exact World.news_of_block (cs := #[.int .i64 (30 + (k : Int)), .slice (some ⟨wr.heap.size, 0, none⟩) 4096 4096]) (t := 108) (fr := (0, 0)) (heap_alloc_new W _)
      case c2 => intro u hu; simp at hu; rcases hu with rfl | rfl <;> rfl
      case c3 => unfold maxLen; omega
      case c4 => omega
      case c5 => simp; omega
      · intro v' w1 hown1 hgrow _
        have al := (Below.refl _ W).alloc (Nat.le_refl _) (.cells #[.int .i64 (30 + (k : Int)), .slice (some ⟨wr.heap.size, 0, none⟩) 4096 4096] 108)
        have B2 : Below w.heap.size w w1 := (B1.alloc z1 _).grown hgrow (by simp; omega) (fun j e => (owns_block O2.out j e).1)
        have J3 : GetJ w.heap.size w1 (qs ++ [⟨30 + (k : Int), ml, wr.heap.size, 4096⟩]) := (J2.out.below al).grown own1 (by decide) hgrow
        clear hgrow own1 al
        go_wp2_with fail
        go_roundw
        case rel => exact ⟨k + 1, _, by omega, by push_cast; rfl, by simpa [imgC] using hown1, J3, by rw [List.map_append, HPS.out, hstep.out]; rfl, B2⟩
        case measure => simp [intOf]; omega
    · have hke : k = n := by omega
      rw [hke] at HOWN HPS ⊢
      clear hke hlt hk hown
      go_wp2_with fail
      go_ret
      exact ⟨_, _, qs, rfl, HOWN.out, HJ.out, HPS.out, B⟩

def lay : Array Value := #[.int .i64 64, .int .i64 2, .int .i64 16, .int .i64 18, .int .i64 19, .int .i64 4, .int .i64 23]
theorem lay64 : La.layA 64 = lay := by
  have hL : La.lgs 64 = 16 := by decide
  simp [La.layA, hL, lay]
theorem ref64 (w : World) : Calls Tryz.prog 28 #[.int .i64 64] w fun r w' => r = .returned (.tuple #[.agg lay, .int .i64 0]) ∧ Below w.heap.size w w' := by
  have c := La.ref_good 64 w (by decide) (by decide)
  rw [lay64] at c
  exact c
theorem layout64_at (w : World) : Calls Tryz.prog 7 #[] w fun r w' => r = .returned (.agg lay) ∧ Below w.heap.size w w' := by
  have al := (Below.refl w.heap.size w).alloc (Nat.le_refl _) (.cells #[.int .i64 0, .int .i64 0, .int .i64 0, .int .i64 0, .int .i64 0, .int .i64 0, .int .i64 0] 30)
  have x0 := Dk.Box.new w #[.int .i64 0, .int .i64 0, .int .i64 0, .int .i64 0, .int .i64 0, .int .i64 0, .int .i64 0] 30
  have cO := ref64 (w.alloc (.cells #[.int .i64 0, .int .i64 0, .int .i64 0, .int .i64 0, .int .i64 0, .int .i64 0, .int .i64 0] 30))
  unfold lay at cO ⊢
  go_enter Tryz.func7, Tryz.ntmps7
  go_wp2_with fail
  refine Calls.mono cO ?_
  rintro r u1 ⟨rfl, b1⟩
  have B1 := al.trans (b1.mono al.size)
  have x1 := (x0.below b1).alloc (.cells #[.int .i64 64, .int .i64 2, .int .i64 16, .int .i64 18, .int .i64 19, .int .i64 4, .int .i64 23] 30)
  have B2 := B1.alloc B1.size (.cells #[.int .i64 64, .int .i64 2, .int .i64 16, .int .i64 18, .int .i64 19, .int .i64 4, .int .i64 23] 30)
  clear b1 cO al x0
  have f0 := x1.frozen 0
  have f1 := x1.frozen 1
  have f2 := x1.frozen 2
  have f3 := x1.frozen 3
  have f4 := x1.frozen 4
  have f5 := x1.frozen 5
  have f6 := x1.frozen 6
  have c0 := x1.cell 0
  have c1 := x1.cell 1
  have c2 := x1.cell 2
  have c3 := x1.cell 3
  have c4 := x1.cell 4
  have c5 := x1.cell 5
  have c6 := x1.cell 6
  simp at c0 c1 c2 c3 c4 c5 c6
  have x2 := ((((((x1.store 0 (.int .i64 64)).store 1 (.int .i64 2)).store 2 (.int .i64 16)).store 3 (.int .i64 18)).store 4 (.int .i64 19)).store 5 (.int .i64 4)).store 6 (.int .i64 23)
  have B3 := ((((((B2.setCell (p := ⟨w.heap.size, 0, none⟩) (Nat.le_refl _) (.int .i64 64)).setCell (p := ⟨w.heap.size, 1, none⟩) (Nat.le_refl _) (.int .i64 2)).setCell (p := ⟨w.heap.size, 2, none⟩) (Nat.le_refl _) (.int .i64 16)).setCell (p := ⟨w.heap.size, 3, none⟩) (Nat.le_refl _) (.int .i64 18)).setCell (p := ⟨w.heap.size, 4, none⟩) (Nat.le_refl _) (.int .i64 19)).setCell (p := ⟨w.heap.size, 5, none⟩) (Nat.le_refl _) (.int .i64 4)).setCell (p := ⟨w.heap.size, 6, none⟩) (Nat.le_refl _) (.int .i64 23)
  go_wp2_with fail
  have d0 := x2.cell 0
  have d1 := x2.cell 1
  have d2 := x2.cell 2
  have d3 := x2.cell 3
  have d4 := x2.cell 4
  have d5 := x2.cell 5
  have d6 := x2.cell 6
  simp at d0 d1 d2 d3 d4 d5 d6
  exact bodyPost_ret (v := .agg #[.int .i64 64, .int .i64 2, .int .i64 16, .int .i64 18, .int .i64 19, .int .i64 4, .int .i64 23]) (by simp [results, Tryz.results7, go_sem, d0, d1, d2, d3, d4, d5, d6]) rfl ⟨rfl, B3⟩
end Go.Proofs.YtkhejjddmbegaaaGreat.S

/-
  What goes wrong ahead of all reading: nothing, of a right disk, layout and start.
-/
namespace Go.Proofs.YtkhejjddmbegaaaGreat.S
open Go.RowKit
open Go.Proofs.YtkhejjddmbegaaaGreat.Dk (Box)

theorem neq41 (u : World) : (binOp .neq 30 (.agg lay) (.agg lay)).run Tryz.prog u = .ok (.bool false) u := by
  have h := J.neq40 u 64
  rw [lay64] at h
  exact h
theorem right_at (B E S t : Int) (w : World) (ht : 0 ≤ t ∧ t ≤ 15) (hE : 1 ≤ E ∧ E ≤ 8388608) (hS : 1 ≤ S ∧ S ≤ 549755813888) :
    Calls Tryz.prog 47 #[.agg lay, .agg #[.int .i64 B, .int .i64 E, .int .i64 S, .int .i64 t]] w fun r w' => r = .returned (.bool true) ∧ Below w.heap.size w w' := by
  have B0 := ((Below.refl w.heap.size w).alloc (Nat.le_refl _) (.cells lay 30)).alloc (by simp) (.cells #[.int .i64 B, .int .i64 E, .int .i64 S, .int .i64 t] 33)
  unfold lay at B0 ⊢
  go_enter Tryz.func47, Tryz.ntmps47
  go_wp2_with fail
  refine (within_at _ _ _ _).mono ?_
  rintro r u1 ⟨rfl, rfl⟩
  rw [decide_eq_true (by omega)]
  go_wp2_with fail
  refine (within_at _ _ _ _).mono ?_
  rintro r u1 ⟨rfl, rfl⟩
  rw [decide_eq_true hE]
  go_wp2_with fail
  refine (within_at _ _ _ _).mono ?_
  rintro r u1 ⟨rfl, rfl⟩
  rw [decide_eq_true hS]
  go_wp2_with fail
  go_ret
  exact ⟨rfl, B0⟩
theorem ahead_ok {w : World} {dg : Nat} {D : Dk.DS} {F : Nat → Prop} (hd : Dk.IsDisk w dg D F) (hnb : D.nb = 64) (E S t : Int) (ht : 0 ≤ t ∧ t ≤ 15) (hE : 1 ≤ E ∧ E ≤ 8388608) (hS : 1 ≤ S ∧ S ≤ 549755813888) :
    Calls Tryz.prog 24 #[.pointer (some ⟨dg, 0, none⟩), .agg lay, .agg #[.int .i64 64, .int .i64 E, .int .i64 S, .int .i64 t]] w fun r w' => r = .returned (.int .i64 0) ∧ Below w.heap.size w w' := by
  have hq := neq41
  have B0 := ((Below.refl w.heap.size w).alloc (Nat.le_refl _) (.cells lay 30)).alloc (by simp) (.cells #[.int .i64 64, .int .i64 E, .int .i64 S, .int .i64 t] 33)
  have l0 := (Dk.Box.new w lay 30).alloc (.cells #[.int .i64 64, .int .i64 E, .int .i64 S, .int .i64 t] 33)
  have l1 : Box ((w.alloc (.cells lay 30)).alloc (.cells #[.int .i64 64, .int .i64 E, .int .i64 S, .int .i64 t] 33)) (w.heap.size + 1) #[.int .i64 64, .int .i64 E, .int .i64 S, .int .i64 t] 33 := Rg.Box.next w _ _ 33
  have c1 : Calls Tryz.prog 45 #[.pointer (some ⟨dg, 0, none⟩)] ((w.alloc (.cells lay 30)).alloc (.cells #[.int .i64 64, .int .i64 E, .int .i64 S, .int .i64 t] 33)) fun e w' => e = .returned (.int .i64 (D.nb : Int)) ∧ ((w.alloc (.cells lay 30)).alloc (.cells #[.int .i64 64, .int .i64 E, .int .i64 S, .int .i64 t] 33)) = w' := by
    obtain ⟨gd, cd, vu, ps, h⟩ := hd
    exact Dk.size_at (h.kept (fun i hi => B0.block i (h.flt i hi)) B0.size)
  rw [hnb] at c1
  have c2 := fun u => La.of_good 64 u (by decide) (by decide)
  rw [lay64] at c2
  have c3 := fun u => right_at 64 E S t u ht hE hS
  clear hd
  unfold lay at *
  go_enter Tryz.func24, Tryz.ntmps24
  go_wp2_with fail
  refine Calls.mono c1 ?_
  rintro r u1 ⟨rfl, rfl⟩
  go_wp2_with fail
  refine Calls.mono (c2 _) ?_
  rintro r u1 ⟨rfl, b1⟩
  have B1 := B0.trans (b1.mono B0.size)
  have l2 := (l0.below b1).alloc (.cells #[.int .i64 64, .int .i64 2, .int .i64 16, .int .i64 18, .int .i64 19, .int .i64 4, .int .i64 23] 30)
  have l3 := (l1.below b1).alloc (.cells #[.int .i64 64, .int .i64 2, .int .i64 16, .int .i64 18, .int .i64 19, .int .i64 4, .int .i64 23] 30)
  have B2 := B1.alloc B1.size (.cells #[.int .i64 64, .int .i64 2, .int .i64 16, .int .i64 18, .int .i64 19, .int .i64 4, .int .i64 23] 30)
  clear b1 c1 c2 l0 l1
  have y0 := l2.cell 0
  have y1 := l2.cell 1
  have y2 := l2.cell 2
  have y3 := l2.cell 3
  have y4 := l2.cell 4
  have y5 := l2.cell 5
  have y6 := l2.cell 6
  have x0 := l3.cell 0
  have x1 := l3.cell 1
  have x2 := l3.cell 2
  have x3 := l3.cell 3
  simp at y0 y1 y2 y3 y4 y5 y6 x0 x1 x2 x3
  go_wp2_with fail
  refine Calls.mono (c3 _) ?_
  rintro r u2 ⟨rfl, b2⟩
  have B3 := B2.trans (b2.mono B2.size)
  go_wp2_with fail
  go_ret
  exact ⟨rfl, B3⟩
end Go.Proofs.YtkhejjddmbegaaaGreat.S

/-
  All groups of a disk.
-/
namespace Go.Proofs.YtkhejjddmbegaaaGreat.S
open Go.RowKit Go.Shelf
open Go.Proofs.YtkhejjddmbegaaaGreat.Dk (Box)
attribute [local go_sem] Oper.semAt_some

theorem info52 : (Tryz.prog.info? 40).map (fun i => (i.zero, i.size, i.bytes)) = some (some (.agg #[.int .i64 0, .int .i64 0, .slice none 0 0]), 3, 40) := by kernel_rfl
theorem tot_le : ∀ (xs : List Gx), (∀ y ∈ xs, y.m + 1 ≤ 16) → tot xs ≤ 16 * xs.length
  | [], _ => by simp [tot]
  | x :: r, h => by
    have h1 := tot_le r (fun y hy => h y (List.mem_cons_of_mem _ hy))
    have h2 := h x List.mem_cons_self
    have e : tot (x :: r) = (x.m + 1) + tot r := by simp [tot]
    rw [e, List.length_cons]
    omega
theorem Run.fits {D : Dk.DS} {t E : Nat} : ∀ {xs : List Gx} {b s : Nat}, Run D t E b s xs → b ≤ 16 → b + tot xs ≤ 16
  | [], _, _, _, hb => by simpa [tot] using hb
  | x :: r, b, s, ⟨⟨_, _, hG, hm⟩, h2⟩, _ => by
    have h1 := hG.2.1
    have h3 := Run.fits h2 (by omega)
    have e : tot (x :: r) = (x.m + 1) + tot r := by simp [tot]
    rw [e, hm]
    omega
theorem kp_below {bt bb : Nat} {A B : World} (b : Below A.heap.size A B) (hbt : bt < A.heap.size) : Kp bt bb A B :=
  ⟨b.size, fun k _ h _ _ => (b.block k (Array.getElem?_eq_some_iff.1 h).1).trans h, fun _ hk => .inl (hk.below b hbt)⟩

set_option maxRecDepth 100000 in
set_option maxHeartbeats 2000000 in
theorem groups_at {w : World} {dg : Nat} {D : Dk.DS} {F : Nat → Prop} (hd : Dk.IsDisk w dg D F) (hnb : D.nb = 64) (hgn : D.gone = false) (hlim : D.uf.length ≤ 1000000) (t E S0 : Nat) (ht : t < 16) (hE : 1 ≤ E ∧ E ≤ 8388608) (hS : 1 ≤ S0 ∧ S0 ≤ 549755813888) :
    Calls Tryz.prog 6 #[.pointer (some ⟨dg, 0, none⟩), .agg lay, .agg #[.int .i64 64, .int .i64 (E : Int), .int .i64 (S0 : Int), .int .i64 (t : Int)]] w fun r w' => ∃ xs a c, r = .returned (.tuple #[.slice a xs.length c, .int .i64 (((t + tot xs) % 16 : Nat) : Int), .int .i64 0]) ∧ Run D t E 0 S0 xs ∧ w'.ownsRow w.heap.size 40 3 (.slice a xs.length c) xs.length (gsC E xs) ∧ (∀ x ∈ xs, GA D t E x w') ∧ Below w.heap.size w w' := by
  obtain ⟨i0, hi0, hz0, hz1, hz2⟩ := info_parts info52
  refine (callsIn_wide (n := 4)).1 ?_
  have e0 : ∃ W5, W5 = (((((w.alloc (.cells #[.int .i64 64, .int .i64 2, .int .i64 16, .int .i64 18, .int .i64 19, .int .i64 4, .int .i64 23] 30)).alloc (.cells #[.int .i64 64, .int .i64 (E : Int), .int .i64 (S0 : Int), .int .i64 (t : Int)] 33)).alloc (.cells #[.slice none 0 0] 26)).alloc (.cells #[.int .i64 0] 3)).alloc (.cells #[.int .i64 0] 23)) := ⟨_, rfl⟩
  obtain ⟨W5, hW5⟩ := e0
  have z1 : (w.alloc (.cells #[.int .i64 64, .int .i64 2, .int .i64 16, .int .i64 18, .int .i64 19, .int .i64 4, .int .i64 23] 30)).heap.size = w.heap.size + 1 := by simp
  have z2 : ((w.alloc (.cells #[.int .i64 64, .int .i64 2, .int .i64 16, .int .i64 18, .int .i64 19, .int .i64 4, .int .i64 23] 30)).alloc (.cells #[.int .i64 64, .int .i64 (E : Int), .int .i64 (S0 : Int), .int .i64 (t : Int)] 33)).heap.size = w.heap.size + 2 := by simp
  have z3 : (((w.alloc (.cells #[.int .i64 64, .int .i64 2, .int .i64 16, .int .i64 18, .int .i64 19, .int .i64 4, .int .i64 23] 30)).alloc (.cells #[.int .i64 64, .int .i64 (E : Int), .int .i64 (S0 : Int), .int .i64 (t : Int)] 33)).alloc (.cells #[.slice none 0 0] 26)).heap.size = w.heap.size + 3 := by simp
  have z4 : ((((w.alloc (.cells #[.int .i64 64, .int .i64 2, .int .i64 16, .int .i64 18, .int .i64 19, .int .i64 4, .int .i64 23] 30)).alloc (.cells #[.int .i64 64, .int .i64 (E : Int), .int .i64 (S0 : Int), .int .i64 (t : Int)] 33)).alloc (.cells #[.slice none 0 0] 26)).alloc (.cells #[.int .i64 0] 3)).heap.size = w.heap.size + 4 := by simp
  have z5 : W5.heap.size = w.heap.size + 5 := by rw [hW5]; simp
  have bx0 : Box W5 w.heap.size #[.int .i64 64, .int .i64 2, .int .i64 16, .int .i64 18, .int .i64 19, .int .i64 4, .int .i64 23] 30 := by rw [hW5]; exact ((((Dk.Box.new w #[.int .i64 64, .int .i64 2, .int .i64 16, .int .i64 18, .int .i64 19, .int .i64 4, .int .i64 23] 30).alloc _).alloc _).alloc _).alloc _
  have bx1 : Box W5 (w.heap.size + 1) #[.int .i64 64, .int .i64 (E : Int), .int .i64 (S0 : Int), .int .i64 (t : Int)] 33 := by rw [hW5, ← z1]; exact (((Dk.Box.new (w.alloc (.cells #[.int .i64 64, .int .i64 2, .int .i64 16, .int .i64 18, .int .i64 19, .int .i64 4, .int .i64 23] 30)) #[.int .i64 64, .int .i64 (E : Int), .int .i64 (S0 : Int), .int .i64 (t : Int)] 33).alloc _).alloc _).alloc _
  have bx2 : Box W5 (w.heap.size + 2) #[.slice none 0 0] 26 := by rw [hW5, ← z2]; exact ((Dk.Box.new ((w.alloc (.cells #[.int .i64 64, .int .i64 2, .int .i64 16, .int .i64 18, .int .i64 19, .int .i64 4, .int .i64 23] 30)).alloc (.cells #[.int .i64 64, .int .i64 (E : Int), .int .i64 (S0 : Int), .int .i64 (t : Int)] 33)) #[.slice none 0 0] 26).alloc _).alloc _
  have bx3 : Box W5 (w.heap.size + 3) #[.int .i64 0] 3 := by rw [hW5, ← z3]; exact (Dk.Box.new (((w.alloc (.cells #[.int .i64 64, .int .i64 2, .int .i64 16, .int .i64 18, .int .i64 19, .int .i64 4, .int .i64 23] 30)).alloc (.cells #[.int .i64 64, .int .i64 (E : Int), .int .i64 (S0 : Int), .int .i64 (t : Int)] 33)).alloc (.cells #[.slice none 0 0] 26)) #[.int .i64 0] 3).alloc _
  have bx4 : Box W5 (w.heap.size + 4) #[.int .i64 0] 23 := by rw [hW5, ← z4]; exact Dk.Box.new ((((w.alloc (.cells #[.int .i64 64, .int .i64 2, .int .i64 16, .int .i64 18, .int .i64 19, .int .i64 4, .int .i64 23] 30)).alloc (.cells #[.int .i64 64, .int .i64 (E : Int), .int .i64 (S0 : Int), .int .i64 (t : Int)] 33)).alloc (.cells #[.slice none 0 0] 26)).alloc (.cells #[.int .i64 0] 3)) #[.int .i64 0] 23
  have B5 : Below w.heap.size w W5 := by rw [hW5]; exact (((((Below.refl w.heap.size w).alloc (Nat.le_refl _) _).alloc (by simp) _).alloc (by simp; omega) _).alloc (by simp; omega) _).alloc (by simp; omega) _
  have hA := ahead_ok (hd.below B5) hnb (E : Int) (S0 : Int) (t : Int) (by omega) (by omega) (by omega)
  unfold lay at hA ⊢
  refine callsIn_of_wp_marks Tryz.func6 rfl trivial ?_ rfl
  simp only [Tryz.ntmps6, List.size_toArray, List.length_cons, List.length_nil, Nat.reduceAdd, Nat.reduceSub, Array.replicate_succ, Array.replicate_zero, List.push_toArray, List.append_toArray, List.nil_append, List.cons_append]
  have HZ : Hid (W5.heap.size = w.heap.size + 5) := z5
  clear z1 z2 z3 z4 z5
  have HB5 : Hid (Below w.heap.size w W5 ∧ Box W5 (w.heap.size + 2) #[.slice none 0 0] 26 ∧ Box W5 (w.heap.size + 3) #[.int .i64 0] 3 ∧ Box W5 (w.heap.size + 4) #[.int .i64 0] 23) := ⟨B5, bx2, bx3, bx4⟩
  have HD : Hid (∀ u, Below W5.heap.size W5 u → Box u w.heap.size #[.int .i64 64, .int .i64 2, .int .i64 16, .int .i64 18, .int .i64 19, .int .i64 4, .int .i64 23] 30 ∧ Box u (w.heap.size + 1) #[.int .i64 64, .int .i64 (E : Int), .int .i64 (S0 : Int), .int .i64 (t : Int)] 33) := fun u bu => ⟨bx0.below bu, bx1.below bu⟩
  have f0 := bx0.cell 0
  have f1 := bx0.cell 1
  have f2 := bx0.cell 2
  have f3 := bx0.cell 3
  have f4 := bx0.cell 4
  have f5 := bx0.cell 5
  have f6 := bx0.cell 6
  have h0 := bx1.cell 0
  have h1 := bx1.cell 1
  have h2 := bx1.cell 2
  have h3 := bx1.cell 3
  simp only [List.getElem?_toArray, List.getElem?_cons_zero, List.getElem?_cons_succ] at f0 f1 f2 f3 f4 f5 f6 h0 h1 h2 h3
  clear B5 bx0 bx1 bx2 bx3 bx4
  have HW : Hid (∃ W, W = W5) := ⟨_, rfl⟩
  rw [hW5] at hA f0 f1 f2 f3 f4 f5 f6 h0 h1 h2 h3
  gi_wp2_with fail
  refine ⟨trivial, ?_⟩
  refine ((callsIn_wide (n := 3)).2 hA).mono ?_
  rintro r u1 ⟨rfl, b1⟩
  rw [← hW5] at b1
  clear hA f0 f1 f2 f3 f4 f5 f6 h0 h1 h2 h3
  obtain ⟨y0, y1⟩ := HD.out u1 b1
  have f0 := y0.cell 0
  have f1 := y0.cell 1
  have f2 := y0.cell 2
  have f3 := y0.cell 3
  have f4 := y0.cell 4
  have f5 := y0.cell 5
  have f6 := y0.cell 6
  have h0 := y1.cell 0
  have h1 := y1.cell 1
  have h2 := y1.cell 2
  have h3 := y1.cell 3
  simp only [List.getElem?_toArray, List.getElem?_cons_zero, List.getElem?_cons_succ] at f0 f1 f2 f3 f4 f5 f6 h0 h1 h2 h3
  obtain ⟨W8, hW8⟩ : ∃ W8, W8 = (((u1.alloc (.cells #[.pointer (some ⟨dg, 0, none⟩), .int .i64 64, .int .i64 2, .int .i64 16, .int .i64 18, .int .i64 19, .int .i64 4, .int .i64 23, .int .i64 64, .int .i64 (E : Int), .int .i64 (S0 : Int), .int .i64 (t : Int)] 65)).alloc (.cells #[.slice none 0 0] 26)).alloc (.cells #[.int .i64 0] 3)) := ⟨_, rfl⟩
  have s1 : (u1.alloc (.cells #[.pointer (some ⟨dg, 0, none⟩), .int .i64 64, .int .i64 2, .int .i64 16, .int .i64 18, .int .i64 19, .int .i64 4, .int .i64 23, .int .i64 64, .int .i64 (E : Int), .int .i64 (S0 : Int), .int .i64 (t : Int)] 65)).heap.size = u1.heap.size + 1 := by simp
  have s2 : ((u1.alloc (.cells #[.pointer (some ⟨dg, 0, none⟩), .int .i64 64, .int .i64 2, .int .i64 16, .int .i64 18, .int .i64 19, .int .i64 4, .int .i64 23, .int .i64 64, .int .i64 (E : Int), .int .i64 (S0 : Int), .int .i64 (t : Int)] 65)).alloc (.cells #[.slice none 0 0] 26)).heap.size = u1.heap.size + 2 := by simp
  have s3 : Hid (W8.heap.size = u1.heap.size + 3) := by
    have : W8.heap.size = u1.heap.size + 3 := by rw [hW8]; simp
    exact this
  have r0 : Box W8 u1.heap.size #[.pointer (some ⟨dg, 0, none⟩), .int .i64 64, .int .i64 2, .int .i64 16, .int .i64 18, .int .i64 19, .int .i64 4, .int .i64 23, .int .i64 64, .int .i64 (E : Int), .int .i64 (S0 : Int), .int .i64 (t : Int)] 65 := by rw [hW8]; exact ((Dk.Box.new u1 #[.pointer (some ⟨dg, 0, none⟩), .int .i64 64, .int .i64 2, .int .i64 16, .int .i64 18, .int .i64 19, .int .i64 4, .int .i64 23, .int .i64 64, .int .i64 (E : Int), .int .i64 (S0 : Int), .int .i64 (t : Int)] 65).alloc _).alloc _
  have r1 : Hid (Box W8 (u1.heap.size + 1) #[.slice none 0 0] 26) := by
    have : Box W8 (u1.heap.size + 1) #[.slice none 0 0] 26 := by rw [hW8, ← s1]; exact (Dk.Box.new (u1.alloc (.cells #[.pointer (some ⟨dg, 0, none⟩), .int .i64 64, .int .i64 2, .int .i64 16, .int .i64 18, .int .i64 19, .int .i64 4, .int .i64 23, .int .i64 64, .int .i64 (E : Int), .int .i64 (S0 : Int), .int .i64 (t : Int)] 65)) #[.slice none 0 0] 26).alloc _
    exact this
  have r2 : Hid (Box W8 (u1.heap.size + 2) #[.int .i64 0] 3) := by
    have : Box W8 (u1.heap.size + 2) #[.int .i64 0] 3 := by rw [hW8, ← s2]; exact Dk.Box.new ((u1.alloc (.cells #[.pointer (some ⟨dg, 0, none⟩), .int .i64 64, .int .i64 2, .int .i64 16, .int .i64 18, .int .i64 19, .int .i64 4, .int .i64 23, .int .i64 64, .int .i64 (E : Int), .int .i64 (S0 : Int), .int .i64 (t : Int)] 65)).alloc (.cells #[.slice none 0 0] 26)) #[.int .i64 0] 3
    exact this
  have B8 : Hid (Below u1.heap.size u1 W8) := by
    have : Below u1.heap.size u1 W8 := by rw [hW8]; exact (((Below.refl u1.heap.size u1).alloc (Nat.le_refl _) _).alloc (by simp) _).alloc (by simp; omega) _
    exact this
  have R0 : Hid (Box W8 u1.heap.size #[.pointer (some ⟨dg, 0, none⟩), .int .i64 64, .int .i64 2, .int .i64 16, .int .i64 18, .int .i64 19, .int .i64 4, .int .i64 23, .int .i64 64, .int .i64 (E : Int), .int .i64 (S0 : Int), .int .i64 (t : Int)] 65) := r0
  have cR := reader_at W8 dg 64 (E : Int) (S0 : Int) (t : Int)
  unfold rC at cR
  have g0 := r0.cell 0
  have g1 := r0.cell 1
  have g2 := r0.cell 2
  have g3 := r0.cell 3
  have g4 := r0.cell 4
  have g5 := r0.cell 5
  have g6 := r0.cell 6
  have g7 := r0.cell 7
  have g8 := r0.cell 8
  have g9 := r0.cell 9
  have g10 := r0.cell 10
  have g11 := r0.cell 11
  simp only [List.getElem?_toArray, List.getElem?_cons_zero, List.getElem?_cons_succ] at g0 g1 g2 g3 g4 g5 g6 g7 g8 g9 g10 g11
  clear r0 s1 s2 y0 y1
  have hW8' := hW8
  rw [hW8] at g0 g1 g2 g3 g4 g5 g6 g7 g8 g9 g10 g11
  gi_wp2_with fail
  refine ⟨trivial, ?_⟩
  rw [← hW8]
  refine ((callsIn_wide (n := 3)).2 cR).mono ?_
  rintro r u2 ⟨rfl, hbr, b2⟩
  clear cR g0 g1 g2 g3 g4 g5 g6 g7 g8 g9 g10 g11 f0 f1 f2 f3 f4 f5 f6 h0 h1 h2 h3 hW8 hW8' hW5
  gi_wp2_with fail
  have hz8 := s3.out
  have hz5 := HZ.out
  have e8 := b2.size
  have e1 := b1.size
  have BW8 : Below w.heap.size w W8 := (HB5.out.1.trans (b1.mono HB5.out.1.size)).trans (B8.out.mono (by omega))
  have BU2 : Below w.heap.size w u2 := BW8.trans (b2.mono BW8.size)
  have q1 : Box u2 (u1.heap.size + 1) #[.slice none 0 0] 26 := r1.out.below b2
  have q2 : Box u2 (u1.heap.size + 2) #[.int .i64 0] 3 := r2.out.below b2
  have hq3 : W8.heap.size < u2.heap.size := hbr.lt
  have hT : Tl w.heap.size (u1.heap.size + 1) (u1.heap.size + 2) W8.heap.size u2 := by
    refine ⟨hq3, fun k hk => ?_⟩
    rcases hk with rfl | rfl | ⟨v, h1, h2⟩
    · exact ⟨by omega, by omega, by omega⟩
    · exact ⟨by omega, by omega, by omega⟩
    · rw [q1.cell 0] at h1
      simp at h1
      subst h1
      cases h2
  have hI0 : I9 w D t E S0 dg (u1.heap.size + 1) (u1.heap.size + 2) u1.heap.size [] u2 := by
    obtain ⟨_, p2, p3, p4⟩ := HB5.out
    have bb5 := b1.trans ((B8.out.trans (b2.mono B8.out.size)).mono e1)
    exact ⟨⟨_, q1, World.ownsRow_nil _ _ _ _⟩, q2, fun x hx => (by cases hx), R0.out.below b2, p2.below bb5, p3.below bb5, p4.below bb5, BU2⟩
  have hHd := hands9 (4 - 1) (by omega) W8.heap.size (u1.heap.size + 1) (u1.heap.size + 2) dg w.heap.size D _ t E S0 64 ht hnb hgn hlim hS.2 u2 ((disk_cells hd).kept (fun i hi => BU2.block i (hd.flt i hi.1)) BU2.size)
    (fun k hk => ⟨hd.flt k hk.1, by obtain ⟨_, o, h1, h2⟩ := hk; exact ⟨o, (BU2.block k (hd.flt k (by assumption))).trans h1, h2⟩⟩) hbr hT BU2.size
  have HT : Hid (w.heap.size + 5 ≤ u1.heap.size ∧ u1.heap.size + 3 ≤ u2.heap.size) := ⟨by omega, by omega⟩
  clear hT q1 q2 hz8 hz5 e8 e1 hq3
  refine wpIn_range_told rfl (by omega) (gf := 48) (lb := #[.pointer (some ⟨W8.heap.size, 0, none⟩)]) rfl trivial (enters_of Tryz.func48 (by kernel_rfl) rfl) hHd (Below.refl _ _) Kp.trans (fun W l o o' hl ho hc _ => kp_put o' (B := u2.heap.size) (by have := HT.out; omega) hl ho hc) (fun _ => rfl)
    (fun pre W => I9 w D t E S0 dg (u1.heap.size + 1) (u1.heap.size + 2) u1.heap.size pre W) (I9.own BU2.size) hI0
    (fun pre x a' W => pre.length < 16 ∧ ∃ Bx, Box W Bx #[.int .i64 (E : Int), .int .i64 (x.s : Int), .slice x.a x.m x.c] 40 ∧ (∃ v0 : Value, Box W (u1.heap.size + 1) #[v0] 26 ∧ v0.ownBlock ≠ some Bx) ∧ GA D t E x W ∧ a' = ({ tmps := #[.pointer (some ⟨dg, 0, none⟩), .agg #[.int .i64 64, .int .i64 2, .int .i64 16, .int .i64 18, .int .i64 19, .int .i64 4, .int .i64 23], .agg #[.int .i64 64, .int .i64 (E : Int), .int .i64 (S0 : Int), .int .i64 (t : Int)], undef, .pointer (some ⟨w.heap.size, 0, none⟩), .pointer (some ⟨w.heap.size + 1, 0, none⟩), .pointer (some ⟨w.heap.size + 1 + 1, 0, none⟩), .pointer (some ⟨w.heap.size + 1 + 1 + 1, 0, none⟩), .pointer (some ⟨w.heap.size + 1 + 1 + 1 + 1, 0, none⟩), .int .i64 0, .pointer (some ⟨u1.heap.size, 0, none⟩), .pointer (some ⟨u1.heap.size + 1, 0, none⟩), .pointer (some ⟨u1.heap.size + 1 + 1, 0, none⟩), .pointer (some ⟨Bx, 0, none⟩), .int .i64 0, .pointer (some ⟨dg, 0, none⟩), .agg #[.int .i64 64, .int .i64 2, .int .i64 16, .int .i64 18, .int .i64 19, .int .i64 4, .int .i64 23], .agg #[.int .i64 64, .int .i64 (E : Int), .int .i64 (S0 : Int), .int .i64 (t : Int)], .int .i64 0, .int .i64 0, .bool false, undef, .pointer (some ⟨dg, 0, none⟩), .agg #[.int .i64 64, .int .i64 2, .int .i64 16, .int .i64 18, .int .i64 19, .int .i64 4, .int .i64 23], .agg #[.int .i64 64, .int .i64 (E : Int), .int .i64 (S0 : Int), .int .i64 (t : Int)], .agg #[.pointer (some ⟨dg, 0, none⟩), .int .i64 64, .int .i64 2, .int .i64 16, .int .i64 18, .int .i64 19, .int .i64 4, .int .i64 23, .int .i64 64, .int .i64 (E : Int), .int .i64 (S0 : Int), .int .i64 (t : Int)], .agg #[.pointer (some ⟨dg, 0, none⟩), .int .i64 64, .int .i64 2, .int .i64 16, .int .i64 18, .int .i64 19, .int .i64 4, .int .i64 23, .int .i64 64, .int .i64 (E : Int), .int .i64 (S0 : Int), .int .i64 (t : Int)], .func (.func 48) #[] #[.pointer (some ⟨W8.heap.size, 0, none⟩)], .agg #[.int .i64 (E : Int), .int .i64 (x.s : Int), .slice x.a x.m x.c], .int .i64 0, undef, undef, undef, undef, undef, undef, undef, undef, undef, undef, undef, undef, undef, undef, undef, undef, undef], defers := [] } : Act)) ?hAx ?assign ?body ?done
  case hAx =>
    intro pre x a' _ A C row hs hg hr
    obtain ⟨h0, Bx, h1, h2, h3, h4⟩ := hs
    have hk : ∀ (k : Nat) (cs : Array Value) (ty : TypeId), Box A k cs ty → C.heap[k]? = A.heap[k]? := fun k cs ty hb => hg.block k hb.lt (fun e => by
      obtain ⟨_, o, ho, hc⟩ := hr k e.symm
      have hb' : A.heap[k]? = some (.cells cs ty) := hb
      rw [hb'] at ho
      cases ho
      cases hc)
    obtain ⟨v0, h5, h6⟩ := h2
    exact ⟨h0, Bx, (hk _ _ _ h1).trans h1, ⟨v0, (hk _ _ _ h5).trans h5, h6⟩, h3.kept (fun k cs ty hb _ => hk k cs ty hb), h4⟩
  case assign =>
    rintro l pre x W K hi ⟨hA, hpl⟩ hK
    dsimp only [encG]
    have al := (Below.refl W.heap.size W).alloc (Nat.le_refl _) (.cells #[.int .i64 (E : Int), .int .i64 (x.s : Int), .slice x.a x.m x.c] 40)
    have nb := Dk.Box.new W #[.int .i64 (E : Int), .int .i64 (x.s : Int), .slice x.a x.m x.c] 40
    gi_wp2_with fail
    obtain ⟨v0, hv0, ho0⟩ := hi.row
    exact hK _ _ ((KeepsOthers.alloc _ _).from _) (kp_below al hv0.lt) (hi.below al) ⟨hpl, W.heap.size, nb, ⟨v0, hv0.below al, fun e => by have := (ho0.lt _ e).2; omega⟩, hA.kept (fun k cs ty hb _ => al.block k hb.lt), rfl⟩
  case body =>
    rintro l pre x a' W hl ⟨r, hr⟩ hi ⟨hpl, Bx, hbx, ⟨v0, hv0, hne⟩, hga, rfl⟩
    have HI : Hid (I9 w D t E S0 dg (u1.heap.size + 1) (u1.heap.size + 2) u1.heap.size pre W) := hi
    obtain ⟨⟨v, hv, hown⟩, hsum, _⟩ := hi
    obtain rfl : v0 = v := by
      have := hv.symm.trans hv0
      simpa using this.symm
    obtain ⟨av, cv, rfl⟩ := Rc.owns_shape hown
    have c0 := hv0.cell 0
    have d0 := hbx.cell 0
    have d1 := hbx.cell 1
    have d2 := hbx.cell 2
    have s0 := hsum.cell 0
    simp only [List.getElem?_toArray, List.getElem?_cons_zero, List.getElem?_cons_succ] at c0 d0 d1 d2 s0
    have al := (Below.refl W.heap.size W).alloc (Nat.le_refl _) (.cells #[.int .i64 (E : Int), .int .i64 (x.s : Int), .slice x.a x.m x.c] 40)
    have own1 := Rc.owns_below hown al
    have bsz : w.heap.size ≤ (W.alloc (.cells #[.int .i64 (E : Int), .int .i64 (x.s : Int), .slice x.a x.m x.c] 40)).heap.size := Nat.le_trans HI.out.bel.size al.size
    gi_wp2_with (gi_at_builtin; refine wpListIn_append_own_at _ rfl _ _ 26 rfl w.heap.size 40 i0 _ 3 40 Tryz.underlying26 hi0 hz0 hz1 hz2 rfl (by decide) _ pre.length _ rfl own1 ⟨W.heap.size, 0, none⟩ 1 1 [.int .i64 (E : Int), .int .i64 (x.s : Int), .slice x.a x.m x.c] rfl rfl ?c1 ?c2 ?c3 ?c4 bsz ?_)
    case c1 => exact World.news_of_block (cs := #[.int .i64 (E : Int), .int .i64 (x.s : Int), .slice x.a x.m x.c]) (t := 40) (fr := (0, 0)) (heap_alloc_new W _)
    case c2 => intro u hu; simp at hu; rcases hu with rfl | rfl | rfl <;> rfl
    case c3 => unfold maxLen; omega
    case c4 => omega
    intro v' w4 own4 hg4 _ hat
    obtain ⟨av', cv', rfl⟩ := Rc.owns_shape own4
    have hro : ∀ k cs (ty : TypeId), Box W k cs ty → (40 : TypeId) ≠ ty ∨ (Value.slice av pre.length cv).ownBlock ≠ some k → w4.heap[k]? = W.heap[k]? := fun k cs ty hb hn => by
      have hb1 := hb.below al
      refine (hg4.block k hb1.lt (fun e => ?_)).trans (al.block k hb.lt)
      rcases hn with h | h
      · obtain ⟨_, cur, hb2⟩ := Rc.owns_block own1 k e.symm
        exact hb2.ne hb1 h rfl
      · exact h e.symm
    have k1 : Box w4 (u1.heap.size + 1) #[.slice av pre.length cv] 26 := (hro _ _ _ hv0 (.inl (by decide))).trans hv0
    have k2 : Box w4 (u1.heap.size + 2) #[.int .i64 (tot pre : Int)] 3 := (hro _ _ _ hsum (.inl (by decide))).trans hsum
    have k3 : Box w4 Bx #[.int .i64 (E : Int), .int .i64 (x.s : Int), .slice x.a x.m x.c] 40 := (hro _ _ _ hbx (.inr hne)).trans hbx
    have m1 := k1.cell 0
    have m1f := k1.frozen 0
    simp only [List.getElem?_toArray, List.getElem?_cons_zero] at m1
    have HG4 : Hid (W.alloc (.cells #[.int .i64 (E : Int), .int .i64 (x.s : Int), .slice x.a x.m x.c] 40) |>.grownBy w4 (Value.slice av pre.length cv).ownBlock) := hg4
    have HRO : Hid (∀ k cs (ty : TypeId), Box W k cs ty → (40 : TypeId) ≠ ty ∨ (Value.slice av pre.length cv).ownBlock ≠ some k → w4.heap[k]? = W.heap[k]?) := hro
    clear hg4 hro c0 d0 d1 d2 s0 al bsz
    gi_wp2_with fail
    obtain ⟨V, hV⟩ : ∃ V, V = (w4.setCell ⟨u1.heap.size + 1, 0, none⟩ (.slice av' (pre.length + 1) cv')).drew := ⟨_, rfl⟩
    have n2 : Box V (u1.heap.size + 1 + 1) #[.int .i64 (tot pre : Int)] 3 := by rw [hV]; exact (heap_setCell_other w4 ⟨u1.heap.size + 1, 0, none⟩ (u1.heap.size + 2) _ (by show u1.heap.size + 2 ≠ u1.heap.size + 1; omega)).trans k2
    have n3 : Box V Bx #[.int .i64 (E : Int), .int .i64 (x.s : Int), .slice x.a x.m x.c] 40 := by rw [hV]; exact (heap_setCell_other w4 ⟨u1.heap.size + 1, 0, none⟩ Bx _ (by show Bx ≠ u1.heap.size + 1; exact fun e => by subst e; exact k3.ne k1 (by decide) rfl)).trans k3
    have x0 := n2.cell 0
    have x1 := n3.cell 2
    have x2 := n2.frozen 0
    simp only [List.getElem?_toArray, List.getElem?_cons_zero, List.getElem?_cons_succ] at x0 x1
    refine wpIn_region_any (by kernel_rfl) ?_
    change wpAnyIn _ _ _ _ _ _ _ _ _ (World.drew _)
    rw [← hV]
    have HV : Hid (V = (w4.setCell ⟨u1.heap.size + 1, 0, none⟩ (.slice av' (pre.length + 1) cv')).drew) := hV
    clear hV
    have cB := Rc.blocks_at (x.m : Int)
    have hm16 : x.m + 1 ≤ 16 := by
      have h1 := hga.1.2.1
      rw [← hga.2.1] at h1
      omega
    have htot : tot pre ≤ 256 := by
      have := tot_le pre (fun y hy => by
        have h1 := HI.out.all y hy
        have h2 := h1.1.2.1
        rw [← h1.2.1] at h2
        omega)
      omega
    have hm1 : 1 ≤ x.m := by
      have h := hga.1.1.1.2.1.2.1
      have h' : 1 ≤ cntAt D t x.b ∧ cntAt D t x.b ≤ 32 := by simpa [cntAt] using h
      rw [← hga.2.1] at h'
      exact h'.1
    have ebl : Rc.blocksN (x.m : Int) = (x.m : Int) + 1 := by
      unfold Rc.blocksN
      rw [if_pos (by omega)]
    rw [ebl] at cB
    have HEnd : Hid (KeepsFrom u2.heap.size W (V.setCell ⟨u1.heap.size + 1 + 1, 0, none⟩ (.int .i64 ((tot pre : Int) + ((x.m : Int) + 1)))) ∧ Kp (u1.heap.size + 1) (u1.heap.size + 2) W (V.setCell ⟨u1.heap.size + 1 + 1, 0, none⟩ (.int .i64 ((tot pre : Int) + ((x.m : Int) + 1)))) ∧ I9 w D t E S0 dg (u1.heap.size + 1) (u1.heap.size + 2) u1.heap.size (pre ++ [x]) (V.setCell ⟨u1.heap.size + 1 + 1, 0, none⟩ (.int .i64 ((tot pre : Int) + ((x.m : Int) + 1))))) := by
      obtain ⟨U, hU⟩ : ∃ U, U = (V.setCell ⟨u1.heap.size + 1 + 1, 0, none⟩ (.int .i64 ((tot pre : Int) + ((x.m : Int) + 1)))) := ⟨_, rfl⟩
      rw [← hU]
      have hT0 := HT.out
      have al2 := (Below.refl W.heap.size W).alloc (Nat.le_refl _) (.cells #[.int .i64 (E : Int), .int .i64 (x.s : Int), .slice x.a x.m x.c] 40)
      have szW4 : W.heap.size + 1 ≤ w4.heap.size := by
        have := HG4.out.size
        simpa using this
      have szU : U.heap.size = w4.heap.size := by rw [hU, HV.out]; simp
      have h4 : ∀ k, k ≠ u1.heap.size + 1 → k ≠ u1.heap.size + 2 → U.heap[k]? = w4.heap[k]? := fun k h1 h2 => by
        rw [hU]
        refine (heap_setCell_other V ⟨u1.heap.size + 1 + 1, 0, none⟩ k _ h2).trans ?_
        rw [HV.out]
        exact heap_setCell_other w4 ⟨u1.heap.size + 1, 0, none⟩ k _ h1
      have hk : ∀ k cs (ty : TypeId), Box W k cs ty → k ≠ u1.heap.size + 1 → k ≠ u1.heap.size + 2 → (40 : TypeId) ≠ ty ∨ (Value.slice av pre.length cv).ownBlock ≠ some k → U.heap[k]? = W.heap[k]? := fun k cs ty hb h1 h2 h3 => (h4 k h1 h2).trans (HRO.out k cs ty hb h3)
      have ubt : Box U (u1.heap.size + 1) #[.slice av' (pre.length + 1) cv'] 26 := by
        rw [hU]
        refine (heap_setCell_other V ⟨u1.heap.size + 1 + 1, 0, none⟩ (u1.heap.size + 1) _ (by show u1.heap.size + 1 ≠ u1.heap.size + 1 + 1; omega)).trans ?_
        rw [HV.out]
        have h := k1.store 0 (.slice av' (pre.length + 1) cv')
        simp at h
        exact h
      have ubb : Box U (u1.heap.size + 2) #[.int .i64 (tot (pre ++ [x]) : Int)] 3 := by
        rw [hU]
        have := n2.store 0 (.int .i64 ((tot pre : Int) + ((x.m : Int) + 1)))
        rw [tot_snoc]
        push_cast
        simpa using this
      have hv1 : ∀ k, (Value.slice av pre.length cv).ownBlock = some k → ∃ cur, Box W k cur 40 := fun k e => by
        obtain ⟨_, cur, hb⟩ := Rc.owns_block hown k e
        exact ⟨cur, hb⟩
      have hoth : ∀ (k : Nat) (o : Obj), W.heap[k]? = some o → (k = u1.heap.size + 1 ∨ k = u1.heap.size + 2 ∨ (Value.slice av pre.length cv).ownBlock = some k → False) → U.heap[k]? = some o := fun k o ho hn => by
        have hlt := (Array.getElem?_eq_some_iff.1 ho).1
        rw [h4 k (fun e => hn (.inl e)) (fun e => hn (.inr (.inl e))), HG4.out.block k (by simp; omega) (fun e => hn (.inr (.inr e.symm))), al2.block k hlt, ho]
      refine ⟨⟨by omega, fun k o _ ho hc => hoth k o ho (fun h => ?_)⟩, ⟨by omega, fun k o ho _ hc => hoth k o ho (fun h => hc ?_), fun k hc => ?_⟩, ?_⟩
      · have hcs : ∃ cs ty, Box W k cs ty := by
          rcases h with h | h | h
          · exact ⟨_, _, h ▸ hv0⟩
          · exact ⟨_, _, h ▸ hsum⟩
          · obtain ⟨cur, hb⟩ := hv1 k h
            exact ⟨_, _, hb⟩
        obtain ⟨cs, ty, hb⟩ := hcs
        have hb' : W.heap[k]? = some (.cells cs ty) := hb
        rw [hb'] at ho
        cases ho
        cases hc
      · rcases h with h | h | h
        · exact .inl h
        · exact .inr (.inl h)
        · exact .inr (.inr ⟨_, hv0.cell 0, h⟩)
      · rcases hc with h | h | ⟨v, e1, e2⟩
        · exact .inl (.inl h)
        · exact .inl (.inr (.inl h))
        · rw [ubt.cell 0] at e1
          simp at e1
          subst e1
          rcases hat with h | h
          · exact .inl (.inr (.inr ⟨_, hv0.cell 0, h ▸ e2⟩))
          · right
            have h5 := (own4.lt k e2).2
            rw [h] at e2
            simp at e2
            omega
      · have hi := HI.out
        have ne52 : ∀ k cs (ty : TypeId), Box W k cs ty → (40 : TypeId) ≠ ty → k ≠ u1.heap.size + 1 → k ≠ u1.heap.size + 2 → Box U k cs ty := fun k cs ty hb h1 h2 h3 => (hk k cs ty hb h2 h3 (.inl h1)).trans hb
        have gk : ∀ y, GA D t E y W → GA D t E y U := fun y hy => hy.kept (fun k cs ty hb ht => hk k cs ty hb
          (fun e => by subst e; rcases ht with rfl | rfl <;> exact hb.ne hv0 (by decide) rfl)
          (fun e => by subst e; rcases ht with rfl | rfl <;> exact hb.ne hsum (by decide) rfl)
          (.inl (by rcases ht with rfl | rfl <;> decide)))
        refine ⟨⟨_, ubt, ?_⟩, ubb, fun y hy => ?_, ne52 _ _ _ hi.rdr (by decide) (by omega) (by omega), ne52 _ _ _ hi.o2 (by decide) (by omega) (by omega), ne52 _ _ _ hi.o3 (by decide) (by omega) (by omega), ne52 _ _ _ hi.o4 (by decide) (by omega) (by omega), ?_⟩
        · rw [gsC_snoc, List.length_append]
          refine J.owns_kept own4 (fun k e => ?_)
          obtain ⟨_, cur, hb⟩ := Rc.owns_block own4 k e
          exact h4 k (fun e => by subst e; exact hb.ne k1 (by decide) rfl) (fun e => by subst e; exact hb.ne k2 (by decide) rfl)
        · rcases List.mem_append.1 hy with hy | hy
          · exact gk y (hi.all y hy)
          · obtain rfl : y = x := by simpa using hy
            exact gk y hga
        · have hb4 : Below w.heap.size w w4 := (hi.bel.trans (al2.mono hi.bel.size)).grown HG4.out (Nat.le_trans hi.bel.size al2.size) (fun k e => (hown.lt k e).1)
          rw [hU, HV.out]
          exact ((hb4.setCell (p := ⟨u1.heap.size + 1, 0, none⟩) (by show w.heap.size ≤ u1.heap.size + 1; omega) _).drew).setCell (p := ⟨u1.heap.size + 1 + 1, 0, none⟩) (by show w.heap.size ≤ u1.heap.size + 1 + 1; omega) _
    have hww : IntKind.i64.wrap ((tot pre : Int) + ((x.m : Int) + 1)) = (tot pre : Int) + ((x.m : Int) + 1) := by rw [IntKind.wrap_i64]; omega
    rw [← hww] at HEnd
    clear hww ebl hm1 n2 n3 k1 k2 k3 own4 own1 hat
    refine wpAnyIn_ready (rs := [0, 1]) (by kernel_rfl) (by simp) ?_
    refine AllReadyIn.cons rfl (fun K hK2 => ?_) ?_
    · skip
      go_simp
      refine hK2 _ _ ?_
      clear hK2 K
      refine wpAnyIn_ready (rs := [1]) (by kernel_rfl) (by simp) ?_
      refine AllReadyIn.cons rfl (fun K hK2 => ?_) ?_
      · skip
        go_simp
        refine hK2 _ _ ?_
        clear hK2 K
        refine wpAnyIn_ready (rs := [2]) (by kernel_rfl) (by simp) ?_
        refine AllReadyIn.cons rfl (fun K hK2 => ?_) ?_
        · skip
          go_simp
          refine hK2 _ _ ?_
          clear hK2 K
          refine wpAnyIn_ready (rs := [3]) (by kernel_rfl) (by simp) ?_
          refine AllReadyIn.cons rfl (fun K hK2 => ?_) ?_
          · skip
            go_simp
            refine hK2 _ _ ?_
            clear hK2 K
            refine wpAnyIn_ready (rs := [4]) (by kernel_rfl) (by simp) ?_
            refine AllReadyIn.cons rfl (fun K hK2 => ?_) ?_
            · skip
              go_simp
              refine ⟨trivial, (CallsIn.inRound l ((callsIn_wide (n := 1)).2 (cB V))).mono ?_⟩
              rintro r V' ⟨rfl, rfl⟩
              refine hK2 _ _ ?_
              clear hK2 K
              refine wpAnyIn_ready (rs := [5]) (by kernel_rfl) (by simp) ?_
              refine AllReadyIn.cons rfl (fun K hK2 => ?_) ?_
              · skip
                go_simp
                refine hK2 _ _ ?_
                clear hK2 K
                refine wpAnyIn_ready (rs := [6]) (by kernel_rfl) (by simp) ?_
                refine AllReadyIn.cons rfl (fun K hK2 => ?_) ?_
                · skip
                  go_simp
                  refine hK2 _ _ ?_
                  clear hK2 K
                  refine wpAnyIn_done (by kernel_rfl) ?_ _
                  gi_wp2_with fail
                  exact HEnd.out
                exact AllReadyIn.nil
              exact AllReadyIn.nil
            exact AllReadyIn.nil
          exact AllReadyIn.nil
        exact AllReadyIn.nil
      exact AllReadyIn.nil
    refine AllReadyIn.cons rfl (fun K hK2 => ?_) ?_
    · skip
      go_simp
      refine hK2 _ _ ?_
      clear hK2 K
      refine wpAnyIn_ready (rs := [0, 2]) (by kernel_rfl) (by simp) ?_
      refine AllReadyIn.cons rfl (fun K hK2 => ?_) ?_
      · skip
        go_simp
        refine hK2 _ _ ?_
        clear hK2 K
        refine wpAnyIn_ready (rs := [2]) (by kernel_rfl) (by simp) ?_
        refine AllReadyIn.cons rfl (fun K hK2 => ?_) ?_
        · skip
          go_simp
          refine hK2 _ _ ?_
          clear hK2 K
          refine wpAnyIn_ready (rs := [3]) (by kernel_rfl) (by simp) ?_
          refine AllReadyIn.cons rfl (fun K hK2 => ?_) ?_
          · skip
            go_simp
            refine hK2 _ _ ?_
            clear hK2 K
            refine wpAnyIn_ready (rs := [4]) (by kernel_rfl) (by simp) ?_
            refine AllReadyIn.cons rfl (fun K hK2 => ?_) ?_
            · skip
              go_simp
              refine ⟨trivial, (CallsIn.inRound l ((callsIn_wide (n := 1)).2 (cB V))).mono ?_⟩
              rintro r V' ⟨rfl, rfl⟩
              refine hK2 _ _ ?_
              clear hK2 K
              refine wpAnyIn_ready (rs := [5]) (by kernel_rfl) (by simp) ?_
              refine AllReadyIn.cons rfl (fun K hK2 => ?_) ?_
              · skip
                go_simp
                refine hK2 _ _ ?_
                clear hK2 K
                refine wpAnyIn_ready (rs := [6]) (by kernel_rfl) (by simp) ?_
                refine AllReadyIn.cons rfl (fun K hK2 => ?_) ?_
                · skip
                  go_simp
                  refine hK2 _ _ ?_
                  clear hK2 K
                  refine wpAnyIn_done (by kernel_rfl) ?_ _
                  gi_wp2_with fail
                  exact HEnd.out
                exact AllReadyIn.nil
              exact AllReadyIn.nil
            exact AllReadyIn.nil
          exact AllReadyIn.nil
        exact AllReadyIn.nil
      refine AllReadyIn.cons rfl (fun K hK2 => ?_) ?_
      · skip
        go_simp
        refine hK2 _ _ ?_
        clear hK2 K
        refine wpAnyIn_ready (rs := [0, 3]) (by kernel_rfl) (by simp) ?_
        refine AllReadyIn.cons rfl (fun K hK2 => ?_) ?_
        · skip
          go_simp
          refine hK2 _ _ ?_
          clear hK2 K
          refine wpAnyIn_ready (rs := [3]) (by kernel_rfl) (by simp) ?_
          refine AllReadyIn.cons rfl (fun K hK2 => ?_) ?_
          · skip
            go_simp
            refine hK2 _ _ ?_
            clear hK2 K
            refine wpAnyIn_ready (rs := [4]) (by kernel_rfl) (by simp) ?_
            refine AllReadyIn.cons rfl (fun K hK2 => ?_) ?_
            · skip
              go_simp
              refine ⟨trivial, (CallsIn.inRound l ((callsIn_wide (n := 1)).2 (cB V))).mono ?_⟩
              rintro r V' ⟨rfl, rfl⟩
              refine hK2 _ _ ?_
              clear hK2 K
              refine wpAnyIn_ready (rs := [5]) (by kernel_rfl) (by simp) ?_
              refine AllReadyIn.cons rfl (fun K hK2 => ?_) ?_
              · skip
                go_simp
                refine hK2 _ _ ?_
                clear hK2 K
                refine wpAnyIn_ready (rs := [6]) (by kernel_rfl) (by simp) ?_
                refine AllReadyIn.cons rfl (fun K hK2 => ?_) ?_
                · skip
                  go_simp
                  refine hK2 _ _ ?_
                  clear hK2 K
                  refine wpAnyIn_done (by kernel_rfl) ?_ _
                  gi_wp2_with fail
                  exact HEnd.out
                exact AllReadyIn.nil
              exact AllReadyIn.nil
            exact AllReadyIn.nil
          exact AllReadyIn.nil
        refine AllReadyIn.cons rfl (fun K hK2 => ?_) ?_
        · skip
          go_simp
          refine hK2 _ _ ?_
          clear hK2 K
          refine wpAnyIn_ready (rs := [0, 4]) (by kernel_rfl) (by simp) ?_
          refine AllReadyIn.cons rfl (fun K hK2 => ?_) ?_
          · skip
            go_simp
            refine hK2 _ _ ?_
            clear hK2 K
            refine wpAnyIn_ready (rs := [4]) (by kernel_rfl) (by simp) ?_
            refine AllReadyIn.cons rfl (fun K hK2 => ?_) ?_
            · skip
              go_simp
              refine ⟨trivial, (CallsIn.inRound l ((callsIn_wide (n := 1)).2 (cB V))).mono ?_⟩
              rintro r V' ⟨rfl, rfl⟩
              refine hK2 _ _ ?_
              clear hK2 K
              refine wpAnyIn_ready (rs := [5]) (by kernel_rfl) (by simp) ?_
              refine AllReadyIn.cons rfl (fun K hK2 => ?_) ?_
              · skip
                go_simp
                refine hK2 _ _ ?_
                clear hK2 K
                refine wpAnyIn_ready (rs := [6]) (by kernel_rfl) (by simp) ?_
                refine AllReadyIn.cons rfl (fun K hK2 => ?_) ?_
                · skip
                  go_simp
                  refine hK2 _ _ ?_
                  clear hK2 K
                  refine wpAnyIn_done (by kernel_rfl) ?_ _
                  gi_wp2_with fail
                  exact HEnd.out
                exact AllReadyIn.nil
              exact AllReadyIn.nil
            exact AllReadyIn.nil
          refine AllReadyIn.cons rfl (fun K hK2 => ?_) ?_
          · skip
            go_simp
            refine ⟨trivial, (CallsIn.inRound l ((callsIn_wide (n := 1)).2 (cB V))).mono ?_⟩
            rintro r V' ⟨rfl, rfl⟩
            refine hK2 _ _ ?_
            clear hK2 K
            refine wpAnyIn_ready (rs := [0]) (by kernel_rfl) (by simp) ?_
            refine AllReadyIn.cons rfl (fun K hK2 => ?_) ?_
            · skip
              go_simp
              refine hK2 _ _ ?_
              clear hK2 K
              refine wpAnyIn_ready (rs := [5]) (by kernel_rfl) (by simp) ?_
              refine AllReadyIn.cons rfl (fun K hK2 => ?_) ?_
              · skip
                go_simp
                refine hK2 _ _ ?_
                clear hK2 K
                refine wpAnyIn_ready (rs := [6]) (by kernel_rfl) (by simp) ?_
                refine AllReadyIn.cons rfl (fun K hK2 => ?_) ?_
                · skip
                  go_simp
                  refine hK2 _ _ ?_
                  clear hK2 K
                  refine wpAnyIn_done (by kernel_rfl) ?_ _
                  gi_wp2_with fail
                  exact HEnd.out
                exact AllReadyIn.nil
              exact AllReadyIn.nil
            exact AllReadyIn.nil
          exact AllReadyIn.nil
        exact AllReadyIn.nil
      exact AllReadyIn.nil
    exact AllReadyIn.nil
  case done =>
    rintro D' xs W hD hR hi hdf
    have hfit := hR.fits (by omega)
    obtain ⟨⟨v, hv, hown⟩, hsum, hall, hrd, p2, p3, p4, hbel⟩ := hi
    obtain ⟨av, cv, rfl⟩ := Rc.owns_shape hown
    have HS : Hid (∀ u, Below W.heap.size W u → u.cell? ⟨u1.heap.size, 0, none⟩ = some (.pointer (some ⟨dg, 0, none⟩)) ∧ u.cell? ⟨u1.heap.size, 1, none⟩ = some (.int .i64 64) ∧ u.cell? ⟨u1.heap.size, 2, none⟩ = some (.int .i64 2) ∧ u.cell? ⟨u1.heap.size, 3, none⟩ = some (.int .i64 16) ∧ u.cell? ⟨u1.heap.size, 4, none⟩ = some (.int .i64 18) ∧ u.cell? ⟨u1.heap.size, 5, none⟩ = some (.int .i64 19) ∧ u.cell? ⟨u1.heap.size, 6, none⟩ = some (.int .i64 4) ∧ u.cell? ⟨u1.heap.size, 7, none⟩ = some (.int .i64 23) ∧ u.cell? ⟨u1.heap.size, 8, none⟩ = some (.int .i64 64) ∧ u.cell? ⟨u1.heap.size, 9, none⟩ = some (.int .i64 (E : Int)) ∧ u.cell? ⟨u1.heap.size, 10, none⟩ = some (.int .i64 (S0 : Int)) ∧ u.cell? ⟨u1.heap.size, 11, none⟩ = some (.int .i64 (t : Int)) ∧ u.cell? ⟨u1.heap.size + 1, 0, none⟩ = some (.slice av xs.length cv) ∧ u.cell? ⟨u1.heap.size + 1 + 1, 0, none⟩ = some (.int .i64 (tot xs : Int))) := fun u bu => by
      have y := hrd.below bu
      unfold rC at y
      exact ⟨y.cell 0, y.cell 1, y.cell 2, y.cell 3, y.cell 4, y.cell 5, y.cell 6, y.cell 7, y.cell 8, y.cell 9, y.cell 10, y.cell 11, (hv.below bu).cell 0, (hsum.below bu).cell 0⟩
    have HS2 : Hid (∀ (u : World) (b : Nat) (v : Value), b < u1.heap.size → (u.cell? ⟨u1.heap.size, 0, none⟩ = some (.pointer (some ⟨dg, 0, none⟩)) ∧ u.cell? ⟨u1.heap.size, 1, none⟩ = some (.int .i64 64) ∧ u.cell? ⟨u1.heap.size, 2, none⟩ = some (.int .i64 2) ∧ u.cell? ⟨u1.heap.size, 3, none⟩ = some (.int .i64 16) ∧ u.cell? ⟨u1.heap.size, 4, none⟩ = some (.int .i64 18) ∧ u.cell? ⟨u1.heap.size, 5, none⟩ = some (.int .i64 19) ∧ u.cell? ⟨u1.heap.size, 6, none⟩ = some (.int .i64 4) ∧ u.cell? ⟨u1.heap.size, 7, none⟩ = some (.int .i64 23) ∧ u.cell? ⟨u1.heap.size, 8, none⟩ = some (.int .i64 64) ∧ u.cell? ⟨u1.heap.size, 9, none⟩ = some (.int .i64 (E : Int)) ∧ u.cell? ⟨u1.heap.size, 10, none⟩ = some (.int .i64 (S0 : Int)) ∧ u.cell? ⟨u1.heap.size, 11, none⟩ = some (.int .i64 (t : Int)) ∧ u.cell? ⟨u1.heap.size + 1, 0, none⟩ = some (.slice av xs.length cv) ∧ u.cell? ⟨u1.heap.size + 1 + 1, 0, none⟩ = some (.int .i64 (tot xs : Int))) → ((fun u : World => u.cell? ⟨u1.heap.size, 0, none⟩ = some (.pointer (some ⟨dg, 0, none⟩)) ∧ u.cell? ⟨u1.heap.size, 1, none⟩ = some (.int .i64 64) ∧ u.cell? ⟨u1.heap.size, 2, none⟩ = some (.int .i64 2) ∧ u.cell? ⟨u1.heap.size, 3, none⟩ = some (.int .i64 16) ∧ u.cell? ⟨u1.heap.size, 4, none⟩ = some (.int .i64 18) ∧ u.cell? ⟨u1.heap.size, 5, none⟩ = some (.int .i64 19) ∧ u.cell? ⟨u1.heap.size, 6, none⟩ = some (.int .i64 4) ∧ u.cell? ⟨u1.heap.size, 7, none⟩ = some (.int .i64 23) ∧ u.cell? ⟨u1.heap.size, 8, none⟩ = some (.int .i64 64) ∧ u.cell? ⟨u1.heap.size, 9, none⟩ = some (.int .i64 (E : Int)) ∧ u.cell? ⟨u1.heap.size, 10, none⟩ = some (.int .i64 (S0 : Int)) ∧ u.cell? ⟨u1.heap.size, 11, none⟩ = some (.int .i64 (t : Int)) ∧ u.cell? ⟨u1.heap.size + 1, 0, none⟩ = some (.slice av xs.length cv) ∧ u.cell? ⟨u1.heap.size + 1 + 1, 0, none⟩ = some (.int .i64 (tot xs : Int))) (u.setCell ⟨b, 0, none⟩ v))) := fun u b v hb hu => by
      have ho : ∀ k j, u1.heap.size ≤ k → (u.setCell ⟨b, 0, none⟩ v).cell? ⟨k, j, none⟩ = u.cell? ⟨k, j, none⟩ := fun k j hk => World.cell?_of_block (heap_setCell_other u ⟨b, 0, none⟩ k v (by show k ≠ b; omega))
      simp only [ho _ _ (Nat.le_refl _), ho (u1.heap.size + 1) _ (by omega), ho (u1.heap.size + 1 + 1) _ (by omega)]
      exact hu
    have hlo : w.heap.size + 1 + 1 + 1 + 1 < u1.heap.size := by have := HT.out; omega
    have cP := place_at dg t (tot xs) 64 (E : Int) (S0 : Int) W.drew ht (by omega)
    unfold rC at cP
    have Bd : Below W.heap.size W W.drew := (Below.refl W.heap.size W).drew
    gi_wp2_with fail
    refine wpIn_wide.2 ?_
    go_region_held3 (fun u => u.cell? ⟨u1.heap.size, 0, none⟩ = some (.pointer (some ⟨dg, 0, none⟩)) ∧ u.cell? ⟨u1.heap.size, 1, none⟩ = some (.int .i64 64) ∧ u.cell? ⟨u1.heap.size, 2, none⟩ = some (.int .i64 2) ∧ u.cell? ⟨u1.heap.size, 3, none⟩ = some (.int .i64 16) ∧ u.cell? ⟨u1.heap.size, 4, none⟩ = some (.int .i64 18) ∧ u.cell? ⟨u1.heap.size, 5, none⟩ = some (.int .i64 19) ∧ u.cell? ⟨u1.heap.size, 6, none⟩ = some (.int .i64 4) ∧ u.cell? ⟨u1.heap.size, 7, none⟩ = some (.int .i64 23) ∧ u.cell? ⟨u1.heap.size, 8, none⟩ = some (.int .i64 64) ∧ u.cell? ⟨u1.heap.size, 9, none⟩ = some (.int .i64 (E : Int)) ∧ u.cell? ⟨u1.heap.size, 10, none⟩ = some (.int .i64 (S0 : Int)) ∧ u.cell? ⟨u1.heap.size, 11, none⟩ = some (.int .i64 (t : Int)) ∧ u.cell? ⟨u1.heap.size + 1, 0, none⟩ = some (.slice av xs.length cv) ∧ u.cell? ⟨u1.heap.size + 1 + 1, 0, none⟩ = some (.int .i64 (tot xs : Int)))
      (first | with_reducible exact HS.out _ Bd | with_reducible exact HS.out _ BW | exact HS2.out _ _ _ (by omega) (HS.out _ BW) | exact HS2.out _ _ _ (by omega) (HS2.out _ _ _ (by omega) (HS.out _ BW)) | exact HS2.out _ _ _ (by omega) (HS2.out _ _ _ (by omega) (HS2.out _ _ _ (by omega) (HS.out _ BW))))
      (first
        | (go_at_call 27; refine Calls.mono cP ?_; rintro r u7 ⟨rfl, bW⟩; have BW : Below W.heap.size W u7 := Bd.trans (bW.mono Bd.size); have z2 := (show Box u7 (w.heap.size + 1 + 1) _ 26 from p2.below BW).cell 0; have z2f := (show Box u7 (w.heap.size + 1 + 1) _ 26 from p2.below BW).frozen 0; have z3 := (show Box u7 (w.heap.size + 1 + 1 + 1) _ 3 from p3.below BW).cell 0; have z3f := (show Box u7 (w.heap.size + 1 + 1 + 1) _ 3 from p3.below BW).frozen 0; have z4 := (show Box u7 (w.heap.size + 1 + 1 + 1 + 1) _ 23 from p4.below BW).cell 0; have z4f := (show Box u7 (w.heap.size + 1 + 1 + 1 + 1) _ 23 from p4.below BW).frozen 0; simp only [List.getElem?_toArray, List.getElem?_cons_zero] at z2 z3 z4))
    obtain ⟨V, hV⟩ : ∃ V, V = (((u7.setCell ⟨w.heap.size + 1 + 1, 0, none⟩ (.slice av xs.length cv)).setCell ⟨w.heap.size + 1 + 1 + 1, 0, none⟩ (.int .i64 (((t : Int) + (tot xs : Int)) % 16))).setCell ⟨w.heap.size + 1 + 1 + 1 + 1, 0, none⟩ (.int .i64 0)) := ⟨_, rfl⟩
    rw [← hV]
    have hot : ∀ k, k ≠ w.heap.size + 1 + 1 → k ≠ w.heap.size + 1 + 1 + 1 → k ≠ w.heap.size + 1 + 1 + 1 + 1 → V.heap[k]? = u7.heap[k]? := fun k h1 h2 h3 => by
      rw [hV]
      exact (heap_setCell_other _ ⟨w.heap.size + 1 + 1 + 1 + 1, 0, none⟩ k _ h3).trans ((heap_setCell_other _ ⟨w.heap.size + 1 + 1 + 1, 0, none⟩ k _ h2).trans (heap_setCell_other _ ⟨w.heap.size + 1 + 1, 0, none⟩ k _ h1))
    have hDl := (Array.getElem?_eq_some_iff.1 hdf).1
    have hu2 := BU2.size
    have hT9 := HT.out
    have hK' : V.heap[D']? = some (.deferred (some [])) := (hot D' (by omega) (by omega) (by omega)).trans ((BW.block D' hDl).trans hdf)
    have q2 : Box u7 (w.heap.size + 1 + 1) #[.slice none 0 0] 26 := p2.below BW
    have q3 : Box u7 (w.heap.size + 1 + 1 + 1) #[.int .i64 0] 3 := p3.below BW
    have q4 : Box u7 (w.heap.size + 1 + 1 + 1 + 1) #[.int .i64 0] 23 := p4.below BW
    have t2 : V.cell? ⟨w.heap.size + 1 + 1, 0, none⟩ = some (.slice av xs.length cv) := by
      rw [hV]
      have h := q2.store 0 (.slice av xs.length cv)
      simp at h
      have h' := World.cell?_of_block (a := ⟨w.heap.size + 1 + 1, 0, none⟩) ((heap_setCell_other _ ⟨w.heap.size + 1 + 1 + 1 + 1, 0, none⟩ (w.heap.size + 1 + 1) (.int .i64 0) (by show w.heap.size + 1 + 1 ≠ w.heap.size + 1 + 1 + 1 + 1; omega)).trans (heap_setCell_other (u7.setCell ⟨w.heap.size + 1 + 1, 0, none⟩ (.slice av xs.length cv)) ⟨w.heap.size + 1 + 1 + 1, 0, none⟩ (w.heap.size + 1 + 1) (.int .i64 (((t : Int) + (tot xs : Int)) % 16)) (by show w.heap.size + 1 + 1 ≠ w.heap.size + 1 + 1 + 1; omega)))
      exact h'.trans (Dk.Box.cell h 0)
    have t3 : V.cell? ⟨w.heap.size + 1 + 1 + 1, 0, none⟩ = some (.int .i64 (((t : Int) + (tot xs : Int)) % 16)) := by
      rw [hV]
      have q3' : Box (u7.setCell ⟨w.heap.size + 1 + 1, 0, none⟩ (.slice av xs.length cv)) (w.heap.size + 1 + 1 + 1) #[.int .i64 0] 3 := (heap_setCell_other u7 ⟨w.heap.size + 1 + 1, 0, none⟩ (w.heap.size + 1 + 1 + 1) _ (by show w.heap.size + 1 + 1 + 1 ≠ w.heap.size + 1 + 1; omega)).trans q3
      have h := q3'.store 0 (.int .i64 (((t : Int) + (tot xs : Int)) % 16))
      simp at h
      exact (World.cell?_of_block (a := ⟨w.heap.size + 1 + 1 + 1, 0, none⟩) (heap_setCell_other _ ⟨w.heap.size + 1 + 1 + 1 + 1, 0, none⟩ (w.heap.size + 1 + 1 + 1) (.int .i64 0) (by show w.heap.size + 1 + 1 + 1 ≠ w.heap.size + 1 + 1 + 1 + 1; omega))).trans (Dk.Box.cell h 0)
    have t4 : V.cell? ⟨w.heap.size + 1 + 1 + 1 + 1, 0, none⟩ = some (.int .i64 0) := by
      rw [hV]
      exact World.cell?_setCell_same' _ _ _ (by
        rw [World.cell?_of_block (a := ⟨w.heap.size + 1 + 1 + 1 + 1, 0, none⟩) ((heap_setCell_other _ ⟨w.heap.size + 1 + 1 + 1, 0, none⟩ (w.heap.size + 1 + 1 + 1 + 1) _ (by show w.heap.size + 1 + 1 + 1 + 1 ≠ w.heap.size + 1 + 1 + 1; omega)).trans (heap_setCell_other u7 ⟨w.heap.size + 1 + 1, 0, none⟩ (w.heap.size + 1 + 1 + 1 + 1) _ (by show w.heap.size + 1 + 1 + 1 + 1 ≠ w.heap.size + 1 + 1; omega))), q4.cell 0]
        rfl)
    have hBV : Below w.heap.size w V := by
      rw [hV]
      exact (((hbel.trans (BW.mono hbel.size)).setCell (p := ⟨w.heap.size + 1 + 1, 0, none⟩) (by show w.heap.size ≤ w.heap.size + 1 + 1; omega) _).setCell (p := ⟨w.heap.size + 1 + 1 + 1, 0, none⟩) (by show w.heap.size ≤ w.heap.size + 1 + 1 + 1; omega) _).setCell (p := ⟨w.heap.size + 1 + 1 + 1 + 1, 0, none⟩) (by show w.heap.size ≤ w.heap.size + 1 + 1 + 1 + 1; omega) _
    have hkp : ∀ k cs (ty : TypeId), Box W k cs ty → ty = 40 ∨ ty = 108 ∨ ty = 5 → (V.putObj D' (.deferred none)).heap[k]? = W.heap[k]? := fun k cs ty hb hty => by
      have hb7 := hb.below BW
      have n1 : k ≠ D' := fun e => by
        subst e
        have hb' : W.heap[k]? = some (.cells cs ty) := hb
        rw [hb'] at hdf
        cases hdf
      refine (World.putObj_heap_other n1).trans ((hot k (fun e => ?_) (fun e => ?_) (fun e => ?_)).trans (BW.block k hb.lt))
      · subst e; rcases hty with rfl | rfl | rfl <;> exact hb7.ne q2 (by decide) rfl
      · subst e; rcases hty with rfl | rfl | rfl <;> exact hb7.ne q3 (by decide) rfl
      · subst e; rcases hty with rfl | rfl | rfl <;> exact hb7.ne q4 (by decide) rfl
    have c2 := cell_kept t2 (grownBy_putObj' _ D' (.deferred none)) (fun r e => by cases e; exact ⟨_, hK', rfl⟩)
    have c3 := cell_kept t3 (grownBy_putObj' _ D' (.deferred none)) (fun r e => by cases e; exact ⟨_, hK', rfl⟩)
    have c4 := cell_kept t4 (grownBy_putObj' _ D' (.deferred none)) (fun r e => by cases e; exact ⟨_, hK', rfl⟩)
    clear hV hot t2 t3 t4
    gi_wp2
    refine ⟨by simp, .inl ⟨_, _, rfl, run_takeDeferred hK', ?_⟩⟩
    refine ⟨.tuple #[.slice av xs.length cv, .int .i64 (((t : Int) + (tot xs : Int)) % 16), .int .i64 0], ?_, ⟨xs, av, cv, by push_cast; rfl, hR, J.owns_kept hown (fun k e => ?_), fun y hy => (hall y hy).kept (fun k cs ty hb ht => hkp k cs ty hb (.inr ht)), hBV.trans (belowK_b (w := w) (Nat.le_refl _) _ D' _ _ (by omega) hK' rfl rfl)⟩⟩
    · simp [results, Tryz.f6, go_sem, c2, c3, c4]
    · obtain ⟨_, cur, hb⟩ := Rc.owns_block hown k e
      exact hkp k _ _ hb (.inl rfl)
end Go.Proofs.YtkhejjddmbegaaaGreat.S

/-
  What Groups answers where an argument is not right.
-/
namespace Go.Proofs.YtkhejjddmbegaaaGreat.S
open Go.RowKit Go.Shelf
open Go.Proofs.YtkhejjddmbegaaaGreat.Dk (Box)
attribute [local go_sem] Oper.semAt_some

/-- a super that may begin a ring of 64 blocks -/
def goodS (B E S t : Int) : Prop := B = 64 ∧ (0 ≤ t ∧ t ≤ 15) ∧ (1 ≤ E ∧ E ≤ 8388608) ∧ 1 ≤ S ∧ S ≤ 549755813888
theorem _root_.Go.Proofs.YtkhejjddmbegaaaGreat.Dk.Box.set_other {W : World} {g b : Nat} {cs : Array Value} {ty : TypeId} (h : Box W g cs ty) (hne : g ≠ b) (j : Nat) (v : Value) : Box (W.setCell ⟨b, j, none⟩ v) g cs ty := (heap_setCell_other W ⟨b, j, none⟩ g v hne).trans h
theorem right_no (B E S t : Int) (w : World) (h : ¬ ((0 ≤ t ∧ t ≤ 15) ∧ (1 ≤ E ∧ E ≤ 8388608) ∧ 1 ≤ S ∧ S ≤ 549755813888)) :
    Calls Tryz.prog 47 #[.agg lay, .agg #[.int .i64 B, .int .i64 E, .int .i64 S, .int .i64 t]] w fun r w' => r = .returned (.bool false) ∧ Below w.heap.size w w' := by
  have B0 := ((Below.refl w.heap.size w).alloc (Nat.le_refl _) (.cells lay 30)).alloc (by simp) (.cells #[.int .i64 B, .int .i64 E, .int .i64 S, .int .i64 t] 33)
  unfold lay at B0 ⊢
  by_cases h1 : 0 ≤ t ∧ t ≤ 15
  · by_cases h2 : 1 ≤ E ∧ E ≤ 8388608
    · have h3 : ¬ (1 ≤ S ∧ S ≤ 549755813888) := fun h3 => h ⟨h1, h2, h3⟩
      clear h
      go_enter Tryz.func47, Tryz.ntmps47
      go_wp2_with fail
      refine (within_at _ _ _ _).mono ?_
      rintro r u1 ⟨rfl, rfl⟩
      rw [decide_eq_true (by omega)]
      go_wp2_with fail
      refine (within_at _ _ _ _).mono ?_
      rintro r u1 ⟨rfl, rfl⟩
      rw [decide_eq_true h2]
      go_wp2_with fail
      refine (within_at _ _ _ _).mono ?_
      rintro r u1 ⟨rfl, rfl⟩
      rw [decide_eq_false h3]
      go_wp2_with fail
      go_ret
      exact ⟨rfl, B0⟩
    · clear h
      go_enter Tryz.func47, Tryz.ntmps47
      go_wp2_with fail
      refine (within_at _ _ _ _).mono ?_
      rintro r u1 ⟨rfl, rfl⟩
      rw [decide_eq_true (by omega)]
      go_wp2_with fail
      refine (within_at _ _ _ _).mono ?_
      rintro r u1 ⟨rfl, rfl⟩
      rw [decide_eq_false h2]
      go_wp2_with fail
      go_ret
      exact ⟨rfl, B0⟩
  · clear h
    go_enter Tryz.func47, Tryz.ntmps47
    go_wp2_with fail
    refine (within_at _ _ _ _).mono ?_
    rintro r u1 ⟨rfl, rfl⟩
    rw [decide_eq_false (by omega)]
    go_wp2_with fail
    go_ret
    exact ⟨rfl, B0⟩
theorem ahead_no {w : World} {dg : Nat} {D : Dk.DS} {F : Nat → Prop} (hd : Dk.IsDisk w dg D F) (hnb : D.nb = 64) (B E S t : Int) (hno : ¬ goodS B E S t) :
    Calls Tryz.prog 24 #[.pointer (some ⟨dg, 0, none⟩), .agg lay, .agg #[.int .i64 B, .int .i64 E, .int .i64 S, .int .i64 t]] w fun r w' => r = .returned (.int .i64 2) ∧ Below w.heap.size w w' := by
  have hq := neq41
  have B0 := ((Below.refl w.heap.size w).alloc (Nat.le_refl _) (.cells lay 30)).alloc (by simp) (.cells #[.int .i64 B, .int .i64 E, .int .i64 S, .int .i64 t] 33)
  have l0 := (Dk.Box.new w lay 30).alloc (.cells #[.int .i64 B, .int .i64 E, .int .i64 S, .int .i64 t] 33)
  have l1 : Box ((w.alloc (.cells lay 30)).alloc (.cells #[.int .i64 B, .int .i64 E, .int .i64 S, .int .i64 t] 33)) (w.heap.size + 1) #[.int .i64 B, .int .i64 E, .int .i64 S, .int .i64 t] 33 := Rg.Box.next w _ _ 33
  have c1 : Calls Tryz.prog 45 #[.pointer (some ⟨dg, 0, none⟩)] ((w.alloc (.cells lay 30)).alloc (.cells #[.int .i64 B, .int .i64 E, .int .i64 S, .int .i64 t] 33)) fun e w' => e = .returned (.int .i64 (D.nb : Int)) ∧ ((w.alloc (.cells lay 30)).alloc (.cells #[.int .i64 B, .int .i64 E, .int .i64 S, .int .i64 t] 33)) = w' := by
    obtain ⟨gd, cd, vu, ps, h⟩ := hd
    exact Dk.size_at (h.kept (fun i hi => B0.block i (h.flt i hi)) B0.size)
  rw [hnb] at c1
  have c2 := fun u => La.of_good 64 u (by decide) (by decide)
  rw [lay64] at c2
  have HR : Hid (B = 64 → ∀ u, Calls Tryz.prog 47 #[.agg lay, .agg #[.int .i64 B, .int .i64 E, .int .i64 S, .int .i64 t]] u fun r w' => r = .returned (.bool false) ∧ Below u.heap.size u w') := fun hB u => right_no B E S t u (fun h => hno ⟨hB, h⟩)
  clear hd
  unfold lay at *
  go_enter Tryz.func24, Tryz.ntmps24
  go_wp2_with fail
  refine Calls.mono c1 ?_
  rintro r u1 ⟨rfl, rfl⟩
  go_wp2_with fail
  refine Calls.mono (c2 _) ?_
  rintro r u1 ⟨rfl, b1⟩
  have B1 := B0.trans (b1.mono B0.size)
  have l2 := (l0.below b1).alloc (.cells #[.int .i64 64, .int .i64 2, .int .i64 16, .int .i64 18, .int .i64 19, .int .i64 4, .int .i64 23] 30)
  have l3 := (l1.below b1).alloc (.cells #[.int .i64 64, .int .i64 2, .int .i64 16, .int .i64 18, .int .i64 19, .int .i64 4, .int .i64 23] 30)
  have B2 := B1.alloc B1.size (.cells #[.int .i64 64, .int .i64 2, .int .i64 16, .int .i64 18, .int .i64 19, .int .i64 4, .int .i64 23] 30)
  clear b1 c1 c2 l0 l1
  have y0 := l2.cell 0
  have y1 := l2.cell 1
  have y2 := l2.cell 2
  have y3 := l2.cell 3
  have y4 := l2.cell 4
  have y5 := l2.cell 5
  have y6 := l2.cell 6
  have x0 := l3.cell 0
  have x1 := l3.cell 1
  have x2 := l3.cell 2
  have x3 := l3.cell 3
  simp at y0 y1 y2 y3 y4 y5 y6 x0 x1 x2 x3
  clear hno
  by_cases hB : B = 64
  · have c3 := HR.out hB
    subst hB
    go_wp2_with fail
    refine Calls.mono (c3 _) ?_
    rintro r u2 ⟨rfl, b2⟩
    have B3 := B2.trans (b2.mono B2.size)
    go_wp2_with fail
    go_ret
    exact ⟨rfl, B3⟩
  · go_wp2_with fail
    go_ret
    exact ⟨rfl, B2⟩
set_option maxRecDepth 100000 in
set_option maxHeartbeats 2000000 in
theorem groups_no {w : World} {dg : Nat} {D : Dk.DS} {F : Nat → Prop} (hd : Dk.IsDisk w dg D F) (hnb : D.nb = 64) (B E S t : Int) (hno : ¬ goodS B E S t) :
    Calls Tryz.prog 6 #[.pointer (some ⟨dg, 0, none⟩), .agg lay, .agg #[.int .i64 B, .int .i64 E, .int .i64 S, .int .i64 t]] w fun r w' => r = .returned (.tuple #[.slice none 0 0, .int .i64 0, .int .i64 2]) ∧ Below w.heap.size w w' := by
  refine (callsIn_wide (n := 4)).1 ?_
  have e0 : ∃ W5, W5 = (((((w.alloc (.cells #[.int .i64 64, .int .i64 2, .int .i64 16, .int .i64 18, .int .i64 19, .int .i64 4, .int .i64 23] 30)).alloc (.cells #[.int .i64 B, .int .i64 E, .int .i64 S, .int .i64 t] 33)).alloc (.cells #[.slice none 0 0] 26)).alloc (.cells #[.int .i64 0] 3)).alloc (.cells #[.int .i64 0] 23)) := ⟨_, rfl⟩
  obtain ⟨W5, hW5⟩ := e0
  have z1 : (w.alloc (.cells #[.int .i64 64, .int .i64 2, .int .i64 16, .int .i64 18, .int .i64 19, .int .i64 4, .int .i64 23] 30)).heap.size = w.heap.size + 1 := by simp
  have z2 : ((w.alloc (.cells #[.int .i64 64, .int .i64 2, .int .i64 16, .int .i64 18, .int .i64 19, .int .i64 4, .int .i64 23] 30)).alloc (.cells #[.int .i64 B, .int .i64 E, .int .i64 S, .int .i64 t] 33)).heap.size = w.heap.size + 2 := by simp
  have z3 : (((w.alloc (.cells #[.int .i64 64, .int .i64 2, .int .i64 16, .int .i64 18, .int .i64 19, .int .i64 4, .int .i64 23] 30)).alloc (.cells #[.int .i64 B, .int .i64 E, .int .i64 S, .int .i64 t] 33)).alloc (.cells #[.slice none 0 0] 26)).heap.size = w.heap.size + 3 := by simp
  have z4 : ((((w.alloc (.cells #[.int .i64 64, .int .i64 2, .int .i64 16, .int .i64 18, .int .i64 19, .int .i64 4, .int .i64 23] 30)).alloc (.cells #[.int .i64 B, .int .i64 E, .int .i64 S, .int .i64 t] 33)).alloc (.cells #[.slice none 0 0] 26)).alloc (.cells #[.int .i64 0] 3)).heap.size = w.heap.size + 4 := by simp
  have z5 : W5.heap.size = w.heap.size + 5 := by rw [hW5]; simp
  have bx0 : Box W5 w.heap.size #[.int .i64 64, .int .i64 2, .int .i64 16, .int .i64 18, .int .i64 19, .int .i64 4, .int .i64 23] 30 := by rw [hW5]; exact ((((Dk.Box.new w #[.int .i64 64, .int .i64 2, .int .i64 16, .int .i64 18, .int .i64 19, .int .i64 4, .int .i64 23] 30).alloc _).alloc _).alloc _).alloc _
  have bx1 : Box W5 (w.heap.size + 1) #[.int .i64 B, .int .i64 E, .int .i64 S, .int .i64 t] 33 := by rw [hW5, ← z1]; exact (((Dk.Box.new (w.alloc (.cells #[.int .i64 64, .int .i64 2, .int .i64 16, .int .i64 18, .int .i64 19, .int .i64 4, .int .i64 23] 30)) #[.int .i64 B, .int .i64 E, .int .i64 S, .int .i64 t] 33).alloc _).alloc _).alloc _
  have bx2 : Box W5 (w.heap.size + 2) #[.slice none 0 0] 26 := by rw [hW5, ← z2]; exact ((Dk.Box.new ((w.alloc (.cells #[.int .i64 64, .int .i64 2, .int .i64 16, .int .i64 18, .int .i64 19, .int .i64 4, .int .i64 23] 30)).alloc (.cells #[.int .i64 B, .int .i64 E, .int .i64 S, .int .i64 t] 33)) #[.slice none 0 0] 26).alloc _).alloc _
  have bx3 : Box W5 (w.heap.size + 3) #[.int .i64 0] 3 := by rw [hW5, ← z3]; exact (Dk.Box.new (((w.alloc (.cells #[.int .i64 64, .int .i64 2, .int .i64 16, .int .i64 18, .int .i64 19, .int .i64 4, .int .i64 23] 30)).alloc (.cells #[.int .i64 B, .int .i64 E, .int .i64 S, .int .i64 t] 33)).alloc (.cells #[.slice none 0 0] 26)) #[.int .i64 0] 3).alloc _
  have bx4 : Box W5 (w.heap.size + 4) #[.int .i64 0] 23 := by rw [hW5, ← z4]; exact Dk.Box.new ((((w.alloc (.cells #[.int .i64 64, .int .i64 2, .int .i64 16, .int .i64 18, .int .i64 19, .int .i64 4, .int .i64 23] 30)).alloc (.cells #[.int .i64 B, .int .i64 E, .int .i64 S, .int .i64 t] 33)).alloc (.cells #[.slice none 0 0] 26)).alloc (.cells #[.int .i64 0] 3)) #[.int .i64 0] 23
  have B5 : Below w.heap.size w W5 := by rw [hW5]; exact (((((Below.refl w.heap.size w).alloc (Nat.le_refl _) _).alloc (by simp) _).alloc (by simp; omega) _).alloc (by simp; omega) _).alloc (by simp; omega) _
  have hA := ahead_no (hd.below B5) hnb B E S t hno
  unfold lay at hA ⊢
  refine callsIn_of_wp_marks Tryz.func6 rfl trivial ?_ rfl
  simp only [Tryz.ntmps6, List.size_toArray, List.length_cons, List.length_nil, Nat.reduceAdd, Nat.reduceSub, Array.replicate_succ, Array.replicate_zero, List.push_toArray, List.append_toArray, List.nil_append, List.cons_append]
  have HZ : Hid (W5.heap.size = w.heap.size + 5) := z5
  clear z1 z2 z3 z4 z5
  have HB5 : Hid (Below w.heap.size w W5 ∧ Box W5 (w.heap.size + 2) #[.slice none 0 0] 26 ∧ Box W5 (w.heap.size + 3) #[.int .i64 0] 3 ∧ Box W5 (w.heap.size + 4) #[.int .i64 0] 23) := ⟨B5, bx2, bx3, bx4⟩
  have HD : Hid (∀ u, Below W5.heap.size W5 u → Box u w.heap.size #[.int .i64 64, .int .i64 2, .int .i64 16, .int .i64 18, .int .i64 19, .int .i64 4, .int .i64 23] 30 ∧ Box u (w.heap.size + 1) #[.int .i64 B, .int .i64 E, .int .i64 S, .int .i64 t] 33) := fun u bu => ⟨bx0.below bu, bx1.below bu⟩
  have f0 := bx0.cell 0
  have f1 := bx0.cell 1
  have f2 := bx0.cell 2
  have f3 := bx0.cell 3
  have f4 := bx0.cell 4
  have f5 := bx0.cell 5
  have f6 := bx0.cell 6
  have h0 := bx1.cell 0
  have h1 := bx1.cell 1
  have h2 := bx1.cell 2
  have h3 := bx1.cell 3
  simp only [List.getElem?_toArray, List.getElem?_cons_zero, List.getElem?_cons_succ] at f0 f1 f2 f3 f4 f5 f6 h0 h1 h2 h3
  clear B5 bx0 bx1 bx2 bx3 bx4
  have HW : Hid (∃ W, W = W5) := ⟨_, rfl⟩
  rw [hW5] at hA f0 f1 f2 f3 f4 f5 f6 h0 h1 h2 h3
  gi_wp2_with fail
  refine ⟨trivial, ?_⟩
  refine ((callsIn_wide (n := 3)).2 hA).mono ?_
  rintro r u1 ⟨rfl, b1⟩
  rw [← hW5] at b1
  clear hA f0 f1 f2 f3 f4 f5 f6 h0 h1 h2 h3
  have x2 := HB5.out.2.1.below b1
  have x3 := HB5.out.2.2.1.below b1
  have x4 := HB5.out.2.2.2.below b1
  have B6 := HB5.out.1.trans (b1.mono HB5.out.1.size)
  have g2 := x2.frozen 0
  have g3 := x3.frozen 0
  have g4 := x4.frozen 0
  have k2 := x2.cell 0
  have k3 := x3.cell 0
  have k4 := x4.cell 0
  simp at k2 k3 k4
  have n23 : w.heap.size + 1 + 1 ≠ w.heap.size + 1 + 1 + 1 := by omega
  have n24 : w.heap.size + 1 + 1 ≠ w.heap.size + 1 + 1 + 1 + 1 := by omega
  have n34 : w.heap.size + 1 + 1 + 1 ≠ w.heap.size + 1 + 1 + 1 + 1 := by omega
  have x2a := ((x2.store 0 (.slice none 0 0)).set_other (b := w.heap.size + 1 + 1 + 1) (by omega) 0 (.int .i64 0)).set_other (b := w.heap.size + 1 + 1 + 1 + 1) (by omega) 0 (.int .i64 2)
  have x3a := ((x3.set_other (b := w.heap.size + 1 + 1) (by omega) 0 (.slice none 0 0)).store 0 (.int .i64 0)).set_other (b := w.heap.size + 1 + 1 + 1 + 1) (by omega) 0 (.int .i64 2)
  have x4a := ((x4.set_other (b := w.heap.size + 1 + 1) (by omega) 0 (.slice none 0 0)).set_other (b := w.heap.size + 1 + 1 + 1) (by omega) 0 (.int .i64 0)).store 0 (.int .i64 2)
  have c2 := x2a.cell 0
  have c3 := x3a.cell 0
  have c4 := x4a.cell 0
  simp at c2 c3 c4
  have BV := ((B6.setCell (p := ⟨w.heap.size + 1 + 1, 0, none⟩) (by show w.heap.size ≤ w.heap.size + 1 + 1; omega) (.slice none 0 0)).setCell (p := ⟨w.heap.size + 1 + 1 + 1, 0, none⟩) (by show w.heap.size ≤ w.heap.size + 1 + 1 + 1; omega) (.int .i64 0)).setCell (p := ⟨w.heap.size + 1 + 1 + 1 + 1, 0, none⟩) (by show w.heap.size ≤ w.heap.size + 1 + 1 + 1 + 1; omega) (.int .i64 2)
  gi_wp2_with fail
  refine ⟨.tuple #[.slice none 0 0, .int .i64 0, .int .i64 2], ?_, rfl, BV⟩
  simp [results, Tryz.f6, go_sem, c2, c3, c4]
end Go.Proofs.YtkhejjddmbegaaaGreat.S

/-
  Blocks of one byte, blocks of two; what a quiet disk does. No program is named here.
-/
namespace Go.Proofs.YtkhejjddmbegaaaGreat.Dk

/-- the first k bytes are c, the others noughts -/
def fillK (c : UInt8) (k : Nat) : List UInt8 := (List.range 4096).map fun i => if i < k then c else 0
def fill (c : UInt8) : List UInt8 := fillK c 4096
theorem fillK_length (c : UInt8) (k : Nat) : (fillK c k).length = 4096 := by simp [fillK]
theorem fill_length (c : UInt8) : (fill c).length = 4096 := fillK_length c 4096
theorem fillK_get (c : UInt8) (k i : Nat) : (fillK c k)[i]? = if i < 4096 then some (if i < k then c else 0) else none := by
  unfold fillK
  rw [List.getElem?_map]
  by_cases h : i < 4096
  · rw [List.getElem?_range h, if_pos h]; rfl
  · rw [List.getElem?_eq_none (by simp; omega), if_neg h]; rfl
theorem fillK_zero (c : UInt8) : fillK c 0 = List.replicate 4096 0 := by
  apply List.ext_getElem?
  intro i
  rw [fillK_get, List.getElem?_replicate]
  simp
theorem fillK_set (c : UInt8) (k : Nat) (h : k < 4096) : (fillK c k).set k c = fillK c (k + 1) := by
  apply List.ext_getElem?
  intro i
  rw [List.getElem?_set, fillK_get, fillK_get, fillK_length]
  by_cases e : k = i
  · subst e
    rw [if_pos rfl, if_pos h, if_pos h, if_pos (by omega)]
  · rw [if_neg e]
    by_cases h1 : i < k
    · rw [if_pos h1, if_pos (show i < k + 1 by omega)]
    · rw [if_neg h1, if_neg (show ¬ i < k + 1 by omega)]
theorem fill_get (c : UInt8) (i : Nat) (h : i < 4096) : (fill c)[i]? = some c := by
  unfold fill
  rw [fillK_get, if_pos h, if_pos h]

/-- .. of the first k bytes those of b's sectors are b -/
def mixK (a b : UInt8) (m k : Nat) : List UInt8 := (List.range 4096).map fun i => if i < k ∧ bit m (i / 512) = true then b else a
theorem mixK_length (a b : UInt8) (m k : Nat) : (mixK a b m k).length = 4096 := by simp [mixK]
theorem mixK_get (a b : UInt8) (m k i : Nat) : (mixK a b m k)[i]? = if i < 4096 then some (if i < k ∧ bit m (i / 512) = true then b else a) else none := by
  unfold mixK
  rw [List.getElem?_map]
  by_cases h : i < 4096
  · rw [List.getElem?_range h, if_pos h]; rfl
  · rw [List.getElem?_eq_none (by simp; omega), if_neg h]; rfl
theorem mixK_zero (a b : UInt8) (m : Nat) : mixK a b m 0 = fill a := by
  apply List.ext_getElem?
  intro i
  rw [mixK_get]
  by_cases h : i < 4096
  · rw [if_pos h, fill_get a i h, if_neg (by rintro ⟨h1, _⟩; omega)]
  · rw [if_neg h, List.getElem?_eq_none (by rw [fill_length]; omega)]
theorem mixK_set (a b : UInt8) (m k : Nat) (h : k < 4096) (hb : bit m (k / 512) = true) : (mixK a b m k).set k b = mixK a b m (k + 1) := by
  apply List.ext_getElem?
  intro i
  rw [List.getElem?_set, mixK_get, mixK_get, mixK_length]
  by_cases e : k = i
  · subst e
    rw [if_pos rfl, if_pos h, if_pos h, if_pos ⟨by omega, hb⟩]
  · rw [if_neg e]
    by_cases h1 : i < k ∧ bit m (i / 512) = true
    · have h2 : i < k + 1 ∧ bit m (i / 512) = true := ⟨by omega, h1.2⟩
      simp only [if_pos h1, if_pos h2]
    · have h2 : ¬ (i < k + 1 ∧ bit m (i / 512) = true) := fun h2 => h1 ⟨by have := h2.1; omega, h2.2⟩
      simp only [if_neg h1, if_neg h2]
theorem mixK_skip (a b : UInt8) (m k : Nat) (hb : bit m (k / 512) = false) : mixK a b m (k + 1) = mixK a b m k := by
  apply List.ext_getElem?
  intro i
  rw [mixK_get, mixK_get]
  by_cases h1 : i < k ∧ bit m (i / 512) = true
  · have h2 : i < k + 1 ∧ bit m (i / 512) = true := ⟨by omega, h1.2⟩
    simp only [if_pos h1, if_pos h2]
  · have h2 : ¬ (i < k + 1 ∧ bit m (i / 512) = true) := fun h2 => by
      by_cases e : i = k
      · subst e; rw [hb] at h2; exact absurd h2.2 (by simp)
      · exact h1 ⟨by have := h2.1; omega, h2.2⟩
    simp only [if_neg h1, if_neg h2]

theorem blk_carry_all (d : List UInt8) (b : Nat) (data : List UInt8) (hb : b * 4096 + 4096 ≤ d.length) (hd : data.length = 4096) : blk (carry d b data 255) b = data := by
  apply List.ext_getElem?
  intro i
  rw [blk_get]
  by_cases h : i < 4096
  · have e : b * 4096 + i - b * 4096 = i := by omega
    have hq : i / 512 < 8 := by clear hb hd e; omega
    rw [if_pos h, carry_get d b data 255 hb hd, e, if_pos ⟨Nat.le_add_right _ _, Nat.add_lt_add_left h _, bit_all _ hq⟩]
  · rw [if_neg h, List.getElem?_eq_none (by omega)]
theorem blk_carry_other (d : List UInt8) (b n : Nat) (data : List UInt8) (m : Nat) (hb : b * 4096 + 4096 ≤ d.length) (hd : data.length = 4096) (hn : n ≠ b) : blk (carry d b data m) n = blk d n := by
  apply List.ext_getElem?
  intro i
  rw [blk_get, blk_get]
  by_cases h : i < 4096
  · rw [if_pos h, if_pos h, carry_get d b data m hb hd, if_neg (fun h1 => by have h2 := h1.1; have h3 := h1.2.1; omega)]
  · rw [if_neg h, if_neg h]
theorem blk_carry_mix (d : List UInt8) (b : Nat) (x y : UInt8) (m : Nat) (hb : b * 4096 + 4096 ≤ d.length) (hd : blk d b = fill x) : blk (carry d b (fill y) m) b = mixK x y m 4096 := by
  apply List.ext_getElem?
  intro i
  rw [blk_get, mixK_get]
  by_cases h : i < 4096
  · have e : b * 4096 + i - b * 4096 = i := by omega
    have e2 : d[b * 4096 + i]? = some x := by
      have := blk_get d b i
      rw [hd, if_pos h, fill_get x i h] at this
      exact this.symm
    rw [if_pos h, if_pos h, carry_get d b (fill y) m hb (fill_length y), e]
    by_cases hbit : bit m (i / 512) = true
    · rw [if_pos ⟨Nat.le_add_right _ _, Nat.add_lt_add_left h _, hbit⟩, if_pos ⟨h, hbit⟩, fill_get y i h]
    · rw [if_neg (fun q => hbit q.2.2), if_neg (fun q => hbit q.2), e2]
  · rw [if_neg h, if_neg h]
theorem blk_nought (n b : Nat) (h : b * 4096 + 4096 ≤ n) : blk (List.replicate n 0) b = fill 0 := by
  apply List.ext_getElem?
  intro i
  rw [blk_get]
  by_cases hi : i < 4096
  · rw [if_pos hi, fill_get 0 i hi, List.getElem?_replicate, if_pos (by omega)]
  · rw [if_neg hi, List.getElem?_eq_none (by rw [fill_length]; omega)]

/-- a disk with its power on, and nothing armed -/
def DS.quiet (D : DS) : Prop := D.gone = false ∧ D.arm = ⟨false, 0⟩ ∧ D.fail = ⟨false, 0⟩
theorem DS.quiet.operE {D : DS} (h : D.quiet) : D.operE = 0 := by
  obtain ⟨h1, h2, h3⟩ := h
  simp [DS.operE, h1, h2, h3, Fuse.stops]
theorem DS.quiet.oper {D : DS} (h : D.quiet) : D.oper = D := by
  obtain ⟨nb, dur, uf, n, gone, arm, fail⟩ := D
  obtain ⟨h1, h2, h3⟩ := h
  dsimp only at h1 h2 h3
  subst h1 h2 h3
  rfl
theorem DS.quiet.write {D : DS} (h : D.quiet) (n : Nat) (b : List UInt8) (hn : n < D.nb) (hb : b.length = 4096) : D.write (n : Int) b = { D with uf := D.uf ++ [(n, b)], n := D.n + 1 } := by
  have hh : D.has (n : Int) = true := by simp [DS.has]; omega
  unfold DS.write
  rw [hh, h.operE, h.oper, hb]
  simp
theorem DS.quiet.writeE {D : DS} (h : D.quiet) (n : Nat) (b : List UInt8) (hn : n < D.nb) (hb : b.length = 4096) : D.writeE (n : Int) b = 0 := by
  have hh : D.has (n : Int) = true := by simp [DS.has]; omega
  unfold DS.writeE
  rw [hh, h.operE, hb]
  simp
theorem DS.quiet.flush {D : DS} (h : D.quiet) : D.flush = { D with dur := D.image, uf := [] } := by
  unfold DS.flush
  rw [if_pos h.operE, h.oper]
theorem DS.new_quiet (nb : Nat) (d : List UInt8) : (DS.new nb d).quiet := ⟨rfl, rfl, rfl⟩
theorem DS.crash_quiet (D : DS) (ks : List Bool) (t : Int) (m : Nat) : (D.crash ks t m).quiet := ⟨rfl, rfl, rfl⟩
end Go.Proofs.YtkhejjddmbegaaaGreat.Dk

/-
  What the laws' own helpers do: filled, mixed, has, SameInts.
-/
namespace Go.Proofs.YtkhejjddmbegaaaGreat.Dk
open Go.RowKit

theorem nought_fill (c : UInt8) : nought 4096 = fillK c 0 := by rw [fillK_zero]; rfl

theorem and_i64 (a : Nat) (ha : a < 256) : bits .and .i64 (a : Int) 1 = ((a % 2 : Nat) : Int) := by
  have h := bits_mask .i64 63 (by decide) (fun n h0 h1 => by rw [IntKind.wrap_i64]; omega) 1 (by decide) (a : Int) (by omega) (by omega)
  simpa using h
theorem bitJ (m k : Nat) (hm : m < 256) : (bits .and .i64 ((m : Int) / 2 ^ k) 1 == 1) = bit m k := by
  unfold bit
  have e : ((m : Int) / 2 ^ k) = ((m / 2 ^ k : Nat) : Int) := by push_cast; rfl
  rw [e, and_i64 _ (Nat.lt_of_le_of_lt (Nat.div_le_self _ _) hm)]
  rcases Nat.mod_two_eq_zero_or_one (m / 2 ^ k) with h | h <;> rw [h] <;> rfl

end Go.Proofs.YtkhejjddmbegaaaGreat.Dk

/-
  SameInts.
-/
namespace Go.Proofs.YtkhejjddmbegaaaGreat.Dk
open Go.RowKit

/-- These whole numbers lie where a says (of none nothing is asked). -/
def RdI (w : World) (a : Option Addr) (zs : List Int) : Prop :=
  0 < zs.length → ∃ b o, a = some ⟨b, o, none⟩ ∧ ∀ j (h : j < zs.length), w.cell? ⟨b, o + j, none⟩ = some (.int .i64 zs[j])
theorem RdI.below {B : Nat} {w w' : World} {a : Option Addr} {zs : List Int} (h : RdI w a zs) (hb : Below B w w') (hB : w.heap.size ≤ B) : RdI w' a zs := fun hp => by
  obtain ⟨b, o, ha, hc⟩ := h hp
  refine ⟨b, o, ha, fun j hj => ?_⟩
  have hlt : b < w.heap.size := block_lt_of_cell (hc j hj)
  rw [hb.cell (p := ⟨b, o + j, none⟩) (Nat.lt_of_lt_of_le hlt hB)]
  exact hc j hj

end Go.Proofs.YtkhejjddmbegaaaGreat.Dk

/-
  awake: the chapter's first example.
-/
namespace Go.Proofs.YtkhejjddmbegaaaGreat.Dk
open Go.RowKit

/-- a disk of two blocks of noughts, with these writes -/
def two (Z : List UInt8) (uf : List (Nat × List UInt8)) (n : Nat) : DS := ⟨2, Z, uf, n, false, ⟨false, 0⟩, ⟨false, 0⟩⟩
theorem two_quiet (Z : List UInt8) (uf : List (Nat × List UInt8)) (n : Nat) : (two Z uf n).quiet := ⟨rfl, rfl, rfl⟩
theorem two_write (Z : List UInt8) (uf : List (Nat × List UInt8)) (n b : Nat) (B : Int) (x : List UInt8) (hB : B = (b : Int)) (hb : b < 2) (hx : x.length = 4096) : (two Z uf n).write B x = two Z (uf ++ [(b, x)]) (n + 1) := by
  subst hB
  rw [(two_quiet Z uf n).write b x hb hx]
  rfl
theorem two_writeE (Z : List UInt8) (uf : List (Nat × List UInt8)) (n b : Nat) (B : Int) (x : List UInt8) (hB : B = (b : Int)) (hb : b < 2) (hx : x.length = 4096) : (two Z uf n).writeE B x = 0 := by
  subst hB
  exact (two_quiet Z uf n).writeE b x hb hx

theorem IsDisk.apart {w : World} {g g' : Nat} {D D' : DS} {F F' : Nat → Prop} (_h : IsDisk w g D F) (_h' : IsDisk w g' D' F') (hd : ∀ i, F i → ¬ F' i) : ∀ i, F' i → ¬ F i := fun i h1 h2 => hd i h2 h1

theorem stand_empty (D : DS) (h : D.uf = []) (n : Nat) : D.stand n = blk D.dur n := by
  unfold DS.stand
  rw [h]
  rfl

theorem awake_d (Z : List UInt8) (hZ : Z = nought (2 * 4096)) (fA fB : List UInt8) (hA : fA = fill 65) (hB : fB = fill 66) :
    ((two Z [(0, fA), (0, fB), (1, fA)] 3).crash [true] (-1) 0).stand 0 = fA ∧ ((two Z [(0, fA), (0, fB), (1, fA)] 3).crash [true] (-1) 0).stand 1 = fill 0 ∧ ((two Z [(0, fA), (0, fB), (1, fA)] 3).copy.crash [] 1 3).stand 0 = mixK 0 66 3 4096 := by
  have lZ : Z.length = 8192 := by rw [hZ, nought_length]
  have lA : fA.length = 4096 := by rw [hA, fill_length]
  have e1 : ((two Z [(0, fA), (0, fB), (1, fA)] 3).crash [true] (-1) 0).dur = carry Z 0 fA 255 := rfl
  have e2 : ((two Z [(0, fA), (0, fB), (1, fA)] 3).copy.crash [] 1 3).dur = carry Z 0 fB 3 := rfl
  have z0 : blk Z 0 = fill 0 := by rw [hZ]; exact blk_nought _ _ (by omega)
  have z1 : blk Z 1 = fill 0 := by rw [hZ]; exact blk_nought _ _ (by omega)
  refine ⟨?_, ?_, ?_⟩
  · rw [stand_empty _ rfl, e1, blk_carry_all Z 0 fA (by omega) lA]
  · rw [stand_empty _ rfl, e1, blk_carry_other Z 0 1 fA 255 (by omega) lA (by omega), z1]
  · rw [stand_empty _ rfl, e2, hB, blk_carry_mix Z 0 0 66 3 (by omega) z0]

end Go.Proofs.YtkhejjddmbegaaaGreat.Dk

/-
  The calls of a disk, for scripts: each leaves a disk that lies apart.
-/
namespace Go.Proofs.YtkhejjddmbegaaaGreat.Dk
open Go.RowKit

/-- a disk of one's own, made since w0 -/
def At (w0 w : World) (g : Nat) (D : DS) : Prop := ∃ F : Nat → Prop, IsDisk w g D F ∧ (∀ i, F i → w0.heap.size ≤ i) ∧ Below w0.heap.size w0 w
/-- and a block's bytes beside it -/
def At2 (w0 w : World) (g : Nat) (D : DS) (ga : Nat) (x : List UInt8) : Prop := ∃ F : Nat → Prop, IsDisk w g D F ∧ (∀ i, F i → w0.heap.size ≤ i) ∧ Below w0.heap.size w0 w ∧ ¬ F ga ∧ Own w ga x

theorem At.bel {w0 w : World} {g : Nat} {D : DS} (h : At w0 w g D) : Below w0.heap.size w0 w := by obtain ⟨_, _, _, h⟩ := h; exact h
theorem At.below {w0 w w' : World} {g : Nat} {D : DS} (h : At w0 w g D) (b : Below w.heap.size w w') : At w0 w' g D := by
  obtain ⟨F, hd, hF, B⟩ := h
  exact ⟨F, hd.below b, hF, B.trans (b.mono B.size)⟩

theorem At2.write {w0 w : World} {g : Nat} {D : DS} {ga : Nat} {x : List UInt8} (h : At2 w0 w g D ga x) (n : Int) (er : Nat) (ER : Int) (D' : DS) (hx : x.length = 4096) (hlim : writeF D) (hE : D.writeE n x = er) (hER : ER = (er : Int)) (hD : D.write n x = D') :
    Calls Tryz.prog 10 #[.pointer (some ⟨g, 0, none⟩), .int .i64 n, .slice (some ⟨ga, 0, none⟩) 4096 4096] w fun e w' => e = .returned (.int .i64 ER) ∧ At w0 w' g D' := by
  obtain ⟨F, hd, hF, B, hn, o⟩ := h
  subst hD hER hE
  refine (write_at hd n (some ⟨ga, 0, none⟩) 4096 4096 x hx hlim o.rd (fun ad h => by cases h; exact hn)).mono ?_
  rintro e w' ⟨rfl, ⟨F', hd', hF'⟩, u⟩
  have hz := B.size
  exact ⟨rfl, F', hd', fun i hi => by rcases hF' i hi with h | h; exact hF i h; omega, B.trans (u.below hF hz)⟩

theorem At.writeNil {w0 w : World} {g : Nat} {D : DS} (h : At w0 w g D) (n : Int) (er : Nat) (ER : Int) (D' : DS) (hlim : writeF D) (hE : D.writeE n [] = er) (hER : ER = (er : Int)) (hD : D.write n [] = D') :
    Calls Tryz.prog 10 #[.pointer (some ⟨g, 0, none⟩), .int .i64 n, .slice none 0 0] w fun e w' => e = .returned (.int .i64 ER) ∧ At w0 w' g D' := by
  obtain ⟨F, hd, hF, B⟩ := h
  subst hD hER hE
  refine (write_at hd n none 0 0 [] rfl hlim (Rd.nil _ _) (fun ad h => by cases h)).mono ?_
  rintro e w' ⟨rfl, ⟨F', hd', hF'⟩, u⟩
  have hz := B.size
  exact ⟨rfl, F', hd', fun i hi => by rcases hF' i hi with h | h; exact hF i h; omega, B.trans (u.below hF hz)⟩

theorem At.flush {w0 w : World} {g : Nat} {D : DS} (h : At w0 w g D) (er : Nat) (ER : Int) (D' : DS) (hE : D.operE = er) (hER : ER = (er : Int)) (hD : D.flush = D') :
    Calls Tryz.prog 13 #[.pointer (some ⟨g, 0, none⟩)] w fun e w' => e = .returned (.int .i64 ER) ∧ At w0 w' g D' := by
  obtain ⟨F, hd, hF, B⟩ := h
  subst hD hER hE
  refine (flush_at hd).mono ?_
  rintro e w' ⟨rfl, hd', u⟩
  exact ⟨rfl, F, hd', hF, B.trans (u.below hF B.size)⟩

theorem At.arm {w0 w : World} {g : Nat} {D : DS} (h : At w0 w g D) (n : Int) (hn : n ≤ 9223372036854775807) (er : Nat) (ER : Int) (D' : DS) (hE : armE n = er) (hER : ER = (er : Int)) (hD : D.armed n = D') :
    Calls Tryz.prog 12 #[.pointer (some ⟨g, 0, none⟩), .int .i64 n] w fun e w' => e = .returned (.int .i64 ER) ∧ At w0 w' g D' := by
  obtain ⟨F, hd, hF, B⟩ := h
  subst hD hER hE
  refine (arm_at hd n hn).mono ?_
  rintro e w' ⟨rfl, hd', u⟩
  exact ⟨rfl, F, hd', hF, B.trans (u.below hF B.size)⟩

theorem At.size {w0 w : World} {g : Nat} {D : DS} (h : At w0 w g D) (n : Nat) (N : Int) (hN : N = (n : Int)) (hD : D.nb = n) :
    Calls Tryz.prog 45 #[.pointer (some ⟨g, 0, none⟩)] w fun e w' => e = .returned (.int .i64 N) ∧ w = w' := by
  obtain ⟨F, hd, _⟩ := h
  subst hN hD
  exact size_of hd
theorem At.readBad {w0 w : World} {g : Nat} {D : DS} (h : At w0 w g D) (n : Int) (er : Nat) (ER : Int) (hE : D.readE n = er) (hER : ER = (er : Int)) (h0 : er ≠ 0) :
    Calls Tryz.prog 9 #[.pointer (some ⟨g, 0, none⟩), .int .i64 n] w fun e w' => e = .returned (.tuple #[.slice none 0 0, .int .i64 ER]) ∧ w = w' := by
  obtain ⟨F, hd, _⟩ := h
  subst hER hE
  exact read_bad hd n h0
theorem At.image {w0 w : World} {g : Nat} {D : DS} (h : At w0 w g D) (n : Nat) (hn : D.nb * 4096 = n) :
    Calls Tryz.prog 17 #[.pointer (some ⟨g, 0, none⟩)] w fun e w' => ∃ gi ci, e = .returned (.slice (some ⟨gi, 0, none⟩) n ci) ∧ At w0 w' g D := by
  have h1 := h
  obtain ⟨F, hd, _⟩ := h
  subst hn
  refine (image_at hd).mono ?_
  rintro e w' ⟨gi, ci, rfl, _, _, b⟩
  exact ⟨gi, ci, rfl, h1.below b⟩
end Go.Proofs.YtkhejjddmbegaaaGreat.Dk

/-
  Made: so many bytes, out of a number.
-/
namespace Go.Proofs.YtkhejjddmbegaaaGreat.Dk
open Go.RowKit

def nx (x : Int) : Int := IntKind.u64.wrap (IntKind.u64.wrap (x * 2862933555777941757) + 3037000493)
/-- the number behind k bytes -/
def seedAt (s : Int) : Nat → Int
  | 0 => nx (IntKind.u64.wrap s)
  | k + 1 => if k % 8 = 0 then nx (seedAt s k) else seedAt s k
def byteAt (s : Int) (k : Nat) : UInt8 := UInt8.ofNat (seedAt s (k + 1) / 1099511627776 % 256).toNat
def madeK (s : Int) (n : Nat) : Nat → List UInt8
  | 0 => nought n
  | k + 1 => (madeK s n k).set k (byteAt s k)
def madeL (s : Int) (n : Nat) : List UInt8 := madeK s n n
theorem madeK_length (s : Int) (n : Nat) : ∀ k, (madeK s n k).length = n
  | 0 => nought_length n
  | k + 1 => by rw [madeK, List.length_set, madeK_length s n k]
theorem byteAt_eq (s : Int) (k : Nat) : ((byteAt s k).toNat : Int) = seedAt s (k + 1) / 1099511627776 % 256 := by
  unfold byteAt
  have h1 : 0 ≤ seedAt s (k + 1) / 1099511627776 % 256 := Int.emod_nonneg _ (by decide)
  have h2 : seedAt s (k + 1) / 1099511627776 % 256 < 256 := Int.emod_lt_of_pos _ (by decide)
  rw [UInt8.toNat_ofNat']
  omega
theorem seedAt_step (s : Int) (k : Nat) (h : k % 8 = 0) : seedAt s (k + 1) = nx (seedAt s k) := by rw [seedAt, if_pos h]
theorem seedAt_same (s : Int) (k : Nat) (h : ¬ k % 8 = 0) : seedAt s (k + 1) = seedAt s k := by rw [seedAt, if_neg h]
theorem nx_range (x : Int) : 0 ≤ nx x ∧ nx x ≤ 18446744073709551615 := by unfold nx; rw [IntKind.wrap_u64]; omega
theorem seedAt_range (s : Int) : ∀ k, 0 ≤ seedAt s k ∧ seedAt s k ≤ 18446744073709551615
  | 0 => nx_range _
  | k + 1 => by rw [seedAt]; split; exact nx_range _; exact seedAt_range s k

set_option maxRecDepth 100000 in
set_option maxHeartbeats 2000000 in
theorem made_at (s : Int) (n : Nat) (w : World) (hn : n ≤ 1000000) :
    Calls Tryz.prog 52 #[.int .i64 s, .int .i64 (n : Int)] w fun e w' => e = .returned (.slice (some ⟨w.heap.size, 0, none⟩) n n) ∧ Own w' w.heap.size (madeL s n) ∧ Below w.heap.size w w' := by
  have hm : ∀ u : World, (Instr.makeSlice 41 (.int .i64 (n : Int)) (.int .i64 (n : Int))).run Tryz.prog u = .ok (.slice (some ⟨u.heap.size, 0, none⟩) n n) (u.alloc (.cells (bcs (madeK s n 0)).toArray 5)) := make_run n (by omega)
  have o0 := own_lit w (madeK s n 0)
  have B0 := (Below.refl w.heap.size w).alloc (Nat.le_refl _) (.cells (bcs (madeK s n 0)).toArray 5)
  obtain ⟨U, hU⟩ : ∃ U, U = w.alloc (.cells (bcs (madeK s n 0)).toArray 5) := ⟨_, rfl⟩
  rw [← hU] at o0 B0
  have HU : Hid _ := hU
  clear hU
  go_enter Tryz.func52, Tryz.ntmps52
  go_wp2_with fail
  rw [← HU.out]
  go_loopw [6, 7] (fun x i wr => ∃ k : Nat, k ≤ n ∧ x = .int .u64 (seedAt s k) ∧ i = .int .i64 k ∧ Own wr w.heap.size (madeK s n k) ∧ Below w.heap.size w wr) (fun _ i _ => n - (intOf i).toNat)
  case atStart => exact ⟨0, Nat.zero_le _, rfl, rfl, o0, B0⟩
  case round =>
    obtain ⟨k, hk, rfl, rfl, o, B⟩ := hrel
    clear o0 B0 hm HU
    by_cases hlt : k < n
    · have hlt2 : (k : Int) < (n : Int) := by omega
      have c0 := o.cell k (by rw [madeK_length]; exact hlt)
      have f0 := o.frozen k
      have o1 := o.store k (byteAt s k)
      have B1 := B.setCell (p := ⟨w.heap.size, k, none⟩) (Nat.le_refl _) (.int .u8 ((byteAt s k).toNat : Int))
      generalize ((madeK s n k)[k]'(by rw [madeK_length]; exact hlt)) = q at c0
      have o1' : Own _ w.heap.size (madeK s n (k + 1)) := o1
      clear o1
      rw [byteAt_eq] at o1' B1
      have r0 := seedAt_range s k
      by_cases h8 : k % 8 = 0
      · have e8 : ((k : Int) % 8 == 0) = true := by simp; omega
        rw [seedAt_step s k h8] at o1' B1
        unfold nx at o1' B1
        have Hs : Hid _ := seedAt_step s k h8
        clear h8
        go_wp2
        go_roundw
        case rel => exact ⟨k + 1, by omega, by rw [Hs.out]; rfl, by go_num, o1', B1⟩
        case measure => simp [intOf]; omega
      · have e8 : ((k : Int) % 8 == 0) = false := by simp; omega
        rw [seedAt_same s k h8] at o1' B1
        have Hs : Hid _ := seedAt_same s k h8
        clear h8
        go_wp2
        go_roundw
        case rel => exact ⟨k + 1, by omega, by rw [Hs.out], by go_num, o1', B1⟩
        case measure => simp [intOf]; omega
    · have hkn : k = n := by omega
      subst k
      go_wp2
      go_ret
      exact ⟨rfl, o, B⟩
end Go.Proofs.YtkhejjddmbegaaaGreat.Dk
