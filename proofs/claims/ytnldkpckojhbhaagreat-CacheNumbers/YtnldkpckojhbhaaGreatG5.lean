/-
  JPut, JOpen, JFlush, RgRing, RgAsk, RgClos, RgCalls, RgPut, JApp, JAppF, JWrite, JWrite2, JState, JAppOk, JAppHeld, JDel, JRest, JUpTo, JRel, JGrp, DkInts, JCalls, VSmall, DkLists, SuBytes, SuPlain, SuOctets, SuCrc: put together.
-/
import Derived.Test.YtnldkpckojhbhaaGreatG4
import Derived.Test.YtnldkpckojhbhaaGreatLaOf
import Derived.Deep.RegionHeld3
import Derived.Test.YtnldkpckojhbhaaGreatRows
import Derived.WalkKit
import Derived.WalkSpells
import Derived.WalkLawsBesides
import Derived.Laws.BytesArg
import Derived.ProofKit
import Derived.Laws.StructEq
import Derived.BigQuiet
import Derived.Deep.RegionWith
import Derived.Deep.Cut
import Derived.Deep.AppendLies
import Derived.Shelf.Slices.Cells
import Derived.Deep.QuietTactic
import Derived.Laws.AppendOwnNone
import Derived.Laws.CopyOwn
/-
  What is asked ahead of an Append: the group is put, and its blocks must fit.
-/
namespace Go.Proofs.YtnldkpckojhbhaaGreat.J
open Go.RowKit
open Go.Proofs.YtnldkpckojhbhaaGreat.Dk (Box)

def New (B : Nat) (w : World) (gl : Nat) (bs : List (List UInt8)) : Prop :=
  B ≤ gl ∧ gl < w.heap.size ∧ ∀ k (h : k < bs.length), ∃ q c, w.cell? ⟨gl, k, none⟩ = some (.slice (some ⟨q, 0, none⟩) 4096 c) ∧ (bs[k]).length = 4096 ∧ Dk.Rd w (some ⟨q, 0, none⟩) bs[k] ∧ B ≤ q ∧ q < w.heap.size

theorem New.kept {B gl : Nat} {w w' : World} {bs : List (List UInt8)} (h : New B w gl bs) (hs : w.heap.size ≤ w'.heap.size) (hk : ∀ k, B ≤ k → k < w.heap.size → w'.heap[k]? = w.heap[k]?) : New B w' gl bs := by
  obtain ⟨h1, h2, h3⟩ := h
  refine ⟨h1, by omega, fun k hkl => ?_⟩
  obtain ⟨q, c, a1, a2, a3, a4, a5⟩ := h3 k hkl
  refine ⟨q, c, (World.cell?_of_block (hk gl h1 h2)).trans a1, a2, fun hp => ?_, a4, by omega⟩
  obtain ⟨b, o, e, hc⟩ := a3 hp
  refine ⟨b, o, e, fun j hj => ?_⟩
  simp at e
  obtain ⟨rfl, rfl⟩ := e
  exact (World.cell?_of_block (a := ⟨q, 0 + j, none⟩) (hk q a4 a5)).trans (hc j hj)

theorem put_new (e s : Int) (a : Option Addr) (n cap : Nat) (is : List (Int × List UInt8)) (w : World) (hl : is.length = n) (hI : Rc.Imgs w a is) (hok : Rc.okGroup e s is) :
    Calls Tryz.prog 150 #[.agg #[.int .i64 e, .int .i64 s, .slice a n cap]] w fun r w' => ∃ gl cl, r = .returned (.tuple #[.slice (some ⟨gl, 0, none⟩) (n + 1) cl, .int .i64 0]) ∧ New w.heap.size w' gl (Rc.putL e.toNat s.toNat is) ∧ Below w.heap.size w w' := by
  have hst := (Rc.okStamp_iff _ _).1 hok.1.1
  obtain ⟨E, rfl⟩ : ∃ E : Nat, e = (E : Int) := ⟨e.toNat, by omega⟩
  obtain ⟨S, rfl⟩ : ∃ S : Nat, s = (S : Int) := ⟨s.toNat, by omega⟩
  have hlen := Rc.is_length hok
  refine (Rc.put_in E S a n cap is w hl hI hok (by omega) (by omega)).mono ?_
  rintro r w' ⟨gl, cl, h0, ps, rfl, hgl, ho, hr, _, hB0, hj, hm, b⟩
  have hplen : ps.length = n := by rw [← hl, ← hm]; simp
  rw [Rc.esOf_entL, hm] at hr
  refine ⟨gl, cl, rfl, ⟨hgl, ?_, fun j hjl => ?_⟩, b⟩
  · rcases ho.2 with ⟨h1, _⟩ | ⟨g, cap, cur, h1, _, hg2, hnc, hcm, hcs, ht⟩
    · cases h1
    · injection h1 with h1
      injection h1 with h1
      injection h1 with h1
      subst h1
      exact (Array.getElem?_eq_some_iff.1 hg2).1
  have hjn : j < n + 1 := by simpa [Rc.putL, hl] using hjl
  have cell : w'.cell? ⟨gl, j, none⟩ = (.slice (some ⟨h0, 0, none⟩) 4096 4096 :: Rc.rowC ps)[j]? := by
    rcases ho.2 with ⟨h1, _⟩ | ⟨g, cap, cur, h1, _, hg2, hnc, hcm, hcs, ht⟩
    · cases h1
    · injection h1 with h1
      injection h1 with h1
      injection h1 with h1
      subst h1
      have hB : Box w' gl cur 37 := hg2
      rw [hB.cell j, ← ht, List.getElem?_take, if_pos (by omega)]
      simp
  cases j with
  | zero =>
    have e0 : (Rc.putL (E : Int).toNat (S : Int).toNat is)[0] = Rc.headB E S (Rc.entL (Rc.mark E S) is) := rfl
    have h4 : (Rc.headB E S (Rc.entL (Rc.mark E S) is)).length = 4096 := Rc.headB_length (Rc.bodyB_length _ (Rc.entL_len hok) (by rw [Rc.entL_length]; exact (Rc.is_length hok).2))
    rw [e0]
    exact ⟨h0, 4096, by rw [cell]; rfl, h4, hr.rd, hB0, hr.lt⟩
  | succ i =>
    have hi : i < ps.length := by omega
    have hii : i < is.length := by omega
    have e1 : (Rc.putL (E : Int).toNat (S : Int).toNat is)[i + 1] = Rc.stB (Rc.mark E S) (is[i]).2 := by simp [Rc.putL]
    have e2 : (is[i]).2 = (ps[i]).xs := by subst hm; simp
    obtain ⟨q1, _, q3, _⟩ := hj.rows ps[i] (List.getElem_mem hi)
    have hd4 : (is[i]).2.length = 4096 := hok.2 (is[i]) (List.getElem_mem hii)
    have h4 := Rc.stB_length (Rc.mark E S) (is[i]).2 hd4 (Rc.mark_length E S)
    rw [← e2] at q1
    rw [e1]
    exact ⟨(ps[i]).h, (ps[i]).c, by rw [cell, List.getElem?_cons_succ]; exact Rc.rowC_at ps i hi, h4, q1.rd, q3, q1.lt⟩

theorem upd_store {w W : World} {c : Nat} (b : Below w.heap.size w W) (v : Value) : Dk.Upd (· = c) w (W.setCell ⟨c, 0, none⟩ v) := by
  have g := Rc.grown_store W c 0 v
  have hz := b.size
  exact ⟨g.os.trans b.os, g.tape.trans b.tape, g.output.trans b.output, Nat.le_trans hz g.size, fun k hk hn => (g.block k (by omega) (fun e => hn (by injection e))).trans (b.block k hk)⟩

def Puts (w w' : World) (c n : Nat) (bs : List (List UInt8)) : Prop := Dk.Upd (· = c) w w' ∧ ∃ gl cl, Box w' c #[.slice (some ⟨gl, 0, none⟩) (n + 1) cl] 46 ∧ New w.heap.size w' gl bs

theorem append1_ok {w : World} {g dg a b c n cap : Nat} {al : Option Addr} {vs : Value} {J : JS} (h : Box w g (jC g dg vs J) 201) (ha : Box w a #[.pointer (some ⟨g, 0, none⟩)] 77) (hb : Box w b #[.slice al n cap] 29) (hc : Box w c #[.slice none 0 0] 46)
    (is : List (Int × List UInt8)) (hl : is.length = n) (hI : Rc.Imgs w al is) (hok : Rc.okGroup J.epoch J.next is) :
    Calls Tryz.prog 149 #[.pointer (some ⟨a, 0, none⟩), .pointer (some ⟨b, 0, none⟩), .pointer (some ⟨c, 0, none⟩)] w fun r w' => r = .returned (.int .i64 (if J.S < (n + 1 : Nat) then 232 else 0)) ∧ Puts w w' c n (Rc.putL J.epoch.toNat J.next.toNat is) := by
  obtain ⟨_, _, _, c3, c4, _, _, _, _, _, _, _⟩ := box_cells h
  have ca := ha.cell 0
  have cb := hb.cell 0
  have cc := hc.cell 0
  have fc := hc.frozen 0
  simp at ca cb cc
  have l1 := h.lt
  have l2 := ha.lt
  have l3 := hb.lt
  have l4 := hc.lt
  have n1 : a ≠ c := ha.ne hc (by decide)
  have n2 : b ≠ c := hb.ne hc (by decide)
  have n3 : g ≠ c := h.ne hc (by decide)
  have hp := fun u (bu : Below w.heap.size w u) => put_new J.epoch J.next al n cap is u hl (hI.below bu) hok
  have HS : Hid (∀ u, Below w.heap.size w u → u.cell? ⟨a, 0, none⟩ = some (.pointer (some ⟨g, 0, none⟩)) ∧ u.cell? ⟨b, 0, none⟩ = some (.slice al n cap) ∧ u.cell? ⟨g, 3, none⟩ = some (.int .i64 J.epoch) ∧ u.cell? ⟨g, 4, none⟩ = some (.int .i64 J.next)) := fun u bu =>
    ⟨(bu.cell (p := ⟨a, 0, none⟩) l2).trans ca, (bu.cell (p := ⟨b, 0, none⟩) l3).trans cb, (bu.cell (p := ⟨g, 3, none⟩) l1).trans c3, (bu.cell (p := ⟨g, 4, none⟩) l1).trans c4⟩
  have HC : Hid (∀ u, Below w.heap.size w u → u.cell? ⟨c, 0, none⟩ = some (.slice none 0 0) ∧ u.frozen? ⟨c, 0, none⟩ = false) := fun u bu =>
    ⟨(bu.cell (p := ⟨c, 0, none⟩) l4).trans cc, (World.frozen?_of_block (a := ⟨c, 0, none⟩) (bu.block c l4)).trans fc⟩
  have HT : Hid (∀ u v, Below w.heap.size w u → (u.setCell ⟨c, 0, none⟩ v).cell? ⟨a, 0, none⟩ = some (.pointer (some ⟨g, 0, none⟩)) ∧ (u.setCell ⟨c, 0, none⟩ v).cell? ⟨b, 0, none⟩ = some (.slice al n cap) ∧ (u.setCell ⟨c, 0, none⟩ v).cell? ⟨g, 3, none⟩ = some (.int .i64 J.epoch) ∧ (u.setCell ⟨c, 0, none⟩ v).cell? ⟨g, 4, none⟩ = some (.int .i64 J.next)) := fun u v bu => by
    have hz := bu.size
    obtain ⟨s1, s2, s3, s4⟩ := HS.out u bu
    have hk := fun k (hk : k < w.heap.size) (hne : k ≠ c) => (Rc.grown_store u c 0 v).block k (by omega) (fun e => hne (by injection e))
    exact ⟨(World.cell?_of_block (hk a l2 n1)).trans s1, (World.cell?_of_block (hk b l3 n2)).trans s2, (World.cell?_of_block (hk g l1 n3)).trans s3, (World.cell?_of_block (hk g l1 n3)).trans s4⟩
  have H0 : Hid (Box w g (jC g dg vs J) 201) := h
  have HB : Hid (Box w c #[.slice none 0 0] 46) := hc
  have HL : Hid (n < 32 + 1) := by have := hok.1.2.1; simp at this; show n < 32 + 1; omega
  clear h ha hb hc hI hok hl
  go_enter Tryz.func149, Tryz.ntmps149
  go_wp2_with fail
  go_region_held3 (fun u => u.cell? ⟨a, 0, none⟩ = some (.pointer (some ⟨g, 0, none⟩)) ∧ u.cell? ⟨b, 0, none⟩ = some (.slice al n cap) ∧ u.cell? ⟨g, 3, none⟩ = some (.int .i64 J.epoch) ∧ u.cell? ⟨g, 4, none⟩ = some (.int .i64 J.next))
    (first | with_reducible exact HS.out _ hb1 | with_reducible exact HT.out _ _ hb1 | go_keep)
    (first
      | (go_at_call 150; refine Calls.mono (hp _ ((Below.refl w.heap.size w).drew)) ?_; rintro r W ⟨gl, cl, rfl, hN, hw1⟩; have hb1 : Below w.heap.size w W := (Below.refl w.heap.size w).drew.trans hw1; obtain ⟨cc1, fc1⟩ := HC.out W hb1))
  have hu := upd_store (c := c) hb1 (.slice (some ⟨gl, 0, none⟩) (n + 1) cl)
  have hbc : Box (W.setCell ⟨c, 0, none⟩ (.slice (some ⟨gl, 0, none⟩) (n + 1) cl)) c #[.slice (some ⟨gl, 0, none⟩) (n + 1) cl] 46 := Box.store (cs := #[.slice none 0 0]) ((hb1.block c l4).trans HB.out) 0 _
  have hN2 : New w.heap.size (W.setCell ⟨c, 0, none⟩ (.slice (some ⟨gl, 0, none⟩) (n + 1) cl)) gl (Rc.putL J.epoch.toNat J.next.toNat is) :=
    New.kept hN (Rc.grown_store W c 0 _).size (fun k h1 h2 => (Rc.grown_store W c 0 _).block k h2 (fun e => by injection e with e; have : w.drew.heap.size = w.heap.size := rfl; omega))
  have cS := fits_at ((hu.block g l1 n3).trans H0.out) ((n + 1 : Nat) : Int)
  obtain ⟨x1, _, _, _⟩ := HT.out W (.slice (some ⟨gl, 0, none⟩) (n + 1) cl) hb1
  have x2 := hbc.cell 0
  simp at x2
  have HL2 := HL.out
  clear hN cc1 fc1 hw1
  generalize W.setCell ⟨c, 0, none⟩ (.slice (some ⟨gl, 0, none⟩) (n + 1) cl) = W' at *
  go_wp2_with fail
  refine cS.mono ?_
  rintro r w1 ⟨rfl, rfl⟩
  go_wp2_with fail
  all_goals (go_ret; exact ⟨rfl, hu, gl, cl, hbc, hN2⟩)
end Go.Proofs.YtnldkpckojhbhaaGreat.J

/-
  Open: of a disk, its own layout and numbers in bounds.
-/
namespace Go.Proofs.YtnldkpckojhbhaaGreat.J
open Go.RowKit
open Go.Proofs.YtnldkpckojhbhaaGreat.Dk (Box)

def opened (n : Nat) (e s t : Int) : JS := ⟨2, e, s, s - 1, La.lgs n, t, 0, 0, false⟩

theorem neq40 (u : World) (n : Nat) : (binOp .neq 57 (.agg (La.layA n)) (.agg (La.layA n))).run Tryz.prog u = .ok (.bool false) u := by
  have h := La.eq23 u n 2 (La.lgs n) (2 + La.lgs n) (3 + La.lgs n) ((n : Int) / 16) (3 + (La.lgs n : Int) + (n : Int) / 16) n 2 (La.lgs n) (2 + La.lgs n) (3 + La.lgs n) ((n : Int) / 16) (3 + (La.lgs n : Int) + (n : Int) / 16)
  simp [La.same7] at h
  unfold La.layA
  simp only [binOp]
  simp [Op.equal, Op.maxDepth, h]

theorem open_good {g : Nat} {w : World} {D : Dk.DS} {F : Nat → Prop} {gd cd : Nat} {vu : Value} {ps : List (Nat × Nat × Nat)} (h : Dk.Lies w g D F gd cd vu ps) (hn : 64 ≤ D.nb) (hn' : D.nb ≤ 512)
    (e s t : Int) (he : 1 ≤ e ∧ e ≤ 8388608) (hs : 1 ≤ s ∧ s ≤ 549755813888) (ht : 0 ≤ t ∧ t ≤ (La.lgs D.nb : Int) - 1) :
    Calls Tryz.prog 92 #[.pointer (some ⟨g, 0, none⟩), .agg (La.layA D.nb), .int .i64 e, .int .i64 s, .int .i64 t] w fun r w' => ∃ j, w.heap.size ≤ j ∧ r = .returned (.tuple #[.pointer (some ⟨j, 0, none⟩), .int .i64 0]) ∧ Box w' j (jC j g (.slice none 0 0) (opened D.nb e s t)) 201 ∧ Below w.heap.size w w' := by
  have hq := neq40
  have B0 := (Below.refl w.heap.size w).alloc (Nat.le_refl _) (.cells (La.layA D.nb) 57)
  have l0 := Box.new w (La.layA D.nb) 57
  have hL := La.lgs_le D.nb hn'
  have hk : Dk.Lies (w.alloc (.cells (La.layA D.nb) 57)) g D F gd cd vu ps := h.kept (fun i hi => B0.block i (h.flt i hi)) B0.size
  have hgl := h.flt g h.fg
  have c1 := Dk.size_at hk
  generalize D.nb = n at *
  have hn0 : ((n : Int) = 0) = False := by simp; omega
  unfold La.layA at l0 B0 c1 hk ⊢
  go_enter Tryz.func92, Tryz.ntmps92
  go_wp2_with fail
  refine c1.mono ?_
  rintro r w1 ⟨rfl, rfl⟩
  go_wp2_with fail
  refine (La.of_good n _ hn hn').mono ?_
  rintro r w1 ⟨rfl, b1⟩
  unfold La.layA
  have B1 := B0.trans (b1.mono B0.size)
  have l1 := l0.below b1
  clear b1 c1 hk
  have l2 := l1.alloc (.cells #[.int .i64 n, .int .i64 2, .int .i64 (La.lgs n : Int), .int .i64 (2 + (La.lgs n : Int)), .int .i64 (3 + (La.lgs n : Int)), .int .i64 ((n : Int) / 16), .int .i64 (3 + (La.lgs n : Int) + (n : Int) / 16)] 57)
  have y0 := l2.cell 0
  have y1 := l2.cell 1
  have y2 := l2.cell 2
  have y3 := l2.cell 3
  have y4 := l2.cell 4
  have y5 := l2.cell 5
  have y6 := l2.cell 6
  simp at y0 y1 y2 y3 y4 y5 y6
  unfold La.layA at hq
  go_wp2_with fail
  refine (within_at _ _ _ _).mono ?_
  rintro r w2 ⟨rfl, rfl⟩
  rw [decide_eq_true he]
  go_wp2_with fail
  refine (within_at _ _ _ _).mono ?_
  rintro r w2 ⟨rfl, rfl⟩
  rw [decide_eq_true hs]
  go_wp2_with fail
  refine (within_at _ _ _ _).mono ?_
  rintro r w2 ⟨rfl, rfl⟩
  rw [decide_eq_true ht]
  go_wp2_with fail
  have hz := B1.size
  refine bodyPost_ret (v := .tuple #[.pointer (some ⟨w1.heap.size + 1, 0, none⟩), .int .i64 0]) (by simp [results, Tryz.results92, go_sem]) rfl ⟨w1.heap.size + 1, by omega, rfl, ?_, ?_⟩
  · have q := Box.new (w1.alloc (.cells #[.int .i64 n, .int .i64 2, .int .i64 (La.lgs n : Int), .int .i64 (2 + (La.lgs n : Int)), .int .i64 (3 + (La.lgs n : Int)), .int .i64 ((n : Int) / 16), .int .i64 (3 + (La.lgs n : Int) + (n : Int) / 16)] 57)) (jC (w1.heap.size + 1) g (.slice none 0 0) (opened n e s t)) 201
    rw [show (w1.alloc (.cells #[.int .i64 n, .int .i64 2, .int .i64 (La.lgs n : Int), .int .i64 (2 + (La.lgs n : Int)), .int .i64 (3 + (La.lgs n : Int)), .int .i64 ((n : Int) / 16), .int .i64 (3 + (La.lgs n : Int) + (n : Int) / 16)] 57)).heap.size = w1.heap.size + 1 by simp] at q
    exact q
  · exact (B1.alloc B1.size _).alloc (by simp; omega) _
end Go.Proofs.YtnldkpckojhbhaaGreat.J

/-
  The rest is asked of a journal that is whole; Flush.
-/
namespace Go.Proofs.YtnldkpckojhbhaaGreat.J
open Go.RowKit
open Go.Proofs.YtnldkpckojhbhaaGreat.Dk (Box)

theorem ahead_in25 {w : World} {g dg : Nat} {vs : Value} {J : JS} (h : Box w g (jC g dg vs J) 201) (hb : J.broken = false) (Q : Int → World → Prop) (caps : Array Value)
    (hc : Calls Tryz.prog 149 caps w fun r w' => ∃ e : Int, r = .returned (.int .i64 e) ∧ Q e w') :
    Calls Tryz.prog 148 #[.pointer (some ⟨g, 0, none⟩), .func (.func 149) #[] caps] w fun r w' => ∃ e : Int, r = .returned (.int .i64 e) ∧ Q e w' := by
  obtain ⟨c0, _, _, _, _, _, _, _, _, _, _, c11⟩ := box_cells h
  rw [hb] at c11
  go_enter Tryz.func148, Tryz.ntmps148
  go_wp2_with fail
  refine (isMade_cell g w c0).mono ?_
  rintro r w1 ⟨rfl, rfl⟩
  go_wp2_with fail
  refine hc.mono ?_
  rintro r w1 ⟨e, rfl, hq⟩
  go_wp2_with fail
  go_ret
  exact ⟨e, rfl, hq⟩

end Go.Proofs.YtnldkpckojhbhaaGreat.J

/-
  ring's own calls: within, Right, Free, behind, ask with its closures, At, Reserve, Release, Put, Drop.
-/
namespace Go.Proofs.YtnldkpckojhbhaaGreat.Rg
open Go.RowKit

def Box (w : World) (g : Nat) (cs : Array Value) (t : TypeId) : Prop := w.heap[g]? = some (.cells cs t (0, 0))
theorem Box.cell {w : World} {g : Nat} {cs : Array Value} {t : TypeId} (h : Box w g cs t) (j : Nat) : w.cell? ⟨g, j, none⟩ = cs[j]? := cell_of_row w g j cs t (0, 0) h
theorem Box.lt {w : World} {g : Nat} {cs : Array Value} {t : TypeId} (h : Box w g cs t) : g < w.heap.size := (Array.getElem?_eq_some_iff.1 h).1
theorem Box.below {w w' : World} {g : Nat} {cs : Array Value} {t : TypeId} (h : Box w g cs t) (hb : Below w.heap.size w w') : Box w' g cs t := (hb.block g h.lt).trans h
theorem Box.new (w : World) (cs : Array Value) (t : TypeId) : Box (w.alloc (.cells cs t)) w.heap.size cs t := heap_alloc_new w _
theorem Box.frozen {w : World} {g : Nat} {cs : Array Value} {t : TypeId} (h : Box w g cs t) (j : Nat) : w.frozen? ⟨g, j, none⟩ = false := frozen_of_row w g j cs t h
theorem Box.store {w : World} {g : Nat} {cs : Array Value} {t : TypeId} (h : Box w g cs t) (j : Nat) (v : Value) : Box (w.setCell ⟨g, j, none⟩ v) g (cs.setIfInBounds j v) t := heap_setCell_same w g j cs t v h
theorem Box.other {w : World} {g k : Nat} {cs : Array Value} {t : TypeId} (h : Box w g cs t) (j : Nat) (v : Value) (hn : g ≠ k) : Box (w.setCell ⟨k, j, none⟩ v) g cs t := (heap_setCell_other w ⟨k, j, none⟩ g v hn).trans h
theorem Box.alloc {w : World} {g : Nat} {cs : Array Value} {t : TypeId} (h : Box w g cs t) (o : Obj) : Box (w.alloc o) g cs t := (Below.heap_alloc w o g h.lt).trans h
theorem Box.next (w : World) (o : Obj) (cs : Array Value) (t : TypeId) : Box ((w.alloc o).alloc (.cells cs t)) (w.heap.size + 1) cs t := by
  have := Box.new (w.alloc o) cs t
  simpa using this
theorem Box.next2 (w : World) (o o' : Obj) (cs : Array Value) (t : TypeId) : Box (((w.alloc o).alloc o').alloc (.cells cs t)) (w.heap.size + 2) cs t := by
  have := Box.new ((w.alloc o).alloc o') cs t
  simpa using this
theorem Box.next3 (w : World) (o o' o'' : Obj) (cs : Array Value) (t : TypeId) : Box ((((w.alloc o).alloc o').alloc o'').alloc (.cells cs t)) (w.heap.size + 3) cs t := by
  have := Box.new (((w.alloc o).alloc o').alloc o'') cs t
  simpa using this
theorem Box.all4 {w : World} {g : Nat} {v0 v1 v2 v3 : Value} {t : TypeId} (h : Box w g #[v0, v1, v2, v3] t) : w.cell? ⟨g, 0, none⟩ = some v0 ∧ w.cell? ⟨g, 1, none⟩ = some v1 ∧ w.cell? ⟨g, 2, none⟩ = some v2 ∧ w.cell? ⟨g, 3, none⟩ = some v3 :=
  ⟨h.cell 0, h.cell 1, h.cell 2, h.cell 3⟩
theorem Box.fr4 {w : World} {g : Nat} {cs : Array Value} {t : TypeId} (h : Box w g cs t) : w.frozen? ⟨g, 0, none⟩ = false ∧ w.frozen? ⟨g, 1, none⟩ = false ∧ w.frozen? ⟨g, 2, none⟩ = false ∧ w.frozen? ⟨g, 3, none⟩ = false :=
  ⟨h.frozen 0, h.frozen 1, h.frozen 2, h.frozen 3⟩
theorem Box.one {w : World} {g : Nat} {v0 : Value} {t : TypeId} (h : Box w g #[v0] t) : w.cell? ⟨g, 0, none⟩ = some v0 := h.cell 0
theorem keep {w wk w' : World} (B : Below w.heap.size w wk) (b : Below wk.heap.size wk w') : Below w.heap.size w w' := B.trans (b.mono B.size)
def R (S T U H : Int) : Prop := (1 ≤ S ∧ S ≤ 512) ∧ (0 ≤ T ∧ T ≤ S - 1) ∧ (0 ≤ U ∧ U ≤ S) ∧ (0 ≤ H ∧ H ≤ S - U)
instance (S T U H : Int) : Decidable (R S T U H) := by unfold R; infer_instance
def ri (S T U H : Int) : Array Value := #[.int .i64 S, .int .i64 T, .int .i64 U, .int .i64 H]

theorem within_at (n a b : Int) (w : World) :
    Calls Tryz.prog 200 #[.int .i64 n, .int .i64 a, .int .i64 b] w fun r w' => r = .returned (.bool (decide (a ≤ n ∧ n ≤ b))) ∧ w = w' := by
  by_cases h1 : a ≤ n
  · by_cases h2 : n ≤ b
    · rw [decide_eq_true ⟨h1, h2⟩]
      go_enter Tryz.func200, Tryz.ntmps200
      go_wp2
      go_ret
      exact ⟨rfl, rfl⟩
    · rw [decide_eq_false (fun h => h2 h.2)]
      go_enter Tryz.func200, Tryz.ntmps200
      go_wp2
      go_ret
      exact ⟨rfl, rfl⟩
  · rw [decide_eq_false (fun h => h1 h.1)]
    go_enter Tryz.func200, Tryz.ntmps200
    go_wp2
    go_ret
    exact ⟨rfl, rfl⟩

theorem right_at (S T U H : Int) (w : World) :
    Calls Tryz.prog 237 #[.agg (ri S T U H)] w fun r w' => r = .returned (.bool (decide (R S T U H))) ∧ Below w.heap.size w w' := by
  unfold ri
  have B := (Below.refl w.heap.size w).alloc (Nat.le_refl _) (.cells #[.int .i64 S, .int .i64 T, .int .i64 U, .int .i64 H] 59)
  by_cases h1 : 1 ≤ S ∧ S ≤ 512
  · by_cases h2 : 0 ≤ T ∧ T ≤ S - 1
    · by_cases h3 : 0 ≤ U ∧ U ≤ S
      · have e : decide (R S T U H) = decide (0 ≤ H ∧ H ≤ S - U) := decide_eq_decide.2 ⟨fun h => h.2.2.2, fun h => ⟨h1, h2, h3, h⟩⟩
        rw [e]
        go_enter Tryz.func237, Tryz.ntmps237
        go_wp2_with fail
        refine (within_at _ _ _ _).mono ?_
        rintro r w1 ⟨rfl, rfl⟩
        rw [decide_eq_true h1]
        go_wp2_with fail
        refine (within_at _ _ _ _).mono ?_
        rintro r w1 ⟨rfl, rfl⟩
        rw [decide_eq_true h2]
        go_wp2_with fail
        refine (within_at _ _ _ _).mono ?_
        rintro r w1 ⟨rfl, rfl⟩
        rw [decide_eq_true h3]
        go_wp2_with fail
        refine (within_at _ _ _ _).mono ?_
        rintro r w1 ⟨rfl, rfl⟩
        go_wp2_with fail
        go_ret
        exact ⟨by simp, B⟩
      · rw [decide_eq_false (p := R S T U H) (fun h => h3 h.2.2.1)]
        go_enter Tryz.func237, Tryz.ntmps237
        go_wp2_with fail
        refine (within_at _ _ _ _).mono ?_
        rintro r w1 ⟨rfl, rfl⟩
        rw [decide_eq_true h1]
        go_wp2_with fail
        refine (within_at _ _ _ _).mono ?_
        rintro r w1 ⟨rfl, rfl⟩
        rw [decide_eq_true h2]
        go_wp2_with fail
        refine (within_at _ _ _ _).mono ?_
        rintro r w1 ⟨rfl, rfl⟩
        rw [decide_eq_false h3]
        go_wp2_with fail
        go_ret
        exact ⟨rfl, B⟩
    · rw [decide_eq_false (p := R S T U H) (fun h => h2 h.2.1)]
      go_enter Tryz.func237, Tryz.ntmps237
      go_wp2_with fail
      refine (within_at _ _ _ _).mono ?_
      rintro r w1 ⟨rfl, rfl⟩
      rw [decide_eq_true h1]
      go_wp2_with fail
      refine (within_at _ _ _ _).mono ?_
      rintro r w1 ⟨rfl, rfl⟩
      rw [decide_eq_false h2]
      go_wp2_with fail
      go_ret
      exact ⟨rfl, B⟩
  · rw [decide_eq_false (p := R S T U H) (fun h => h1 h.1)]
    go_enter Tryz.func237, Tryz.ntmps237
    go_wp2_with fail
    refine (within_at _ _ _ _).mono ?_
    rintro r w1 ⟨rfl, rfl⟩
    rw [decide_eq_false h1]
    go_wp2_with fail
    go_ret
    exact ⟨rfl, B⟩

def fr (S T U H : Int) : Int := if R S T U H then S - U - H else 0
theorem free_at (S T U H : Int) (w : World) :
    Calls Tryz.prog 203 #[.agg (ri S T U H)] w fun r w' => r = .returned (.int .i64 (fr S T U H)) ∧ Below w.heap.size w w' := by
  have B := (Below.refl w.heap.size w).alloc (Nat.le_refl _) (.cells (ri S T U H) 59)
  have bx := Box.new w (ri S T U H) 59
  unfold ri at *
  by_cases h : R S T U H
  · rw [fr, if_pos h]
    go_enter Tryz.func203, Tryz.ntmps203
    go_wp2_with fail
    refine (right_at _ _ _ _ _).mono ?_
    rintro r w1 ⟨rfl, b1⟩
    have bx1 := bx.below b1
    have B1 := keep B b1
    clear bx B b1
    obtain ⟨c0, c1, c2, c3⟩ := bx1.all4
    rw [decide_eq_true h]
    obtain ⟨h1, h2, h3, h4⟩ := h
    go_wp2_with fail
    go_ret
    exact ⟨rfl, B1⟩
  · rw [fr, if_neg h]
    go_enter Tryz.func203, Tryz.ntmps203
    go_wp2_with fail
    refine (right_at _ _ _ _ _).mono ?_
    rintro r w1 ⟨rfl, b1⟩
    have B1 := keep B b1
    clear bx B b1
    rw [decide_eq_false h]
    go_wp2_with fail
    go_ret
    exact ⟨rfl, B1⟩

theorem behind_at (S T U H n : Int) (w : World) (hS : 1 ≤ S) (hS' : S ≤ 512) (hT : 0 ≤ T) (hT' : T < S) (hn : 0 ≤ n) (hn' : n ≤ S) :
    Calls Tryz.prog 204 #[.agg (ri S T U H), .int .i64 n] w fun r w' => r = .returned (.int .i64 ((T + n) % S)) ∧ Below w.heap.size w w' := by
  have B := (Below.refl w.heap.size w).alloc (Nat.le_refl _) (.cells (ri S T U H) 59)
  have bx := Box.new w (ri S T U H) 59
  have e : (T + n).tmod S = (T + n) % S := Int.tmod_eq_emod_of_nonneg (by omega)
  unfold ri at *
  obtain ⟨c0, c1, c2, c3⟩ := bx.all4
  go_enter Tryz.func204, Tryz.ntmps204
  go_wp2_with fail
  go_ret
  exact ⟨by simp, B⟩

end Go.Proofs.YtnldkpckojhbhaaGreat.Rg

/-
  ask, whatever closure it is handed.
-/
namespace Go.Proofs.YtnldkpckojhbhaaGreat.Rg
open Go.RowKit

theorem ask_in24 (caps : Array Value) (S T U H n no : Int) (m : Bool) (w : World) (hR : R S T U H) (hn : 0 ≤ n)
    (hm : ∀ w', Below w.heap.size w w' → Calls Tryz.prog 232 caps w' fun r w'' => r = .returned (.bool m) ∧ Below w'.heap.size w' w'') :
    Calls Tryz.prog 201 #[.agg (ri S T U H), .int .i64 n, .func (.func 232) #[] caps, .int .i64 no] w fun r w' => r = .returned (.int .i64 (if m then 0 else no)) ∧ Below w.heap.size w w' := by
  have B := (Below.refl w.heap.size w).alloc (Nat.le_refl _) (.cells (ri S T U H) 59)
  unfold ri at *
  cases m
  · rw [if_neg (by simp)]
    go_enter Tryz.func201, Tryz.ntmps201
    go_wp2_with fail
    refine (right_at _ _ _ _ _).mono ?_
    rintro r w1 ⟨rfl, b1⟩
    have B1 := keep B b1
    clear B b1
    rw [decide_eq_true hR]
    go_wp2_with fail
    refine (hm _ B1).mono ?_
    rintro r w2 ⟨rfl, b2⟩
    have B2 := keep B1 b2
    go_wp2_with fail
    go_ret
    exact ⟨rfl, B2⟩
  · rw [if_pos rfl]
    go_enter Tryz.func201, Tryz.ntmps201
    go_wp2_with fail
    refine (right_at _ _ _ _ _).mono ?_
    rintro r w1 ⟨rfl, b1⟩
    have B1 := keep B b1
    clear B b1
    rw [decide_eq_true hR]
    go_wp2_with fail
    refine (hm _ B1).mono ?_
    rintro r w2 ⟨rfl, b2⟩
    have B2 := keep B1 b2
    go_wp2_with fail
    go_ret
    exact ⟨rfl, B2⟩

theorem ask_in27 (caps : Array Value) (S T U H n no : Int) (m : Bool) (w : World) (hR : R S T U H) (hn : 0 ≤ n)
    (hm : ∀ w', Below w.heap.size w w' → Calls Tryz.prog 199 caps w' fun r w'' => r = .returned (.bool m) ∧ Below w'.heap.size w' w'') :
    Calls Tryz.prog 201 #[.agg (ri S T U H), .int .i64 n, .func (.func 199) #[] caps, .int .i64 no] w fun r w' => r = .returned (.int .i64 (if m then 0 else no)) ∧ Below w.heap.size w w' := by
  have B := (Below.refl w.heap.size w).alloc (Nat.le_refl _) (.cells (ri S T U H) 59)
  unfold ri at *
  cases m
  · rw [if_neg (by simp)]
    go_enter Tryz.func201, Tryz.ntmps201
    go_wp2_with fail
    refine (right_at _ _ _ _ _).mono ?_
    rintro r w1 ⟨rfl, b1⟩
    have B1 := keep B b1
    clear B b1
    rw [decide_eq_true hR]
    go_wp2_with fail
    refine (hm _ B1).mono ?_
    rintro r w2 ⟨rfl, b2⟩
    have B2 := keep B1 b2
    go_wp2_with fail
    go_ret
    exact ⟨rfl, B2⟩
  · rw [if_pos rfl]
    go_enter Tryz.func201, Tryz.ntmps201
    go_wp2_with fail
    refine (right_at _ _ _ _ _).mono ?_
    rintro r w1 ⟨rfl, b1⟩
    have B1 := keep B b1
    clear B b1
    rw [decide_eq_true hR]
    go_wp2_with fail
    refine (hm _ B1).mono ?_
    rintro r w2 ⟨rfl, b2⟩
    have B2 := keep B1 b2
    go_wp2_with fail
    go_ret
    exact ⟨rfl, B2⟩

theorem ask_in29 (caps : Array Value) (S T U H n no : Int) (m : Bool) (w : World) (hR : R S T U H) (hn : 0 ≤ n)
    (hm : ∀ w', Below w.heap.size w w' → Calls Tryz.prog 202 caps w' fun r w'' => r = .returned (.bool m) ∧ Below w'.heap.size w' w'') :
    Calls Tryz.prog 201 #[.agg (ri S T U H), .int .i64 n, .func (.func 202) #[] caps, .int .i64 no] w fun r w' => r = .returned (.int .i64 (if m then 0 else no)) ∧ Below w.heap.size w w' := by
  have B := (Below.refl w.heap.size w).alloc (Nat.le_refl _) (.cells (ri S T U H) 59)
  unfold ri at *
  cases m
  · rw [if_neg (by simp)]
    go_enter Tryz.func201, Tryz.ntmps201
    go_wp2_with fail
    refine (right_at _ _ _ _ _).mono ?_
    rintro r w1 ⟨rfl, b1⟩
    have B1 := keep B b1
    clear B b1
    rw [decide_eq_true hR]
    go_wp2_with fail
    refine (hm _ B1).mono ?_
    rintro r w2 ⟨rfl, b2⟩
    have B2 := keep B1 b2
    go_wp2_with fail
    go_ret
    exact ⟨rfl, B2⟩
  · rw [if_pos rfl]
    go_enter Tryz.func201, Tryz.ntmps201
    go_wp2_with fail
    refine (right_at _ _ _ _ _).mono ?_
    rintro r w1 ⟨rfl, b1⟩
    have B1 := keep B b1
    clear B b1
    rw [decide_eq_true hR]
    go_wp2_with fail
    refine (hm _ B1).mono ?_
    rintro r w2 ⟨rfl, b2⟩
    have B2 := keep B1 b2
    go_wp2_with fail
    go_ret
    exact ⟨rfl, B2⟩

end Go.Proofs.YtnldkpckojhbhaaGreat.Rg

/-
  The closures that ask is handed.
-/
namespace Go.Proofs.YtnldkpckojhbhaaGreat.Rg
open Go.RowKit

abbrev pt (g : Nat) : Value := .pointer (some ⟨g, 0, none⟩)

theorem drop1 (S T U H n : Int) (g h : Nat) (w : World) (bn : Box w g #[.int .i64 n] 3) (br : Box w h (ri S T U H) 59) :
    Calls Tryz.prog 232 #[pt g, pt h] w fun r w' => r = .returned (.bool (decide (n ≤ U))) ∧ Below w.heap.size w w' := by
  have c := bn.one
  obtain ⟨c0, c1, c2, c3⟩ := br.all4
  go_enter Tryz.func232, Tryz.ntmps232
  go_wp2_with fail
  go_ret
  exact ⟨rfl, Below.refl _ _⟩
theorem put1 (S T U H n k : Int) (f g h : Nat) (w : World) (bk : Box w f #[.int .i64 k] 3) (bn : Box w g #[.int .i64 n] 3) (br : Box w h (ri S T U H) 59) :
    Calls Tryz.prog 199 #[pt f, pt g, pt h] w fun r w' => r = .returned (.bool (decide (0 ≤ k ∧ k ≤ n ∧ k ≤ H))) ∧ Below w.heap.size w w' := by
  have c := bn.one
  have d := bk.one
  obtain ⟨c0, c1, c2, c3⟩ := br.all4
  by_cases q : n ≤ H
  · have e : decide (0 ≤ k ∧ k ≤ n ∧ k ≤ H) = decide (0 ≤ k ∧ k ≤ n) := decide_eq_decide.2 (by omega)
    rw [e]
    go_enter Tryz.func199, Tryz.ntmps199
    go_wp2_with fail
    refine (within_at _ _ _ _).mono ?_
    rintro r w1 ⟨rfl, rfl⟩
    go_wp2_with fail
    go_ret
    exact ⟨by first | (simp; done) | (simp [Int.min_eq_left q]; done), Below.refl _ _⟩
  · have e : decide (0 ≤ k ∧ k ≤ n ∧ k ≤ H) = decide (0 ≤ k ∧ k ≤ H) := decide_eq_decide.2 (by omega)
    rw [e]
    go_enter Tryz.func199, Tryz.ntmps199
    go_wp2_with fail
    refine (within_at _ _ _ _).mono ?_
    rintro r w1 ⟨rfl, rfl⟩
    go_wp2_with fail
    go_ret
    exact ⟨by first | (simp; done) | (simp [Int.min_eq_right (show H ≤ n by omega)]; done), Below.refl _ _⟩

set_option maxHeartbeats 2000000 in
theorem put2 (S T U H n k : Int) (f g h : Nat) (w : World) (hk : 0 ≤ k) (hkn : k ≤ n) (hn : n ≤ 9223372036854775807) (bk : Box w f #[.int .i64 k] 3) (bn : Box w g #[.int .i64 n] 3) (br : Box w h (ri S T U H) 59) :
    Calls Tryz.prog 202 #[pt g, pt f, pt h] w fun r w' => r = .returned (.bool (decide (n - k ≤ fr S T U H))) ∧ Below w.heap.size w w' := by
  have hw : IntKind.i64.wrap (n - k) = n - k := by rw [IntKind.wrap_i64]; omega
  have c := bn.one
  have c' := bk.one
  obtain ⟨c0, c1, c2, c3⟩ := br.all4
  go_enter Tryz.func202, Tryz.ntmps202
  go_wp2_with fail
  go_region_with (go_at_call 203; refine (free_at S T U H _).mono ?_; rintro e w2 ⟨rfl, b2⟩; have B2 := ((Below.refl w.heap.size w).drew).trans b2; have d := ((show Box w.drew g #[.int .i64 n] 3 from bn).below b2).one; have d' := ((show Box w.drew f #[.int .i64 k] 3 from bk).below b2).one)
  all_goals go_wp2_with fail
  all_goals go_ret
  all_goals exact ⟨by first | rfl | (rw [hw]; rfl), B2⟩
end Go.Proofs.YtnldkpckojhbhaaGreat.Rg

/-
  The calls: At, Reserve, Release, Put, Drop.
-/
namespace Go.Proofs.YtnldkpckojhbhaaGreat.Rg
open Go.RowKit

def set4 (w : World) (g : Nat) (u0 u1 u2 u3 : Value) : World := ((((w.setCell ⟨g, 0, none⟩ u0).setCell ⟨g, 1, none⟩ u1).setCell ⟨g, 2, none⟩ u2).setCell ⟨g, 3, none⟩ u3)
theorem Box.store4 {w : World} {g : Nat} {v0 v1 v2 v3 u0 u1 u2 u3 : Value} {t : TypeId} (h : Box w g #[v0, v1, v2, v3] t) : Box (set4 w g u0 u1 u2 u3) g #[u0, u1, u2, u3] t := by
  have q := ((((h.store 0 u0).store 1 u1).store 2 u2).store 3 u3)
  unfold set4
  simpa using q
theorem below4 {B : Nat} {w0 w : World} {g : Nat} (h : Below B w0 w) (hg : B ≤ g) (u0 u1 u2 u3 : Value) : Below B w0 (set4 w g u0 u1 u2 u3) := ((((h.setCell (p := ⟨g, 0, none⟩) hg u0).setCell (p := ⟨g, 1, none⟩) hg u1).setCell (p := ⟨g, 2, none⟩) hg u2).setCell (p := ⟨g, 3, none⟩) hg u3)

def W2 (w : World) (S T U H n : Int) : World := (w.alloc (.cells (ri S T U H) 59)).alloc (.cells #[.int .i64 n] 3)
def W3 (w : World) (S T U H n : Int) : World := (W2 w S T U H n).alloc (.cells #[.int .i64 0, .int .i64 0, .int .i64 0, .int .i64 0] 59)
theorem w2_r (w : World) (S T U H n : Int) : Box (W2 w S T U H n) w.heap.size (ri S T U H) 59 := (Box.new w _ 59).alloc _
theorem w2_n (w : World) (S T U H n : Int) : Box (W2 w S T U H n) (w.heap.size + 1) #[.int .i64 n] 3 := Box.next w _ _ 3
theorem w2_b (w : World) (S T U H n : Int) : Below w.heap.size w (W2 w S T U H n) := ((Below.refl w.heap.size w).alloc (Nat.le_refl _) _).alloc (by simp) _
theorem w3_r (w : World) (S T U H n : Int) : Box (W3 w S T U H n) w.heap.size (ri S T U H) 59 := (w2_r w S T U H n).alloc _
theorem w3_n (w : World) (S T U H n : Int) : Box (W3 w S T U H n) (w.heap.size + 1) #[.int .i64 n] 3 := (w2_n w S T U H n).alloc _
theorem w3_o (w : World) (S T U H n : Int) : Box (W3 w S T U H n) (w.heap.size + 2) #[.int .i64 0, .int .i64 0, .int .i64 0, .int .i64 0] 59 := Box.next2 w _ _ _ 59
theorem w3_b (w : World) (S T U H n : Int) : Below w.heap.size w (W3 w S T U H n) := (w2_b w S T U H n).alloc (w2_b w S T U H n).size _

theorem drop_ok (S T U H n : Int) (w : World) (hR : R S T U H) (h0 : 0 ≤ n) (h1 : n ≤ U) :
    Calls Tryz.prog 193 #[.agg (ri S T U H), .int .i64 n] w fun r w' => r = .returned (.tuple #[.agg (ri S ((T + n) % S) (U - n) H), .int .i64 0]) ∧ Below w.heap.size w w' := by
  have br := w3_r w S T U H n
  have bn := w3_n w S T U H n
  have bo := w3_o w S T U H n
  have B0 := w3_b w S T U H n
  have hask : Calls Tryz.prog 201 #[.agg (ri S T U H), .int .i64 n, .func (.func 232) #[] #[pt (w.heap.size + 1), pt w.heap.size], .int .i64 2] (W3 w S T U H n) fun r w' => r = .returned (.int .i64 0) ∧ Below (W3 w S T U H n).heap.size (W3 w S T U H n) w' := by
    have := ask_in24 #[pt (w.heap.size + 1), pt w.heap.size] S T U H n 2 (decide (n ≤ U)) (W3 w S T U H n) hR h0 (fun w' b => drop1 S T U H n _ _ w' (bn.below b) (br.below b))
    rw [decide_eq_true h1] at this
    exact this
  have hb := fun u => behind_at S T U H n u hR.1.1 hR.1.2 hR.2.1.1 (by have := hR.2.1.2; omega) h0 (by have := hR.2.2.1.2; omega)
  obtain ⟨P, hP⟩ : ∃ P, P = (T + n) % S := ⟨_, rfl⟩
  rw [← hP] at hb ⊢
  clear hP
  obtain ⟨q1, q2, q3, q4⟩ := hR
  unfold W3 W2 ri at *
  go_enter Tryz.func193, Tryz.ntmps193
  go_wp2_with fail
  refine hask.mono ?_
  rintro r w1 ⟨rfl, b1⟩
  have B1 := keep B0 b1
  have bo1 := bo.below b1
  have br1 := br.below b1
  have bn1 := bn.below b1
  clear hask br bn B0 b1 bo
  obtain ⟨c0, c1, c2, c3⟩ := br1.all4
  have c := bn1.one
  go_wp2_with fail
  refine (hb _).mono ?_
  rintro r w2 ⟨rfl, b2⟩
  have B2 := keep B1 b2
  have bo2 := bo1.below b2
  have br2 := br1.below b2
  have bn2 := bn1.below b2
  clear hb bo1 br1 bn1 b2 B1 c0 c1 c2 c3 c
  have f1 := br2.frozen 1
  have br3 : Box (w2.setCell ⟨w.heap.size, 1, none⟩ (.int .i64 P)) w.heap.size #[.int .i64 S, .int .i64 P, .int .i64 U, .int .i64 H] 59 := by simpa using br2.store 1 (.int .i64 P)
  have bo3 := bo2.other (k := w.heap.size) 1 (.int .i64 P) (by omega)
  have bn3 := bn2.other (k := w.heap.size) 1 (.int .i64 P) (by omega)
  have B3 := B2.setCell (p := ⟨w.heap.size, 1, none⟩) (Nat.le_refl _) (.int .i64 P)
  have f2 := br3.frozen 2
  have br4 : Box ((w2.setCell ⟨w.heap.size, 1, none⟩ (.int .i64 P)).setCell ⟨w.heap.size, 2, none⟩ (.int .i64 (U - n))) w.heap.size #[.int .i64 S, .int .i64 P, .int .i64 (U - n), .int .i64 H] 59 := by simpa using br3.store 2 (.int .i64 (U - n))
  have bo4 := bo3.other (k := w.heap.size) 2 (.int .i64 (U - n)) (by omega)
  have B4 := B3.setCell (p := ⟨w.heap.size, 2, none⟩) (Nat.le_refl _) (.int .i64 (U - n))
  obtain ⟨c0, c1, c2, c3⟩ := br2.all4
  obtain ⟨k0, k1, k2, k3⟩ := br3.all4
  have c := bn3.one
  obtain ⟨d0, d1, d2, d3⟩ := br4.all4
  obtain ⟨e0, e1, e2, e3⟩ := bo4.all4
  obtain ⟨g0, g1, g2, g3⟩ := bo4.fr4
  clear bo2 br2 bn2 bo3 br3 bn3 B2 B3 br4
  go_wp2_with fail
  have y := bo4.store4 (u0 := .int .i64 S) (u1 := .int .i64 P) (u2 := .int .i64 (U - n)) (u3 := .int .i64 H)
  have C1 := below4 B4 (by omega : w.heap.size ≤ w.heap.size + 2) (.int .i64 S) (.int .i64 P) (.int .i64 (U - n)) (.int .i64 H)
  unfold set4 at y C1
  clear bo4 B4 c0 c1 c2 c3 c f1 f2 k0 k1 k2 k3 d0 d1 d2 d3 e0 e1 e2 e3 g0 g1 g2 g3
  obtain ⟨c0, c1, c2, c3⟩ := y.all4
  exact bodyPost_ret (v := .tuple #[.agg (ri S P (U - n) H), .int .i64 0]) (by simp only [ri]; simp [results, Tryz.results193, go_sem, c0, c1, c2, c3]) rfl ⟨rfl, C1⟩

end Go.Proofs.YtnldkpckojhbhaaGreat.Rg

/-
  Put.
-/
namespace Go.Proofs.YtnldkpckojhbhaaGreat.Rg
open Go.RowKit

def W4 (w : World) (S T U H n k : Int) : World := (((w.alloc (.cells (ri S T U H) 59)).alloc (.cells #[.int .i64 n] 3)).alloc (.cells #[.int .i64 k] 3)).alloc (.cells #[.int .i64 0, .int .i64 0, .int .i64 0, .int .i64 0] 59)
theorem w4_r (w : World) (S T U H n k : Int) : Box (W4 w S T U H n k) w.heap.size (ri S T U H) 59 := (((Box.new w _ 59).alloc _).alloc _).alloc _
theorem w4_n (w : World) (S T U H n k : Int) : Box (W4 w S T U H n k) (w.heap.size + 1) #[.int .i64 n] 3 := ((Box.next w _ _ 3).alloc _).alloc _
theorem w4_k (w : World) (S T U H n k : Int) : Box (W4 w S T U H n k) (w.heap.size + 2) #[.int .i64 k] 3 := (Box.next2 w _ _ _ 3).alloc _
theorem w4_o (w : World) (S T U H n k : Int) : Box (W4 w S T U H n k) (w.heap.size + 3) #[.int .i64 0, .int .i64 0, .int .i64 0, .int .i64 0] 59 := Box.next3 w _ _ _ _ 59
theorem w4_b (w : World) (S T U H n k : Int) : Below w.heap.size w (W4 w S T U H n k) := ((((Below.refl w.heap.size w).alloc (Nat.le_refl _) _).alloc (by simp) _).alloc (by simp; omega) _).alloc (by simp; omega) _

theorem ask27_ok (S T U H n k : Int) (w w0 : World) (hR : R S T U H) (h0 : 0 ≤ n) (h1 : 0 ≤ k ∧ k ≤ n ∧ k ≤ H) (g : Nat) (bk : Box w (g + 2) #[.int .i64 k] 3) (bn : Box w (g + 1) #[.int .i64 n] 3) (br : Box w g (ri S T U H) 59) (e : w0 = w) :
    Calls Tryz.prog 201 #[.agg (ri S T U H), .int .i64 n, .func (.func 199) #[] #[pt (g + 2), pt (g + 1), pt g], .int .i64 2] w0 fun r w' => r = .returned (.int .i64 0) ∧ Below w0.heap.size w0 w' := by
  subst e
  have := ask_in27 #[pt (g + 2), pt (g + 1), pt g] S T U H n 2 (decide (0 ≤ k ∧ k ≤ n ∧ k ≤ H)) w0 hR h0 (fun w' b => put1 S T U H n k _ _ _ w' (bk.below b) (bn.below b) (br.below b))
  rw [decide_eq_true h1] at this
  exact this
theorem ask29 (S T U H n k : Int) (w : World) (hR : R S T U H) (h0 : 0 ≤ n) (hn : n ≤ 9223372036854775807) (h1 : 0 ≤ k ∧ k ≤ n ∧ k ≤ H) (g : Nat) (bk : Box w (g + 2) #[.int .i64 k] 3) (bn : Box w (g + 1) #[.int .i64 n] 3) (br : Box w g (ri S T U H) 59) :
    Calls Tryz.prog 201 #[.agg (ri S T U H), .int .i64 n, .func (.func 202) #[] #[pt (g + 1), pt (g + 2), pt g], .int .i64 5] w fun r w' => r = .returned (.int .i64 (if n - k ≤ fr S T U H then 0 else 5)) ∧ Below w.heap.size w w' := by
  have := ask_in29 #[pt (g + 1), pt (g + 2), pt g] S T U H n 5 (decide (n - k ≤ fr S T U H)) w hR h0 (fun w' b => put2 S T U H n k _ _ _ w' h1.1 h1.2.1 hn (bk.below b) (bn.below b) (br.below b))
  simpa using this

set_option maxHeartbeats 1000000 in
theorem put_ok (S T U H n k : Int) (w : World) (hR : R S T U H) (h0 : 0 ≤ n) (h1 : 0 ≤ k ∧ k ≤ n ∧ k ≤ H) (h2 : n - k ≤ fr S T U H) :
    Calls Tryz.prog 152 #[.agg (ri S T U H), .int .i64 n, .int .i64 k] w fun r w' => r = .returned (.tuple #[.agg (ri S T (U + n) (H - k)), .int .i64 ((T + U) % S), .int .i64 0]) ∧ Below w.heap.size w w' := by
  have hn : n ≤ 512 := by
    rw [fr, if_pos hR] at h2
    unfold R at hR
    omega
  have br := w4_r w S T U H n k
  have bn := w4_n w S T U H n k
  have bk := w4_k w S T U H n k
  have bo := w4_o w S T U H n k
  have B0 := w4_b w S T U H n k
  have hask := ask27_ok S T U H n k _ _ hR h0 h1 _ bk bn br rfl
  have hask2 := fun u => ask29 S T U H n k u hR h0 (by omega) h1 w.heap.size
  rw [if_pos h2] at hask2
  have A2 : Hid _ := hask2
  have hb : Hid _ := fun u => behind_at S T U H U u hR.1.1 hR.1.2 hR.2.1.1 (by have := hR.2.1.2; omega) hR.2.2.1.1 hR.2.2.1.2
  obtain ⟨P, hP⟩ : ∃ P, P = (T + U) % S := ⟨_, rfl⟩
  rw [← hP] at hb ⊢
  clear hP hask2 h2
  obtain ⟨q1, q2, q3, q4⟩ := hR
  unfold W4 ri at *
  go_enter Tryz.func152, Tryz.ntmps152
  go_wp2_with fail
  refine hask.mono ?_
  rintro r w1 ⟨rfl, b1⟩
  have B1 := keep B0 b1
  have bo1 := bo.below b1
  have br1 := br.below b1
  have bn1 := bn.below b1
  have bk1 := bk.below b1
  obtain ⟨c0, c1, c2, c3⟩ := br1.all4
  have c := bn1.one
  clear hask br bn bk B0 b1 bo
  go_wp2_with fail
  refine (A2.out _ bk1 bn1 br1).mono ?_
  rintro r w2 ⟨rfl, b2⟩
  have B2 := keep B1 b2
  have bo2 := bo1.below b2
  have br2 := br1.below b2
  have bn2 := bn1.below b2
  have bk2 := bk1.below b2
  clear B1 bo1 b2 c0 c1 c2 c3 c br1 bn1 bk1 A2
  obtain ⟨c0, c1, c2, c3⟩ := br2.all4
  go_wp2_with fail
  refine (hb.out _).mono ?_
  rintro r w3 ⟨rfl, b3⟩
  have B3 := keep B2 b3
  have bo3 := bo2.below b3
  have br3 := br2.below b3
  have bn3 := bn2.below b3
  have bk3 := bk2.below b3
  clear B2 bo2 b3 c0 c1 c2 c3 br2 bn2 bk2 hb
  have f2 := br3.frozen 2
  have br4 : Box (w3.setCell ⟨w.heap.size, 2, none⟩ (.int .i64 (U + n))) w.heap.size #[.int .i64 S, .int .i64 T, .int .i64 (U + n), .int .i64 H] 59 := by simpa using br3.store 2 (.int .i64 (U + n))
  have bo4 := bo3.other (k := w.heap.size) 2 (.int .i64 (U + n)) (by omega)
  have bk4 := bk3.other (k := w.heap.size) 2 (.int .i64 (U + n)) (by omega)
  have B4 := B3.setCell (p := ⟨w.heap.size, 2, none⟩) (Nat.le_refl _) (.int .i64 (U + n))
  have f3 := br4.frozen 3
  have br5 : Box ((w3.setCell ⟨w.heap.size, 2, none⟩ (.int .i64 (U + n))).setCell ⟨w.heap.size, 3, none⟩ (.int .i64 (H - k))) w.heap.size #[.int .i64 S, .int .i64 T, .int .i64 (U + n), .int .i64 (H - k)] 59 := by simpa using br4.store 3 (.int .i64 (H - k))
  have bo5 := bo4.other (k := w.heap.size) 3 (.int .i64 (H - k)) (by omega)
  have B5 := B4.setCell (p := ⟨w.heap.size, 3, none⟩) (Nat.le_refl _) (.int .i64 (H - k))
  obtain ⟨c0, c1, c2, c3⟩ := br3.all4
  obtain ⟨k0, k1, k2, k3⟩ := br4.all4
  have c := bn3.one
  have c' := bk4.one
  obtain ⟨d0, d1, d2, d3⟩ := br5.all4
  obtain ⟨e0, e1, e2, e3⟩ := bo5.all4
  obtain ⟨g0, g1, g2, g3⟩ := bo5.fr4
  clear bo3 br3 bn3 bk3 bo4 br4 bk4 B3 B4 br5
  go_wp2_with fail
  have y := bo5.store4 (u0 := .int .i64 S) (u1 := .int .i64 T) (u2 := .int .i64 (U + n)) (u3 := .int .i64 (H - k))
  have C1 := below4 B5 (by omega : w.heap.size ≤ w.heap.size + 3) (.int .i64 S) (.int .i64 T) (.int .i64 (U + n)) (.int .i64 (H - k))
  unfold set4 at y C1
  clear bo5 B5 c0 c1 c2 c3 c c' f2 f3 k0 k1 k2 k3 d0 d1 d2 d3 e0 e1 e2 e3 g0 g1 g2 g3
  obtain ⟨c0, c1, c2, c3⟩ := y.all4
  exact bodyPost_ret (v := .tuple #[.agg (ri S T (U + n) (H - k)), .int .i64 P, .int .i64 0]) (by simp only [ri]; simp [results, Tryz.results152, go_sem, c0, c1, c2, c3]) rfl ⟨rfl, C1⟩

end Go.Proofs.YtnldkpckojhbhaaGreat.Rg

/-
  Append that is refused: no right group, too great, no room.
-/
namespace Go.Proofs.YtnldkpckojhbhaaGreat.J
open Go.RowKit
open Go.Proofs.YtnldkpckojhbhaaGreat.Dk (Box)

def ap3 (w : World) (g : Nat) (al : Option Addr) (n cap : Nat) : World := ((w.alloc (.cells #[.pointer (some ⟨g, 0, none⟩)] 77)).alloc (.cells #[.slice al n cap] 29)).alloc (.cells #[.slice none 0 0] 46)
section
variable (w : World) (g : Nat) (al : Option Addr) (n cap : Nat)
theorem ap3_a : Box (ap3 w g al n cap) w.heap.size #[.pointer (some ⟨g, 0, none⟩)] 77 := ((Dk.Box.new w _ 77).alloc _).alloc _
theorem ap3_b : Box (ap3 w g al n cap) (w.heap.size + 1) #[.slice al n cap] 29 := Rg.Box.alloc (Rg.Box.next w _ _ 29) _
theorem ap3_c : Box (ap3 w g al n cap) (w.heap.size + 2) #[.slice none 0 0] 46 := Rg.Box.next2 w _ _ _ 46
theorem ap3_below : Below w.heap.size w (ap3 w g al n cap) := (((Below.refl w.heap.size w).alloc (Nat.le_refl _) _).alloc (by simp) _).alloc (by simp; omega) _
end
theorem ap3_size (w : World) (g : Nat) (al : Option Addr) (n cap : Nat) : (ap3 w g al n cap).heap.size = w.heap.size + 3 := by simp [ap3]
theorem ap3_upd {w : World} {g : Nat} {al : Option Addr} {n cap : Nat} {w' : World} (h : Dk.Upd (· = w.heap.size + 2) (ap3 w g al n cap) w') : Below w.heap.size w w' := by
  have b := ap3_below w g al n cap
  have z := ap3_size w g al n cap
  have z2 := h.size
  exact ⟨h.os.trans b.os, h.tape.trans b.tape, h.output.trans b.output, by omega, fun k hk => (h.block k (by omega) (by show ¬ k = w.heap.size + 2; omega)).trans (b.block k hk)⟩

section
variable {w : World} {g dg n cap : Nat} {al : Option Addr} {vs : Value} {J : JS} {is : List (Int × List UInt8)} (h : Box w g (jC g dg vs J) 201) (hb : J.broken = false) (hl : is.length = n) (hI : Rc.Imgs w al is)
include h hb hl hI
theorem app_ahead_ok (hok : Rc.okGroup J.epoch J.next is) :
    Calls Tryz.prog 148 #[.pointer (some ⟨g, 0, none⟩), .func (.func 149) #[] #[.pointer (some ⟨w.heap.size, 0, none⟩), .pointer (some ⟨w.heap.size + 1, 0, none⟩), .pointer (some ⟨w.heap.size + 2, 0, none⟩)]] (ap3 w g al n cap) fun r w' => ∃ e : Int, r = .returned (.int .i64 e) ∧ e = (if J.S < (n + 1 : Nat) then 232 else 0) ∧ Puts (ap3 w g al n cap) w' (w.heap.size + 2) n (Rc.putL J.epoch.toNat J.next.toNat is) := by
  have b := ap3_below w g al n cap
  have h' : Box (ap3 w g al n cap) g (jC g dg vs J) 201 := h.below b
  refine ahead_in25 h' hb (fun e w' => e = (if J.S < (n + 1 : Nat) then 232 else 0) ∧ Puts (ap3 w g al n cap) w' (w.heap.size + 2) n (Rc.putL J.epoch.toNat J.next.toNat is)) _ ((append1_ok h' (ap3_a w g al n cap) (ap3_b w g al n cap) (ap3_c w g al n cap) is hl (hI.below b) hok).mono ?_)
  rintro r w' ⟨rfl, hu⟩
  exact ⟨_, rfl, rfl, hu⟩

end
end Go.Proofs.YtnldkpckojhbhaaGreat.J

/-
  Append that has no room.
-/
namespace Go.Proofs.YtnldkpckojhbhaaGreat.J
open Go.RowKit
open Go.Proofs.YtnldkpckojhbhaaGreat.Dk (Box)

@[reducible] def R8 (w : World) (g gl n cl : Nat) (J : JS) (u : World) : Prop :=
  u.cell? ⟨w.heap.size, 0, none⟩ = some (.pointer (some ⟨g, 0, none⟩)) ∧ u.cell? ⟨g, 6, none⟩ = some (.int .i64 J.S) ∧ u.cell? ⟨g, 7, none⟩ = some (.int .i64 J.T) ∧ u.cell? ⟨g, 8, none⟩ = some (.int .i64 J.U) ∧ u.cell? ⟨g, 9, none⟩ = some (.int .i64 J.H) ∧ u.cell? ⟨w.heap.size + 2, 0, none⟩ = some (.slice (some ⟨gl, 0, none⟩) (n + 1) cl)

theorem box4 {W : World} {b : Nat} {v0 v1 v2 v3 : Value} (h : Box W b #[v0, v1, v2, v3] 59) : (W.cell? ⟨b, 0, none⟩ = some v0 ∧ W.cell? ⟨b, 1, none⟩ = some v1 ∧ W.cell? ⟨b, 2, none⟩ = some v2 ∧ W.cell? ⟨b, 3, none⟩ = some v3) ∧ W.frozen? ⟨b, 0, none⟩ = false ∧ W.frozen? ⟨b, 1, none⟩ = false ∧ W.frozen? ⟨b, 2, none⟩ = false ∧ W.frozen? ⟨b, 3, none⟩ = false :=
  ⟨⟨h.cell 0, h.cell 1, h.cell 2, h.cell 3⟩, h.frozen 0, h.frozen 1, h.frozen 2, h.frozen 3⟩
theorem below_set4 {B : Nat} {a W : World} (h : Below B a W) {k : Nat} (hk : B ≤ k) (v0 v1 v2 v3 : Value) : Below B a ((((W.setCell ⟨k, 0, none⟩ v0).setCell ⟨k, 1, none⟩ v1).setCell ⟨k, 2, none⟩ v2).setCell ⟨k, 3, none⟩ v3) :=
  (((h.setCell (p := ⟨k, 0, none⟩) hk v0).setCell (p := ⟨k, 1, none⟩) hk v1).setCell (p := ⟨k, 2, none⟩) hk v2).setCell (p := ⟨k, 3, none⟩) hk v3

section
variable {w : World} {g dg n cap : Nat} {al : Option Addr} {vs : Value} {J : JS} {is : List (Int × List UInt8)} (h : Box w g (jC g dg vs J) 201) (hb : J.broken = false) (hl : is.length = n) (hI : Rc.Imgs w al is)
include h hb hl hI
end
end Go.Proofs.YtnldkpckojhbhaaGreat.J

/-
  write: the blocks of a group, one behind the other, round the ring.
-/
namespace Go.Proofs.YtnldkpckojhbhaaGreat.J
open Go.RowKit
open Go.Proofs.YtnldkpckojhbhaaGreat.Dk (Box)

def Wr (w : World) (dg : Nat) (F : Nat → Prop) (D : Dk.DS) (u : World) : Prop := ∃ F', Dk.IsDisk u dg D F' ∧ (∀ i, F' i → F i ∨ w.heap.size ≤ i) ∧ Dk.Upd F w u
theorem Wr.drew {w u : World} {dg : Nat} {F : Nat → Prop} {D : Dk.DS} (h : Wr w dg F D u) : Wr w dg F D u.drew := by
  obtain ⟨F', ⟨gd, cd, vu, ps, hl⟩, hF, hu⟩ := h
  exact ⟨F', ⟨gd, cd, vu, ps, hl.kept (fun _ _ => rfl) (Nat.le_refl _)⟩, hF, ⟨hu.os, hu.tape, hu.output, hu.size, hu.block⟩⟩
theorem Wr.cell {w u : World} {dg : Nat} {F : Nat → Prop} {D : Dk.DS} (h : Wr w dg F D u) {p : Addr} (hp : p.block < w.heap.size) (hf : ¬ F p.block) : u.cell? p = w.cell? p := by
  obtain ⟨_, _, _, hu⟩ := h
  exact World.cell?_of_block (hu.block p.block hp hf)

theorem write_step {w u : World} {dg : Nat} {F : Nat → Prop} {D : Dk.DS} (h : Wr w dg F D u) (bn cb : Nat) (ad : Addr) (b : List UInt8) (hb : b.length = 4096) (hbn : bn < D.nb) (hE : D.operE = 0) (hlim : Dk.writeF D)
    (hr : Dk.Rd w (some ad) b) (hF : ¬ F ad.block) :
    Calls Tryz.prog 36 #[.pointer (some ⟨dg, 0, none⟩), .int .i64 (bn : Int), .slice (some ad) 4096 cb] u fun e w' => e = .returned (.int .i64 0) ∧ Wr w dg F { D.oper with uf := D.uf ++ [(bn, b)], n := D.n + 1 } w' := by
  have hc := fun p hp hf => h.cell (p := p) hp hf
  obtain ⟨F', ⟨gd, cd, vu, ps, hl⟩, hF', hu⟩ := h
  have hz := hu.size
  obtain ⟨b', o, e, hcs⟩ := hr (by omega)
  obtain rfl : ad = ⟨b', o, none⟩ := by simpa using e
  have hlt : b' < w.heap.size := block_lt_of_cell (hcs 0 (by omega))
  refine (Dk.write_ok hl bn cb ⟨b', o, none⟩ b hb hbn hE hlim (fun _ => ⟨b', o, rfl, fun j hj => (hc ⟨b', o + j, none⟩ hlt hF).trans (hcs j hj)⟩) (fun hf => ?_)).mono ?_
  · rcases hF' _ hf with h1 | h1
    · exact hF h1
    · dsimp only at h1
      omega
  · rintro e w' ⟨rfl, ⟨F2, hd2, hF2⟩, hu2⟩
    refine ⟨rfl, F2, hd2, fun i hi => ?_, hu.trans hu2 hF'⟩
    rcases hF2 i hi with h1 | h1
    · exact hF' i h1
    · exact .inr (Nat.le_trans hz h1)

def Blk (w : World) (F : Nat → Prop) (b o : Nat) (bs : List (List UInt8)) : Prop :=
  ∀ k (h : k < bs.length), ∃ ad c, w.cell? ⟨b, o + k, none⟩ = some (.slice (some ad) 4096 c) ∧ (bs[k]).length = 4096 ∧ Dk.Rd w (some ad) bs[k] ∧ ¬ F ad.block

end Go.Proofs.YtnldkpckojhbhaaGreat.J

/-
  write: the blocks of a group, one behind the other, round the ring.
-/
namespace Go.Proofs.YtnldkpckojhbhaaGreat.J
open Go.RowKit
open Go.Proofs.YtnldkpckojhbhaaGreat.Dk (Box)

set_option maxRecDepth 100000 in
theorem write_at {w : World} {g dg n c b o : Nat} {vs : Value} {J : JS} {F : Nat → Prop} (Ds : Nat → Dk.DS) (bs : List (List UInt8)) (S f : Nat) (h : Box w g (jC g dg vs J) 201) (hg : ¬ F g) (hS : J.S = S) (hlog : J.log = 2)
    (hd : Dk.IsDisk w dg (Ds 0) F) (hl : bs.length = n) (hn : n ≤ 33) (hB : Blk w F b o bs) (hb : ¬ F b) (hbl : b < w.heap.size) (hS0 : 0 < S) (hS1 : S ≤ 64) (hf : f < S)
    (hst : ∀ k (h : k < bs.length), Ds (k + 1) = { (Ds k).oper with uf := (Ds k).uf ++ [(2 + (f + k) % S, bs[k])], n := (Ds k).n + 1 } ∧ 2 + (f + k) % S < (Ds k).nb ∧ (Ds k).operE = 0 ∧ Dk.writeF (Ds k)) :
    Calls Tryz.prog 153 #[.pointer (some ⟨g, 0, none⟩), .slice (some ⟨b, o, none⟩) n c, .int .i64 (f : Int)] w fun r w' => r = .returned (.int .i64 0) ∧ Wr w dg F (Ds n) w' := by
  obtain ⟨_, c1, c2, _, _, _, c6, _, _, _, _, _⟩ := box_cells h
  rw [hS] at c6
  rw [hlog] at c2
  have hgl := h.lt
  have HC : Hid (∀ u D, Wr w dg F D u → u.cell? ⟨g, 1, none⟩ = some (.pointer (some ⟨dg, 0, none⟩)) ∧ u.cell? ⟨g, 2, none⟩ = some (.int .i64 2) ∧ u.cell? ⟨g, 6, none⟩ = some (.int .i64 (S : Int))) := fun u D hu => ⟨(hu.cell hgl hg).trans c1, (hu.cell hgl hg).trans c2, (hu.cell hgl hg).trans c6⟩
  have HB : Hid (∀ u D, Wr w dg F D u → ∀ k (h : k < bs.length), ∃ ad c, u.cell? ⟨b, o + k, none⟩ = some (.slice (some ad) 4096 c) ∧ (bs[k]).length = 4096 ∧ Dk.Rd w (some ad) bs[k] ∧ ¬ F ad.block) := fun u D hu k hk => by
    obtain ⟨ad, c, h1, h2⟩ := hB k hk
    exact ⟨ad, c, (hu.cell hbl hb).trans h1, h2⟩
  have HT : Hid (∀ k (h : k < bs.length), Ds (k + 1) = { (Ds k).oper with uf := (Ds k).uf ++ [(2 + (f + k) % S, bs[k])], n := (Ds k).n + 1 } ∧ 2 + (f + k) % S < (Ds k).nb ∧ (Ds k).operE = 0 ∧ Dk.writeF (Ds k)) := hst
  have H0 : Hid (Wr w dg F (Ds 0) w) := ⟨F, hd, fun i hi => .inl hi, Dk.Upd.refl F w⟩
  have HL : Hid (bs.length = n) := hl
  clear h hS hlog hd hB hst c1 c2 c6 hl hg hb hbl hgl
  go_enter Tryz.func153, Tryz.ntmps153
  go_wp2_with fail
  go_loopw [13] (fun i wr => ∃ k : Nat, k ≤ n ∧ i = .int .i64 k ∧ Wr w dg F (Ds k) wr) (fun i _ => n - (intOf i).toNat)
  case atStart => exact ⟨0, Nat.zero_le _, rfl, H0.out⟩
  case round =>
    obtain ⟨k, hk, rfl, hw⟩ := hrel
    by_cases hlt : k < n
    · have hk' : k < bs.length := by rw [HL.out]; exact hlt
      obtain ⟨c1, c2, c6⟩ := HC.out wr _ hw
      obtain ⟨ad, ca, cb, h4, hrd, hFa⟩ := HB.out wr _ hw k hk'
      obtain ⟨t1, t2, t3, t4⟩ := HT.out k hk'
      have cW := fun u (hu : Wr w dg F (Ds k) u) => write_step hu (2 + (f + k) % S) ca ad _ h4 t2 t3 t4 hrd hFa
      rw [← t1] at cW
      have em : ((f : Int) + (k : Int)) % (S : Int) = (((f + k) % S : Nat) : Int) := by push_cast; rfl
      have hml : (f + k) % S < S := Nat.mod_lt _ hS0
      generalize (f + k) % S = m at em cW hml
      clear h4 t1 t2 t3 t4 hrd hFa
      have cW' : ∀ u, Wr w dg F (Ds k) u → Calls Tryz.prog 36 #[.pointer (some ⟨dg, 0, none⟩), .int .i64 (2 + (m : Int)), .slice (some ad) 4096 ca] u fun e w' => e = .returned (.int .i64 0) ∧ Wr w dg F (Ds (k + 1)) w' := fun u hu => by
        have q := cW u hu
        push_cast at q
        exact q
      have HS : Hid (∀ u D, Wr w dg F D u → u.cell? ⟨g, 1, none⟩ = some (.pointer (some ⟨dg, 0, none⟩)) ∧ u.cell? ⟨g, 2, none⟩ = some (.int .i64 2)) := fun u D hu => ⟨(HC.out u D hu).1, (HC.out u D hu).2.1⟩
      clear cW
      go_wp2_with fail
      clear c1 c2
      simp only [em]
      clear em
      have hwm : IntKind.i64.wrap (2 + (m : Int)) = 2 + (m : Int) := by rw [IntKind.wrap_i64]; omega
      go_region_held3 (fun u => u.cell? ⟨g, 1, none⟩ = some (.pointer (some ⟨dg, 0, none⟩)) ∧ u.cell? ⟨g, 2, none⟩ = some (.int .i64 2))
        (first | with_reducible exact HS.out _ _ hw.drew | with_reducible exact HS.out _ _ hw1)
        (first
          | (go_at_call 36; refine Calls.mono (cW' _ hw.drew) ?_; rintro r W ⟨rfl, hw1⟩)
          | (go_at_call 155; refine Calls.mono (asked_ok g W) ?_; rintro r W2 ⟨rfl, rfl⟩))
      go_wp2_with fail
      go_roundw
      case rel => exact ⟨k + 1, by omega, by push_cast; rfl, hw1⟩
      case measure => simp [intOf]; omega
    · obtain rfl : k = n := by omega
      go_wp2_with fail
      go_ret
      exact ⟨rfl, hw⟩
end Go.Proofs.YtnldkpckojhbhaaGreat.J

/-
  A journal with its disk and its groups' sizes; what a call leaves of it.
-/
namespace Go.Proofs.YtnldkpckojhbhaaGreat.J
open Go.RowKit
open Go.Proofs.YtnldkpckojhbhaaGreat.Dk (Box)

def ics (xs : List Int) : List Value := xs.map fun x => .int .i64 x
theorem ics_snoc (xs : List Int) (x : Int) : ics (xs ++ [x]) = ics xs ++ [.int .i64 x] := by simp [ics]

structure JD (w : World) (g dg : Nat) (J : JS) (xs : List Int) (D : Dk.DS) (F : Nat → Prop) : Prop where
  ex : ∃ vs Fd, Box w g (jC g dg vs J) 201 ∧ Dk.IsDisk w dg D Fd ∧ ¬ Fd g ∧ w.ownsRow 0 3 1 vs xs.length (ics xs) ∧ (∀ k, vs.ownBlock = some k → ¬ Fd k ∧ F k) ∧ (∀ i, Fd i → F i)
  fg : F g
  flt : ∀ i, F i → i < w.heap.size

def JTo (w : World) (F : Nat → Prop) (g dg : Nat) (J : JS) (xs : List Int) (D : Dk.DS) (u : World) : Prop := ∃ F', JD u g dg J xs D F' ∧ (∀ i, F' i → F i ∨ w.heap.size ≤ i) ∧ Dk.Upd F w u

theorem owns_kept {w w' : World} {B e size n : Nat} {v : Value} {xs : List Value} (h : w.ownsRow B e size v n xs) (hk : ∀ k, v.ownBlock = some k → w'.heap[k]? = w.heap[k]?) : w'.ownsRow B e size v n xs := by
  refine ⟨h.1, ?_⟩
  rcases h.2 with hn | ⟨g, cap, cur, rfl, hb, hg, r⟩
  · exact .inl hn
  · exact .inr ⟨g, cap, cur, rfl, hb, (hk g rfl).trans hg, r⟩
theorem disk_kept {w w' : World} {g : Nat} {D : Dk.DS} {F : Nat → Prop} (h : Dk.IsDisk w g D F) (hk : ∀ i, F i → w'.heap[i]? = w.heap[i]?) (hs : w.heap.size ≤ w'.heap.size) : Dk.IsDisk w' g D F := by
  obtain ⟨gd, cd, vu, ps, hl⟩ := h
  exact ⟨gd, cd, vu, ps, hl.kept hk hs⟩

theorem JD.kept {w w' : World} {g dg : Nat} {J : JS} {xs : List Int} {D : Dk.DS} {F : Nat → Prop} (h : JD w g dg J xs D F) (hk : ∀ i, F i → w'.heap[i]? = w.heap[i]?) (hs : w.heap.size ≤ w'.heap.size) : JD w' g dg J xs D F := by
  obtain ⟨⟨vs, Fd, h1, h2, h3, h4, h5, h6⟩, h7, h8⟩ := h
  exact ⟨⟨vs, Fd, (hk g h7).trans h1, disk_kept h2 (fun i hi => hk i (h6 i hi)) hs, h3, owns_kept h4 (fun k hk' => hk k (h5 k hk').2), h5, h6⟩, h7, fun i hi => Nat.lt_of_lt_of_le (h8 i hi) hs⟩
theorem JD.below {w w' : World} {g dg : Nat} {J : JS} {xs : List Int} {D : Dk.DS} {F : Nat → Prop} (h : JD w g dg J xs D F) {B : Nat} (hB : ∀ i, F i → i < B) (b : Below B w w') (hs : w.heap.size ≤ w'.heap.size) : JD w' g dg J xs D F := h.kept (fun i hi => b.block i (hB i hi)) hs
theorem JTo.refl {w : World} {g dg : Nat} {J : JS} {xs : List Int} {D : Dk.DS} {F : Nat → Prop} (h : JD w g dg J xs D F) : JTo w F g dg J xs D w := ⟨F, h, fun _ hi => .inl hi, Dk.Upd.refl F w⟩
theorem JTo.trans {w u v : World} {g dg : Nat} {J : JS} {xs : List Int} {D : Dk.DS} {F F' : Nat → Prop} (hF : ∀ i, F' i → F i ∨ w.heap.size ≤ i) (hu : Dk.Upd F w u) (h : JTo u F' g dg J xs D v) : JTo w F g dg J xs D v := by
  obtain ⟨F2, h1, h2, h3⟩ := h
  have hz := hu.size
  refine ⟨F2, h1, fun i hi => ?_, hu.trans h3 hF⟩
  rcases h2 i hi with h | h
  · exact hF i h
  · exact .inr (by omega)
theorem upd_below {F : Nat → Prop} {w u : World} (b : Below w.heap.size w u) : Dk.Upd F w u := ⟨b.os, b.tape, b.output, b.size, fun k hk _ => b.block k hk⟩
theorem JTo.of_below {w u : World} {g dg : Nat} {J : JS} {xs : List Int} {D : Dk.DS} {F : Nat → Prop} (h : JD w g dg J xs D F) (b : Below w.heap.size w u) : JTo w F g dg J xs D u := ⟨F, h.below h.flt b b.size, fun _ hi => .inl hi, upd_below b⟩

def Calm (D : Dk.DS) : Prop := D.gone = false ∧ D.arm.set = false ∧ D.fail.set = false
theorem Calm.oper {D : Dk.DS} (h : Calm D) : D.oper = D := by
  obtain ⟨nb, dur, uf, n, gone, ⟨s1, l1⟩, ⟨s2, l2⟩⟩ := D
  obtain ⟨h1, h2, h3⟩ := h
  dsimp only at h1 h2 h3
  subst h1 h2 h3
  simp [Dk.DS.oper, Dk.Fuse.stops, Dk.Fuse.then]
theorem Calm.operE {D : Dk.DS} (h : Calm D) : D.operE = 0 := by
  obtain ⟨h1, h2, h3⟩ := h
  simp [Dk.DS.operE, Dk.Fuse.stops, h1, h2, h3]
theorem calm_new (nb : Nat) (d : List UInt8) : Calm (Dk.DS.new nb d) := ⟨rfl, rfl, rfl⟩
theorem Calm.flush {D : Dk.DS} (h : Calm D) : D.flush = { D with dur := D.image, uf := [] } ∧ Calm D.flush := by
  have e : D.flush = { D with dur := D.image, uf := [] } := by rw [Dk.DS.flush, if_pos h.operE, h.oper]
  exact ⟨e, by rw [e]; exact h⟩

def wrs (S f : Nat) (bs : List (List UInt8)) (k : Nat) : List (Nat × List UInt8) := (List.range k).map fun i => (2 + (f + i) % S, bs.getD i [])
theorem wrs_succ (S f : Nat) (bs : List (List UInt8)) (k : Nat) (h : k < bs.length) : wrs S f bs (k + 1) = wrs S f bs k ++ [(2 + (f + k) % S, bs[k])] := by simp [wrs, List.range_succ, h]
theorem wrs_length (S f : Nat) (bs : List (List UInt8)) (k : Nat) : (wrs S f bs k).length = k := by simp [wrs]
def grow (D : Dk.DS) (S f : Nat) (bs : List (List UInt8)) (k : Nat) : Dk.DS := { D with uf := D.uf ++ wrs S f bs k, n := D.n + k }
theorem grow_zero (D : Dk.DS) (S f : Nat) (bs : List (List UInt8)) : grow D S f bs 0 = D := by simp [grow, wrs]
theorem grow_calm {D : Dk.DS} (h : Calm D) (S f : Nat) (bs : List (List UInt8)) (k : Nat) : Calm (grow D S f bs k) := h
theorem grow_succ {D : Dk.DS} (hc : Calm D) (S f : Nat) (bs : List (List UInt8)) (k : Nat) (h : k < bs.length) :
    grow D S f bs (k + 1) = { (grow D S f bs k).oper with uf := (grow D S f bs k).uf ++ [(2 + (f + k) % S, bs[k])], n := (grow D S f bs k).n + 1 } := by
  rw [(grow_calm hc S f bs k).oper]
  simp only [grow, wrs_succ S f bs k h, List.append_assoc, Nat.add_assoc]

theorem box_ring {w : World} {g dg : Nat} {vs : Value} {J : JS} (h : Box w g (jC g dg vs J) 201) (S T U H : Int) :
    Box ((((w.setCell ⟨g, 6, none⟩ (.int .i64 S)).setCell ⟨g, 7, none⟩ (.int .i64 T)).setCell ⟨g, 8, none⟩ (.int .i64 U)).setCell ⟨g, 9, none⟩ (.int .i64 H)) g (jC g dg vs { J with S := S, T := T, U := U, H := H }) 201 := by
  have q := (((h.store 6 (.int .i64 S)).store 7 (.int .i64 T)).store 8 (.int .i64 U)).store 9 (.int .i64 H)
  simpa [jC] using q
theorem box_sizes {w : World} {g dg : Nat} {vs : Value} {J : JS} (h : Box w g (jC g dg vs J) 201) (v : Value) : Box (w.setCell ⟨g, 10, none⟩ v) g (jC g dg v J) 201 := by
  have q := h.store 10 v
  simpa [jC] using q
theorem box_next {w : World} {g dg : Nat} {vs : Value} {J : JS} (h : Box w g (jC g dg vs J) 201) (x : Int) : Box (w.setCell ⟨g, 4, none⟩ (.int .i64 x)) g (jC g dg vs { J with next := x }) 201 := by
  have q := h.store 4 (.int .i64 x)
  simpa [jC] using q
theorem upd_set {F : Nat → Prop} {w u : World} (h : Dk.Upd F w u) (g j : Nat) (hp : F g ∨ w.heap.size ≤ g) (v : Value) : Dk.Upd F w (u.setCell ⟨g, j, none⟩ v) := by
  have s := Dk.grown_store u g j v
  have hz := h.size
  refine ⟨s.os.trans h.os, s.tape.trans h.tape, s.output.trans h.output, Nat.le_trans hz s.size, fun k hk hf => (s.block k (by omega) (fun e => ?_)).trans (h.block k hk hf)⟩
  injection e with e
  subst e
  rcases hp with h1 | h1
  · exact hf h1
  · omega
end Go.Proofs.YtnldkpckojhbhaaGreat.J

/-
  Append that takes its places.
-/
namespace Go.Proofs.YtnldkpckojhbhaaGreat.J
open Go.RowKit
open Go.Proofs.YtnldkpckojhbhaaGreat.Dk (Box)

def A8 (w4 : World) (S T U H : Int) (v : Value) (u : World) : Prop := ∃ b, v = .pointer (some ⟨b, 0, none⟩) ∧ w4.heap.size ≤ b ∧ Box u b #[.int .i64 S, .int .i64 T, .int .i64 U, .int .i64 H] 59 ∧ Below w4.heap.size w4 u
theorem A8.ofSet {w4 W : World} (hb : Below w4.heap.size w4 W) (hx : Box W w4.heap.size #[.int .i64 0, .int .i64 0, .int .i64 0, .int .i64 0] 59) (S T U H : Int) :
    A8 w4 S T U H (.pointer (some ⟨w4.heap.size, 0, none⟩)) ((((W.setCell ⟨w4.heap.size, 0, none⟩ (.int .i64 S)).setCell ⟨w4.heap.size, 1, none⟩ (.int .i64 T)).setCell ⟨w4.heap.size, 2, none⟩ (.int .i64 U)).setCell ⟨w4.heap.size, 3, none⟩ (.int .i64 H)) :=
  ⟨_, rfl, Nat.le_refl _, by simpa using ((((hx.store 0 (.int .i64 S)).store 1 (.int .i64 T)).store 2 (.int .i64 U)).store 3 (.int .i64 H)), below_set4 hb (Nat.le_refl _) _ _ _ _⟩
theorem A8.ofNew {w4 W : World} (hb : Below w4.heap.size w4 W) (S T U H : Int) :
    A8 w4 S T U H (.pointer (some ⟨W.heap.size, 0, none⟩)) (W.alloc (.cells #[.int .i64 S, .int .i64 T, .int .i64 U, .int .i64 H] 59)) :=
  ⟨_, rfl, hb.size, Dk.Box.new W _ 59, hb.alloc hb.size _⟩

def A16 (w7 : World) (g dg : Nat) (vs : Value) (J : JS) (m : Nat) (ys : List Value) (u : World) : Prop :=
  ∃ vs', Box u g (jC g dg vs' J) 201 ∧ u.ownsRow 0 3 1 vs' m ys ∧ (∀ k, vs'.ownBlock = some k → vs.ownBlock = some k ∨ w7.heap.size ≤ k) ∧ Dk.Upd (fun k => k = g ∨ vs.ownBlock = some k) w7 u
theorem app_end {w w5 w6 w7 w8 : World} {g dg : Nat} {vs : Value} {J : JS} {F Fd F' : Nat → Prop} {D : Dk.DS} {ys : List Int} (hX : F g ∧ ¬ Fd g ∧ ∀ i, F i → i < w.heap.size) (hv : ∀ k, vs.ownBlock = some k → ¬ Fd k ∧ F k) (hFd : ∀ i, Fd i → F i)
    (B5 : Below w.heap.size w w5) (hF6 : ∀ i, F' i → Fd i ∨ w5.heap.size ≤ i) (hd6 : Dk.IsDisk w6 dg D F') (hu6 : Dk.Upd Fd w5 w6) (hu7 : Dk.Upd (· = g) w6 w7) (h8 : A16 w7 g dg vs J ys.length (ics ys) w8) (x : Int) :
    JTo w F g dg { J with next := x } ys D (w8.setCell ⟨g, 4, none⟩ (.int .i64 x)) := by
  obtain ⟨hFF, hFg, hFlt⟩ := hX
  obtain ⟨vs', hb8, hr8, hv8, hu8⟩ := h8
  have z1 := B5.size
  have z2 := hu6.size
  have z3 := hu7.size
  have z4 := hu8.size
  have s := Dk.grown_store w8 g 4 (.int .i64 x)
  have z5 := s.size
  have hg := hFlt g hFF
  have hF6lt : ∀ i, F' i → i < w6.heap.size := fun i hi => by
    obtain ⟨gd, cd, vu, ps, hl⟩ := hd6
    exact hl.flt i hi
  have hngF : ¬ F' g := fun h => by
    rcases hF6 g h with h1 | h1
    · exact hFg h1
    · omega
  have hnv : ∀ k, vs.ownBlock = some k → ¬ F' k ∧ k < w.heap.size := fun k hk => by
    obtain ⟨a1, a2⟩ := hv k hk
    have a3 := hFlt k a2
    refine ⟨fun h => ?_, a3⟩
    rcases hF6 k h with h1 | h1
    · exact a1 h1
    · omega
  have hr8ne : ∀ k, vs'.ownBlock = some k → k ≠ g ∧ k < w8.heap.size := fun k hk => by
    refine ⟨fun e => ?_, (hr8.lt k hk).2⟩
    subst e
    rcases hr8.2 with ⟨e1, _⟩ | ⟨q', cap', cur, e1, _, e2, _⟩
    · rw [e1] at hk; cases hk
    · rw [e1] at hk
      injection hk with hk
      have e' : q' = k := hk
      subst e'
      exact hb8.ne e2 (by decide) rfl
  have hother : ∀ k, k ≠ g → (w8.setCell ⟨g, 4, none⟩ (.int .i64 x)).heap[k]? = w8.heap[k]? := fun k hk => heap_setCell_other w8 ⟨g, 4, none⟩ k _ (by simpa using hk)
  refine ⟨fun i => (F i ∨ w.heap.size ≤ i) ∧ i < (w8.setCell ⟨g, 4, none⟩ (.int .i64 x)).heap.size, ⟨⟨vs', F', box_next hb8 x, disk_kept hd6 (fun i hi => ?_) (by omega), hngF, owns_kept hr8 (fun k hk => hother k (hr8ne k hk).1), fun k hk => ?_, fun i hi => ⟨?_, ?_⟩⟩, ⟨.inl hFF, by omega⟩, fun i hi => hi.2⟩, fun i hi => hi.1, ?_⟩
  · have hig : i ≠ g := fun e => hngF (e ▸ hi)
    have h6 := hF6lt i hi
    rw [hother i hig, hu8.block i (by omega) (fun h => ?_), hu7.block i h6 hig]
    rcases h with h | h
    · exact hig h
    · exact (hnv i h).1 hi
  · obtain ⟨a1, a2⟩ := hr8ne k hk
    rcases hv8 k hk with h | h
    · exact ⟨(hnv k h).1, .inl (hv k h).2, by omega⟩
    · exact ⟨fun hf => by have := hF6lt k hf; omega, .inr (by omega), by omega⟩
  · rcases hF6 i hi with h | h
    · exact .inl (hFd i h)
    · exact .inr (by omega)
  · have := hF6lt i hi
    omega
  · refine ⟨s.os.trans (hu8.os.trans (hu7.os.trans (hu6.os.trans B5.os))), s.tape.trans (hu8.tape.trans (hu7.tape.trans (hu6.tape.trans B5.tape))), s.output.trans (hu8.output.trans (hu7.output.trans (hu6.output.trans B5.output))), by omega, fun k hk hn => ?_⟩
    have hkg : k ≠ g := fun e => hn (e ▸ hFF)
    rw [hother k hkg, hu8.block k (by omega) (fun h => ?_), hu7.block k (by omega) hkg, hu6.block k (by omega) (fun h => hn (hFd k h)), B5.block k hk]
    rcases h with h | h
    · exact hkg h
    · exact hn (hv k h).2

set_option maxRecDepth 100000 in
set_option maxHeartbeats 4000000 in
theorem append_ok {w : World} {g dg n cap : Nat} {al : Option Addr} {J : JS} {is : List (Int × List UInt8)} {xs : List Int} {D : Dk.DS} {F : Nat → Prop} (hJ : JD w g dg J xs D F) (hb : J.broken = false) (hl : is.length = n) (hI : Rc.Imgs w al is)
    (hok : Rc.okGroup J.epoch J.next is) (hR : Rg.R J.S J.T J.U J.H) (h2 : ((n + 1 : Nat) : Int) ≤ Rg.fr J.S J.T J.U J.H)
    (hlog : J.log = 2) (hc : Calm D) (hS : J.S ≤ 64) (hnb : 2 + J.S ≤ D.nb) (hd1 : D.uf.length ≤ 900000) (hd2 : D.n ≤ 900000) (hx : xs.length ≤ 1000) :
    Calls Tryz.prog 81 #[.pointer (some ⟨g, 0, none⟩), .slice al n cap, .bool false] w fun r w' => r = .returned (.tuple #[.int .i64 J.next, .int .i64 0]) ∧
      JTo w F g dg { J with next := J.next + 1, U := J.U + (n + 1 : Nat), H := J.H - 0 } (xs ++ [((n + 1 : Nat) : Int)]) (grow D J.S.toNat ((J.T + J.U) % J.S).toNat (Rc.putL J.epoch.toNat J.next.toNat is) (n + 1)) w' := by
  obtain ⟨i0, hi, hz0, hz1, hz2⟩ := info_parts Dk.info3
  obtain ⟨⟨vs, Fd, h, hd, hFg, hrow, hFv, hFd⟩, hFF, hFlt⟩ := hJ
  have hn32 : n ≤ 32 := by have := hok.1.2.1; simp at this; omega
  have hst := (Rc.okStamp_iff _ _).1 hok.1.1
  have hfr : Rg.fr J.S J.T J.U J.H = J.S - J.U - J.H := by rw [Rg.fr, if_pos hR]
  rw [hfr] at h2
  have hR' := hR
  unfold Rg.R at hR'
  have hSn : ¬ J.S < (n + 1 : Nat) := by omega
  have ca := app_ahead_ok (cap := cap) h hb hl hI hok
  rw [if_neg hSn] at ca
  have cp := fun u => Rg.put_ok J.S J.T J.U J.H ((n + 1 : Nat) : Int) 0 u hR (by omega) ⟨by omega, by omega, by omega⟩ (by rw [hfr]; omega)
  unfold Rg.ri at cp
  -- the places
  obtain ⟨S, hSe⟩ : ∃ S : Nat, J.S = (S : Int) := ⟨J.S.toNat, by omega⟩
  have hS0 : 0 < S := by omega
  obtain ⟨f, hfe⟩ : ∃ f : Nat, (J.T + J.U) % J.S = (f : Int) := ⟨((J.T + J.U) % J.S).toNat, by have := Int.emod_nonneg (J.T + J.U) (b := J.S) (by omega); omega⟩
  have hfS : f < S := by have := Int.emod_lt_of_pos (J.T + J.U) (b := J.S) (by omega); omega
  have hSt : J.S.toNat = S := by omega
  have hft : ((J.T + J.U) % J.S).toNat = f := by omega
  rw [hSt, hft]
  rw [hfe] at cp
  obtain ⟨U', hU'⟩ : ∃ U', U' = J.U + ((n + 1 : Nat) : Int) := ⟨_, rfl⟩
  obtain ⟨H', hH'⟩ : ∃ H', H' = J.H - 0 := ⟨_, rfl⟩
  rw [← hU', ← hH'] at cp ⊢
  clear hU' hH'
  have hbl : Hid ((Rc.putL J.epoch.toNat J.next.toNat is).length = n + 1) := by show _ = _; rw [Rc.putL_length, hl]
  have hlt := h.lt
  have HW : Hid (∀ w5 cl gl, Below w.heap.size w w5 → New w.heap.size w5 gl (Rc.putL J.epoch.toNat J.next.toNat is) → Calls Tryz.prog 153 #[.pointer (some ⟨g, 0, none⟩), .slice (some ⟨gl, 0, none⟩) (n + 1) cl, .int .i64 (f : Int)] w5 fun r w' => r = .returned (.int .i64 0) ∧ Wr w5 dg Fd (grow D S f (Rc.putL J.epoch.toNat J.next.toNat is) (n + 1)) w') := fun w5 cl gl B5 hN => by
    have hFd' : ∀ i, w.heap.size ≤ i → ¬ Fd i := fun i hi hf => by have := hFlt i (hFd i hf); omega
    refine write_at (c := cl) (o := 0) (fun k => grow D S f (Rc.putL J.epoch.toNat J.next.toNat is) k) (Rc.putL J.epoch.toNat J.next.toNat is) S f (h.below B5) hFg hSe hlog (by rw [grow_zero]; exact disk_kept hd (fun i hi => B5.block i (hFlt i (hFd i hi))) B5.size) hbl.out (by omega) (fun k hk => ?_) (hFd' _ hN.1) hN.2.1 hS0 (by omega) hfS (fun k hk => ⟨grow_succ hc S f _ k hk, ?_, (grow_calm hc S f _ k).operE, ?_⟩)
    · obtain ⟨q, c, a1, a2, a3, a4, _⟩ := hN.2.2 k hk
      exact ⟨⟨q, 0, none⟩, c, by rw [Nat.zero_add]; exact a1, a2, a3, hFd' q a4⟩
    · have := Nat.mod_lt (f + k) hS0
      show _ < D.nb
      omega
    · have := hbl.out
      constructor
      · show (D.uf ++ wrs S f _ k).length ≤ _
        rw [List.length_append, wrs_length]
        omega
      · show D.n + k ≤ _
        omega
  have H0 : Hid (Box w g (jC g dg vs J) 201) := h
  have HD : Hid (∀ k, vs.ownBlock = some k → ¬ Fd k ∧ F k) := hFv
  have HF : Hid (∀ i, Fd i → F i) := hFd
  have HR : Hid (w.ownsRow 0 3 1 vs xs.length (ics xs)) := hrow
  have HX : Hid (F g ∧ ¬ Fd g ∧ ∀ i, F i → i < w.heap.size) := ⟨hFF, hFg, hFlt⟩
  generalize grow D S f (Rc.putL J.epoch.toNat J.next.toNat is) (n + 1) = D' at HW ⊢
  generalize Rc.putL J.epoch.toNat J.next.toNat is = bs at HW ca hbl
  have hn1 : J.next + 1 ≤ 549755813889 ∧ 1 ≤ J.next := by omega
  clear h hI hok hSn hR h2 hR' hd hFg hrow hFv hFd hFF hFlt hSe hS0 hfe hfS hSt hft hfr hlog hc hS hnb hd1 hd2 hst hb hl
  go_enter Tryz.func81, Tryz.ntmps81
  go_wp2_with fail
  refine Calls.mono ca ?_
  rintro r w4 ⟨e, rfl, rfl, hu, gl, cl, hbc, hN⟩
  have B4 := ap3_upd hu
  have z4 : w.heap.size + 3 ≤ w4.heap.size := by have := hu.size; rwa [ap3_size] at this
  have HA : Hid (Box w4 w.heap.size #[.pointer (some ⟨g, 0, none⟩)] 77) := (hu.block w.heap.size (by rw [ap3_size]; omega) (by show ¬ w.heap.size = w.heap.size + 2; omega)).trans (ap3_a w g al n cap)
  have HC : Hid (Box w4 (w.heap.size + 2) #[.slice (some ⟨gl, 0, none⟩) (n + 1) cl] 46) := hbc
  have HN : Hid (New w.heap.size w4 gl bs) := by
    obtain ⟨n1, n2, n3⟩ := hN
    rw [ap3_size] at n1
    refine ⟨by omega, n2, fun k hk => ?_⟩
    obtain ⟨q, c, a1, a2, a3, a4, a5⟩ := n3 k hk
    rw [ap3_size] at a4
    exact ⟨q, c, a1, a2, a3, by omega, a5⟩
  have HS : Hid (∀ u, Below w4.heap.size w4 u → R8 w g gl n cl J u) := fun u bu => by
    have hz := bu.size
    obtain ⟨_, _, _, _, _, _, c6, c7, c8, c9, _, _⟩ := box_cells (H0.out.below B4)
    have ca := HA.out.cell 0
    have cc := hbc.cell 0
    simp at ca cc
    have hg4 : g < w4.heap.size := by omega
    exact ⟨(bu.cell (p := ⟨w.heap.size, 0, none⟩) HA.out.lt).trans ca, (bu.cell (p := ⟨g, 6, none⟩) hg4).trans c6, (bu.cell (p := ⟨g, 7, none⟩) hg4).trans c7, (bu.cell (p := ⟨g, 8, none⟩) hg4).trans c8, (bu.cell (p := ⟨g, 9, none⟩) hg4).trans c9, (bu.cell (p := ⟨w.heap.size + 2, 0, none⟩) hbc.lt).trans cc⟩
  have ccx := hbc.cell 0
  simp at ccx
  clear hu hbc hN ca
  go_upto_region 8 with fail
  clear ccx
  go_cut [9, 11, 12] from 24 (fun v9 v11 v12 u => v9 = .int .i64 0 ∧ v12 = .int .i64 (f : Int) ∧ A8 w4 J.S J.T U' H' v11 u)
  case first =>
    go_region_held3 (fun u => u.cell? ⟨w.heap.size, 0, none⟩ = some (.pointer (some ⟨g, 0, none⟩)) ∧ u.cell? ⟨g, 6, none⟩ = some (.int .i64 J.S) ∧ u.cell? ⟨g, 7, none⟩ = some (.int .i64 J.T) ∧ u.cell? ⟨g, 8, none⟩ = some (.int .i64 J.U) ∧ u.cell? ⟨g, 9, none⟩ = some (.int .i64 J.H) ∧ u.cell? ⟨w.heap.size + 2, 0, none⟩ = some (.slice (some ⟨gl, 0, none⟩) (n + 1) cl))
      (first
        | with_reducible exact HS.out _ ((Below.refl w4.heap.size w4).drew)
        | with_reducible exact HS.out _ hb1
        | with_reducible exact HS.out _ (((Below.refl w4.heap.size w4).alloc (Nat.le_refl _) _).drew)
        | with_reducible exact HS.out _ (hb1.alloc hb1.size _)
        | with_reducible exact HS.out _ (below_set4 hb1 (Nat.le_refl _) _ _ _ _))
      (first
        | (go_at_call 152; refine Calls.mono (cp w4.drew) ?_; rintro r W ⟨rfl, hw1⟩; have hb1 : Below w4.heap.size w4 W := (Below.refl w4.heap.size w4).drew.trans hw1)
        | (go_at_call 152; refine Calls.mono (cp (w4.alloc (.cells #[.int .i64 0, .int .i64 0, .int .i64 0, .int .i64 0] 59)).drew) ?_; rintro r W ⟨rfl, hw1⟩; have hb1 : Below w4.heap.size w4 W := ((Below.refl w4.heap.size w4).alloc (Nat.le_refl _) _).drew.trans (hw1.mono (by simp)); have hnb := (hw1.block w4.heap.size (by simp)).trans (Dk.Box.new w4 #[.int .i64 0, .int .i64 0, .int .i64 0, .int .i64 0] 59); obtain ⟨⟨q0, q1, q2, q3⟩, p0, p1, p2, p3⟩ := box4 hnb))
    all_goals
      go_wp2_with fail
      go_meet
      case rel =>
        first
          | exact ⟨rfl, rfl, A8.ofSet hb1 hnb _ _ _ _⟩
          | exact ⟨rfl, rfl, A8.ofNew hb1 _ _ _ _⟩
  case rest =>
    obtain ⟨rfl, rfl, b5, rfl, hb5, hx5, B5⟩ := hcut
    have B5w : Below w.heap.size w wc := B4.trans (B5.mono B4.size)
    have hN5 : New w.heap.size wc gl bs := HN.out.kept B5.size (fun k h1 h2 => B5.block k h2)
    have cW := HW.out wc cl gl B5w hN5
    have ha5 := HA.out.below B5
    have hc5 := HC.out.below B5
    have y1 := ha5.cell 0
    have y2 := hc5.cell 0
    simp at y1 y2
    have HX5 : Hid (Box wc b5 #[.int .i64 J.S, .int .i64 J.T, .int .i64 U', .int .i64 H'] 59) := hx5
    clear HS hx5 HW
    go_wp2_with fail
    refine Calls.mono cW ?_
    rintro r w6 ⟨rfl, F', hd6, hF6, hu6⟩
    have HD6 : Hid (Dk.IsDisk w6 dg D' F') := hd6
    have HF6 : Hid (∀ i, F' i → Fd i ∨ wc.heap.size ≤ i) := hF6
    have HU6 : Hid (Dk.Upd Fd wc w6) := hu6
    have hFd' : ∀ i, w.heap.size ≤ i → ¬ Fd i := fun i hi hf => by have := HX.out.2.2 i (HF.out i hf); omega
    have g6 : Box w6 g (jC g dg vs J) 201 := (hu6.block g (Nat.lt_of_lt_of_le hlt B5w.size) HX.out.2.1).trans (H0.out.below B5w)
    have a6 : Box w6 w.heap.size #[.pointer (some ⟨g, 0, none⟩)] 77 := (hu6.block _ ha5.lt (hFd' _ (Nat.le_refl _))).trans ha5
    have c6 : Box w6 (w.heap.size + 2) #[.slice (some ⟨gl, 0, none⟩) (n + 1) cl] 46 := (hu6.block _ hc5.lt (hFd' _ (by omega))).trans hc5
    have x6 : Box w6 b5 #[.int .i64 J.S, .int .i64 J.T, .int .i64 U', .int .i64 H'] 59 := (hu6.block _ HX5.out.lt (hFd' _ (by omega))).trans HX5.out
    clear hd6 hF6 hu6 cW y1 y2 ha5 hc5 HX5 hN5 HN
    obtain ⟨g0, g1, g2, g3, g4, g5, g6c, g7, g8, g9, g10, g11⟩ := box_cells g6
    have f6 := g6.frozen 6
    have f7 := g6.frozen 7
    have f8 := g6.frozen 8
    have f9 := g6.frozen 9
    have y1 := a6.cell 0
    have y2 := c6.cell 0
    simp at y1 y2
    obtain ⟨⟨x0, x1, x2, x3⟩, _⟩ := box4 x6
    have g7b := box_ring g6 J.S J.T U' H'
    have hU7 := upd_set (upd_set (upd_set (upd_set (Dk.Upd.refl (· = g) w6) g 6 (.inl rfl) (.int .i64 J.S)) g 7 (.inl rfl) (.int .i64 J.T)) g 8 (.inl rfl) (.int .i64 U')) g 9 (.inl rfl) (.int .i64 H')
    go_upto_region 16 with fail
    generalize (((w6.setCell ⟨g, 6, none⟩ (.int .i64 J.S)).setCell ⟨g, 7, none⟩ (.int .i64 J.T)).setCell ⟨g, 8, none⟩ (.int .i64 U')).setCell ⟨g, 9, none⟩ (.int .i64 H') = w7 at g7b hU7 ⊢
    have hz67 := hU7.size
    have hne : ∀ q (cs : Array Value) (t : TypeId), Box w6 q cs t → t ≠ 201 → q ≠ g := fun q cs t hq ht e => (e ▸ hq : Box w6 g cs t).ne g6 ht rfl
    have a7 : Box w7 w.heap.size #[.pointer (some ⟨g, 0, none⟩)] 77 := (hU7.block _ a6.lt (hne _ _ _ a6 (by decide))).trans a6
    have c7 : Box w7 (w.heap.size + 2) #[.slice (some ⟨gl, 0, none⟩) (n + 1) cl] 46 := (hU7.block _ c6.lt (hne _ _ _ c6 (by decide))).trans c6
    have r7 : w7.ownsRow 0 3 1 vs xs.length (ics xs) := by
      have hr := HR.out
      have hv : ∀ k, vs.ownBlock = some k → k < w.heap.size ∧ ¬ Fd k := fun k hk => ⟨HX.out.2.2 k (HD.out k hk).2, (HD.out k hk).1⟩
      have r5 := owns_kept hr (fun k hk => B5w.block k (hv k hk).1)
      have r6 := owns_kept r5 (fun k hk => HU6.out.block k (Nat.lt_of_lt_of_le (hv k hk).1 B5w.size) (hv k hk).2)
      refine owns_kept r6 (fun k hk => hU7.block k ?_ (fun e => ?_))
      · exact Nat.lt_of_lt_of_le (Nat.lt_of_lt_of_le (hv k hk).1 B5w.size) HU6.out.size
      · subst e
        rcases r6.2 with ⟨q, _⟩ | ⟨q, cap', cur, q1, _, q2, _⟩
        · rw [q] at hk; cases hk
        · rw [q1] at hk
          injection hk with hk
          have hk' : q = k := hk
          subst hk'
          exact hne q _ 3 q2 (by decide) rfl
    clear g0 g1 g2 g3 g4 g5 g6c g7 g8 g9 g10 g11 f6 f7 f8 f9 y1 y2 x0 x1 x2 x3 x6 a6 c6
    have y1 := a7.cell 0
    have y2 := c7.cell 0
    simp at y1 y2
    obtain ⟨vp, vc, rfl⟩ : ∃ a c, vs = .slice a xs.length c := by
      rcases r7.2 with ⟨q, q0⟩ | ⟨q, cap', cur, q1, _⟩
      · exact ⟨none, 0, by rw [q, q0]⟩
      · exact ⟨_, _, q1⟩
    have HG7 : Hid (Box w7 g (jC g dg (.slice vp xs.length vc) { J with U := U', H := H' }) 201) := g7b
    have HR7 : Hid (w7.ownsRow 0 3 1 (.slice vp xs.length vc) xs.length (ics xs)) := r7
    have HU7 : Hid (Dk.Upd (· = g) w6 w7) := hU7
    have HA7 : Hid (Box w7 w.heap.size #[.pointer (some ⟨g, 0, none⟩)] 77) := a7
    have HC7 : Hid (Box w7 (w.heap.size + 2) #[.slice (some ⟨gl, 0, none⟩) (n + 1) cl] 46) := c7
    clear g7b r7 hU7 hne a7 c7 g6 y1 y2
    go_cut [] from 54 (fun u => A16 w7 g dg (.slice vp xs.length vc) { J with U := U', H := H' } (xs.length + 1) (ics xs ++ [.int .i64 ((n : Int) + 1)]) u)
    case first =>
      have l7a := HA7.out.lt
      have HS : Hid (∀ u : World, (∀ k, k < w7.heap.size → k ≠ g → (Value.slice vp xs.length vc).ownBlock ≠ some k → u.heap[k]? = w7.heap[k]?) → u.cell? ⟨w.heap.size, 0, none⟩ = some (.pointer (some ⟨g, 0, none⟩)) ∧ u.cell? ⟨w.heap.size + 2, 0, none⟩ = some (.slice (some ⟨gl, 0, none⟩) (n + 1) cl)) := fun u hu => by
        have hv : ∀ q (cs : Array Value) (t : TypeId), Box w7 q cs t → t ≠ 3 → (Value.slice vp xs.length vc).ownBlock ≠ some q := fun q cs t hq ht e => by
          rcases HR7.out.2 with ⟨e1, _⟩ | ⟨q', cap', cur, e1, _, e2, _⟩
          · rw [e1] at e; cases e
          · rw [e1] at e
            injection e with e
            have e' : q' = q := e
            subst e'
            exact hq.ne e2 ht rfl
        have y1 := HA7.out.cell 0
        have y2 := HC7.out.cell 0
        simp at y1 y2
        exact ⟨(World.cell?_of_block (a := ⟨w.heap.size, 0, none⟩) (hu _ HA7.out.lt (fun e => HA7.out.ne HG7.out (by decide) e) (hv _ _ _ HA7.out (by decide)))).trans y1,
          (World.cell?_of_block (a := ⟨w.heap.size + 2, 0, none⟩) (hu _ HC7.out.lt (fun e => HC7.out.ne HG7.out (by decide) e) (hv _ _ _ HC7.out (by decide)))).trans y2⟩
      have g10 := (box_cells HG7.out).2.2.2.2.2.2.2.2.2.2.1
      refine wp_region_noPanic ?_
      refine wp_region_held_drew (S := fun u => u.cell? ⟨w.heap.size, 0, none⟩ = some (.pointer (some ⟨g, 0, none⟩)) ∧ u.cell? ⟨w.heap.size + 2, 0, none⟩ = some (.slice (some ⟨gl, 0, none⟩) (n + 1) cl)) (by kernel_rfl) (HS.out _ (fun _ _ _ _ => rfl)) (fun hHeld => ?_)
      refine wpAnyH_take (i := 0) (v := ?_) rfl (by kernel_rfl) (by kernel_rfl) (by kernel_rfl) (fun _ _ _ h => h) (Or.inl ⟨by rfl, ?_⟩) (by assumption) ?_
      rotate_left
      · intro w hSw
        go_simp
        with_reducible rfl
      simp only [Act.put, List.setIfInBounds_toArray, List.set_cons_zero, List.set_cons_succ, List.getElem_toArray, List.getElem_cons_zero]
      refine wpAnyH_take (i := 1) (v := ?_) rfl (by kernel_rfl) (by kernel_rfl) (by kernel_rfl) (fun _ _ _ h => h) (Or.inl ⟨by rfl, ?_⟩) (by assumption) ?_
      rotate_left
      · intro w hSw
        go_simp
        with_reducible rfl
      simp only [Act.put, List.setIfInBounds_toArray, List.set_cons_zero, List.set_cons_succ, List.getElem_toArray, List.getElem_cons_zero, List.getElem_cons_succ]
      refine wpAnyH_take (i := 2) (v := ?_) rfl (by kernel_rfl) (by kernel_rfl) (by kernel_rfl) (fun _ _ _ h => h) (Or.inl ⟨by rfl, ?_⟩) (by assumption) ?_
      rotate_left
      · intro w hSw
        go_simp
        with_reducible rfl
      simp only [Act.put, List.setIfInBounds_toArray, List.set_cons_zero, List.set_cons_succ, List.getElem_toArray, List.getElem_cons_zero, List.getElem_cons_succ]
      refine wpAnyH_take (i := 3) (v := ?_) rfl (by kernel_rfl) (by kernel_rfl) (by kernel_rfl) (fun _ _ _ h => h) (Or.inl ⟨by rfl, ?_⟩) (by assumption) ?_
      rotate_left
      · intro w hSw
        go_simp
        with_reducible rfl
      simp only [Act.put, List.setIfInBounds_toArray, List.set_cons_zero, List.set_cons_succ, List.getElem_toArray, List.getElem_cons_zero, List.getElem_cons_succ]
      refine wpAnyH_take (i := 5) (v := ?_) rfl (by kernel_rfl) (by kernel_rfl) (by kernel_rfl) (fun _ _ _ h => h) (Or.inl ⟨by rfl, ?_⟩) (by assumption) ?_
      rotate_left
      · intro w hSw
        go_simp
        with_reducible rfl
      simp only [Act.put, List.setIfInBounds_toArray, List.set_cons_zero, List.set_cons_succ, List.getElem_toArray, List.getElem_cons_zero, List.getElem_cons_succ]
      refine wpAnyH_take (i := 6) (v := ?_) rfl (by kernel_rfl) (by kernel_rfl) (by kernel_rfl) (fun _ _ _ h => h) (Or.inl ⟨by rfl, ?_⟩) (by assumption) ?_
      rotate_left
      · intro w hSw
        go_simp
        with_reducible rfl
      simp only [Act.put, List.setIfInBounds_toArray, List.set_cons_zero, List.set_cons_succ, List.getElem_toArray, List.getElem_cons_zero, List.getElem_cons_succ]
      have g10a : ∀ o : Obj, (w7.alloc o).cell? ⟨g, 10, none⟩ = some (.slice vp xs.length vc) := fun o => (box_cells (HG7.out.alloc o)).2.2.2.2.2.2.2.2.2.2.1
      refine wpAnyH_ready (rs := [4, 7]) (by kernel_rfl) (by simp) ?_
      refine AllReadyH.cons rfl (fun K hK => ?_) (AllReadyH.cons rfl (fun K hK => ?_) AllReadyH.nil)
      · go_simp
        refine hK.out _ _ (HS.out _ (fun _ _ _ _ => rfl)) (fun hHeld => ?_)
        clear hK K
        refine wpAnyH_ready (rs := [7]) (by kernel_rfl) (by simp) ?_
        refine AllReadyH.cons rfl (fun K hK => ?_) AllReadyH.nil
        go_simp
        refine hK.out _ _ (HS.out _ (fun k hk _ _ => heap_alloc_old _ _ hk)) (fun hHeld => ?_)
        clear hK K
        refine wpAnyH_ready (rs := [8]) (by kernel_rfl) (by simp) ?_
        refine AllReadyH.cons rfl (fun K hK => ?_) AllReadyH.nil
        refine step_append_lies _ (by rfl) _ _ _ (by rfl) 0 3 i0 _ 1 8 Tryz.underlying31 hi hz0 hz1 hz2 rfl (by omega) (.slice vp xs.length vc) xs.length (ics xs) (by rfl) (owns_kept HR7.out (fun k hk => heap_alloc_old w7 _ (HR7.out.lt k hk).2))
          ⟨w7.heap.size, 0, none⟩ 1 1 [.int .i64 ((n : Int) + 1)] (by rfl) (by rfl) (World.news_of_block (cs := #[.int .i64 ((n : Int) + 1)]) (t := 3) (fr := (0, 0)) (heap_alloc_new w7 _)) (by intro u hu; simp at hu; subst hu; rfl)
          (by omega) (by unfold maxLen; omega) (by omega) (by omega) (w7.heap.size + 1) (by simp) ?_
        intro gg gc w8 hown8 hgrow hat hlt8
        have hz8 := hgrow.size
        have hzA : w7.heap.size + 1 ≤ w8.heap.size := by simpa using hz8
        have hk8 : ∀ k, k < w7.heap.size → (Value.slice vp xs.length vc).ownBlock ≠ some k → w8.heap[k]? = w7.heap[k]? := fun k hk hne => (hgrow.block k (by simp; omega) (fun e => hne e.symm)).trans (heap_alloc_old w7 _ hk)
        have hng : (Value.slice vp xs.length vc).ownBlock ≠ some g := fun e => by
          rcases HR7.out.2 with ⟨e1, _⟩ | ⟨q', cap', cur, e1, _, e2, _⟩
          · rw [e1] at e; cases e
          · rw [e1] at e
            injection e with e
            have e' : q' = g := e
            subst e'
            exact HG7.out.ne e2 (by decide) rfl
        have G8 : Hid (Box w8 g (jC g dg (.slice vp xs.length vc) { J with U := U', H := H' }) 201) := (hk8 g HG7.out.lt hng).trans HG7.out
        have R8' : Hid (w8.ownsRow 0 3 1 (.slice (some ⟨gg, 0, none⟩) (xs.length + 1) gc) (xs.length + 1) (ics xs ++ [.int .i64 ((n : Int) + 1)])) := hown8
        have g8c := (box_cells G8.out).2.2.2.2.2.2.2.2.2.2.1
        have g8f := G8.out.frozen 10
        have HT8 : Hid ((Value.slice vp xs.length vc).ownBlock = some gg ∨ gg = w7.heap.size + 1) := hat
        have HK8 : Hid (∀ k, k < w7.heap.size → (Value.slice vp xs.length vc).ownBlock ≠ some k → w8.heap[k]? = w7.heap[k]?) := hk8
        have HO8 : Hid (w8.os = w7.os ∧ w8.tape = w7.tape ∧ w8.output = w7.output) := ⟨hgrow.os, hgrow.tape, hgrow.output⟩
        have hgne : gg ≠ g := fun e => by
          subst e
          rcases hown8.2 with ⟨e1, _⟩ | ⟨q', cap', cur, e1, _, e2, _⟩
          · cases e1
          · injection e1 with e1
            injection e1 with e1
            injection e1 with e1
            subst e1
            exact G8.out.ne e2 (by decide) rfl
        refine hK.out _ _ (HS.out _ (fun k hk _ hv => hk8 k hk hv)) (fun hHeld => ?_)
        clear hK K hown8 hgrow hat hk8 hng hz8
        simp only [Act.put, List.setIfInBounds_toArray, List.set_cons_zero, List.set_cons_succ, List.getElem_toArray, List.getElem_cons_zero, List.getElem_cons_succ]
        refine wpAnyH_take (i := 9) (v := ?_) rfl (by kernel_rfl) (by kernel_rfl) (by kernel_rfl) (fun _ _ _ h => h) (Or.inl ⟨by rfl, ?_⟩) (by assumption) ?_
        rotate_left
        · intro w hSw
          go_simp
          with_reducible rfl
        simp only [Act.put, List.setIfInBounds_toArray, List.set_cons_zero, List.set_cons_succ, List.getElem_toArray, List.getElem_cons_zero, List.getElem_cons_succ]
        refine wpAnyH_take (i := 10) (v := ?_) rfl (by kernel_rfl) (by kernel_rfl) (by kernel_rfl) (fun _ _ _ h => h) (Or.inl ⟨by rfl, ?_⟩) (by assumption) ?_
        rotate_left
        · intro w hSw
          go_simp
          with_reducible rfl
        simp only [Act.put, List.setIfInBounds_toArray, List.set_cons_zero, List.set_cons_succ, List.getElem_toArray, List.getElem_cons_zero, List.getElem_cons_succ]
        refine wpAnyH_ready (rs := [11]) (by kernel_rfl) (by simp) ?_
        refine AllReadyH.cons rfl (fun K hK => ?_) AllReadyH.nil
        go_simp
        refine hK.out _ _ (HS.out _ (fun k hk hkg hv => (heap_setCell_other w8 ⟨g, 10, none⟩ k _ (by simpa using hkg)).trans (HK8.out k hk hv))) (fun hHeld => ?_)
        clear hK K
        refine wpAnyH_done (by kernel_rfl) ?_ _
        refine NoPanic.normal ?_
        go_wp2_with fail
        go_meet
        case rel =>
          refine ⟨_, box_sizes G8.out _, owns_kept R8'.out (fun k hk => ?_), fun k hk => ?_, ?_⟩
          · have : gg = k := by injection hk
            subst this
            exact heap_setCell_other w8 ⟨g, 10, none⟩ gg _ (by simpa using hgne)
          · have : gg = k := by injection hk
            subst this
            rcases HT8.out with h1 | h1
            · exact .inl h1
            · exact .inr (by omega)
          · obtain ⟨o1, o2, o3⟩ := HO8.out
            have s := Dk.grown_store w8 g 10 (.slice (some ⟨gg, 0, none⟩) (xs.length + 1) gc)
            have sz := s.size
            exact ⟨s.os.trans o1, s.tape.trans o2, s.output.trans o3, by omega, fun k hk hn => (heap_setCell_other w8 ⟨g, 10, none⟩ k _ (by simpa using fun e => hn (.inl e))).trans (HK8.out k hk (fun e => hn (.inr e)))⟩
      · go_simp
        refine hK.out _ _ (HS.out _ (fun k hk _ _ => heap_alloc_old _ _ hk)) (fun hHeld => ?_)
        clear hK K
        refine wpAnyH_ready (rs := [4]) (by kernel_rfl) (by simp) ?_
        refine AllReadyH.cons rfl (fun K hK => ?_) AllReadyH.nil
        go_simp
        refine hK.out _ _ (HS.out _ (fun k hk _ _ => heap_alloc_old _ _ hk)) (fun hHeld => ?_)
        clear hK K
        refine wpAnyH_ready (rs := [8]) (by kernel_rfl) (by simp) ?_
        refine AllReadyH.cons rfl (fun K hK => ?_) AllReadyH.nil
        refine step_append_lies _ (by rfl) _ _ _ (by rfl) 0 3 i0 _ 1 8 Tryz.underlying31 hi hz0 hz1 hz2 rfl (by omega) (.slice vp xs.length vc) xs.length (ics xs) (by rfl) (owns_kept HR7.out (fun k hk => heap_alloc_old w7 _ (HR7.out.lt k hk).2))
          ⟨w7.heap.size, 0, none⟩ 1 1 [.int .i64 ((n : Int) + 1)] (by rfl) (by rfl) (World.news_of_block (cs := #[.int .i64 ((n : Int) + 1)]) (t := 3) (fr := (0, 0)) (heap_alloc_new w7 _)) (by intro u hu; simp at hu; subst hu; rfl)
          (by omega) (by unfold maxLen; omega) (by omega) (by omega) (w7.heap.size + 1) (by simp) ?_
        intro gg gc w8 hown8 hgrow hat hlt8
        have hz8 := hgrow.size
        have hzA : w7.heap.size + 1 ≤ w8.heap.size := by simpa using hz8
        have hk8 : ∀ k, k < w7.heap.size → (Value.slice vp xs.length vc).ownBlock ≠ some k → w8.heap[k]? = w7.heap[k]? := fun k hk hne => (hgrow.block k (by simp; omega) (fun e => hne e.symm)).trans (heap_alloc_old w7 _ hk)
        have hng : (Value.slice vp xs.length vc).ownBlock ≠ some g := fun e => by
          rcases HR7.out.2 with ⟨e1, _⟩ | ⟨q', cap', cur, e1, _, e2, _⟩
          · rw [e1] at e; cases e
          · rw [e1] at e
            injection e with e
            have e' : q' = g := e
            subst e'
            exact HG7.out.ne e2 (by decide) rfl
        have G8 : Hid (Box w8 g (jC g dg (.slice vp xs.length vc) { J with U := U', H := H' }) 201) := (hk8 g HG7.out.lt hng).trans HG7.out
        have R8' : Hid (w8.ownsRow 0 3 1 (.slice (some ⟨gg, 0, none⟩) (xs.length + 1) gc) (xs.length + 1) (ics xs ++ [.int .i64 ((n : Int) + 1)])) := hown8
        have g8c := (box_cells G8.out).2.2.2.2.2.2.2.2.2.2.1
        have g8f := G8.out.frozen 10
        have HT8 : Hid ((Value.slice vp xs.length vc).ownBlock = some gg ∨ gg = w7.heap.size + 1) := hat
        have HK8 : Hid (∀ k, k < w7.heap.size → (Value.slice vp xs.length vc).ownBlock ≠ some k → w8.heap[k]? = w7.heap[k]?) := hk8
        have HO8 : Hid (w8.os = w7.os ∧ w8.tape = w7.tape ∧ w8.output = w7.output) := ⟨hgrow.os, hgrow.tape, hgrow.output⟩
        have hgne : gg ≠ g := fun e => by
          subst e
          rcases hown8.2 with ⟨e1, _⟩ | ⟨q', cap', cur, e1, _, e2, _⟩
          · cases e1
          · injection e1 with e1
            injection e1 with e1
            injection e1 with e1
            subst e1
            exact G8.out.ne e2 (by decide) rfl
        refine hK.out _ _ (HS.out _ (fun k hk _ hv => hk8 k hk hv)) (fun hHeld => ?_)
        clear hK K hown8 hgrow hat hk8 hng hz8
        simp only [Act.put, List.setIfInBounds_toArray, List.set_cons_zero, List.set_cons_succ, List.getElem_toArray, List.getElem_cons_zero, List.getElem_cons_succ]
        refine wpAnyH_take (i := 9) (v := ?_) rfl (by kernel_rfl) (by kernel_rfl) (by kernel_rfl) (fun _ _ _ h => h) (Or.inl ⟨by rfl, ?_⟩) (by assumption) ?_
        rotate_left
        · intro w hSw
          go_simp
          with_reducible rfl
        simp only [Act.put, List.setIfInBounds_toArray, List.set_cons_zero, List.set_cons_succ, List.getElem_toArray, List.getElem_cons_zero, List.getElem_cons_succ]
        refine wpAnyH_take (i := 10) (v := ?_) rfl (by kernel_rfl) (by kernel_rfl) (by kernel_rfl) (fun _ _ _ h => h) (Or.inl ⟨by rfl, ?_⟩) (by assumption) ?_
        rotate_left
        · intro w hSw
          go_simp
          with_reducible rfl
        simp only [Act.put, List.setIfInBounds_toArray, List.set_cons_zero, List.set_cons_succ, List.getElem_toArray, List.getElem_cons_zero, List.getElem_cons_succ]
        refine wpAnyH_ready (rs := [11]) (by kernel_rfl) (by simp) ?_
        refine AllReadyH.cons rfl (fun K hK => ?_) AllReadyH.nil
        go_simp
        refine hK.out _ _ (HS.out _ (fun k hk hkg hv => (heap_setCell_other w8 ⟨g, 10, none⟩ k _ (by simpa using hkg)).trans (HK8.out k hk hv))) (fun hHeld => ?_)
        clear hK K
        refine wpAnyH_done (by kernel_rfl) ?_ _
        refine NoPanic.normal ?_
        go_wp2_with fail
        go_meet
        case rel =>
          refine ⟨_, box_sizes G8.out _, owns_kept R8'.out (fun k hk => ?_), fun k hk => ?_, ?_⟩
          · have : gg = k := by injection hk
            subst this
            exact heap_setCell_other w8 ⟨g, 10, none⟩ gg _ (by simpa using hgne)
          · have : gg = k := by injection hk
            subst this
            rcases HT8.out with h1 | h1
            · exact .inl h1
            · exact .inr (by omega)
          · obtain ⟨o1, o2, o3⟩ := HO8.out
            have s := Dk.grown_store w8 g 10 (.slice (some ⟨gg, 0, none⟩) (xs.length + 1) gc)
            have sz := s.size
            exact ⟨s.os.trans o1, s.tape.trans o2, s.output.trans o3, by omega, fun k hk hn => (heap_setCell_other w8 ⟨g, 10, none⟩ k _ (by simpa using fun e => hn (.inl e))).trans (HK8.out k hk (fun e => hn (.inr e)))⟩
    case rest =>
      have h8 := hcut
      have A8' : A16 w7 g dg (.slice vp xs.length vc) { J with U := U', H := H' } (xs ++ [((n + 1 : Nat) : Int)]).length (ics (xs ++ [((n + 1 : Nat) : Int)])) wc := by
        rw [ics_snoc, List.length_append]
        exact hcut
      have fin := app_end HX.out HD.out HF.out B5w HF6.out HD6.out HU6.out HU7.out A8' (J.next + 1)
      obtain ⟨vs', hb8, hr8, hv8, hu8⟩ := h8
      have a8 : Box wc w.heap.size #[.pointer (some ⟨g, 0, none⟩)] 77 := (hu8.block _ HA7.out.lt (fun h => by
        rcases h with h | h
        · exact HA7.out.ne HG7.out (by decide) h
        · rcases HR7.out.2 with ⟨e1, _⟩ | ⟨q', cap', cur, e1, _, e2, _⟩
          · rw [e1] at h; cases h
          · rw [e1] at h
            injection h with h
            have e' : q' = w.heap.size := h
            rw [e'] at e2
            exact HA7.out.ne e2 (by decide) rfl)).trans HA7.out
      have y1 := a8.cell 0
      simp at y1
      have d4 := (box_cells hb8).2.2.2.2.1
      dsimp only at d4
      have f4 := hb8.frozen 4
      clear A8' hcut HA7 HC7 HR7 HG7 hu8 hv8 hr8 a8 HU6 HU7
      go_wp2_with fail
      exact bodyPost_ret (v := .tuple #[.int .i64 J.next, .int .i64 0]) (by simp [results, Tryz.results81, go_sem]) rfl ⟨rfl, fin⟩
end Go.Proofs.YtnldkpckojhbhaaGreat.J

/-
  Append into room that was kept.
-/
namespace Go.Proofs.YtnldkpckojhbhaaGreat.J
open Go.RowKit
open Go.Proofs.YtnldkpckojhbhaaGreat.Dk (Box)

end Go.Proofs.YtnldkpckojhbhaaGreat.J

/-
  slices.Delete from the front: the library's own contract, at this program's numbers.
-/
namespace Go.Proofs.YtnldkpckojhbhaaGreat.J
open Go.RowKit
open Go.Proofs.YtnldkpckojhbhaaGreat.Dk (Box)

end Go.Proofs.YtnldkpckojhbhaaGreat.J

/-
  What is asked ahead: Release's, Reserve's and Cancel's.
-/
namespace Go.Proofs.YtnldkpckojhbhaaGreat.J
open Go.RowKit
open Go.Proofs.YtnldkpckojhbhaaGreat.Dk (Box)

end Go.Proofs.YtnldkpckojhbhaaGreat.J

/-
  upTo: how many groups have numbers of at most seq, and how many blocks these have.
-/
namespace Go.Proofs.YtnldkpckojhbhaaGreat.J
open Go.RowKit
open Go.Proofs.YtnldkpckojhbhaaGreat.Dk (Box)

end Go.Proofs.YtnldkpckojhbhaaGreat.J

/-
  Release: groups are let go from the front.
-/
namespace Go.Proofs.YtnldkpckojhbhaaGreat.J
open Go.RowKit
open Go.Proofs.YtnldkpckojhbhaaGreat.Dk (Box)

theorem JTo.same {w u : World} {g dg : Nat} {vs v' : Value} {J' : JS} {ys : List Int} {D : Dk.DS} {F Fd : Nat → Prop} (hd : Dk.IsDisk w dg D Fd) (hFg : ¬ Fd g) (hFv : ∀ k, vs.ownBlock = some k → ¬ Fd k ∧ F k) (hFd : ∀ i, Fd i → F i) (hFF : F g) (hFlt : ∀ i, F i → i < w.heap.size)
    (hb : Box u g (jC g dg v' J') 201) (hr : u.ownsRow 0 3 1 v' ys.length (ics ys)) (hv : v'.ownBlock = vs.ownBlock) (hu : Dk.Upd (fun k => k = g ∨ vs.ownBlock = some k) w u) : JTo w F g dg J' ys D u :=
  ⟨F, ⟨⟨v', Fd, hb, disk_kept hd (fun i hi => hu.block i (hFlt i (hFd i hi)) (fun h => by
      rcases h with h | h
      · exact hFg (h ▸ hi)
      · exact (hFv i h).1 hi)) hu.size, hFg, hr, fun k hk => hFv k (hv ▸ hk), hFd⟩, hFF, fun i hi => Nat.lt_of_lt_of_le (hFlt i hi) hu.size⟩, fun _ hi => .inl hi,
    ⟨hu.os, hu.tape, hu.output, hu.size, fun k hk hn => hu.block k hk (fun h => by
      rcases h with h | h
      · exact hn (h ▸ hFF)
      · exact hn (hFv k h).2)⟩⟩

end Go.Proofs.YtnldkpckojhbhaaGreat.J

/-
  The law's groups: images at the blocks from 30 on.
-/
namespace Go.Proofs.YtnldkpckojhbhaaGreat.J
open Go.RowKit
open Go.Proofs.YtnldkpckojhbhaaGreat.Dk (Box)

end Go.Proofs.YtnldkpckojhbhaaGreat.J

/-
  SameInts.
-/
namespace Go.Proofs.YtnldkpckojhbhaaGreat.Dk
open Go.RowKit

def RdI (w : World) (a : Option Addr) (zs : List Int) : Prop :=
  0 < zs.length → ∃ b o, a = some ⟨b, o, none⟩ ∧ ∀ j (h : j < zs.length), w.cell? ⟨b, o + j, none⟩ = some (.int .i64 zs[j])
theorem RdI.below {B : Nat} {w w' : World} {a : Option Addr} {zs : List Int} (h : RdI w a zs) (hb : Below B w w') (hB : w.heap.size ≤ B) : RdI w' a zs := fun hp => by
  obtain ⟨b, o, ha, hc⟩ := h hp
  refine ⟨b, o, ha, fun j hj => ?_⟩
  have hlt : b < w.heap.size := block_lt_of_cell (hc j hj)
  rw [hb.cell (p := ⟨b, o + j, none⟩) (Nat.lt_of_lt_of_le hlt hB)]
  exact hc j hj

set_option maxRecDepth 100000 in
theorem sameInts_self (n ca cb : Nat) (b o b' o' : Nat) (zs : List Int) (w : World) (hl : zs.length = n) (hn : n ≤ 9223372036854775807)
    (h1 : ∀ j (h : j < zs.length), w.cell? ⟨b, o + j, none⟩ = some (.int .i64 zs[j])) (h2 : ∀ j (h : j < zs.length), w.cell? ⟨b', o' + j, none⟩ = some (.int .i64 zs[j])) :
    Calls Tryz.prog 67 #[.slice (some ⟨b, o, none⟩) n ca, .slice (some ⟨b', o', none⟩) n cb] w fun e w' => e = .returned (.bool true) ∧ Below w.heap.size w w' := by
  have Hl : Hid _ := hl
  have H1 : Hid _ := h1
  have H2 : Hid _ := h2
  clear hl h1 h2
  go_enter Tryz.func67, Tryz.ntmps67
  go_wp2_with fail
  go_loopw [5] (fun i wr => ∃ k : Nat, k ≤ n ∧ i = .int .i64 k ∧ ∃ q, wr = w.drewN q) (fun i _ => n - (intOf i).toNat)
  case atStart => exact ⟨0, Nat.zero_le _, rfl, 0, rfl⟩
  case round =>
    obtain ⟨k, hk, rfl, q, rfl⟩ := hrel
    by_cases hlt : k < n
    · have hk' : k < zs.length := by rw [Hl.out]; exact hlt
      have a1 : (w.drewN q).cell? ⟨b, o + k, none⟩ = some (.int .i64 zs[k]) := H1.out k hk'
      have a2 : (w.drewN q).cell? ⟨b', o' + k, none⟩ = some (.int .i64 zs[k]) := H2.out k hk'
      generalize (zs[k]'hk') = z at a1 a2
      have hlt2 : (k : Int) < n := by omega
      obtain ⟨V, hV⟩ : ∃ V, V = w.drewN q := ⟨_, rfl⟩
      rw [← hV] at a1 a2 ⊢
      have HV : Hid _ := hV
      clear hV
      go_wp2_with fail
      go_quiet (fail)
      have hz : ∃ q', V.drewN nq = w.drewN q' := by rw [HV.out]; exact ⟨q + nq, by simp [World.drewN, Nat.add_assoc]⟩
      obtain ⟨q', hq'⟩ := hz
      rw [hq']
      clear hq'
      go_wp2
      go_roundw
      case rel => exact ⟨k + 1, by omega, by go_num, q', rfl⟩
      case measure => simp [intOf]; omega
    · obtain rfl : k = n := by omega
      go_wp2
      go_ret
      exact ⟨rfl, ⟨rfl, rfl, rfl, Nat.le_refl _, fun _ _ => rfl⟩⟩
end Go.Proofs.YtnldkpckojhbhaaGreat.Dk

/-
  The journal's calls, said of a journal with its disk.
-/
namespace Go.Proofs.YtnldkpckojhbhaaGreat.J
open Go.RowKit
open Go.Proofs.YtnldkpckojhbhaaGreat.Dk (Box)

section
variable {w : World} {g dg : Nat} {J : JS} {xs : List Int} {D : Dk.DS} {F : Nat → Prop}
theorem JD.box (h : JD w g dg J xs D F) : ∃ a c, Box w g (jC g dg (.slice a xs.length c) J) 201 := by
  obtain ⟨⟨vs, Fd, h1, _, _, h4, _⟩, _, _⟩ := h
  obtain ⟨a, c, rfl⟩ := Rc.owns_shape h4
  exact ⟨a, c, h1⟩
theorem JD.disk (h : JD w g dg J xs D F) : ∃ Fd, Dk.IsDisk w dg D Fd ∧ ∀ i, Fd i → F i := by
  obtain ⟨⟨vs, Fd, _, h2, _, _, _, h6⟩, _, _⟩ := h
  exact ⟨Fd, h2, h6⟩

end
end Go.Proofs.YtnldkpckojhbhaaGreat.J

/-
  A volume in memory; what its small calls tell, and a volume that is none.
-/
namespace Go.Proofs.YtnldkpckojhbhaaGreat.V
open Go.RowKit
open Go.Proofs.YtnldkpckojhbhaaGreat.Dk (Box)
open Go.Proofs.YtnldkpckojhbhaaGreat.J (JS)

def vC (v dg j gm : Nat) (ep : Int) (br : Bool) : Array Value :=
  #[.pointer (some ⟨v, 0, none⟩), .pointer (some ⟨dg, 0, none⟩), .int .i64 64, .int .i64 2, .int .i64 16, .int .i64 18, .int .i64 19, .int .i64 4, .int .i64 23, .int .i64 ep, .pointer (some ⟨j, 0, none⟩), .map (some gm), .bool br]
structure VCells (w : World) (v dg j gm : Nat) (ep : Int) (br : Bool) : Prop where
  c0 : w.cell? ⟨v, 0, none⟩ = some (.pointer (some ⟨v, 0, none⟩))
  c1 : w.cell? ⟨v, 1, none⟩ = some (.pointer (some ⟨dg, 0, none⟩))
  c2 : w.cell? ⟨v, 2, none⟩ = some (.int .i64 64)
  c3 : w.cell? ⟨v, 3, none⟩ = some (.int .i64 2)
  c4 : w.cell? ⟨v, 4, none⟩ = some (.int .i64 16)
  c5 : w.cell? ⟨v, 5, none⟩ = some (.int .i64 18)
  c6 : w.cell? ⟨v, 6, none⟩ = some (.int .i64 19)
  c7 : w.cell? ⟨v, 7, none⟩ = some (.int .i64 4)
  c8 : w.cell? ⟨v, 8, none⟩ = some (.int .i64 23)
  c9 : w.cell? ⟨v, 9, none⟩ = some (.int .i64 ep)
  c10 : w.cell? ⟨v, 10, none⟩ = some (.pointer (some ⟨j, 0, none⟩))
  c11 : w.cell? ⟨v, 11, none⟩ = some (.map (some gm))
  c12 : w.cell? ⟨v, 12, none⟩ = some (.bool br)
theorem vcells {w : World} {v dg j gm : Nat} {ep : Int} {br : Bool} (h : Box w v (vC v dg j gm ep br) 80) : VCells w v dg j gm ep br :=
  ⟨h.cell 0, h.cell 1, h.cell 2, h.cell 3, h.cell 4, h.cell 5, h.cell 6, h.cell 7, h.cell 8, h.cell 9, h.cell 10, h.cell 11, h.cell 12⟩

theorem infoV : (Tryz.prog.info? 80).map (fun i => (i.zero.isSome, i.size)) = some (true, 13) := by kernel_rfl
theorem pointV : Tryz.prog.underlying 23 = some (.pointer 80) := by kernel_rfl
theorem eqlSelf (g : Nat) (w : World) : (binOp .eql 23 (.pointer (some ⟨g, 0, none⟩)) (.pointer (some ⟨g, 0, none⟩))).run Tryz.prog w = .ok (.bool true) w := by
  cases h : Tryz.prog.info? 80 with
  | none => have := infoV; rw [h] at this; cases this
  | some i => exact run_eql_ptr_same w ⟨g, 0, none⟩ pointV h
theorem eqlNone (g : Nat) (w : World) : (binOp .eql 23 (.pointer none) (.pointer (some ⟨g, 0, none⟩))).run Tryz.prog w = .ok (.bool false) w := by
  have h : ∀ d : Nat, (Op.equalIn (d + 1) 23 (.pointer none) (.pointer (some ⟨g, 0, none⟩))).run Tryz.prog w = .ok false w := fun d => by
    simp [Op.equalIn, run_underlying pointV]
  simp only [binOp]
  simp [Op.equal, Op.maxDepth, h]
theorem isMade_cell (g : Nat) (w : World) (h : w.cell? ⟨g, 0, none⟩ = some (.pointer (some ⟨g, 0, none⟩))) :
    Calls Tryz.prog 93 #[.pointer (some ⟨g, 0, none⟩)] w fun e w' => e = .returned (.bool true) ∧ w = w' := by
  have he := eqlSelf g
  go_enter Tryz.func93, Tryz.ntmps93
  go_wp2
  go_ret
  exact ⟨rfl, rfl⟩
theorem isMade_none (w : World) : Calls Tryz.prog 93 #[.pointer none] w fun e w' => e = .returned (.bool false) ∧ w = w' := by
  go_enter Tryz.func93, Tryz.ntmps93
  go_wp2
  go_ret
  exact ⟨rfl, rfl⟩
theorem isMade_zero (g : Nat) (w : World) (h : w.cell? ⟨g, 0, none⟩ = some (.pointer none)) :
    Calls Tryz.prog 93 #[.pointer (some ⟨g, 0, none⟩)] w fun e w' => e = .returned (.bool false) ∧ w = w' := by
  have he := eqlNone g
  go_enter Tryz.func93, Tryz.ntmps93
  go_wp2
  go_ret
  exact ⟨rfl, rfl⟩
def NoV (w : World) (p : Option Addr) : Prop := p = none ∨ ∃ g, p = some ⟨g, 0, none⟩ ∧ w.cell? ⟨g, 0, none⟩ = some (.pointer none)
theorem isMade_no {w : World} {p : Option Addr} (h : NoV w p) : Calls Tryz.prog 93 #[.pointer p] w fun e w' => e = .returned (.bool false) ∧ w = w' := by
  rcases h with rfl | ⟨g, rfl, h⟩
  · exact isMade_none w
  · exact isMade_zero g w h
theorem NoV.below {w w' : World} {p : Option Addr} (h : NoV w p) (b : Below w.heap.size w w') : NoV w' p := by
  rcases h with h | ⟨g, h1, h2⟩
  · exact .inl h
  · exact .inr ⟨g, h1, (b.cell (p := ⟨g, 0, none⟩) (block_lt_of_cell h2)).trans h2⟩
theorem below_drewN {B : Nat} {a w : World} (h : Below B a w) (n : Nat) : Below B a (w.drewN n) := ⟨h.os, h.tape, h.output, h.size, h.block⟩
theorem layout_no {w : World} {p : Option Addr} (h : NoV w p) : Calls Tryz.prog 51 #[.pointer p] w fun e w' => e = .returned (.agg #[.int .i64 0, .int .i64 0, .int .i64 0, .int .i64 0, .int .i64 0, .int .i64 0, .int .i64 0]) ∧ Below w.heap.size w w' := by
  have B := (Below.refl w.heap.size w).alloc (Nat.le_refl _) (.cells #[.int .i64 0, .int .i64 0, .int .i64 0, .int .i64 0, .int .i64 0, .int .i64 0, .int .i64 0] 57)
  have x := Box.new w #[.int .i64 0, .int .i64 0, .int .i64 0, .int .i64 0, .int .i64 0, .int .i64 0, .int .i64 0] 57
  have c := isMade_no (h.below B)
  go_enter Tryz.func51, Tryz.ntmps51
  go_wp2_with fail
  refine c.mono ?_
  rintro e w' ⟨rfl, rfl⟩
  clear c
  have x0 := x.cell 0
  have x1 := x.cell 1
  have x2 := x.cell 2
  have x3 := x.cell 3
  have x4 := x.cell 4
  have x5 := x.cell 5
  have x6 := x.cell 6
  have f0 := x.frozen 0
  have f1 := x.frozen 1
  have f2 := x.frozen 2
  have f3 := x.frozen 3
  have f4 := x.frozen 4
  have f5 := x.frozen 5
  have f6 := x.frozen 6
  simp only [List.getElem?_toArray, List.getElem?_cons_zero, List.getElem?_cons_succ] at x0 x1 x2 x3 x4 x5 x6
  go_wp2_with fail
  refine bodyPost_ret (hd := rfl) (hR := ⟨rfl, ?_⟩) (hr := ?_)
  · simp [results, Tryz.results51, go_sem, *]
  · repeat (refine Below.setCell ?_ (by simp) _)
    exact B
section
variable {w : World} {v dg j gm : Nat} {ep : Int} {br : Bool}
theorem isMade_at (h : Box w v (vC v dg j gm ep br) 80) : Calls Tryz.prog 93 #[.pointer (some ⟨v, 0, none⟩)] w fun e w' => e = .returned (.bool true) ∧ w = w' := isMade_cell v w (h.cell 0)
theorem ahead_at (h : Box w v (vC v dg j gm ep br) 80) : Calls Tryz.prog 84 #[.pointer (some ⟨v, 0, none⟩)] w fun e w' => e = .returned (.int .i64 (if br then 4 else 0)) ∧ w = w' := by
  have c := isMade_at h
  have c12 := (vcells h).c12
  cases br
  all_goals go_enter Tryz.func84, Tryz.ntmps84
  all_goals go_wp2_with fail
  all_goals refine c.mono ?_
  all_goals rintro e w' ⟨rfl, rfl⟩
  all_goals go_wp2_with fail
  all_goals go_ret
  all_goals exact ⟨rfl, rfl⟩
theorem next_at (h : Box w v (vC v dg j gm ep br) 80) {vs : Value} {S : JS} (hj : Box w j (J.jC j dg vs S) 201) : Calls Tryz.prog 22 #[.pointer (some ⟨v, 0, none⟩)] w fun e w' => e = .returned (.int .i64 S.next) ∧ w = w' := by
  have c := isMade_at h
  have c10 := (vcells h).c10
  have cN := J.next_at hj
  go_enter Tryz.func22, Tryz.ntmps22
  go_wp2_with fail
  refine c.mono ?_
  rintro e w' ⟨rfl, rfl⟩
  go_wp2_with fail
  refine cN.mono ?_
  rintro e w' ⟨rfl, rfl⟩
  go_wp2_with fail
  go_ret
  exact ⟨rfl, rfl⟩
theorem synced_at (h : Box w v (vC v dg j gm ep br) 80) {vs : Value} {S : JS} (hj : Box w j (J.jC j dg vs S) 201) : Calls Tryz.prog 23 #[.pointer (some ⟨v, 0, none⟩)] w fun e w' => e = .returned (.int .i64 S.synced) ∧ w = w' := by
  have c := isMade_at h
  have c10 := (vcells h).c10
  have cN := J.synced_at hj
  go_enter Tryz.func23, Tryz.ntmps23
  go_wp2_with fail
  refine c.mono ?_
  rintro e w' ⟨rfl, rfl⟩
  go_wp2_with fail
  refine cN.mono ?_
  rintro e w' ⟨rfl, rfl⟩
  go_wp2_with fail
  go_ret
  exact ⟨rfl, rfl⟩
theorem blocksOf_at (n : Int) (w : World) (h0 : 0 ≤ n) (h1 : n ≤ 1000000) : Calls Tryz.prog 97 #[.int .i64 n] w fun e w' => e = .returned (.int .i64 (n + 1)) ∧ w = w' := by
  go_enter Tryz.func97, Tryz.ntmps97
  go_wp2
  go_ret
  exact ⟨rfl, rfl⟩
theorem within_at (n a b : Int) (w : World) : Calls Tryz.prog 96 #[.int .i64 n, .int .i64 a, .int .i64 b] w fun r w' => r = .returned (.bool (decide (a ≤ n ∧ n ≤ b))) ∧ w = w' := by
  by_cases h1 : a ≤ n <;> by_cases h2 : n ≤ b
  all_goals go_enter Tryz.func96, Tryz.ntmps96
  all_goals go_wp2
  all_goals go_ret
  all_goals simp [h1, h2]
theorem fits_at (h : Box w v (vC v dg j gm ep br) 80) (n : Int) (h1 : 1 ≤ n) (h2 : n ≤ 15) : Calls Tryz.prog 25 #[.pointer (some ⟨v, 0, none⟩), .int .i64 n] w fun e w' => e = .returned (.bool true) ∧ Below w.heap.size w w' := by
  have H1 : Hid (∀ q, Calls Tryz.prog 93 #[.pointer (some ⟨v, 0, none⟩)] (w.drewN q) fun e w' => e = .returned (.bool true) ∧ w' = w.drewN q) := fun q => (isMade_at (h.below (below_drewN (Below.refl _ w) q))).mono fun e w' ⟨h1, h2⟩ => ⟨h1, h2.symm⟩
  have H2 : Hid (∀ q, Calls Tryz.prog 96 #[.int .i64 n, .int .i64 1, .int .i64 32] (w.drewN q) fun e w' => e = .returned (.bool true) ∧ w' = w.drewN q) := fun q => (within_at n 1 32 (w.drewN q)).mono fun e w' ⟨e1, e2⟩ => ⟨by rw [e1, decide_eq_true ⟨h1, by omega⟩], e2.symm⟩
  have H3 : Hid (∀ q, Calls Tryz.prog 97 #[.int .i64 n] (w.drewN q) fun e w' => e = .returned (.int .i64 (n + 1)) ∧ w' = w.drewN q) := fun q => (blocksOf_at n (w.drewN q) (by omega) (by omega)).mono fun e w' ⟨e1, e2⟩ => ⟨e1, e2.symm⟩
  have c4 := (vcells h).c4
  have hle : n + 1 ≤ 16 := by omega
  clear h
  go_enter Tryz.func25, Tryz.ntmps25
  go_wp2_with fail
  go_quiet ((first | (go_at_call 93; exact Calls.quiet_of_same (H1.out _)) | (go_at_call 96; exact Calls.quiet_of_same (H2.out _)) | (go_at_call 97; exact Calls.quiet_of_same (H3.out _))))
  have B := below_drewN (Below.refl w.heap.size w) nq
  go_wp2_with fail
  go_ret
  exact ⟨rfl, B⟩
end
end Go.Proofs.YtnldkpckojhbhaaGreat.V

/-
  Blocks of one byte, blocks of two; what a quiet disk does. No program is named here.
-/
namespace Go.Proofs.YtnldkpckojhbhaaGreat.Dk

def fillK (c : UInt8) (k : Nat) : List UInt8 := (List.range 4096).map fun i => if i < k then c else 0
def fill (c : UInt8) : List UInt8 := fillK c 4096
theorem fillK_length (c : UInt8) (k : Nat) : (fillK c k).length = 4096 := by simp [fillK]
theorem fill_length (c : UInt8) : (fill c).length = 4096 := fillK_length c 4096
theorem fillK_get (c : UInt8) (k i : Nat) : (fillK c k)[i]? = if i < 4096 then some (if i < k then c else 0) else none := by
  unfold fillK
  rw [List.getElem?_map]
  by_cases h : i < 4096
  · rw [List.getElem?_range h, if_pos h]; rfl
  · rw [List.getElem?_eq_none (by simp; omega), if_neg h]; rfl
theorem fill_get (c : UInt8) (i : Nat) (h : i < 4096) : (fill c)[i]? = some c := by
  unfold fill
  rw [fillK_get, if_pos h, if_pos h]

theorem blk_carry_all (d : List UInt8) (b : Nat) (data : List UInt8) (hb : b * 4096 + 4096 ≤ d.length) (hd : data.length = 4096) : blk (carry d b data 255) b = data := by
  apply List.ext_getElem?
  intro i
  rw [blk_get]
  by_cases h : i < 4096
  · have e : b * 4096 + i - b * 4096 = i := by omega
    have hq : i / 512 < 8 := by clear hb hd e; omega
    rw [if_pos h, carry_get d b data 255 hb hd, e, if_pos ⟨Nat.le_add_right _ _, Nat.add_lt_add_left h _, bit_all _ hq⟩]
  · rw [if_neg h, List.getElem?_eq_none (by omega)]
theorem blk_carry_other (d : List UInt8) (b n : Nat) (data : List UInt8) (m : Nat) (hb : b * 4096 + 4096 ≤ d.length) (hd : data.length = 4096) (hn : n ≠ b) : blk (carry d b data m) n = blk d n := by
  apply List.ext_getElem?
  intro i
  rw [blk_get, blk_get]
  by_cases h : i < 4096
  · rw [if_pos h, if_pos h, carry_get d b data m hb hd, if_neg (fun h1 => by have h2 := h1.1; have h3 := h1.2.1; omega)]
  · rw [if_neg h, if_neg h]
theorem blk_nought (n b : Nat) (h : b * 4096 + 4096 ≤ n) : blk (List.replicate n 0) b = fill 0 := by
  apply List.ext_getElem?
  intro i
  rw [blk_get]
  by_cases hi : i < 4096
  · rw [if_pos hi, fill_get 0 i hi, List.getElem?_replicate, if_pos (by omega)]
  · rw [if_neg hi, List.getElem?_eq_none (by rw [fill_length]; omega)]

def DS.quiet (D : DS) : Prop := D.gone = false ∧ D.arm = ⟨false, 0⟩ ∧ D.fail = ⟨false, 0⟩
theorem DS.quiet.operE {D : DS} (h : D.quiet) : D.operE = 0 := by
  obtain ⟨h1, h2, h3⟩ := h
  simp [DS.operE, h1, h2, h3, Fuse.stops]
theorem DS.quiet.oper {D : DS} (h : D.quiet) : D.oper = D := by
  obtain ⟨nb, dur, uf, n, gone, arm, fail⟩ := D
  obtain ⟨h1, h2, h3⟩ := h
  dsimp only at h1 h2 h3
  subst h1 h2 h3
  rfl
theorem DS.quiet.write {D : DS} (h : D.quiet) (n : Nat) (b : List UInt8) (hn : n < D.nb) (hb : b.length = 4096) : D.write (n : Int) b = { D with uf := D.uf ++ [(n, b)], n := D.n + 1 } := by
  have hh : D.has (n : Int) = true := by simp [DS.has]; omega
  unfold DS.write
  rw [hh, h.operE, h.oper, hb]
  simp
theorem DS.quiet.writeE {D : DS} (h : D.quiet) (n : Nat) (b : List UInt8) (hn : n < D.nb) (hb : b.length = 4096) : D.writeE (n : Int) b = 0 := by
  have hh : D.has (n : Int) = true := by simp [DS.has]; omega
  unfold DS.writeE
  rw [hh, h.operE, hb]
  simp
theorem DS.quiet.flush {D : DS} (h : D.quiet) : D.flush = { D with dur := D.image, uf := [] } := by
  unfold DS.flush
  rw [if_pos h.operE, h.oper]
end Go.Proofs.YtnldkpckojhbhaaGreat.Dk

/-
  Bytes in memory, whatever the program: rows that are read, rows of one's own, copies; told over this seat's tables.
-/
namespace Go.Proofs.YtnldkpckojhbhaaGreat.Su
open Go.RowKit

theorem u8_lt (c : UInt8) : c.toNat < 256 := c.toNat_lt
theorem ofNat_toNat (v : Nat) : (UInt8.ofNat v).toNat = v % 256 := by simp
def bc (c : UInt8) : Value := .int .u8 (c.toNat : Int)
def bcs (l : List UInt8) : List Value := l.map bc
theorem bcs_length (l : List UInt8) : (bcs l).length = l.length := by simp [bcs]
theorem bcs_append (l r : List UInt8) : bcs (l ++ r) = bcs l ++ bcs r := by simp [bcs]
theorem bcs_getElem? (l : List UInt8) (j : Nat) (h : j < l.length) : (bcs l)[j]? = some (.int .u8 (l[j].toNat : Int)) := by simp [bcs, bc, List.getElem?_eq_getElem h]
theorem bcs_oneCell (l : List UInt8) : ∀ v ∈ bcs l, v.oneCell' = true := by
  intro v hv
  obtain ⟨_, _, rfl⟩ := List.mem_map.1 hv
  rfl

def Own (w : World) (g : Nat) (ys : List UInt8) : Prop := w.heap[g]? = some (.cells (bcs ys).toArray 5 (0, 0))

theorem Own.cell {w : World} {g : Nat} {ys : List UInt8} (h : Own w g ys) (j : Nat) (hj : j < ys.length) : w.cell? ⟨g, j, none⟩ = some (.int .u8 (ys[j].toNat : Int)) := by
  rw [cell_of_row w g j _ 5 (0, 0) h]
  simpa using bcs_getElem? ys j hj
theorem Own.frozen {w : World} {g : Nat} {ys : List UInt8} (h : Own w g ys) (j : Nat) : w.frozen? ⟨g, j, none⟩ = false := frozen_of_row w g j _ 5 h
theorem Own.lt {w : World} {g : Nat} {ys : List UInt8} (h : Own w g ys) : g < w.heap.size := (Array.getElem?_eq_some_iff.1 h).1
theorem Own.store {w : World} {g : Nat} {ys : List UInt8} (h : Own w g ys) (j : Nat) (c : UInt8) : Own (w.setCell ⟨g, j, none⟩ (.int .u8 (c.toNat : Int))) g (ys.set j c) := by
  unfold Own
  rw [heap_setCell_same w g j _ 5 _ h]
  congr 2
  apply Array.toList_inj.1
  simp [bcs, bc]
theorem Own.below {B : Nat} {w w' : World} {g : Nat} {ys : List UInt8} (h : Own w g ys) (hb : Below B w w') (hg : g < B) : Own w' g ys := (hb.block g hg).trans h

theorem grown_trans {a b c : World} {row : Option Nat} (h : a.grownBy b row) (k : b.grownBy c row) : a.grownBy c row :=
  ⟨k.os.trans h.os, k.tape.trans h.tape, k.output.trans h.output, Nat.le_trans h.size k.size, fun i hi hr => (k.block i (Nat.lt_of_lt_of_le hi h.size) hr).trans (h.block i hi hr)⟩
theorem grown_store (w : World) (g j : Nat) (u : Value) : w.grownBy (w.setCell ⟨g, j, none⟩ u) (some g) :=
  ⟨rfl, rfl, rfl, by simp, fun k _ hk => heap_setCell_other w ⟨g, j, none⟩ k u (fun e => hk (by simp [e]))⟩
theorem grown_setRow (w : World) (g : Nat) (cs : Array Value) : w.grownBy (w.setRow g cs) (some g) :=
  ⟨rfl, rfl, rfl, by simp [World.setRow], fun k _ hk => setRow_other w g k cs (fun e => hk (by simp [e]))⟩

def Rd (w : World) (a : Option Addr) (xs : List UInt8) : Prop :=
  0 < xs.length → ∃ b o, a = some ⟨b, o, none⟩ ∧ ∀ j (h : j < xs.length), w.cell? ⟨b, o + j, none⟩ = some (.int .u8 (xs[j].toNat : Int))
theorem Rd.nil (w : World) (a : Option Addr) : Rd w a [] := fun h => absurd h (by simp)
theorem Own.rd {w : World} {g : Nat} {ys : List UInt8} (h : Own w g ys) : Rd w (some ⟨g, 0, none⟩) ys := fun _ => ⟨g, 0, rfl, fun j hj => by rw [Nat.zero_add]; exact h.cell j hj⟩
theorem Rd.below {B : Nat} {w w' : World} {a : Option Addr} {xs : List UInt8} (h : Rd w a xs) (hb : Below B w w') (hB : w.heap.size ≤ B) : Rd w' a xs := fun hp => by
  obtain ⟨b, o, ha, hc⟩ := h hp
  refine ⟨b, o, ha, fun j hj => ?_⟩
  have hlt : b < w.heap.size := block_lt_of_cell (hc j hj)
  rw [hb.cell (p := ⟨b, o + j, none⟩) (Nat.lt_of_lt_of_le hlt hB)]
  exact hc j hj

theorem info5 : (Tryz.prog.info? 5).map (fun i => (i.zero, i.size, i.bytes)) = some (some (.int .u8 0), 1, 1) := by kernel_rfl
theorem size5 : (Tryz.prog.info? 5).map (·.size) = some 1 := by kernel_rfl

theorem made_zero (n : Nat) : (madeCells #[Value.int .u8 0] n) = (bcs (List.replicate n 0)).toArray := by
  apply Array.toList_inj.1
  apply List.ext_getElem
  · simp [madeCells, bcs]
  · intro i h1 h2
    simp [madeCells, bcs, bc, Nat.mod_one]

theorem conv_run (u : World) (a : Option Addr) (cap : Nat) (xs : List UInt8) (hr : Rd u a xs) : (convert 37 9 (.slice a xs.length cap)).run Tryz.prog u = .ok (.string ⟨xs.toArray⟩) u := by
  cases a with
  | none =>
    by_cases h0 : 0 < xs.length
    · obtain ⟨b, o, h, _⟩ := hr h0
      simp at h
    · obtain rfl : xs = [] := List.eq_nil_of_length_eq_zero (by omega)
      exact run_convert_bytes_nil u 37 5 Tryz.underlying37 Tryz.underlying5 0 cap 9 Tryz.underlying9
  | some a =>
    exact run_convert_bytes_back u 37 9 5 a cap xs Tryz.underlying37 Tryz.underlying5 Tryz.underlying9 (fun j hj => by
      obtain ⟨b, o, h, hc⟩ := hr (by omega)
      obtain rfl := Option.some.inj h
      rw [Addr.add_lit]
      exact hc j hj)

theorem same_any (a b : Option Addr) (ca cb : Nat) (xs ys : List UInt8) (w : World) (ha : Rd w a xs) (hb : Rd w b ys) :
    Calls Tryz.prog 29 #[.slice a xs.length ca, .slice b ys.length cb] w fun e w' => e = .returned (.bool (xs == ys)) ∧ w = w' := by
  have h1 := conv_run w a ca xs ha
  have h2 := conv_run w b cb ys hb
  go_enter Tryz.func29, Tryz.ntmps29
  go_wp2
  go_ret
  exact ⟨rfl, rfl⟩

theorem own_lit (w : World) (xs : List UInt8) : Own (w.alloc (.cells (bcs xs).toArray 5)) w.heap.size xs := heap_alloc_new w _

theorem same_at (ca cb n m : Nat) (a b : Option Addr) (xs ys : List UInt8) (w : World) (hn : xs.length = n) (hm : ys.length = m) (ha : Rd w a xs) (hb : Rd w b ys) :
    Calls Tryz.prog 29 #[.slice a n ca, .slice b m cb] w fun e w' => e = .returned (.bool (xs == ys)) ∧ w = w' := by
  subst hn hm; exact same_any a b ca cb xs ys w ha hb

theorem owns_rd {w : World} {B n : Nat} {v : Value} {ys : List UInt8} (h : w.ownsRow B 5 1 v n (bcs ys)) :
    ∃ a cap, v = .slice a n cap ∧ ys.length = n ∧ n ≤ cap ∧ cap ≤ maxLen ∧ Rd w a ys ∧ (0 < n → ∃ g, a = some ⟨g, 0, none⟩ ∧ B ≤ g ∧ g < w.heap.size) := by
  have hl : ys.length = n := by have := h.1; rw [bcs_length] at this; omega
  rcases h.2 with ⟨rfl, rfl⟩ | ⟨g, cap, cur, rfl, hb, hg, hnc, hcm, hcs, htake⟩
  · have h0 : ys = [] := List.eq_nil_of_length_eq_zero hl
    subst h0
    exact ⟨none, 0, rfl, rfl, Nat.le_refl _, by simp [maxLen], Rd.nil _ _, fun h => by omega⟩
  · refine ⟨some ⟨g, 0, none⟩, cap, rfl, hl, hnc, hcm, fun _ => ⟨g, 0, rfl, fun j hj => ?_⟩, fun _ => ⟨g, rfl, hb, (Array.getElem?_eq_some_iff.1 hg).1⟩⟩
    have := h.cells (g := g) rfl j _ (bcs_getElem? ys j hj)
    rw [Addr.add_lit] at this
    exact this

theorem wpList_append_bytes {w : World} {ops : Array Oper} {rest : List Oper} {o : Oper} {a : Act} {Q : Exit → Act → World → Prop} (hgd : o.guard = none) (s x : Operand)
    (ho : o.op = .call { callee := .builtin .append, args := #[s, x], argTypes := #[37, 37] })
    (base : Nat) (v : Value) (n : Nat) (xs : List Value) (hs : a.eval s = v) (hown : w.ownsRow base 5 1 v n xs)
    (ao : Option Addr) (m c : Nat) (ys : List UInt8) (hx : a.eval x = .slice ao m c) (hl : ys.length = m) (hr : Rd w ao ys) (hnil : ao = none → c = 0) (hb : n + m ≤ 140737488355328) (hbase : base ≤ w.heap.size)
    (h : ∀ v' w', w'.ownsRow base 5 1 v' (n + m) (xs ++ bcs ys) → w.grownBy w' v.ownBlock → wpList Tryz.prog ops Q rest (a.put o.dst v') w') : wpList Tryz.prog ops Q (o :: rest) a w := by
  obtain ⟨i0, hi, hz0, hz1, hz2⟩ := info_parts info5
  cases ao with
  | none =>
    obtain rfl := hnil rfl
    have h0 : ys.length = 0 := by
      apply Decidable.byContradiction
      intro h'
      obtain ⟨_, _, h', _⟩ := hr (by omega)
      simp at h'
    obtain rfl : ys = [] := List.eq_nil_of_length_eq_zero h0
    obtain rfl : m = 0 := hl.symm
    exact wpList_append_own_none hgd s x 37 ho base 5 i0 1 Tryz.underlying37 hi v n xs hs hown hx (h v w (by simpa [bcs] using hown) (World.grownBy.refl _ _))
  | some ad =>
    refine wpList_append_own w hgd s x 37 ho base 5 i0 (.int .u8 0) 1 1 Tryz.underlying37 hi hz0 hz1 hz2 rfl (by decide) v n xs hs hown ad m c (bcs ys) hx (by rw [bcs_length]; omega) ?_ (bcs_oneCell ys) (by unfold maxLen; omega) (by omega) hbase (fun v' w' h1 h2 _ => h v' w' h1 h2)
    intro j u hj
    have hj' : j < ys.length := by have := (List.getElem?_eq_some_iff.1 hj).1; simpa [bcs_length] using this
    rw [bcs_getElem? ys j hj'] at hj
    obtain ⟨b, o', he, hc⟩ := hr (by omega)
    obtain rfl := Option.some.inj he
    rw [Addr.add_lit, hc j hj']
    exact hj

theorem Rd.head {w : World} {a : Option Addr} {xs ys : List UInt8} (h : Rd w a (xs ++ ys)) : Rd w a xs := fun hp => by
  obtain ⟨b, o, ha, hc⟩ := h (by simp; omega)
  refine ⟨b, o, ha, fun j hj => ?_⟩
  rw [hc j (by simp; omega), List.getElem_append_left hj]

end Go.Proofs.YtnldkpckojhbhaaGreat.Su

/-
  Plain facts on bytes: a number in bytes, the highest first, and back; nothing of the program is named here.
-/
namespace Go.Proofs.YtnldkpckojhbhaaGreat.Su
open Go.RowKit

def beNat (l : List UInt8) : Nat := l.foldl (fun v c => v * 256 + c.toNat) 0

def toBE : Nat → Nat → List UInt8
  | 0, _ => []
  | n + 1, v => toBE n (v / 256) ++ [UInt8.ofNat v]

theorem beNat_snoc (l : List UInt8) (c : UInt8) : beNat (l ++ [c]) = beNat l * 256 + c.toNat := by
  simp [beNat, List.foldl_append]

theorem beNat_lt_aux : ∀ (n : Nat) (l : List UInt8), l.length = n → beNat l < 256 ^ n
  | 0, l, h => by
    obtain rfl : l = [] := List.eq_nil_of_length_eq_zero h
    simp [beNat]
  | n + 1, l, h => by
    have hne : l ≠ [] := by intro e; simp [e] at h
    obtain ⟨l', c, rfl⟩ : ∃ l' c, l = l' ++ [c] := ⟨l.dropLast, l.getLast hne, (List.dropLast_concat_getLast hne).symm⟩
    have hl : l'.length = n := by simpa using h
    have ih := beNat_lt_aux n l' hl
    have hc := u8_lt c
    rw [beNat_snoc, Nat.pow_succ]
    omega

theorem beNat_lt (l : List UInt8) : beNat l < 256 ^ l.length := beNat_lt_aux _ l rfl

theorem beNat_take_lt (l : List UInt8) (j : Nat) (hj : j ≤ 8) : beNat (l.take j) < 18446744073709551616 := by
  have h := beNat_lt (l.take j)
  have h2 : 256 ^ (l.take j).length ≤ 256 ^ 8 := Nat.pow_le_pow_right (by omega) (by have := List.length_take_le j l; omega)
  have h3 : 256 ^ 8 = 18446744073709551616 := by decide
  omega

theorem beNat_take_lt7 (l : List UInt8) (j : Nat) (hj : j ≤ 7) : beNat (l.take j) < 72057594037927936 := by
  have h := beNat_lt (l.take j)
  have h2 : 256 ^ (l.take j).length ≤ 256 ^ 7 := Nat.pow_le_pow_right (by omega) (by have := List.length_take_le j l; omega)
  have h3 : 256 ^ 7 = 72057594037927936 := by decide
  omega

theorem toBE_length : ∀ (n v : Nat), (toBE n v).length = n
  | 0, _ => rfl
  | n + 1, v => by simp [toBE, toBE_length n]

theorem beNat_toBE : ∀ (n v : Nat), beNat (toBE n v) = v % 256 ^ n
  | 0, v => by simp [toBE, beNat, Nat.mod_one]
  | n + 1, v => by
    rw [toBE, beNat_snoc, beNat_toBE n, ofNat_toNat, Nat.pow_succ, Nat.mul_comm (256 ^ n) 256, Nat.mod_mul]
    omega

theorem toBE_cons : ∀ (n v : Nat), toBE (n + 1) v = UInt8.ofNat (v / 256 ^ n) :: toBE n v
  | 0, v => by simp [toBE]
  | n + 1, v => by
    rw [toBE, toBE_cons n]
    have e : v / 256 / 256 ^ n = v / 256 ^ (n + 1) := by rw [Nat.div_div_eq_div_mul, Nat.pow_succ, Nat.mul_comm]
    rw [e]
    rfl

theorem window_succ (xs : List UInt8) (k j : Nat) (h : k + j < xs.length) : (xs.drop k).take (j + 1) = (xs.drop k).take j ++ [xs[k + j]] := by
  rw [List.take_succ_eq_append_getElem (by simp; omega)]
  simp

theorem be_window_succ (xs : List UInt8) (k j : Nat) (h : k + j < xs.length) : beNat ((xs.drop k).take (j + 1)) = beNat ((xs.drop k).take j) * 256 + xs[k + j].toNat := by
  rw [window_succ xs k j h, beNat_snoc]

theorem or_step (a c : Nat) (ha : a < 72057594037927936) (hc : c < 256) : bits .or .u64 (IntKind.u64.wrap ((a : Int) * 256)) (IntKind.u64.wrap (c : Int)) = ((a * 256 + c : Nat) : Int) := by
  have e1 : IntKind.u64.wrap ((a : Int) * 256) = (a : Int) * 256 := by rw [IntKind.wrap_u64]; omega
  have e2 : IntKind.u64.wrap (c : Int) = (c : Int) := by rw [IntKind.wrap_u64]; omega
  rw [e1, e2, bits_join .u64 64 (by decide) (fun n h0 h1 => by rw [IntKind.wrap_u64]; omega) 8 ((a : Int) * 256) (c : Int) (by omega) (by omega) (by omega) (by omega) (by omega) (by omega)]
  omega

def putAt (ys : List UInt8) (off n j v : Nat) : List UInt8 := ys.take (off + n - j) ++ (toBE j v ++ ys.drop (off + n))

theorem putAt_zero (ys : List UInt8) (off n v : Nat) : putAt ys off n 0 v = ys := by simp [putAt, toBE]
theorem putAt_length (ys : List UInt8) (off n j v : Nat) (h : off + n ≤ ys.length) (hj : j ≤ n) : (putAt ys off n j v).length = ys.length := by
  simp [putAt, toBE_length]; omega
theorem putAt_succ (ys : List UInt8) (off n j v : Nat) (h : off + n ≤ ys.length) (hj : j < n) :
    (putAt ys off n j v).set (off + (n - 1 - j)) (UInt8.ofNat (v / 256 ^ j)) = putAt ys off n (j + 1) v := by
  unfold putAt
  rw [toBE_cons, show off + n - j = (off + (n - 1 - j)) + 1 by omega, show off + n - (j + 1) = off + (n - 1 - j) by omega]
  rw [List.take_succ_eq_append_getElem (by omega), List.append_assoc]
  rw [List.set_append_right _ _ (by simp; omega)]
  simp [List.length_take]
  rw [show min (off + (n - 1 - j)) ys.length = off + (n - 1 - j) by omega]
  simp

theorem shr_byte (v j : Nat) : IntKind.u8.wrap ((v : Int) / 2 ^ (8 * j)) = ((UInt8.ofNat (v / 256 ^ j)).toNat : Int) := by
  rw [IntKind.wrap_u8, ofNat_toNat]
  have e : ((2 : Int) ^ (8 * j)) = ((256 ^ j : Nat) : Int) := by
    rw [Int.pow_mul]; simp
  rw [e]
  omega

end Go.Proofs.YtnldkpckojhbhaaGreat.Su

/-
  What the calls of octets do: numbers that are read and that are put.
-/
namespace Go.Proofs.YtnldkpckojhbhaaGreat.Su
open Go.RowKit

theorem copy_run (g off dLen dCap : Nat) (d a : Option Addr) (cap : Nat) (xs ys : List UInt8) (u : World) (hg : Own u g ys) (hr : Rd u a xs) (hd : 0 < xs.length → d = some ⟨g, off, none⟩) (hl : xs.length ≤ dLen) (hfit : off + xs.length ≤ ys.length) :
    ∃ W, (∀ ty, (Builtin.copy_ #[37, 37] ty #[.slice d dLen dCap, .slice a xs.length cap]).run Tryz.prog u = .ok (goInt xs.length) W) ∧ Own W g (ys.take off ++ (xs ++ ys.drop (off + xs.length))) ∧ u.grownBy W (some g) := by
  by_cases h0 : xs.length = 0
  · obtain rfl : xs = [] := List.eq_nil_of_length_eq_zero h0
    refine ⟨u, fun ty => ?_, by simpa using hg, World.grownBy.refl _ _⟩
    have h := run_copy_none (P := Tryz.prog) u 37 37 ty 5 d a dLen dCap 0 cap Tryz.underlying37 size5 (by simp)
    exact h
  · obtain ⟨b, o, rfl, hc⟩ := hr (by omega)
    obtain rfl := hd (by omega)
    refine ⟨u.setRow g ((bcs ys).take off ++ bcs xs ++ (bcs ys).drop (off + (bcs xs).length)).toArray, fun ty => ?_, ?_, grown_setRow _ _ _⟩
    · have h := run_copy_row (P := Tryz.prog) u 37 37 ty 5 g off dLen dCap ⟨b, o, none⟩ xs.length cap (bcs ys).toArray 5 (bcs xs) Tryz.underlying37 size5 hg (by rw [bcs_length]; exact (Nat.min_eq_left hl).symm) (fun j v hj => by
          have hj' : j < xs.length := by have := (List.getElem?_eq_some_iff.1 hj).1; simpa [bcs_length] using this
          rw [bcs_getElem? xs j hj'] at hj
          rw [Addr.add_lit, hc j hj']
          exact hj) (by simpa [bcs_length] using hfit) (bcs_oneCell xs)
      rw [h, bcs_length]
    · unfold Own
      rw [setRow_heap u g _ _ 5 _ hg]
      simp [bcs]

set_option maxHeartbeats 400000 in
theorem longer_any (a : Option Addr) (cap more : Nat) (xs : List UInt8) (w : World) (hr : Rd w a xs) (hm : xs.length + more ≤ 281474976710656) :
    Calls Tryz.prog 275 #[.slice a xs.length cap, .int .i64 more] w fun e w' => e = .returned (.slice (some ⟨w.heap.size, 0, none⟩) (xs.length + more) (xs.length + more)) ∧ Own w' w.heap.size (xs ++ List.replicate more 0) ∧ Below w.heap.size w w' := by
  obtain ⟨i0, hi, hz0, hz1, hz2⟩ := info_parts info5
  have hmk : ∀ u : World, (Instr.makeSlice 37 (.int .i64 ((xs.length : Int) + (more : Int))) (.int .i64 ((xs.length : Int) + (more : Int)))).run Tryz.prog u =
      .ok (.slice (some ⟨u.heap.size, 0, none⟩) (xs.length + more) (xs.length + more)) (u.alloc (.cells (madeCells #[.int .u8 0] (xs.length + more)) 5)) := fun u => by
    have h := run_make (P := Tryz.prog) u 37 5 i0 (.int .u8 0) Tryz.underlying37 hi hz0 .i64 .i64 ((xs.length : Int) + (more : Int)) ((xs.length : Int) + (more : Int)) (by omega) (Int.le_refl _) (by rw [hz2]; omega) (by omega)
    have e : ((xs.length : Int) + (more : Int)).toNat = xs.length + more := by omega
    rw [e] at h
    simpa [hz1, Value.cells] using h
  have hb0 : Below w.heap.size w (w.alloc (.cells (madeCells #[.int .u8 0] (xs.length + more)) 5)) := (Below.refl _ _).alloc (Nat.le_refl _) _
  have ho : Own (w.alloc (.cells (madeCells #[.int .u8 0] (xs.length + more)) 5)) w.heap.size (List.replicate (xs.length + more) 0) := by
    rw [made_zero]; exact heap_alloc_new w _
  obtain ⟨W, hcp, hoW, hgW⟩ := copy_run w.heap.size 0 (xs.length + more) (xs.length + more) (some ⟨w.heap.size, 0, none⟩) a cap xs _ _ ho (hr.below hb0 (Nat.le_refl _)) (fun _ => rfl) (by omega) (by simp)
  have hbW : Below w.heap.size w W := hb0.grown hgW (by simp) (fun k hk => by simp at hk; omega)
  have hres : Own W w.heap.size (xs ++ List.replicate more 0) := by
    have e : (List.replicate (xs.length + more) (0 : UInt8)).drop (0 + xs.length) = List.replicate more 0 := by simp
    rw [e] at hoW
    simpa using hoW
  clear hb0 ho hoW hgW hr
  go_enter Tryz.func275, Tryz.ntmps275
  go_wp2
  go_ret
  exact ⟨rfl, hres, hbW⟩

def numAt (xs : List UInt8) (i : Int) (size : Nat) : Option Nat := if 0 ≤ i ∧ i + size ≤ xs.length then some (beNat ((xs.drop i.toNat).take size)) else none

theorem numAt_none {xs : List UInt8} {i : Int} {size : Nat} (h : ¬ (0 ≤ i ∧ i + size ≤ xs.length)) : numAt xs i size = none := by unfold numAt; rw [if_neg h]
theorem numAt_some {xs : List UInt8} {k size : Nat} (h : k + size ≤ xs.length) : numAt xs k size = some (beNat ((xs.drop k).take size)) := by unfold numAt; rw [if_pos (by omega)]; simp
theorem numAt_lt (xs : List UInt8) (i : Int) (size : Nat) : (numAt xs i size).getD 0 < 256 ^ size := by
  unfold numAt
  split
  · have h := beNat_lt ((xs.drop i.toNat).take size)
    have h2 : 256 ^ ((xs.drop i.toNat).take size).length ≤ 256 ^ size := Nat.pow_le_pow_right (by omega) (List.length_take_le _ _)
    simp only [Option.getD_some]
    omega
  · simpa using Nat.pow_pos (by omega)

theorem number_out (a : Option Addr) (n cap : Nat) (i : Int) (size : Nat) (w : World) (hs : size ≤ 8) (hn : n ≤ 9223372036854775807) (h : i < 0 ∨ (n : Int) - size < i) :
    Calls Tryz.prog 262 #[.slice a n cap, .int .i64 i, .int .i64 size] w fun e w' => e = .returned (.tuple #[.int .u64 0, .bool false]) ∧ w = w' := by
  by_cases h1 : i < 0
  · go_enter Tryz.func262, Tryz.ntmps262
    go_wp2
    go_ret2
    exact ⟨rfl, rfl⟩
  · have h2 : (n : Int) - size < i := by omega
    go_enter Tryz.func262, Tryz.ntmps262
    go_wp2
    go_ret2
    exact ⟨rfl, rfl⟩

theorem number_in (b off cap : Nat) (xs : List UInt8) (k size : Nat) (w : World) (hs : size ≤ 8) (hn : xs.length ≤ 9223372036854775807)
    (hc : ∀ j (h : j < xs.length), w.cell? ⟨b, off + j, none⟩ = some (.int .u8 (xs[j].toNat : Int))) (h : k + size ≤ xs.length) :
    Calls Tryz.prog 262 #[.slice (some ⟨b, off, none⟩) xs.length cap, .int .i64 k, .int .i64 size] w fun e w' => e = .returned (.tuple #[.int .u64 (beNat ((xs.drop k).take size)), .bool true]) ∧ w = w' := by
  go_enter Tryz.func262, Tryz.ntmps262
  go_wp2
  go_loop [8, 21] (fun v i => ∃ j : Nat, j ≤ size ∧ i = .int .i64 j ∧ v = .int .u64 (beNat ((xs.drop k).take j))) (fun _ i => size - (intOf i).toNat)
  case atStart => exact ⟨0, Nat.zero_le _, rfl, rfl⟩
  case round =>
    obtain ⟨j, hj, rfl, rfl⟩ := hrel
    by_cases hlt : j < size
    · have hcc := hc (k + j) (by omega)
      go_wp2
      go_round
      case rel => exact ⟨j + 1, by omega, by go_num, by rw [or_step _ _ (beNat_take_lt7 _ _ (by omega)) (u8_lt _), be_window_succ xs k j (by omega)]⟩
      case measure => simp [intOf]; omega
    · obtain rfl : j = size := by omega
      go_wp2
      go_ret2
      exact ⟨rfl, rfl⟩

theorem number_any (a : Option Addr) (cap : Nat) (xs : List UInt8) (i : Int) (size : Nat) (w : World) (hs0 : 0 < size) (hs : size ≤ 8) (hn : xs.length ≤ 9223372036854775807) (hr : Rd w a xs) :
    Calls Tryz.prog 262 #[.slice a xs.length cap, .int .i64 i, .int .i64 size] w fun e w' => e = .returned (.tuple #[.int .u64 ((numAt xs i size).getD 0 : Nat), .bool (numAt xs i size).isSome]) ∧ w = w' := by
  by_cases h : 0 ≤ i ∧ i + size ≤ xs.length
  · obtain ⟨k, rfl⟩ := Int.eq_ofNat_of_zero_le h.1
    have hk : k + size ≤ xs.length := by omega
    obtain ⟨b, o, rfl, hc⟩ := hr (by omega)
    rw [numAt_some hk]
    exact number_in b o cap xs k size w hs hn hc hk
  · rw [numAt_none h]
    exact number_out a xs.length cap i size w hs hn (by omega)

theorem wrap_u16_in (n : Nat) (h : n < 65536) : IntKind.u16.wrap (n : Int) = n := by simp [IntKind.wrap, IntKind.bits, IntKind.signed]; omega
theorem u64_any (a : Option Addr) (cap : Nat) (xs : List UInt8) (i : Int) (w : World) (hn : xs.length ≤ 9223372036854775807) (hr : Rd w a xs) :
    Calls Tryz.prog 227 #[.slice a xs.length cap, .int .i64 i] w fun e w' => e = .returned (.tuple #[.int .u64 ((numAt xs i 8).getD 0 : Nat), .bool (numAt xs i 8).isSome]) ∧ w = w' := by
  go_enter Tryz.func227, Tryz.ntmps227
  go_wp2_with (go_at_call 262; refine (number_any a cap xs i 8 _ (by omega) (by omega) hn hr).mono ?_; rintro e w' ⟨rfl, rfl⟩)
  go_ret2
  exact ⟨rfl, rfl⟩

set_option maxHeartbeats 400000 in
theorem put_any (g off n cap : Nat) (ys : List UInt8) (v : Nat) (w : World) (_hv : v < 18446744073709551616) (h : off + n ≤ ys.length) (hn : n ≤ 8) (hg : Own w g ys) :
    Calls Tryz.prog 276 #[.slice (some ⟨g, off, none⟩) n cap, .int .u64 v] w fun e w' => e = .returned (.tuple #[]) ∧ Own w' g (putAt ys off n n v) ∧ w.grownBy w' (some g) := by
  go_enter Tryz.func276, Tryz.ntmps276
  go_wp2
  go_loopw [7] (fun i wr => ∃ j : Nat, j ≤ n ∧ i = .int .i64 j ∧ Own wr g (putAt ys off n j v) ∧ w.grownBy wr (some g)) (fun i _ => n - (intOf i).toNat)
  case atStart => exact ⟨0, Nat.zero_le _, rfl, by rw [putAt_zero]; exact hg, World.grownBy.refl _ _⟩
  case round =>
    obtain ⟨j, hj, rfl, ho, hb⟩ := hrel
    by_cases hlt : j < n
    · have hf := ho.frozen (off + (n - 1 - j))
      have hcl := ho.cell (off + (n - 1 - j)) (by rw [putAt_length _ _ _ _ _ h hj]; omega)
      have hst := ho.store (off + (n - 1 - j)) (UInt8.ofNat (v / 256 ^ j))
      rw [putAt_succ ys off n j v h hlt, ← shr_byte, IntKind.wrap_u8] at hst
      have hgr := grown_trans hb (grown_store wr g (off + (n - 1 - j)) (.int .u8 ((v : Int) / 2 ^ (8 * j) % 256)))
      go_wp2
      go_roundw
      case rel => exact ⟨j + 1, by omega, by go_num, hst, hgr⟩
      case measure => simp [intOf]; omega
    · obtain rfl : j = n := by omega
      go_wp2
      go_end0
      exact ⟨rfl, ho, hb⟩

theorem putAt_behind (xs zs : List UInt8) (n v : Nat) (hz : zs.length = n) : putAt (xs ++ zs) xs.length n n v = xs ++ toBE n v := by
  unfold putAt
  rw [show xs.length + n - n = xs.length by omega, List.take_left, List.drop_eq_nil_of_le (by simp; omega), List.append_nil]

set_option maxHeartbeats 400000 in
theorem addNumber_any (a : Option Addr) (cap : Nat) (xs : List UInt8) (v n : Nat) (w : World) (hv : v < 18446744073709551616) (hn0 : 0 < n) (hn : n ≤ 8) (hm : xs.length + n ≤ 281474976710656) (hr : Rd w a xs) :
    Calls Tryz.prog 246 #[.slice a xs.length cap, .int .u64 v, .int .i64 n] w fun e w' => e = .returned (.slice (some ⟨w.heap.size, 0, none⟩) (xs.length + n) (xs.length + n)) ∧ Own w' w.heap.size (xs ++ toBE n v) ∧ Below w.heap.size w w' := by
  have hsz : ¬ xs.length + n = xs.length := by omega
  go_enter Tryz.func246, Tryz.ntmps246
  go_wp2_with (go_at_call 275; refine (longer_any a cap n xs _ hr hm).mono ?_; rintro e w1 ⟨rfl, ho, hb⟩)
  refine (put_any w.heap.size xs.length n n (xs ++ List.replicate n 0) v w1 hv (by simp) hn ho).mono ?_
  rintro e w2 ⟨rfl, ho2, hg2⟩
  have hb2 : Below w.heap.size w w2 := hb.grown hg2 hb.size (fun k hk => by simp at hk; omega)
  rw [putAt_behind xs _ n v (by simp)] at ho2
  clear ho hb hg2 hr
  go_wp2
  go_ret
  exact ⟨rfl, ho2, hb2⟩

theorem add32_any (a : Option Addr) (cap : Nat) (xs : List UInt8) (v : Nat) (w : World) (hv : v < 4294967296) (hm : xs.length + 4 ≤ 281474976710656) (hr : Rd w a xs) :
    Calls Tryz.prog 216 #[.slice a xs.length cap, .int .u32 v] w fun e w' => e = .returned (.slice (some ⟨w.heap.size, 0, none⟩) (xs.length + 4) (xs.length + 4)) ∧ Own w' w.heap.size (xs ++ toBE 4 v) ∧ Below w.heap.size w w' := by
  go_enter Tryz.func216, Tryz.ntmps216
  go_wp2_with (go_at_call 246; refine (addNumber_any a cap xs v 4 _ (by omega) (by omega) (by omega) hm hr).mono ?_; rintro e w1 ⟨rfl, ho, hb⟩)
  go_ret
  exact ⟨rfl, ho, hb⟩

theorem add64_any (a : Option Addr) (cap : Nat) (xs : List UInt8) (v : Nat) (w : World) (hv : v < 18446744073709551616) (hm : xs.length + 8 ≤ 281474976710656) (hr : Rd w a xs) :
    Calls Tryz.prog 215 #[.slice a xs.length cap, .int .u64 v] w fun e w' => e = .returned (.slice (some ⟨w.heap.size, 0, none⟩) (xs.length + 8) (xs.length + 8)) ∧ Own w' w.heap.size (xs ++ toBE 8 v) ∧ Below w.heap.size w w' := by
  go_enter Tryz.func215, Tryz.ntmps215
  go_wp2_with (go_at_call 246; refine (addNumber_any a cap xs v 8 _ (by omega) (by omega) (by omega) hm hr).mono ?_; rintro e w1 ⟨rfl, ho, hb⟩)
  go_ret
  exact ⟨rfl, ho, hb⟩

theorem add32_at (g cap n : Nat) (a : Option Addr) (xs : List UInt8) (v : Nat) (V : Int) (w : World) (hV : V = (v : Int)) (hg : w.heap.size = g) (hn : xs.length = n) (hv : v < 4294967296) (hm : n + 4 ≤ 281474976710656) (hr : Rd w a xs) :
    Calls Tryz.prog 216 #[.slice a n cap, .int .u32 V] w fun e w' => e = .returned (.slice (some ⟨g, 0, none⟩) (n + 4) (n + 4)) ∧ Own w' g (xs ++ toBE 4 v) ∧ Below g w w' := by
  subst hn hg hV; exact add32_any a cap xs v w hv hm hr
theorem add64_at (g cap n : Nat) (a : Option Addr) (xs : List UInt8) (v : Nat) (V : Int) (w : World) (hV : V = (v : Int)) (hg : w.heap.size = g) (hn : xs.length = n) (hv : v < 18446744073709551616) (hm : n + 8 ≤ 281474976710656) (hr : Rd w a xs) :
    Calls Tryz.prog 215 #[.slice a n cap, .int .u64 V] w fun e w' => e = .returned (.slice (some ⟨g, 0, none⟩) (n + 8) (n + 8)) ∧ Own w' g (xs ++ toBE 8 v) ∧ Below g w w' := by
  subst hn hg hV; exact add64_any a cap xs v w hv hm hr
theorem u64_at (cap n : Nat) (a : Option Addr) (xs : List UInt8) (i : Int) (v : Nat) (V : Int) (w : World) (hV : (v : Int) = V) (hn : xs.length = n) (hm : n ≤ 9223372036854775807) (hr : Rd w a xs) (hv : numAt xs i 8 = some v) :
    Calls Tryz.prog 227 #[.slice a n cap, .int .i64 i] w fun e w' => e = .returned (.tuple #[.int .u64 V, .bool true]) ∧ w = w' := by
  subst hn hV; have h := u64_any a cap xs i w hm hr; rw [hv] at h; exact h
theorem numAt_put (pre post : List UInt8) (k v : Nat) (i : Int) (hi : i = (pre.length : Int)) : numAt (pre ++ (toBE k v ++ post)) i k = some (v % 256 ^ k) := by
  subst hi
  rw [numAt_some (by simp [toBE_length])]
  rw [List.drop_left, List.take_append_of_le_length (by simp [toBE_length]), List.take_of_length_le (by simp [toBE_length]), beNat_toBE]

end Go.Proofs.YtnldkpckojhbhaaGreat.Su

/-
  Plain facts on the register of a check sum: it is linear over bits, and forgets nothing; nothing of the program is named here.
-/
namespace Go.Proofs.YtnldkpckojhbhaaGreat.Su

def taps : Nat := 2197175160

def turn (x : Nat) : Nat := if x % 2 = 1 then (x / 2) ^^^ taps else x / 2

def step (r b : Nat) : Nat := if r % 2 = b then r / 2 else (r / 2) ^^^ taps

def steps (r c : Nat) : Nat → Nat
  | 0 => r
  | i + 1 => step (steps r c i) (c / 2 ^ i % 2)

def reg (r : Nat) (xs : List UInt8) : Nat := xs.foldl (fun r c => steps r c.toNat 8) r

def crc (s : Nat) (xs : List UInt8) : Nat := 4294967295 - reg (4294967295 - s) xs

theorem xor_lt {a b : Nat} (ha : a < 4294967296) (hb : b < 4294967296) : a ^^^ b < 4294967296 := Nat.xor_lt_two_pow (n := 32) ha hb

theorem step_lt {r : Nat} (b : Nat) (h : r < 4294967296) : step r b < 4294967296 := by
  unfold step
  split
  · omega
  · exact xor_lt (by omega) (by decide)

theorem steps_lt {r : Nat} (c : Nat) (h : r < 4294967296) (i : Nat) : steps r c i < 4294967296 := by
  induction i with
  | zero => exact h
  | succ i ih => exact step_lt _ ih

theorem reg_nil (r : Nat) : reg r [] = r := rfl
theorem reg_cons (r : Nat) (c : UInt8) (xs : List UInt8) : reg r (c :: xs) = reg (steps r c.toNat 8) xs := by unfold reg; rw [List.foldl_cons]
theorem reg_append (r : Nat) (xs ys : List UInt8) : reg r (xs ++ ys) = reg (reg r xs) ys := by simp [reg, List.foldl_append]
theorem reg_lt (xs : List UInt8) {r : Nat} (h : r < 4294967296) : reg r xs < 4294967296 := by
  induction xs generalizing r with
  | nil => rw [reg_nil]; exact h
  | cons c xs ih => rw [reg_cons]; exact ih (steps_lt _ h 8)

theorem reg_succ (r : Nat) (xs : List UInt8) (k : Nat) (h : k < xs.length) : reg r (xs.take (k + 1)) = steps (reg r (xs.take k)) xs[k].toNat 8 := by
  rw [List.take_succ_eq_append_getElem h, reg_append, reg_cons, reg_nil]

theorem crc_lt (s : Nat) (xs : List UInt8) : crc s xs < 4294967296 := by unfold crc; omega

theorem flip_xor {s : Nat} (h : s < 4294967296) : 4294967295 - s = s ^^^ 4294967295 := by
  apply Nat.eq_of_testBit_eq
  intro i
  have e : 4294967295 - s = 2 ^ 32 - (s + 1) := by omega
  rw [e, Nat.testBit_two_pow_sub_succ h, Nat.testBit_xor, show (4294967295 : Nat) = 2 ^ 32 - 1 by rfl, Nat.testBit_two_pow_sub_one]
  by_cases hi : i < 32
  · simp [hi]
  · have : s.testBit i = false := Nat.testBit_lt_two_pow (Nat.lt_of_lt_of_le h (Nat.pow_le_pow_right (n := 2) (i := 32) (by omega) (by omega)))
    simp [hi, this]

end Go.Proofs.YtnldkpckojhbhaaGreat.Su
