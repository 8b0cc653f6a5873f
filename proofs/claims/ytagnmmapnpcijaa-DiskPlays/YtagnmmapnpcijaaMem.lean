/-
  A disk in memory: which blocks are its own, what they hold, and what of the world a call on it may turn.
-/
import Derived.Test.YtagnmmapnpcijaaBytes
import Derived.Test.YtagnmmapnpcijaaPure
import Derived.Laws.CopyOwn
import Derived.Deep.QuietTactic
import Derived.BigQuiet
namespace Go.Proofs.Ytagnmmapnpcijaa
open Go.RowKit

/-! ### one block -/
/-- a block that was made for one value -/
def Box (w : World) (g : Nat) (cs : Array Value) (t : TypeId) : Prop := w.heap[g]? = some (.cells cs t (0, 0))
theorem Box.cell {w : World} {g : Nat} {cs : Array Value} {t : TypeId} (h : Box w g cs t) (j : Nat) : w.cell? ⟨g, j, none⟩ = cs[j]? := cell_of_row w g j cs t (0, 0) h
theorem Box.frozen {w : World} {g : Nat} {cs : Array Value} {t : TypeId} (h : Box w g cs t) (j : Nat) : w.frozen? ⟨g, j, none⟩ = false := frozen_of_row w g j cs t h
theorem Box.lt {w : World} {g : Nat} {cs : Array Value} {t : TypeId} (h : Box w g cs t) : g < w.heap.size := (Array.getElem?_eq_some_iff.1 h).1
theorem Box.below {w w' : World} {g : Nat} {cs : Array Value} {t : TypeId} (h : Box w g cs t) (hb : Below w.heap.size w w') : Box w' g cs t := (hb.block g h.lt).trans h
theorem Box.new (w : World) (cs : Array Value) (t : TypeId) : Box (w.alloc (.cells cs t)) w.heap.size cs t := heap_alloc_new w _
theorem Box.alloc {w : World} {g : Nat} {cs : Array Value} {t : TypeId} (h : Box w g cs t) (o : Obj) : Box (w.alloc o) g cs t := (Below.heap_alloc w o g h.lt).trans h
theorem Box.store {w : World} {g : Nat} {cs : Array Value} {t : TypeId} (h : Box w g cs t) (j : Nat) (v : Value) : Box (w.setCell ⟨g, j, none⟩ v) g (cs.setIfInBounds j v) t := heap_setCell_same w g j cs t v h
theorem Box.ne {w : World} {g g' : Nat} {cs cs' : Array Value} {t t' : TypeId} (h : Box w g cs t) (h' : Box w g' cs' t') (ht : t ≠ t') : g ≠ g' := by
  intro e
  subst e
  unfold Box at h h'
  rw [h] at h'
  simp at h'
  exact ht h'.2

/-- Bytes, with room behind them of which nothing is said. -/
def RowB (w : World) (g cap : Nat) (ys : List UInt8) : Prop := ∃ cur : Array Value, Box w g cur 5 ∧ ys.length ≤ cap ∧ cap ≤ maxLen ∧ cur.size = cap ∧ cur.toList.take ys.length = bcs ys
theorem RowB.lt {w : World} {g cap : Nat} {ys : List UInt8} (h : RowB w g cap ys) : g < w.heap.size := by obtain ⟨cur, h, _⟩ := h; exact h.lt
theorem RowB.rd {w : World} {g cap : Nat} {ys : List UInt8} (h : RowB w g cap ys) : Rd w (some ⟨g, 0, none⟩) ys := by
  obtain ⟨cur, h, _, _, _, ht⟩ := h
  intro _
  refine ⟨g, 0, rfl, fun j hj => ?_⟩
  rw [Nat.zero_add, h.cell j]
  have h1 := bcs_getElem? ys j hj
  rw [← ht, List.getElem?_take] at h1
  rw [if_pos hj] at h1
  simpa using h1
theorem RowB.same {w w' : World} {g cap : Nat} {ys : List UInt8} (h : RowB w g cap ys) (hb : w'.heap[g]? = w.heap[g]?) : RowB w' g cap ys := by
  obtain ⟨cur, h, r⟩ := h
  exact ⟨cur, hb.trans h, r⟩
theorem RowB.own {w : World} {g : Nat} {ys : List UInt8} (h : Own w g ys) (hm : ys.length ≤ maxLen) : RowB w g ys.length ys :=
  ⟨(bcs ys).toArray, h, Nat.le_refl _, hm, by simp [bcs_length], by rw [List.take_of_length_le (by simp [bcs_length])]⟩
theorem RowB.owns {w : World} {B n : Nat} {v : Value} {ys : List UInt8} (h : w.ownsRow B 5 1 v n (bcs ys)) (h0 : 0 < n) : ∃ g cap, v = .slice (some ⟨g, 0, none⟩) n cap ∧ B ≤ g ∧ RowB w g cap ys := by
  have hl : ys.length = n := by have := h.1; rw [bcs_length] at this; omega
  rcases h.2 with ⟨rfl, rfl⟩ | ⟨g, cap, cur, rfl, hb, hg, hnc, hcm, hcs, ht⟩
  · omega
  · exact ⟨g, cap, rfl, hb, cur, hg, by omega, hcm, by omega, by rw [hl]; simpa using ht⟩

/-- copy of bytes onto a part of such a row -/
theorem copy_row (g cap off dLen dCap : Nat) (a : Option Addr) (sCap : Nat) (xs ys : List UInt8) (u : World) (hg : RowB u g cap ys) (hr : Rd u a xs) (hl : xs.length ≤ dLen) (hfit : off + xs.length ≤ ys.length) (h0 : 0 < xs.length) :
    ∃ W, (∀ ty, (Builtin.copy_ #[27, 27] ty #[.slice (some ⟨g, off, none⟩) dLen dCap, .slice a xs.length sCap]).run Try.prog u = .ok (goInt xs.length) W) ∧ RowB W g cap (putAt ys off xs) ∧ u.grownBy W (some g) := by
  obtain ⟨b, o, rfl, hc⟩ := hr h0
  obtain ⟨cur, hb, hlc, hm, hs, ht⟩ := hg
  refine ⟨u.setRow g (cur.toList.take off ++ bcs xs ++ cur.toList.drop (off + (bcs xs).length)).toArray, fun ty => ?_, ?_, grown_setRow _ _ _⟩
  · have h := run_copy_row (P := Try.prog) u 27 27 ty 5 g off dLen dCap ⟨b, o, none⟩ xs.length sCap cur 5 (bcs xs) Try.underlying27 size5 hb (by rw [bcs_length]; exact (Nat.min_eq_left hl).symm) (fun j v hj => by
        have hj' : j < xs.length := by have := (List.getElem?_eq_some_iff.1 hj).1; simpa [bcs_length] using this
        rw [bcs_getElem? xs j hj'] at hj
        rw [Addr.add_lit, hc j hj']
        exact hj) (by rw [bcs_length]; omega) (bcs_oneCell xs)
    rw [h, bcs_length]
  · have hpl := putAt_length ys off xs hfit
    refine ⟨_, setRow_heap u g _ _ 5 _ hb, by omega, hm, ?_, ?_⟩
    · simp [bcs_length]; omega
    · rw [hpl]
      have e1 : cur.toList.take off = bcs (ys.take off) := by
        have := congrArg (List.take off) ht
        rw [List.take_take, Nat.min_eq_left (by omega)] at this
        rw [this]; simp [bcs]
      have e2 : (cur.toList.drop (off + xs.length)).take (ys.length - (off + xs.length)) = bcs (ys.drop (off + xs.length)) := by
        have := congrArg (List.drop (off + xs.length)) ht
        rw [List.drop_take] at this
        rw [this]; simp [bcs]
      have hlt : (cur.toList.take off).length = off := by simp; omega
      have e3 : bcs (putAt ys off xs) = bcs (ys.take off) ++ (bcs xs ++ bcs (ys.drop (off + xs.length))) := by simp [putAt, bcs]
      show (cur.toList.take off ++ bcs xs ++ cur.toList.drop (off + (bcs xs).length)).take ys.length = _
      have e4 : (bcs xs).take (ys.length - off) = bcs xs := List.take_of_length_le (by rw [bcs_length]; omega)
      rw [e3, ← e1, ← e2]
      generalize hA : cur.toList.take off = A at hlt
      have e5 : A.take ys.length = A := List.take_of_length_le (by omega)
      rw [List.append_assoc, List.take_append, List.take_append, e5, hlt, e4, bcs_length, Nat.sub_sub]

/-! ### what a call may turn -/
/-- Of what was there, only blocks of F have turned. -/
structure Upd (F : Nat → Prop) (w w' : World) : Prop where
  os : w'.os = w.os
  tape : w'.tape = w.tape
  output : w'.output = w.output
  size : w.heap.size ≤ w'.heap.size
  block : ∀ k, k < w.heap.size → ¬ F k → w'.heap[k]? = w.heap[k]?
theorem Upd.refl (F : Nat → Prop) (w : World) : Upd F w w := ⟨rfl, rfl, rfl, Nat.le_refl _, fun _ _ _ => rfl⟩
theorem Upd.trans {F F' : Nat → Prop} {a b c : World} (h : Upd F a b) (k : Upd F' b c) (hF : ∀ i, F' i → F i ∨ a.heap.size ≤ i) : Upd F a c :=
  ⟨k.os.trans h.os, k.tape.trans h.tape, k.output.trans h.output, Nat.le_trans h.size k.size, fun i hi hn => (k.block i (Nat.lt_of_lt_of_le hi h.size) (fun hf => by rcases hF i hf with h1 | h1; exact hn h1; omega)).trans (h.block i hi hn)⟩
theorem Upd.of_below {F : Nat → Prop} {w w' : World} (h : Below w.heap.size w w') : Upd F w w' := ⟨h.os, h.tape, h.output, h.size, fun k hk _ => h.block k hk⟩
theorem Upd.grown {F : Nat → Prop} {a w w' : World} {row : Option Nat} (h : Upd F a w) (hg : w.grownBy w' row) (hr : ∀ k, row = some k → F k ∨ a.heap.size ≤ k) : Upd F a w' :=
  ⟨hg.os.trans h.os, hg.tape.trans h.tape, hg.output.trans h.output, Nat.le_trans h.size hg.size, fun i hi hn => (hg.block i (Nat.lt_of_lt_of_le hi h.size) (fun e => by rcases hr i e.symm with h1 | h1; exact hn h1; omega)).trans (h.block i hi hn)⟩
theorem Upd.below {F : Nat → Prop} {w w' : World} {B : Nat} (h : Upd F w w') (hF : ∀ i, F i → B ≤ i) (hB : B ≤ w.heap.size) : Below B w w' :=
  ⟨h.os, h.tape, h.output, h.size, fun k hk => h.block k (by omega) (fun hf => by have := hF k hf; omega)⟩
theorem Upd.alloc {F : Nat → Prop} {a w : World} (h : Upd F a w) (o : Obj) : Upd F a (w.alloc o) := h.grown (World.grownBy_alloc w o none) (fun k e => by cases e)
theorem Upd.setCell {F : Nat → Prop} {a w : World} (h : Upd F a w) {g j : Nat} (hg : F g ∨ a.heap.size ≤ g) (u : Value) : Upd F a (w.setCell ⟨g, j, none⟩ u) := h.grown (grown_store w g j u) (fun k e => by cases e; exact hg)
theorem Upd.drew {F : Nat → Prop} {a w : World} (h : Upd F a w) : Upd F a w.drew := ⟨h.os, h.tape, h.output, h.size, h.block⟩
theorem Upd.thenB {F : Nat → Prop} {a w w' : World} (h : Upd F a w) (k : Below w.heap.size w w') : Upd F a w' := ⟨k.os.trans h.os, k.tape.trans h.tape, k.output.trans h.output, Nat.le_trans h.size k.size, fun i hi hn => (k.block i (Nat.lt_of_lt_of_le hi h.size)).trans (h.block i hi hn)⟩
theorem Rd.upd {F : Nat → Prop} {w w' : World} {g o : Nat} {xs : List UInt8} (h : Rd w (some ⟨g, o, none⟩) xs) (hu : Upd F w w') (hg : ¬ F g) : Rd w' (some ⟨g, o, none⟩) xs := fun hp => by
  obtain ⟨b, o', ha, hc⟩ := h hp
  simp only [Option.some.injEq, Addr.mk.injEq, and_true] at ha
  obtain ⟨rfl, rfl⟩ := ha
  refine ⟨g, o, rfl, fun j hj => ?_⟩
  have hlt : g < w.heap.size := block_lt_of_cell (hc j hj)
  rw [World.cell?_of_block (a := ⟨g, o + j, none⟩) (hu.block g hlt hg)]
  exact hc j hj

/-! ### the disk -/
def wcs (ps : List (Nat × Nat × Nat)) : List Value := ps.flatMap fun p => [.int .i64 (p.1 : Int), .slice (some ⟨p.2.1, 0, none⟩) 4096 p.2.2]
theorem wcs_length (ps : List (Nat × Nat × Nat)) : (wcs ps).length = ps.length * 2 := by
  induction ps with
  | nil => rfl
  | cons p l ih => simp [wcs] at ih ⊢; omega
theorem wcs_snoc (ps : List (Nat × Nat × Nat)) (p : Nat × Nat × Nat) : wcs (ps ++ [p]) = wcs ps ++ [.int .i64 (p.1 : Int), .slice (some ⟨p.2.1, 0, none⟩) 4096 p.2.2] := by simp [wcs]
theorem wcs_at (ps : List (Nat × Nat × Nat)) (j : Nat) (h : j < ps.length) : (wcs ps)[j * 2]? = some (.int .i64 (ps[j].1 : Int)) ∧ (wcs ps)[j * 2 + 1]? = some (.slice (some ⟨ps[j].2.1, 0, none⟩) 4096 ps[j].2.2) := by
  induction ps generalizing j with
  | nil => simp at h
  | cons p l ih =>
    cases j with
    | zero => simp [wcs]
    | succ j =>
      have hj : j < l.length := by simpa using h
      obtain ⟨h0, h1⟩ := ih j hj
      have e : wcs (p :: l) = [.int .i64 (p.1 : Int), .slice (some ⟨p.2.1, 0, none⟩) 4096 p.2.2] ++ wcs l := by simp [wcs]
      rw [e]
      constructor
      · rw [List.getElem?_append_right (by simp; omega)]
        have : (j + 1) * 2 - 2 = j * 2 := by omega
        simpa [this] using h0
      · rw [List.getElem?_append_right (by simp; omega)]
        have : (j + 1) * 2 + 1 - 2 = j * 2 + 1 := by omega
        simpa [this] using h1

/-- The cells of a disk. -/
def diskC (g : Nat) (vd vu : Value) (D : DS) : Array Value :=
  #[.pointer (some ⟨g, 0, none⟩), vd, vu, .int .i64 (D.n : Int), .bool D.gone, .bool D.arm.set, .int .i64 (D.arm.left : Int), .bool D.fail.set, .int .i64 (D.fail.left : Int)]

/-- Where a disk lies: its own blocks are in F. -/
structure Lies (w : World) (g : Nat) (D : DS) (F : Nat → Prop) (gd cd : Nat) (vu : Value) (ps : List (Nat × Nat × Nat)) : Prop where
  box : Box w g (diskC g (.slice (some ⟨gd, 0, none⟩) (D.nb * 4096) cd) vu D) 69
  dur : RowB w gd cd D.dur
  row : w.ownsRow 0 79 2 vu D.uf.length (wcs ps)
  len : ps.length = D.uf.length
  each : ∀ k (h : k < ps.length) (h' : k < D.uf.length), ps[k].1 = D.uf[k].1 ∧ RowB w ps[k].2.1 ps[k].2.2 D.uf[k].2 ∧ ps[k].2.1 ≠ gd ∧ F ps[k].2.1
  fg : F g
  fd : F gd
  fu : ∀ k, vu.ownBlock = some k → F k
  flt : ∀ i, F i → i < w.heap.size
  ok : D.Ok
def IsDisk (w : World) (g : Nat) (D : DS) (F : Nat → Prop) : Prop := ∃ gd cd vu ps, Lies w g D F gd cd vu ps

theorem Lies.kept {w w' : World} {g : Nat} {D : DS} {F : Nat → Prop} {gd cd : Nat} {vu : Value} {ps : List (Nat × Nat × Nat)} (h : Lies w g D F gd cd vu ps) (hk : ∀ i, F i → w'.heap[i]? = w.heap[i]?) (hs : w.heap.size ≤ w'.heap.size) : Lies w' g D F gd cd vu ps where
  box := (hk g h.fg).trans h.box
  dur := h.dur.same (hk gd h.fd)
  row := ⟨h.row.1, by
    rcases h.row.2 with h1 | ⟨g', cap, cur, rfl, hb, hg, r⟩
    · exact .inl h1
    · exact .inr ⟨g', cap, cur, rfl, hb, (hk g' (h.fu g' rfl)).trans hg, r⟩⟩
  len := h.len
  each := fun k h1 h2 => by
    obtain ⟨a, b, c, d⟩ := h.each k h1 h2
    exact ⟨a, b.same (hk _ d), c, d⟩
  fg := h.fg
  fd := h.fd
  fu := h.fu
  flt := fun i hi => Nat.lt_of_lt_of_le (h.flt i hi) hs
  ok := h.ok
theorem IsDisk.kept {w w' : World} {g : Nat} {D : DS} {F : Nat → Prop} (h : IsDisk w g D F) (hk : ∀ i, F i → w'.heap[i]? = w.heap[i]?) (hs : w.heap.size ≤ w'.heap.size) : IsDisk w' g D F := by
  obtain ⟨gd, cd, vu, ps, h⟩ := h
  exact ⟨gd, cd, vu, ps, h.kept hk hs⟩
theorem IsDisk.flt {w : World} {g : Nat} {D : DS} {F : Nat → Prop} (h : IsDisk w g D F) : ∀ i, F i → i < w.heap.size := by obtain ⟨gd, cd, vu, ps, h⟩ := h; exact h.flt
theorem IsDisk.ok {w : World} {g : Nat} {D : DS} {F : Nat → Prop} (h : IsDisk w g D F) : D.Ok := by obtain ⟨gd, cd, vu, ps, h⟩ := h; exact h.ok
theorem IsDisk.below {w w' : World} {g : Nat} {D : DS} {F : Nat → Prop} (h : IsDisk w g D F) (hb : Below w.heap.size w w') : IsDisk w' g D F := h.kept (fun i hi => hb.block i (h.flt i hi)) hb.size
theorem Lies.below {w w' : World} {g : Nat} {D : DS} {F : Nat → Prop} {gd cd : Nat} {vu : Value} {ps : List (Nat × Nat × Nat)} (h : Lies w g D F gd cd vu ps) (hb : Below w.heap.size w w') : Lies w' g D F gd cd vu ps := h.kept (fun i hi => hb.block i (h.flt i hi)) hb.size
theorem IsDisk.upd {w w' : World} {g : Nat} {D : DS} {F G : Nat → Prop} (h : IsDisk w g D F) (hb : Upd G w w') (hd : ∀ i, F i → ¬ G i) : IsDisk w' g D F := h.kept (fun i hi => hb.block i (h.flt i hi) (hd i hi)) hb.size
end Go.Proofs.Ytagnmmapnpcijaa
