/-
  The document's own disk, in memory: blocks' bytes and writes, all in blocks that Q allows.
-/
import Derived.Test.YtagnmmapnpcijaaMadeWalk
namespace Go.Proofs.Ytagnmmapnpcijaa
open Go.RowKit

/-- a block's bytes -/
def BlkAt (w : World) (Q : Nat → Prop) (v : Value) (xs : List UInt8) : Prop :=
  ∃ p o c, v = .slice (some ⟨p, o, none⟩) 4096 c ∧ 4096 ≤ c ∧ c ≤ maxLen ∧ Q p ∧ (∃ cur, Box w p cur 5) ∧ xs.length = 4096 ∧ ∀ j (h : j < xs.length), w.cell? ⟨p, o + j, none⟩ = some (.int .u8 (xs[j].toNat : Int))
/-- blocks' bytes, one behind another -/
def SafeAt (w : World) (Q : Nat → Prop) (a : Option Addr) (n c : Nat) (bs : List (List UInt8)) : Prop :=
  bs.length = n ∧ n ≤ c ∧ c ≤ maxLen ∧ ∃ g o, a = some ⟨g, o, none⟩ ∧ Q g ∧ (∃ cur, Box w g cur 27) ∧ ∀ j x, bs[j]? = some x → ∃ u, w.cell? ⟨g, o + j, none⟩ = some u ∧ BlkAt w Q u x
/-- writes, one behind another -/
def WrAt (w : World) (Q : Nat → Prop) (a : Option Addr) (n c : Nat) (ws : List (Nat × List UInt8)) : Prop :=
  ws.length = n ∧ n ≤ c ∧ c ≤ maxLen ∧ (n = 0 → a = none ∧ c = 0) ∧ (0 < n → ∃ g o, a = some ⟨g, o, none⟩ ∧ Q g ∧ (∃ cur, Box w g cur 57) ∧ ∀ j x, ws[j]? = some x → w.cell? ⟨g, o + j * 2, none⟩ = some (.int .i64 (x.1 : Int)) ∧ ∃ u, w.cell? ⟨g, o + j * 2 + 1, none⟩ = some u ∧ BlkAt w Q u x.2)

theorem BlkAt.move {w w' : World} {Q Q' : Nat → Prop} {v : Value} {xs : List UInt8} (h : BlkAt w Q v xs) (hk : ∀ i, i < w.heap.size → Q i → (∃ cur t, Box w i cur t ∧ t ≠ 49) → w'.heap[i]? = w.heap[i]?) (hQ : ∀ i, i < w.heap.size → Q i → Q' i) : BlkAt w' Q' v xs := by
  obtain ⟨p, o, c, hv, h1, h2, hq, ⟨cur, hb⟩, hl, hc⟩ := h
  have lt : p < w.heap.size := hb.lt
  have e := hk p lt hq ⟨cur, 5, hb, by decide⟩
  exact ⟨p, o, c, hv, h1, h2, hQ p lt hq, ⟨cur, e.trans hb⟩, hl, fun j hj => (World.cell?_of_block (a := ⟨p, o + j, none⟩) e).trans (hc j hj)⟩
theorem BlkAt.rd {w : World} {Q : Nat → Prop} {a : Option Addr} {n c : Nat} {xs : List UInt8} (h : BlkAt w Q (.slice a n c) xs) : n = 4096 ∧ Rd w a xs ∧ xs.length = 4096 ∧ 4096 ≤ c ∧ c ≤ maxLen := by
  obtain ⟨p, o, c', hv, h1, h2, hq, _, hl, hc⟩ := h
  cases hv
  exact ⟨rfl, fun _ => ⟨p, o, rfl, hc⟩, hl, h1, h2⟩
theorem BlkAt.of_row {w : World} {Q : Nat → Prop} {g c : Nat} {xs : List UInt8} (h : RowB w g c xs) (hl : xs.length = 4096) (hq : Q g) : BlkAt w Q (.slice (some ⟨g, 0, none⟩) 4096 c) xs := by
  have hr := h.rd
  obtain ⟨cur, hb, h1, h2, h3, _⟩ := h
  obtain ⟨b, o, e, hc⟩ := hr (by omega)
  cases e
  exact ⟨g, 0, c, rfl, by omega, h2, hq, ⟨cur, hb⟩, hl, hc⟩
theorem SafeAt.move {w w' : World} {Q Q' : Nat → Prop} {a : Option Addr} {n c : Nat} {bs : List (List UInt8)} (h : SafeAt w Q a n c bs) (hk : ∀ i, i < w.heap.size → Q i → (∃ cur t, Box w i cur t ∧ t ≠ 49) → w'.heap[i]? = w.heap[i]?) (hQ : ∀ i, i < w.heap.size → Q i → Q' i) : SafeAt w' Q' a n c bs := by
  obtain ⟨h1, h2, h3, g, o, ha, hq, ⟨cur, hb⟩, hc⟩ := h
  have lt : g < w.heap.size := hb.lt
  have e := hk g lt hq ⟨cur, 27, hb, by decide⟩
  refine ⟨h1, h2, h3, g, o, ha, hQ g lt hq, ⟨cur, e.trans hb⟩, fun j x hx => ?_⟩
  obtain ⟨u, hu, hb⟩ := hc j x hx
  exact ⟨u, (World.cell?_of_block (a := ⟨g, o + j, none⟩) e).trans hu, hb.move hk hQ⟩
theorem WrAt.move {w w' : World} {Q Q' : Nat → Prop} {a : Option Addr} {n c : Nat} {ws : List (Nat × List UInt8)} (h : WrAt w Q a n c ws) (hk : ∀ i, i < w.heap.size → Q i → (∃ cur t, Box w i cur t ∧ t ≠ 49) → w'.heap[i]? = w.heap[i]?) (hQ : ∀ i, i < w.heap.size → Q i → Q' i) : WrAt w' Q' a n c ws := by
  obtain ⟨h1, h2, h3, hz, h4⟩ := h
  refine ⟨h1, h2, h3, hz, fun h0 => ?_⟩
  obtain ⟨g, o, ha, hq, ⟨cur, hb⟩, hc⟩ := h4 h0
  have lt : g < w.heap.size := hb.lt
  have e := hk g lt hq ⟨cur, 57, hb, by decide⟩
  refine ⟨g, o, ha, hQ g lt hq, ⟨cur, e.trans hb⟩, fun j x hx => ?_⟩
  obtain ⟨h5, u, hu, hb⟩ := hc j x hx
  exact ⟨(World.cell?_of_block (a := ⟨g, o + j * 2, none⟩) e).trans h5, u, (World.cell?_of_block (a := ⟨g, o + j * 2 + 1, none⟩) e).trans hu, hb.move hk hQ⟩

/-- what is durable, block by block -/
def safeOf (D : DS) : List (List UInt8) := (List.range D.nb).map (blk D.dur)
theorem safeOf_length (D : DS) : (safeOf D).length = D.nb := by simp [safeOf]
theorem safeOf_get (D : DS) (n : Nat) (h : n < D.nb) : (safeOf D)[n]? = some (blk D.dur n) := by simp [safeOf, h]
/-- the document's disk: its two lists -/
structure RD (w : World) (Q : Nat → Prop) (ad aw : Option Addr) (ns cs nw cw : Nat) (D : DS) : Prop where
  safe : SafeAt w Q ad ns cs (safeOf D)
  wr : WrAt w Q aw nw cw D.uf
  ok : D.Ok
theorem RD.ns {w : World} {Q : Nat → Prop} {ad aw : Option Addr} {ns cs nw cw : Nat} {D : DS} (h : RD w Q ad aw ns cs nw cw D) : ns = D.nb := by have := h.safe.1; rw [safeOf_length] at this; omega
theorem RD.nw {w : World} {Q : Nat → Prop} {ad aw : Option Addr} {ns cs nw cw : Nat} {D : DS} (h : RD w Q ad aw ns cs nw cw D) : nw = D.uf.length := by have := h.wr.1; omega
theorem RD.move {w w' : World} {Q Q' : Nat → Prop} {ad aw : Option Addr} {ns cs nw cw : Nat} {D : DS} (h : RD w Q ad aw ns cs nw cw D) (hk : ∀ i, i < w.heap.size → Q i → (∃ cur t, Box w i cur t ∧ t ≠ 49) → w'.heap[i]? = w.heap[i]?) (hQ : ∀ i, i < w.heap.size → Q i → Q' i) : RD w' Q' ad aw ns cs nw cw D :=
  ⟨h.safe.move hk hQ, h.wr.move hk hQ, h.ok⟩
theorem RD.below {w w' : World} {Q : Nat → Prop} {ad aw : Option Addr} {ns cs nw cw : Nat} {D : DS} (h : RD w Q ad aw ns cs nw cw D) (b : Below w.heap.size w w') : RD w' Q ad aw ns cs nw cw D := h.move (fun i hi _ _ => b.block i hi) (fun _ _ h => h)
theorem RD.upd {w w' : World} {F F' : Nat → Prop} {ad aw : Option Addr} {ns cs nw cw : Nat} {D : DS} (h : RD w (fun i => ¬ F i) ad aw ns cs nw cw D) (u : Upd F w w') (hF : ∀ i, F' i → F i ∨ w.heap.size ≤ i) : RD w' (fun i => ¬ F' i) ad aw ns cs nw cw D :=
  h.move (fun i hi hn _ => u.block i hi hn) (fun i hi hn hf => by rcases hF i hf with h | h; exact hn h; omega)

/-- a box of the law's is written -/
theorem RD.store {w : World} {Q : Nat → Prop} {ad aw : Option Addr} {ns cs nw cw : Nat} {D : DS} (h : RD w Q ad aw ns cs nw cw D) {g j : Nat} {v : Value} {cb : Array Value} (hb : Box w g cb 49) : RD (w.setCell ⟨g, j, none⟩ v) Q ad aw ns cs nw cw D :=
  h.move (fun i _ _ ⟨_, _, hi, ht⟩ => heap_setCell_other w ⟨g, j, none⟩ i v (fun e => hi.ne hb ht e)) (fun _ _ h => h)

def fuseI (f : Fuse) : Int := if f.set then (f.left : Int) else -1
def opA (dn : Bool) (a : Int) : Int := if dn then a else if 0 ≤ a then a - 1 else a
def opE (dn : Bool) (am fl : Int) : Int := if dn then 6 else if am = 0 then 6 else if fl = 0 then 4 else 0
theorem opE_D (D : DS) : opE D.gone (fuseI D.arm) (fuseI D.fail) = (D.operE : Int) := by
  unfold opE DS.operE fuseI Fuse.stops
  cases D.gone <;> simp
  cases h1 : D.arm.set <;> cases h2 : D.fail.set <;> simp
  · by_cases e : D.fail.left = 0 <;> simp [e]
  · by_cases e : D.arm.left = 0 <;> simp [e]
  · by_cases e : D.arm.left = 0 <;> by_cases e' : D.fail.left = 0 <;> simp [e, e']
theorem opA_D (D : DS) (f : Fuse) : opA D.gone (fuseI f) = fuseI (if D.gone then f else f.then) := by
  unfold opA fuseI Fuse.then
  cases D.gone <;> simp
  cases h : f.set <;> simp [h]
  by_cases e : f.left = 0
  · simp [e]
  · have : 0 < f.left := by omega
    simp [this]
    omega
theorem opD_D (D : DS) : (D.gone || (fuseI D.arm == 0)) = D.oper.gone := by
  unfold DS.oper fuseI
  cases h : D.gone
  · simp [Fuse.stops]
    cases h1 : D.arm.set <;> simp
    by_cases e : D.arm.left = 0 <;> simp [e]
  · simp [h]
theorem oper_arm (D : DS) : D.oper.arm = if D.gone then D.arm else D.arm.then := by unfold DS.oper; cases h : D.gone <;> simp
theorem oper_fail (D : DS) : D.oper.fail = if D.gone then D.fail else D.fail.then := by unfold DS.oper; cases h : D.gone <;> simp
theorem fuseI_lo (f : Fuse) : -1 ≤ fuseI f := by unfold fuseI; split <;> omega
theorem fuseI_hi (f : Fuse) (h : f.left < 9223372036854775808) : fuseI f ≤ 9223372036854775807 := by unfold fuseI; split <;> omega
end Go.Proofs.Ytagnmmapnpcijaa
