/-
  Blocks in memory, and what of them stays; maps in memory as lists of pairs; sets: their own four cells, two maps, a row of maps. Numbers in order.
-/
import Derived.Test.YtlbjalodjcajfaaGreatRows
import Derived.WalkKit
import Derived.WalkSpells
import Derived.WalkLawsBesides
import Derived.ProofKit
import Derived.Deep.QuietTactic
import Derived.BigQuiet
import Derived.Maps.AppendAt
import Derived.LaidEqlPtr
import Derived.Laws.MakeOwn
import Derived.Maps.OwnSet
import Derived.Maps.Range
import Derived.Lib.SlKeysI
namespace Go.Proofs.YtlbjalodjcajfaaGreat
open Go.RowKit Go.Maps
/-! ### one block -/
def Box (w : World) (g : Nat) (cs : Array Value) (t : TypeId) : Prop := w.heap[g]? = some (.cells cs t (0, 0))
theorem Box.cell {w : World} {g : Nat} {cs : Array Value} {t : TypeId} (h : Box w g cs t) (j : Nat) : w.cell? ⟨g, j, none⟩ = cs[j]? := cell_of_row w g j cs t (0, 0) h
theorem Box.frozen {w : World} {g : Nat} {cs : Array Value} {t : TypeId} (h : Box w g cs t) (j : Nat) : w.frozen? ⟨g, j, none⟩ = false := frozen_of_row w g j cs t h
theorem Box.lt {w : World} {g : Nat} {cs : Array Value} {t : TypeId} (h : Box w g cs t) : g < w.heap.size := (Array.getElem?_eq_some_iff.1 h).1
theorem Box.below {w w' : World} {B g : Nat} {cs : Array Value} {t : TypeId} (h : Box w g cs t) (hb : Below B w w') (hg : g < B) : Box w' g cs t := (hb.block g hg).trans h
theorem Box.new (w : World) (cs : Array Value) (t : TypeId) : Box (w.alloc (.cells cs t)) w.heap.size cs t := heap_alloc_new w _
theorem Box.alloc {w : World} {g : Nat} {cs : Array Value} {t : TypeId} (h : Box w g cs t) (o : Obj) : Box (w.alloc o) g cs t := (Below.heap_alloc w o g h.lt).trans h
theorem Box.store {w : World} {g : Nat} {cs : Array Value} {t : TypeId} (h : Box w g cs t) (j : Nat) (v : Value) : Box (w.setCell ⟨g, j, none⟩ v) g (cs.setIfInBounds j v) t := heap_setCell_same w g j cs t v h
theorem Box.other {w : World} {g : Nat} {cs : Array Value} {t : TypeId} (h : Box w g cs t) (k j : Nat) (v : Value) (hk : g ≠ k) : Box (w.setCell ⟨k, j, none⟩ v) g cs t := (heap_setCell_other w ⟨k, j, none⟩ g v hk).trans h
theorem Box.ne {w : World} {g g' : Nat} {cs cs' : Array Value} {t t' : TypeId} (h : Box w g cs t) (h' : Box w g' cs' t') (ht : t ≠ t') : g ≠ g' := by
  intro e
  subst e
  unfold Box at h h'
  rw [h] at h'
  simp at h'
  exact ht h'.2
theorem Box.drew {w : World} {g : Nat} {cs : Array Value} {t : TypeId} (h : Box w g cs t) (n : Nat) : Box (w.drewN n) g cs t := h
theorem grown_store (w : World) (g j : Nat) (u : Value) : w.grownBy (w.setCell ⟨g, j, none⟩ u) (some g) :=
  ⟨rfl, rfl, rfl, by simp, fun k _ hk => heap_setCell_other w ⟨g, j, none⟩ k u (fun e => hk (by simp [e]))⟩
theorem grown_trans {a b c : World} {row : Option Nat} (h : a.grownBy b row) (k : b.grownBy c row) : a.grownBy c row :=
  ⟨k.os.trans h.os, k.tape.trans h.tape, k.output.trans h.output, Nat.le_trans h.size k.size, fun i hi hr => (k.block i (Nat.lt_of_lt_of_le hi h.size) hr).trans (h.block i hi hr)⟩

/-! ### what stays, by type -/
def Kt (p : TypeId → Prop) (w w' : World) : Prop := ∀ k cs t, Box w k cs t → p t → Box w' k cs t
theorem Kt.refl (p : TypeId → Prop) (w : World) : Kt p w w := fun _ _ _ h _ => h
theorem Kt.trans {p : TypeId → Prop} {a b c : World} (h : Kt p a b) (k : Kt p b c) : Kt p a c := fun i cs t x hp => k i cs t (h i cs t x hp) hp
theorem Kt.mono {p q : TypeId → Prop} {a b : World} (h : Kt p a b) (hq : ∀ t, q t → p t) : Kt q a b := fun i cs t x hp => h i cs t x (hq t hp)
theorem Kt.alloc {p : TypeId → Prop} {a b : World} (h : Kt p a b) (o : Obj) : Kt p a (b.alloc o) := fun i cs t x hp => (h i cs t x hp).alloc o
theorem Kt.drew {p : TypeId → Prop} {a b : World} (h : Kt p a b) (n : Nat) : Kt p a (b.drewN n) := h
theorem Kt.below {p : TypeId → Prop} {a b : World} (h : Below a.heap.size a b) : Kt p a b := fun _ _ _ x _ => x.below h x.lt
theorem Kt.grown {p : TypeId → Prop} {a b c : World} {row : Option Nat} (h : Kt p a b) (hg : b.grownBy c row) (t0 : TypeId) (hr : ∀ k, row = some k → ∃ cs, Box b k cs t0) (hp : ¬ p t0) : Kt p a c := fun i cs t x hpt => by
  have y := h i cs t x hpt
  refine (hg.block i y.lt (fun e => ?_)).trans y
  obtain ⟨cs', y'⟩ := hr i e.symm
  exact (y.ne y' (fun e => hp (e ▸ hpt))) rfl
theorem Kt.setCell {p : TypeId → Prop} {a b : World} (h : Kt p a b) {g : Nat} {cs : Array Value} {t0 : TypeId} (hb : Box b g cs t0) (hp : ¬ p t0) (j : Nat) (v : Value) : Kt p a (b.setCell ⟨g, j, none⟩ v) :=
  h.grown (grown_store b g j v) t0 (fun k e => by cases e; exact ⟨cs, hb⟩) hp
theorem ownsRow_kt {p : TypeId → Prop} {w w' : World} {B n : Nat} {e : TypeId} {size : Nat} {v : Value} {xs : List Value} (h : w.ownsRow B e size v n xs) (hk : Kt p w w') (hp : p e) : w'.ownsRow B e size v n xs := by
  refine ⟨h.1, ?_⟩
  rcases h.2 with h | ⟨g, cap, cur, rfl, hb, hg, r⟩
  · exact .inl h
  · exact .inr ⟨g, cap, cur, rfl, hb, hk g cur e hg hp, r⟩
theorem ownsRow_grown {w w' : World} {B n : Nat} {e : TypeId} {size : Nat} {v : Value} {xs : List Value} {row : Option Nat} (h : w.ownsRow B e size v n xs) (hg : w.grownBy w' row) (hr : ∀ k, v.ownBlock = some k → row ≠ some k) : w'.ownsRow B e size v n xs := by
  refine ⟨h.1, ?_⟩
  rcases h.2 with h | ⟨g, cap, cur, rfl, hb, hgb, r⟩
  · exact .inl h
  · exact .inr ⟨g, cap, cur, rfl, hb, (hg.block g (Box.lt hgb) (fun e => hr g rfl e.symm)).trans hgb, r⟩
theorem ownsRow_box {w : World} {B n : Nat} {e : TypeId} {size : Nat} {v : Value} {xs : List Value} (h : w.ownsRow B e size v n xs) (k : Nat) (hk : v.ownBlock = some k) : ∃ cs, Box w k cs e := by
  rcases h.2 with ⟨rfl, _⟩ | ⟨g, cap, cur, rfl, hb, hg, r⟩
  · cases hk
  · cases hk; exact ⟨cur, hg⟩
theorem ownsRow_cell {w : World} {B n : Nat} {e : TypeId} {v : Value} {xs : List Value} (h : w.ownsRow B e 1 v n xs) (j : Nat) (hj : j < n) : ∃ g cap, v = .slice (some ⟨g, 0, none⟩) n cap ∧ w.cell? ⟨g, j, none⟩ = xs[j]? := by
  rcases h.2 with ⟨rfl, rfl⟩ | ⟨g, cap, cur, rfl, hb, hg, _, _, _, ht⟩
  · omega
  · refine ⟨g, cap, rfl, ?_⟩
    rw [Box.cell hg j, ← ht, List.getElem?_take, if_pos (by omega)]
    simp
theorem ownsRow_slice {w : World} {B n : Nat} {e : TypeId} {size : Nat} {v : Value} {xs : List Value} (h : w.ownsRow B e size v n xs) : ∃ a cap, v = .slice a n cap := by
  rcases h.2 with ⟨rfl, rfl⟩ | ⟨g, cap, cur, rfl, _⟩
  · exact ⟨_, _, rfl⟩
  · exact ⟨_, _, rfl⟩


/-! ### maps -/
/-- a value is told as itself -/
def rV (v : Value) : Option (DataW Value × List MemPlace) := some (.held v, [])
/-- Block b is a map of at most n numbers that holds m. -/
def MapI (w : World) (b n : Nat) (m : Int → Option Value) : Prop :=
  ∃ D : DataW Value, w.ownsMap Tryz.prog 3 rV b n D ∧ (∀ k, (m k).isSome = true → (Lit.int .i64 k).wf = true) ∧ ∀ k, (Lit.int .i64 k).wf = true → has D (.int .i64 k) = (m k).isSome ∧ ∀ z, D.atKey (.int .i64 k) z = ((m k).map DataW.held).getD z
theorem keyed3 : Keyed Tryz.prog 3 := int_keyed Tryz.underlying3
theorem key3 {k : Int} (h : (Lit.int .i64 k).wf = true) : keyOf Tryz.prog 3 (.int .i64 k) = some (.int .i64 k) := by
  simp [keyOf, mapKey, Tryz.underlying3, h]
theorem MapI.made (w : World) : MapI (w.alloc (.map #[] 0)) w.heap.size 0 (fun _ => none) :=
  ⟨_, World.ownsMap_made w Tryz.prog 3 rV, fun k h => by simp at h, fun k _ => ⟨rfl, fun z => rfl⟩⟩
theorem MapI.lt {w : World} {b n : Nat} {m : Int → Option Value} (h : MapI w b n m) : b < w.heap.size := by obtain ⟨D, h, _⟩ := h; exact h.lt
theorem MapI.below {w w' : World} {b n : Nat} {m : Int → Option Value} (h : MapI w b n m) (hb : Below w.heap.size w w') : MapI w' b n m := by
  have hl := h.lt
  obtain ⟨D, ⟨es, cl, h1, h2⟩, h3⟩ := h
  exact ⟨D, ⟨es, cl, (hb.block b hl).trans h1, h2⟩, h3⟩
/-- the keys: none twice, and just those that m has -/
theorem MapI.keys {w : World} {b n : Nat} {m : Int → Option Value} (h : MapI w b n m) :
    ∃ D : DataW Value, w.ownsMap Tryz.prog 3 rV b n D ∧ (intKeys D).Nodup ∧ ∀ x, x ∈ intKeys D ↔ (m x).isSome = true := by
  obtain ⟨D, h1, h2, h3⟩ := h
  have ht := h1.tidy keyed3
  have hk : ∀ es, D = .map es → ∀ p ∈ es, ∃ x, p.1 = .int .i64 x ∧ (Lit.int .i64 x).wf = true := by
    obtain ⟨es0, cl, _, F, _, e⟩ := h1
    intro es he p hp
    rw [e] at he
    injection he with he
    subst he
    rw [mem_sorted, List.mem_map] at hp
    obtain ⟨x, hx, rfl⟩ := hp
    obtain ⟨y, hy⟩ := F.reads x hx
    obtain ⟨z, _, e2, e3⟩ := keyOf_i64 Tryz.underlying3 (Go.WideElems.rd_key hy)
    refine ⟨z, ?_, e3⟩
    unfold Go.WideElems.rg
    rw [hy]
    exact e2
  obtain ⟨es, rfl, hp⟩ := ht
  have hk := hk es rfl
  refine ⟨_, h1, ?_, fun x => ?_⟩
  · show (es.map fun p => Go.intOf p.1).Nodup
    refine List.pairwise_map.2 (hp.imp_of_mem fun {p q} hp' hq' hne e => hne ?_)
    obtain ⟨a, ha, _⟩ := hk p hp'
    obtain ⟨b, hb, _⟩ := hk q hq'
    rw [ha, hb] at e ⊢
    exact congrArg _ e
  · show x ∈ (es.map fun p => Go.intOf p.1) ↔ _
    rw [List.mem_map]
    constructor
    · rintro ⟨p, hp', rfl⟩
      obtain ⟨a, ha, hw⟩ := hk p hp'
      rw [ha]
      show (m a).isSome = true
      rw [← (h3 a hw).1, has_eq, List.any_eq_true]
      exact ⟨p, hp', by rw [ha]; simp [Lit.sameKey]⟩
    · intro hx
      have hw := h2 x hx
      rw [← (h3 x hw).1, has_eq, List.any_eq_true] at hx
      obtain ⟨p, hp', hs⟩ := hx
      obtain ⟨a, ha, _⟩ := hk p hp'
      rw [ha] at hs
      exact ⟨p, hp', by rw [ha]; simpa [Lit.sameKey, Go.intOf] using hs⟩
theorem nodup_sub : ∀ (a b : List Int), a.Nodup → (∀ x ∈ a, x ∈ b) → a.length ≤ b.length
  | [], _, _, _ => Nat.zero_le _
  | x :: a, b, hn, h => by
    have hx : x ∈ b := h x (List.mem_cons_self ..)
    have h1 := nodup_sub a (b.erase x) (List.nodup_cons.1 hn).2 (fun y hy => by
      have hne : y ≠ x := fun e => (List.nodup_cons.1 hn).1 (e ▸ hy)
      exact (List.mem_erase_of_ne hne).2 (h y (List.mem_cons_of_mem _ hy)))
    rw [List.length_erase_of_mem hx] at h1
    have := List.length_pos_of_mem hx
    simp only [List.length_cons]
    omega
theorem MapI.tight {w : World} {b n : Nat} {m : Int → Option Value} (h : MapI w b n m) (ks : List Int) (hk : ∀ x, x ∈ ks ↔ (m x).isSome = true) : MapI w b ks.length m := by
  obtain ⟨D', h1, hnd, hmem⟩ := h.keys
  obtain ⟨D, ⟨es, cl, e1, e2, e3, e4⟩, h3⟩ := h
  obtain ⟨es', cl', f1, f2, f3, f4⟩ := h1
  rw [e1] at f1
  injection f1 with f1
  injection f1 with f1 f1'
  subst f1
  have hlen : (intKeys D').length = es.size := by
    rw [f4]
    simp [intKeys, length_sorted]
  have hle : (intKeys D').length ≤ ks.length := nodup_sub _ _ hnd (fun x hx => (hk x).2 ((hmem x).1 hx))
  exact ⟨D, ⟨es, cl, e1, e2, by omega, e4⟩, h3⟩
theorem MapI.len {w : World} {b n : Nat} {m : Int → Option Value} (h : MapI w b n m) (ks : List Int) (hn : ks.Nodup) (hk : ∀ x, x ∈ ks ↔ (m x).isSome = true) (t e : TypeId) (hu : Tryz.prog.underlying t = some (.map 3 e)) (ty : TypeId) :
    (Builtin.len_ #[t] ty #[.map (some b)]).run Tryz.prog w = .ok (.int .i64 (ks.length : Int)) w := by
  obtain ⟨D, h1, h2, h3⟩ := h.keys
  have e : Maps.size D = ks.length := by
    have hs : Maps.size D = (intKeys D).length := by
      obtain ⟨es, cl, hb, F, hs, rfl⟩ := h1
      simp [Maps.size, intKeys]
    rw [hs]
    exact Nat.le_antisymm (nodup_sub _ _ h2 (fun x hx => (hk x).2 ((h3 x).1 hx))) (nodup_sub _ _ hn (fun x hx => (h3 x).2 ((hk x).1 hx)))
  rw [h1.len hu ty, e]
theorem MapI.update {w : World} {b n : Nat} {m : Int → Option Value} (h : MapI w b n m) (hn : n < maxLen) (t e : TypeId) (hu : Tryz.prog.underlying t = some (.map 3 e)) (k : Int) (hk : (Lit.int .i64 k).wf = true) (v : Value) :
    ∃ w', (Instr.mapUpdate t (.map (some b)) (.int .i64 k) v).run Tryz.prog w = .ok () w' ∧ MapI w' b (n + 1) (fun j => if j = k then some v else m j) ∧ w.grownBy w' (some b) := by
  obtain ⟨D, h1, h2, h3⟩ := h
  obtain ⟨w', r, o, g⟩ := h1.update keyed3 hu hn (key3 hk) (show rV v = some (.held v, []) from rfl)
  refine ⟨w', r, ⟨_, o, fun j hj => ?_, fun j hj => ?_⟩, g⟩
  · dsimp only at hj
    by_cases e : j = k
    · rw [e]; exact hk
    · rw [if_neg e] at hj; exact h2 j hj
  · dsimp only
    by_cases e : j = k
    · subst e
      rw [if_pos rfl]
      exact ⟨has_put_same h1.isMap (show WideAt.IsKeyLit (.int .i64 j) from trivial) _, fun z => atKey_put_same h1.isMap (show WideAt.IsKeyLit (.int .i64 j) from trivial) _ z⟩
    · have ne : Lit.int .i64 j ≠ Lit.int .i64 k := fun h => e (by injection h)
      rw [if_neg e, has_put_other ne]
      exact ⟨(h3 j hj).1, fun z => (atKey_put_other ne _ z).trans ((h3 j hj).2 z)⟩
theorem MapI.look {w : World} {b n : Nat} {m : Int → Option Value} (h : MapI w b n m) (t e : TypeId) (z : Value) (hu : Tryz.prog.underlying t = some (.map 3 e)) (hz : ∀ w : World, (zeroValue e).run Tryz.prog w = .ok z w) (k : Int) (hk : (Lit.int .i64 k).wf = true) :
    (Instr.lookup t (.map (some b)) (.int .i64 k) true).run Tryz.prog w = .ok (.tuple #[(m k).getD z, .bool (m k).isSome]) w := by
  obtain ⟨D, h1, h2, h3⟩ := h
  obtain ⟨v, ps, r, e⟩ := h1.look_ok keyed3 hu (hz w) (show rV _ = some (.held _, []) from rfl) (key3 hk)
  rw [(h3 k hk).2] at e
  rw [r, (h3 k hk).1]
  cases hm : m k with
  | none =>
    rw [hm] at e
    simp [rV] at e
    rw [e.1]
    rfl
  | some x =>
    rw [hm] at e
    simp [rV] at e
    rw [e.1]
    rfl
theorem MapI.clone {w : World} {b n : Nat} {m : Int → Option Value} (h : MapI w b n m) : ∃ es cl, w.heap[b]? = some (.map es cl) ∧ ∀ w' : World, ∀ b', w'.heap[b']? = some (.map es cl) → MapI w' b' n m := by
  obtain ⟨D, ⟨es, cl, h1, h2⟩, h3⟩ := h
  exact ⟨es, cl, h1, fun w' b' hb => ⟨D, ⟨es, cl, hb, h2⟩, h3⟩⟩
theorem MapI.stay {w w' : World} {b n : Nat} {m : Int → Option Value} (h : MapI w b n m) (hb : w'.heap[b]? = w.heap[b]?) : MapI w' b n m := by
  obtain ⟨es, cl, h1, h2⟩ := h.clone
  exact h2 w' b (hb.trans h1)
theorem MapI.noBox {w : World} {b n g : Nat} {m : Int → Option Value} {cs : Array Value} {t : TypeId} (h : MapI w b n m) (hb : Box w g cs t) : b ≠ g := by
  rintro rfl
  obtain ⟨es, cl, h1, h2⟩ := h.clone
  unfold Box at hb
  rw [h1] at hb
  injection hb with hb
  cases hb

/-! ### lists of pairs -/
section
variable {α : Type}
def gt (L : List (Int × α)) (k : Int) : Option α := (L.find? (fun p => p.1 == k)).map (·.2)
def pt (L : List (Int × α)) (k : Int) (v : α) : List (Int × α) := if (gt L k).isSome then L.map (fun p => if p.1 = k then (k, v) else p) else L ++ [(k, v)]
def kys (L : List (Int × α)) : List Int := L.map (·.1)
theorem gt_cons (p : Int × α) (L : List (Int × α)) (k : Int) : gt (p :: L) k = if p.1 = k then some p.2 else gt L k := by
  unfold gt
  rw [List.find?_cons]
  by_cases h : p.1 = k
  · rw [if_pos h, show (p.1 == k) = true by simpa using h]; rfl
  · rw [if_neg h, show (p.1 == k) = false by simpa using h]
theorem gt_nil (k : Int) : gt ([] : List (Int × α)) k = none := rfl
theorem gt_some_iff : ∀ (L : List (Int × α)) (k : Int), k ∈ kys L ↔ (gt L k).isSome = true
  | [], k => by simp [kys, gt_nil]
  | p :: L, k => by
    have ih := gt_some_iff L k
    rw [gt_cons]
    unfold kys at *
    rw [List.map_cons, List.mem_cons]
    split
    · rename_i h; simp [h]
    · rename_i h
      rw [← ih]
      constructor
      · rintro (h' | h')
        · exact absurd h'.symm h
        · exact h'
      · exact .inr
theorem gt_append : ∀ (L : List (Int × α)) (k j : Int) (v : α), gt L k = none → gt (L ++ [(k, v)]) j = if j = k then some v else gt L j
  | [], k, j, v, _ => by
    rw [List.nil_append, gt_cons]
    by_cases h : j = k
    · subst h; simp
    · rw [if_neg h, if_neg (fun e => h e.symm)]
  | p :: L, k, j, v, h => by
    rw [gt_cons] at h
    split at h
    · cases h
    rename_i hp
    rw [List.cons_append, gt_cons, gt_append L k j v h, gt_cons]
    by_cases e : p.1 = j
    · rw [if_pos e, if_pos e, if_neg (fun e' => hp (e.trans e'))]
    · rw [if_neg e, if_neg e]
theorem gt_map : ∀ (L : List (Int × α)) (k j : Int) (v : α), gt (L.map (fun p => if p.1 = k then (k, v) else p)) j = if j = k then (gt L k).map (fun _ => v) else gt L j
  | [], k, j, v => by simp [gt_nil]
  | p :: L, k, j, v => by
    rw [List.map_cons, gt_cons, gt_map L k j v, gt_cons, gt_cons]
    by_cases e : p.1 = k
    · simp only [if_pos e]
      by_cases h : j = k
      · rw [if_pos h, if_pos h.symm, if_pos h]; rfl
      · rw [if_neg h, if_neg h, if_neg (fun e' => h e'.symm), if_neg (fun e' => h (e'.symm.trans e))]
    · simp only [if_neg e]
      by_cases h : j = k
      · rw [if_pos h, if_neg (fun e' => e (e'.trans h)), if_pos h]
      · rw [if_neg h, if_neg h]
theorem gt_pt (L : List (Int × α)) (k j : Int) (v : α) : gt (pt L k v) j = if j = k then some v else gt L j := by
  unfold pt
  cases h : gt L k with
  | none => rw [if_neg (by simp)]; exact gt_append L k j v h
  | some x =>
    rw [if_pos (by simp), gt_map, h]
    rfl
theorem kys_pt (L : List (Int × α)) (k : Int) (v : α) : kys (pt L k v) = if (gt L k).isSome then kys L else kys L ++ [k] := by
  unfold pt kys
  split
  · rw [List.map_map]
    refine List.map_congr_left fun p _ => ?_
    show (if p.1 = k then (k, v) else p).1 = p.1
    split
    · rename_i h; exact h.symm
    · rfl
  · simp
/-- no key twice; each is a cell's number; 256 at most -/
structure Gd (L : List (Int × α)) : Prop where
  nd : (kys L).Nodup
  cl : ∀ k ∈ kys L, 0 ≤ k ∧ k < 1024
  le : L.length ≤ 256
theorem Gd.nil : Gd ([] : List (Int × α)) := ⟨List.nodup_nil, (fun k h => by cases h), Nat.zero_le _⟩
theorem kys_len (L : List (Int × α)) : (kys L).length = L.length := List.length_map _
theorem Gd.pt {L : List (Int × α)} (h : Gd L) {k : Int} (hk : 0 ≤ k ∧ k < 1024) (v : α) (hl : (gt L k).isSome = true ∨ L.length < 256) : Gd (pt L k v) := by
  have e := kys_pt L k v
  cases hg : (gt L k).isSome with
  | true =>
    rw [hg, if_pos rfl] at e
    exact ⟨e ▸ h.nd, e ▸ h.cl, by rw [← kys_len, e, kys_len]; exact h.le⟩
  | false =>
    rw [hg, if_neg (by simp)] at e
    have hno : k ∉ kys L := fun hm => by rw [gt_some_iff, hg] at hm; cases hm
    refine ⟨?_, ?_, ?_⟩
    · rw [e, List.nodup_append]
      exact ⟨h.nd, by simp, fun a ha b hb => by rw [List.mem_singleton] at hb; subst hb; exact fun e => hno (e ▸ ha)⟩
    · intro j hj
      rw [e, List.mem_append, List.mem_singleton] at hj
      rcases hj with hj | rfl
      · exact h.cl j hj
      · exact hk
    · rw [← kys_len, e, List.length_append, kys_len]
      rw [hg] at hl
      rcases hl with hl | hl
      · cases hl
      · simp; omega
/-- block b is a map with these pairs -/
structure MapL (enc : α → Value) (w : World) (b : Nat) (L : List (Int × α)) : Prop where
  gd : Gd L
  mp : MapI w b L.length (fun k => (gt L k).map enc)
variable {enc : α → Value}
theorem cell_wf {k : Int} (h : 0 ≤ k ∧ k < 1024) : (Lit.int .i64 k).wf = true := WalkArith.wf_i64 (by omega)
theorem MapL.keysOf {L : List (Int × α)} (x : Int) : x ∈ kys L ↔ ((gt L x).map enc).isSome = true := by
  rw [gt_some_iff]; simp
theorem MapL.stay {w w' : World} {b : Nat} {L : List (Int × α)} (h : MapL enc w b L) (hb : w'.heap[b]? = w.heap[b]?) : MapL enc w' b L := ⟨h.gd, h.mp.stay hb⟩
theorem MapL.lt {w : World} {b : Nat} {L : List (Int × α)} (h : MapL enc w b L) : b < w.heap.size := h.mp.lt
theorem MapL.len {w : World} {b : Nat} {L : List (Int × α)} (h : MapL enc w b L) (t e : TypeId) (hu : Tryz.prog.underlying t = some (.map 3 e)) (ty : TypeId) :
    (Builtin.len_ #[t] ty #[.map (some b)]).run Tryz.prog w = .ok (.int .i64 (L.length : Int)) w := by
  rw [h.mp.len (kys L) h.gd.nd (fun x => MapL.keysOf x) t e hu ty, kys_len]
theorem MapL.look {w : World} {b : Nat} {L : List (Int × α)} (h : MapL enc w b L) (t e : TypeId) (z : α) (hu : Tryz.prog.underlying t = some (.map 3 e)) (hz : ∀ w : World, (zeroValue e).run Tryz.prog w = .ok (enc z) w) (k : Int) (hk : (Lit.int .i64 k).wf = true) :
    (Instr.lookup t (.map (some b)) (.int .i64 k) true).run Tryz.prog w = .ok (.tuple #[enc ((gt L k).getD z), .bool (gt L k).isSome]) w := by
  rw [h.mp.look t e (enc z) hu hz k hk]
  cases gt L k <;> rfl
theorem MapL.update {w : World} {b : Nat} {L : List (Int × α)} (h : MapL enc w b L) (t e : TypeId) (hu : Tryz.prog.underlying t = some (.map 3 e)) (k : Int) (hk : 0 ≤ k ∧ k < 1024) (v : α) (hl : (gt L k).isSome = true ∨ L.length < 256) :
    ∃ w', (Instr.mapUpdate t (.map (some b)) (.int .i64 k) (enc v)).run Tryz.prog w = .ok () w' ∧ MapL enc w' b (pt L k v) ∧ w.grownBy w' (some b) := by
  have hle := h.gd.le
  obtain ⟨w', r, m, g⟩ := h.mp.update (by unfold maxLen; omega) t e hu k (cell_wf hk) (enc v)
  refine ⟨w', r, ⟨h.gd.pt hk v hl, ?_⟩, g⟩
  have e1 : (fun j => if j = k then some (enc v) else (gt L j).map enc) = fun j => (gt (Go.Proofs.YtlbjalodjcajfaaGreat.pt L k v) j).map enc := funext fun j => by
    rw [gt_pt]
    split <;> rfl
  have m2 := m.tight (kys (Go.Proofs.YtlbjalodjcajfaaGreat.pt L k v)) (fun x => by
    have := MapL.keysOf (enc := enc) (L := Go.Proofs.YtlbjalodjcajfaaGreat.pt L k v) x
    rw [this]
    exact (congrFun e1 x) ▸ Iff.rfl)
  rw [kys_len] at m2
  rw [← e1]
  exact m2
theorem MapL.made (w : World) : MapL enc (w.alloc (.map #[] 0)) w.heap.size [] := ⟨Gd.nil, MapI.made w⟩
theorem MapL.clone {w : World} {b : Nat} {L : List (Int × α)} (h : MapL enc w b L) : ∃ es cl, w.heap[b]? = some (.map es cl) ∧ ∀ w' : World, ∀ b', w'.heap[b']? = some (.map es cl) → MapL enc w' b' L := by
  obtain ⟨es, cl, h1, h2⟩ := h.mp.clone
  exact ⟨es, cl, h1, fun w' b' hb => ⟨h.gd, h2 w' b' hb⟩⟩
theorem MapL.noBox {w : World} {b g : Nat} {L : List (Int × α)} {cs : Array Value} {t : TypeId} (h : MapL enc w b L) (hb : Box w g cs t) : b ≠ g := h.mp.noBox hb
end
end Go.Proofs.YtlbjalodjcajfaaGreat
namespace Go.Proofs.YtlbjalodjcajfaaGreat
open Go.RowKit
def srt (l : List Int) : List Int := l.mergeSort leI
theorem srt_len (l : List Int) : (srt l).length = l.length := by unfold srt; simp
theorem srt_mem (l : List Int) (x : Int) : x ∈ srt l ↔ x ∈ l := by unfold srt; simp
end Go.Proofs.YtlbjalodjcajfaaGreat
