/-
  A map from texts in memory.
-/
import Derived.Test.YtlbjalodjcajfaaGreatHsp
import Derived.Sort.KeysCollected
import Derived.StringKeys
namespace Go.Proofs.YtlbjalodjcajfaaGreat
open Go.RowKit Go.Maps
def strOf : Lit → List UInt8 | .string s => s | _ => []
def strKeys : DataW Value → List (List UInt8) | .map es => es.map (fun p => strOf p.1) | _ => []
theorem nodup_subS : ∀ (a b : List (List UInt8)), a.Nodup → (∀ x ∈ a, x ∈ b) → a.length ≤ b.length
  | [], _, _, _ => Nat.zero_le _
  | x :: a, b, hn, h => by
    have hx : x ∈ b := h x (List.mem_cons_self ..)
    have h1 := nodup_subS a (b.erase x) (List.nodup_cons.1 hn).2 (fun y hy => by
      have hne : y ≠ x := fun e => (List.nodup_cons.1 hn).1 (e ▸ hy)
      exact (List.mem_erase_of_ne hne).2 (h y (List.mem_cons_of_mem _ hy)))
    rw [List.length_erase_of_mem hx] at h1
    have := List.length_pos_of_mem hx
    simp only [List.length_cons]
    omega
/-- Block b is a map of at most n texts that holds m. -/
def MapS (w : World) (b n : Nat) (m : List UInt8 → Option Value) : Prop :=
  ∃ D : DataW Value, w.ownsMap Tryz.prog 9 rV b n D ∧ (∀ k, (m k).isSome = true → True) ∧ ∀ k, True → has D (.string k) = (m k).isSome ∧ ∀ z, D.atKey (.string k) z = ((m k).map DataW.held).getD z
theorem keyed9 : Keyed Tryz.prog 9 := string_keyed Tryz.underlying9
theorem key9 {k : ByteArray} (h : k.size ≤ maxLen) : keyOf Tryz.prog 9 (.string k) = some (.string k.data.toList) := by
  simp [keyOf, mapKey, Tryz.underlying9, h]
theorem MapS.made (w : World) : MapS (w.alloc (.map #[] 0)) w.heap.size 0 (fun _ => none) :=
  ⟨_, World.ownsMap_made w Tryz.prog 9 rV, fun k h => by simp at h, fun k _ => ⟨rfl, fun z => rfl⟩⟩
theorem MapS.lt {w : World} {b n : Nat} {m : List UInt8 → Option Value} (h : MapS w b n m) : b < w.heap.size := by obtain ⟨D, h, _⟩ := h; exact h.lt
theorem MapS.below {w w' : World} {b n : Nat} {m : List UInt8 → Option Value} (h : MapS w b n m) (hb : Below w.heap.size w w') : MapS w' b n m := by
  have hl := h.lt
  obtain ⟨D, ⟨es, cl, h1, h2⟩, h3⟩ := h
  exact ⟨D, ⟨es, cl, (hb.block b hl).trans h1, h2⟩, h3⟩
/-- the keys: none twice, and just those that m has -/
theorem MapS.keys {w : World} {b n : Nat} {m : List UInt8 → Option Value} (h : MapS w b n m) :
    ∃ D : DataW Value, w.ownsMap Tryz.prog 9 rV b n D ∧ (strKeys D).Nodup ∧ ∀ x, x ∈ strKeys D ↔ (m x).isSome = true := by
  obtain ⟨D, h1, h2, h3⟩ := h
  have ht := h1.tidy keyed9
  have hk : ∀ es, D = .map es → ∀ p ∈ es, ∃ x, p.1 = .string x ∧ True := by
    obtain ⟨es0, cl, _, F, _, e⟩ := h1
    intro es he p hp
    rw [e] at he
    injection he with he
    subst he
    rw [mem_sorted, List.mem_map] at hp
    obtain ⟨x, hx, rfl⟩ := hp
    obtain ⟨y, hy⟩ := F.reads x hx
    obtain ⟨z, _, e2, e3⟩ := Maps.keyOf_str Tryz.underlying9 (Go.WideElems.rd_key hy)
    refine ⟨z, ?_, trivial⟩
    unfold Go.WideElems.rg
    rw [hy]
    exact e2
  obtain ⟨es, rfl, hp⟩ := ht
  have hk := hk es rfl
  refine ⟨_, h1, ?_, fun x => ?_⟩
  · show (es.map fun p => strOf p.1).Nodup
    refine List.pairwise_map.2 (hp.imp_of_mem fun {p q} hp' hq' hne e => hne ?_)
    obtain ⟨a, ha, _⟩ := hk p hp'
    obtain ⟨b, hb, _⟩ := hk q hq'
    rw [ha, hb] at e ⊢
    exact congrArg _ e
  · show x ∈ (es.map fun p => strOf p.1) ↔ _
    rw [List.mem_map]
    constructor
    · rintro ⟨p, hp', rfl⟩
      obtain ⟨a, ha, hw⟩ := hk p hp'
      rw [ha]
      show (m a).isSome = true
      rw [← (h3 a hw).1, has_eq, List.any_eq_true]
      exact ⟨p, hp', by rw [ha]; simp [Lit.sameKey]⟩
    · intro hx
      have hw := h2 x hx
      rw [← (h3 x hw).1, has_eq, List.any_eq_true] at hx
      obtain ⟨p, hp', hs⟩ := hx
      obtain ⟨a, ha, _⟩ := hk p hp'
      rw [ha] at hs
      exact ⟨p, hp', by rw [ha]; simpa [Lit.sameKey, strOf] using hs⟩
theorem MapS.len {w : World} {b n : Nat} {m : List UInt8 → Option Value} (h : MapS w b n m) (ks : List (List UInt8)) (hn : ks.Nodup) (hk : ∀ x, x ∈ ks ↔ (m x).isSome = true) (t e : TypeId) (hu : Tryz.prog.underlying t = some (.map 9 e)) (ty : TypeId) :
    (Builtin.len_ #[t] ty #[.map (some b)]).run Tryz.prog w = .ok (.int .i64 (ks.length : Int)) w := by
  obtain ⟨D, h1, h2, h3⟩ := h.keys
  have e : Maps.size D = ks.length := by
    have hs : Maps.size D = (strKeys D).length := by
      obtain ⟨es, cl, hb, F, hs, rfl⟩ := h1
      simp [Maps.size, strKeys]
    rw [hs]
    exact Nat.le_antisymm (nodup_subS _ _ h2 (fun x hx => (hk x).2 ((h3 x).1 hx))) (nodup_subS _ _ hn (fun x hx => (h3 x).2 ((hk x).1 hx)))
  rw [h1.len hu ty, e]
theorem MapS.update {w : World} {b n : Nat} {m : List UInt8 → Option Value} (h : MapS w b n m) (hn : n < maxLen) (t e : TypeId) (hu : Tryz.prog.underlying t = some (.map 9 e)) (k : ByteArray) (hk : k.size ≤ maxLen) (v : Value) :
    ∃ w', (Instr.mapUpdate t (.map (some b)) (.string k) v).run Tryz.prog w = .ok () w' ∧ MapS w' b (n + 1) (fun j => if j = k.data.toList then some v else m j) ∧ w.grownBy w' (some b) := by
  obtain ⟨D, h1, h2, h3⟩ := h
  obtain ⟨w', r, o, g⟩ := h1.update keyed9 hu hn (key9 hk) (show rV v = some (.held v, []) from rfl)
  refine ⟨w', r, ⟨_, o, fun j hj => ?_, fun j hj => ?_⟩, g⟩
  · dsimp only at hj
    by_cases e : j = k.data.toList
    · trivial
    · rw [if_neg e] at hj; exact h2 j hj
  · dsimp only
    by_cases e : j = k.data.toList
    · subst e
      rw [if_pos rfl]
      exact ⟨has_put_same h1.isMap (show WideAt.IsKeyLit (.string k.data.toList) from trivial) _, fun z => atKey_put_same h1.isMap (show WideAt.IsKeyLit (.string k.data.toList) from trivial) _ z⟩
    · have ne : Lit.string j ≠ Lit.string k.data.toList := fun h => e (by injection h)
      rw [if_neg e, has_put_other ne]
      exact ⟨(h3 j hj).1, fun z => (atKey_put_other ne _ z).trans ((h3 j hj).2 z)⟩
theorem MapS.look {w : World} {b n : Nat} {m : List UInt8 → Option Value} (h : MapS w b n m) (t e : TypeId) (z : Value) (hu : Tryz.prog.underlying t = some (.map 9 e)) (hz : ∀ w : World, (zeroValue e).run Tryz.prog w = .ok z w) (k : ByteArray) (hk : k.size ≤ maxLen) :
    (Instr.lookup t (.map (some b)) (.string k) true).run Tryz.prog w = .ok (.tuple #[(m k.data.toList).getD z, .bool (m k.data.toList).isSome]) w := by
  obtain ⟨D, h1, h2, h3⟩ := h
  obtain ⟨v, ps, r, e⟩ := h1.look_ok keyed9 hu (hz w) (show rV _ = some (.held _, []) from rfl) (key9 hk)
  rw [(h3 k.data.toList trivial).2] at e
  rw [r, (h3 k.data.toList trivial).1]
  cases hm : m k.data.toList with
  | none =>
    rw [hm] at e
    simp [rV] at e
    rw [e.1]
    rfl
  | some x =>
    rw [hm] at e
    simp [rV] at e
    rw [e.1]
    rfl
theorem MapS.clone {w : World} {b n : Nat} {m : List UInt8 → Option Value} (h : MapS w b n m) : ∃ es cl, w.heap[b]? = some (.map es cl) ∧ ∀ w' : World, ∀ b', w'.heap[b']? = some (.map es cl) → MapS w' b' n m := by
  obtain ⟨D, ⟨es, cl, h1, h2⟩, h3⟩ := h
  exact ⟨es, cl, h1, fun w' b' hb => ⟨D, ⟨es, cl, hb, h2⟩, h3⟩⟩
theorem MapS.stay {w w' : World} {b n : Nat} {m : List UInt8 → Option Value} (h : MapS w b n m) (hb : w'.heap[b]? = w.heap[b]?) : MapS w' b n m := by
  obtain ⟨es, cl, h1, h2⟩ := h.clone
  exact h2 w' b (hb.trans h1)
end Go.Proofs.YtlbjalodjcajfaaGreat
