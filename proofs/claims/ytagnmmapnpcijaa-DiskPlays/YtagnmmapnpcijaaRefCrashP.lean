/-
  The document's disk: Crash.
-/
import Derived.Test.YtagnmmapnpcijaaRefFlush
namespace Go.Proofs.Ytagnmmapnpcijaa
open Go.RowKit

theorem and_pow8 (a s : Nat) (ha : a < 256) (hs : s < 8) : (bits .and .u8 (a : Int) ((2 : Int) ^ s % 256) == 0) = !bit a s := by
  have e : (2 : Int) ^ s % 256 = ((2 ^ s : Nat) : Int) := by
    have : s = 0 ∨ s = 1 ∨ s = 2 ∨ s = 3 ∨ s = 4 ∨ s = 5 ∨ s = 6 ∨ s = 7 := by omega
    rcases this with rfl | rfl | rfl | rfl | rfl | rfl | rfl | rfl <;> rfl
  rw [e]
  have h : ∀ a : Fin 256, ∀ s : Fin 8, (bits .and .u8 ((a.val : Nat) : Int) ((2 ^ s.val : Nat) : Int) == 0) = !bit a.val s.val := by decide +kernel
  exact h ⟨a, ha⟩ ⟨s, hs⟩

/-- the first k bytes of a torn block -/
def torn (old data : List UInt8) (m : Nat) : Nat → List UInt8
  | 0 => old
  | k + 1 => if bit m (k / 512) then (torn old data m k).set k (data.getD k 0) else torn old data m k
theorem torn_length (old data : List UInt8) (m : Nat) : ∀ k, (torn old data m k).length = old.length
  | 0 => rfl
  | k + 1 => by rw [torn]; split <;> simp [torn_length old data m k]
theorem torn_get (old data : List UInt8) (m : Nat) (ho : old.length = 4096) (hd : data.length = 4096) : ∀ k, k ≤ 4096 → ∀ i, (torn old data m k)[i]? = if i < k ∧ bit m (i / 512) = true then data[i]? else old[i]?
  | 0, _, i => by simp [torn]
  | k + 1, hk, i => by
    have ih := torn_get old data m ho hd k (by omega) i
    rw [torn]
    by_cases hb : bit m (k / 512) = true
    · rw [if_pos hb]
      by_cases e : i = k
      · subst e
        rw [List.getElem?_set, if_pos rfl, torn_length, if_pos (by omega), if_pos ⟨by omega, hb⟩]
        simp [List.getD, List.getElem?_eq_getElem (show i < data.length by omega)]
      · rw [List.getElem?_set, if_neg (fun h => e h.symm), ih]
        by_cases h : i < k ∧ bit m (i / 512) = true
        · rw [if_pos h, if_pos ⟨by omega, h.2⟩]
        · rw [if_neg h, if_neg (fun q => h ⟨by omega, q.2⟩)]
    · rw [if_neg hb, ih]
      by_cases h : i < k ∧ bit m (i / 512) = true
      · rw [if_pos h, if_pos ⟨by omega, h.2⟩]
      · rw [if_neg h, if_neg (fun q => by
          by_cases e : i = k
          · subst e; exact hb q.2
          · exact h ⟨by omega, q.2⟩)]
theorem torn_carry (d : List UInt8) (b : Nat) (data : List UInt8) (m : Nat) (hb : b * 4096 + 4096 ≤ d.length) (hd : data.length = 4096) : torn (blk d b) data m 4096 = blk (carry d b data m) b := by
  apply List.ext_getElem?
  intro i
  rw [torn_get _ _ _ (blk_length _ _ hb) hd 4096 (Nat.le_refl _), blk_get, blk_get]
  by_cases h : i < 4096
  · rw [if_pos h, if_pos h, carry_get d b data m hb hd, show b * 4096 + i - b * 4096 = i by omega]
    by_cases hbit : bit m (i / 512) = true
    · rw [if_pos ⟨h, hbit⟩, if_pos ⟨Nat.le_add_right _ _, Nat.add_lt_add_left h _, hbit⟩]
    · rw [if_neg (fun q => hbit q.2), if_neg (fun q => hbit q.2.2)]
  · rw [if_neg h, if_neg h, if_neg (fun q => h q.1)]

/-- the row of blocks while writes are carried out -/
structure CRow (w0 w : World) (Q : Nat → Prop) (g n c : Nat) (d : List UInt8) : Prop where
  box : ∃ cur : Array Value, Box w g cur 27 ∧ cur.size = c ∧ n ≤ c ∧ c ≤ maxLen ∧ ∀ j, j < n → ∃ u, cur[j]? = some u ∧ BlkAt w Q u (blk d j)
  base : w0.heap.size ≤ g
theorem CRow.cell {w0 w : World} {Q : Nat → Prop} {g n c : Nat} {d : List UInt8} (h : CRow w0 w Q g n c d) (j : Nat) (hj : j < n) : ∃ p o c', w.cell? ⟨g, j, none⟩ = some (.slice (some ⟨p, o, none⟩) 4096 c') ∧ BlkAt w Q (.slice (some ⟨p, o, none⟩) 4096 c') (blk d j) := by
  obtain ⟨cur, hb, _, _, _, he⟩ := h.box
  obtain ⟨u, hu, hB⟩ := he j hj
  obtain ⟨p, o, c', rfl, _⟩ := id hB
  exact ⟨p, o, c', by rw [hb.cell j]; exact hu, hB⟩
theorem CRow.frozen {w0 w : World} {Q : Nat → Prop} {g n c : Nat} {d : List UInt8} (h : CRow w0 w Q g n c d) (j : Nat) : w.frozen? ⟨g, j, none⟩ = false := by
  obtain ⟨cur, hb, _⟩ := h.box
  exact hb.frozen j
theorem CRow.below {w0 w w' : World} {Q : Nat → Prop} {g n c : Nat} {d : List UInt8} (h : CRow w0 w Q g n c d) (b : Below w.heap.size w w') : CRow w0 w' Q g n c d := by
  obtain ⟨⟨cur, hb, h1, h2, h3, he⟩, hg⟩ := h
  refine ⟨⟨cur, (b.block g hb.lt).trans hb, h1, h2, h3, fun j hj => ?_⟩, hg⟩
  obtain ⟨u, hu, hB⟩ := he j hj
  exact ⟨u, hu, hB.move (fun i hi _ _ => b.block i hi) (fun _ _ h => h)⟩
/-- one block is put in another's place -/
theorem CRow.put {w0 w : World} {Q : Nat → Prop} {g n c : Nat} {d d' : List UInt8} (h : CRow w0 w Q g n c d) (b : Nat) (hb : b < n) (v : Value) (hv : BlkAt w Q v (blk d' b)) (hd : ∀ j, j < n → j ≠ b → blk d' j = blk d j) : CRow w0 (w.setCell ⟨g, b, none⟩ v) Q g n c d' := by
  obtain ⟨⟨cur, hb27, h1, h2, h3, he⟩, hg⟩ := h
  have mv : ∀ u y, BlkAt w Q u y → BlkAt (w.setCell ⟨g, b, none⟩ v) Q u y := fun u y q => q.move5 (fun i c5 hi => heap_setCell_other w ⟨g, b, none⟩ i v (hi.ne hb27 (by decide)))
  refine ⟨⟨_, hb27.store b v, by rw [Array.size_setIfInBounds]; exact h1, h2, h3, fun j hj => ?_⟩, hg⟩
  by_cases e : j = b
  · subst e
    exact ⟨v, by rw [Array.getElem?_setIfInBounds, if_pos rfl, if_pos (by omega)], mv _ _ hv⟩
  · obtain ⟨u, hu, hB⟩ := he j hj
    exact ⟨u, by rw [Array.getElem?_setIfInBounds, if_neg (fun q => e q.symm)]; exact hu, mv _ _ (by rw [hd j hj e]; exact hB)⟩
end Go.Proofs.Ytagnmmapnpcijaa
