/-
  Blocks of one byte, blocks of two; what a quiet disk does. No program is named here.
-/
import Derived.Test.YtagnmmapnpcijaaPure
namespace Go.Proofs.Ytagnmmapnpcijaa

/-- the first k bytes are c, the others noughts -/
def fillK (c : UInt8) (k : Nat) : List UInt8 := (List.range 4096).map fun i => if i < k then c else 0
def fill (c : UInt8) : List UInt8 := fillK c 4096
theorem fillK_length (c : UInt8) (k : Nat) : (fillK c k).length = 4096 := by simp [fillK]
theorem fill_length (c : UInt8) : (fill c).length = 4096 := fillK_length c 4096
theorem fillK_get (c : UInt8) (k i : Nat) : (fillK c k)[i]? = if i < 4096 then some (if i < k then c else 0) else none := by
  unfold fillK
  rw [List.getElem?_map]
  by_cases h : i < 4096
  · rw [List.getElem?_range h, if_pos h]; rfl
  · rw [List.getElem?_eq_none (by simp; omega), if_neg h]; rfl
theorem fillK_zero (c : UInt8) : fillK c 0 = List.replicate 4096 0 := by
  apply List.ext_getElem?
  intro i
  rw [fillK_get, List.getElem?_replicate]
  simp
theorem fillK_set (c : UInt8) (k : Nat) (h : k < 4096) : (fillK c k).set k c = fillK c (k + 1) := by
  apply List.ext_getElem?
  intro i
  rw [List.getElem?_set, fillK_get, fillK_get, fillK_length]
  by_cases e : k = i
  · subst e
    rw [if_pos rfl, if_pos h, if_pos h, if_pos (by omega)]
  · rw [if_neg e]
    by_cases h1 : i < k
    · rw [if_pos h1, if_pos (show i < k + 1 by omega)]
    · rw [if_neg h1, if_neg (show ¬ i < k + 1 by omega)]
theorem fill_get (c : UInt8) (i : Nat) (h : i < 4096) : (fill c)[i]? = some c := by
  unfold fill
  rw [fillK_get, if_pos h, if_pos h]

/-- .. of the first k bytes those of b's sectors are b -/
def mixK (a b : UInt8) (m k : Nat) : List UInt8 := (List.range 4096).map fun i => if i < k ∧ bit m (i / 512) = true then b else a
theorem mixK_length (a b : UInt8) (m k : Nat) : (mixK a b m k).length = 4096 := by simp [mixK]
theorem mixK_get (a b : UInt8) (m k i : Nat) : (mixK a b m k)[i]? = if i < 4096 then some (if i < k ∧ bit m (i / 512) = true then b else a) else none := by
  unfold mixK
  rw [List.getElem?_map]
  by_cases h : i < 4096
  · rw [List.getElem?_range h, if_pos h]; rfl
  · rw [List.getElem?_eq_none (by simp; omega), if_neg h]; rfl
theorem mixK_zero (a b : UInt8) (m : Nat) : mixK a b m 0 = fill a := by
  apply List.ext_getElem?
  intro i
  rw [mixK_get]
  by_cases h : i < 4096
  · rw [if_pos h, fill_get a i h, if_neg (by rintro ⟨h1, _⟩; omega)]
  · rw [if_neg h, List.getElem?_eq_none (by rw [fill_length]; omega)]
theorem mixK_set (a b : UInt8) (m k : Nat) (h : k < 4096) (hb : bit m (k / 512) = true) : (mixK a b m k).set k b = mixK a b m (k + 1) := by
  apply List.ext_getElem?
  intro i
  rw [List.getElem?_set, mixK_get, mixK_get, mixK_length]
  by_cases e : k = i
  · subst e
    rw [if_pos rfl, if_pos h, if_pos h, if_pos ⟨by omega, hb⟩]
  · rw [if_neg e]
    by_cases h1 : i < k ∧ bit m (i / 512) = true
    · have h2 : i < k + 1 ∧ bit m (i / 512) = true := ⟨by omega, h1.2⟩
      simp only [if_pos h1, if_pos h2]
    · have h2 : ¬ (i < k + 1 ∧ bit m (i / 512) = true) := fun h2 => h1 ⟨by have := h2.1; omega, h2.2⟩
      simp only [if_neg h1, if_neg h2]
theorem mixK_skip (a b : UInt8) (m k : Nat) (hb : bit m (k / 512) = false) : mixK a b m (k + 1) = mixK a b m k := by
  apply List.ext_getElem?
  intro i
  rw [mixK_get, mixK_get]
  by_cases h1 : i < k ∧ bit m (i / 512) = true
  · have h2 : i < k + 1 ∧ bit m (i / 512) = true := ⟨by omega, h1.2⟩
    simp only [if_pos h1, if_pos h2]
  · have h2 : ¬ (i < k + 1 ∧ bit m (i / 512) = true) := fun h2 => by
      by_cases e : i = k
      · subst e; rw [hb] at h2; exact absurd h2.2 (by simp)
      · exact h1 ⟨by have := h2.1; omega, h2.2⟩
    simp only [if_neg h1, if_neg h2]

theorem blk_carry_all (d : List UInt8) (b : Nat) (data : List UInt8) (hb : b * 4096 + 4096 ≤ d.length) (hd : data.length = 4096) : blk (carry d b data 255) b = data := by
  apply List.ext_getElem?
  intro i
  rw [blk_get]
  by_cases h : i < 4096
  · have e : b * 4096 + i - b * 4096 = i := by omega
    have hq : i / 512 < 8 := by clear hb hd e; omega
    rw [if_pos h, carry_get d b data 255 hb hd, e, if_pos ⟨Nat.le_add_right _ _, Nat.add_lt_add_left h _, bit_all _ hq⟩]
  · rw [if_neg h, List.getElem?_eq_none (by omega)]
theorem blk_carry_other (d : List UInt8) (b n : Nat) (data : List UInt8) (m : Nat) (hb : b * 4096 + 4096 ≤ d.length) (hd : data.length = 4096) (hn : n ≠ b) : blk (carry d b data m) n = blk d n := by
  apply List.ext_getElem?
  intro i
  rw [blk_get, blk_get]
  by_cases h : i < 4096
  · rw [if_pos h, if_pos h, carry_get d b data m hb hd, if_neg (fun h1 => by have h2 := h1.1; have h3 := h1.2.1; omega)]
  · rw [if_neg h, if_neg h]
theorem blk_carry_mix (d : List UInt8) (b : Nat) (x y : UInt8) (m : Nat) (hb : b * 4096 + 4096 ≤ d.length) (hd : blk d b = fill x) : blk (carry d b (fill y) m) b = mixK x y m 4096 := by
  apply List.ext_getElem?
  intro i
  rw [blk_get, mixK_get]
  by_cases h : i < 4096
  · have e : b * 4096 + i - b * 4096 = i := by omega
    have e2 : d[b * 4096 + i]? = some x := by
      have := blk_get d b i
      rw [hd, if_pos h, fill_get x i h] at this
      exact this.symm
    rw [if_pos h, if_pos h, carry_get d b (fill y) m hb (fill_length y), e]
    by_cases hbit : bit m (i / 512) = true
    · rw [if_pos ⟨Nat.le_add_right _ _, Nat.add_lt_add_left h _, hbit⟩, if_pos ⟨h, hbit⟩, fill_get y i h]
    · rw [if_neg (fun q => hbit q.2.2), if_neg (fun q => hbit q.2), e2]
  · rw [if_neg h, if_neg h]
theorem blk_nought (n b : Nat) (h : b * 4096 + 4096 ≤ n) : blk (List.replicate n 0) b = fill 0 := by
  apply List.ext_getElem?
  intro i
  rw [blk_get]
  by_cases hi : i < 4096
  · rw [if_pos hi, fill_get 0 i hi, List.getElem?_replicate, if_pos (by omega)]
  · rw [if_neg hi, List.getElem?_eq_none (by rw [fill_length]; omega)]

/-- a disk with its power on, and nothing armed -/
def DS.quiet (D : DS) : Prop := D.gone = false ∧ D.arm = ⟨false, 0⟩ ∧ D.fail = ⟨false, 0⟩
theorem DS.quiet.operE {D : DS} (h : D.quiet) : D.operE = 0 := by
  obtain ⟨h1, h2, h3⟩ := h
  simp [DS.operE, h1, h2, h3, Fuse.stops]
theorem DS.quiet.oper {D : DS} (h : D.quiet) : D.oper = D := by
  obtain ⟨nb, dur, uf, n, gone, arm, fail⟩ := D
  obtain ⟨h1, h2, h3⟩ := h
  dsimp only at h1 h2 h3
  subst h1 h2 h3
  rfl
theorem DS.quiet.write {D : DS} (h : D.quiet) (n : Nat) (b : List UInt8) (hn : n < D.nb) (hb : b.length = 4096) : D.write (n : Int) b = { D with uf := D.uf ++ [(n, b)], n := D.n + 1 } := by
  have hh : D.has (n : Int) = true := by simp [DS.has]; omega
  unfold DS.write
  rw [hh, h.operE, h.oper, hb]
  simp
theorem DS.quiet.writeE {D : DS} (h : D.quiet) (n : Nat) (b : List UInt8) (hn : n < D.nb) (hb : b.length = 4096) : D.writeE (n : Int) b = 0 := by
  have hh : D.has (n : Int) = true := by simp [DS.has]; omega
  unfold DS.writeE
  rw [hh, h.operE, hb]
  simp
theorem DS.quiet.flush {D : DS} (h : D.quiet) : D.flush = { D with dur := D.image, uf := [] } := by
  unfold DS.flush
  rw [if_pos h.operE, h.oper]
theorem DS.new_quiet (nb : Nat) (d : List UInt8) : (DS.new nb d).quiet := ⟨rfl, rfl, rfl⟩
theorem DS.crash_quiet (D : DS) (ks : List Bool) (t : Int) (m : Nat) : (D.crash ks t m).quiet := ⟨rfl, rfl, rfl⟩
end Go.Proofs.Ytagnmmapnpcijaa
