/-
  Behind a crash: each sector of a block is durable's, or that of one of its unflushed writes; but for the block of the torn write a block is wholly one of these.
-/
import Derived.Test.YtagnmmapnpcijaaMadeWalk
namespace Go.Proofs.Ytagnmmapnpcijaa
open Go.RowKit

/-- block n was this, or was written this within the first k writes -/
def Was (D : DS) (n k : Nat) (y : List UInt8) : Prop := y = blk D.dur n ∨ ∃ j, ∃ h : j < D.uf.length, j < k ∧ D.uf[j].1 = n ∧ D.uf[j].2 = y
theorem Was.step {D : DS} {n k : Nat} {y : List UInt8} (h : Was D n k y) : Was D n (k + 1) y := by
  rcases h with h | ⟨j, hj, h1, h2⟩
  · exact .inl h
  · exact .inr ⟨j, hj, by omega, h2⟩
theorem Was.mem {D : DS} {n k : Nat} {y : List UInt8} (h : Was D n k y) : y ∈ sinceOf D n := by
  unfold sinceOf
  rcases h with h | ⟨j, hj, _, h1, h2⟩
  · rw [h]; exact List.mem_cons_self
  · refine List.mem_cons_of_mem _ (List.mem_map.2 ⟨D.uf[j], List.mem_filter.2 ⟨List.getElem_mem hj, by simpa using h1⟩, h2⟩)
def sc (x : List UInt8) (s : Nat) : List UInt8 := (x.drop (s * 512)).take 512
theorem sc_get (x : List UInt8) (s i : Nat) : (sc x s)[i]? = if i < 512 then x[s * 512 + i]? else none := by
  unfold sc
  rw [List.getElem?_take]
  split
  · rw [List.getElem?_drop]
  · rfl
/-- a sector behind a write of some sectors -/
theorem sc_carry (d : List UInt8) (b : Nat) (data : List UInt8) (m s : Nat) (hb : b * 4096 + 4096 ≤ d.length) (hd : data.length = 4096) (hs : s < 8) :
    sc (blk (carry d b data m) b) s = if bit m s = true then sc data s else sc (blk d b) s := by
  apply List.ext_getElem?
  intro i
  by_cases hi : i < 512
  · have h1 : s * 512 + i < 4096 := by omega
    have h2 : b * 4096 + (s * 512 + i) - b * 4096 = s * 512 + i := by omega
    have h3 : (s * 512 + i) / 512 = s := by omega
    rw [sc_get, if_pos hi, blk_get, if_pos h1, carry_get d b data m hb hd, h2, h3]
    by_cases hbit : bit m s = true
    · rw [if_pos ⟨Nat.le_add_right _ _, Nat.add_lt_add_left h1 _, hbit⟩, if_pos hbit, sc_get, if_pos hi]
    · rw [if_neg (fun q => hbit q.2.2), if_neg hbit, sc_get, if_pos hi, blk_get, if_pos h1]
  · rw [sc_get, if_neg hi]
    split
    · rw [sc_get, if_neg hi]
    · rw [sc_get, if_neg hi]

theorem crash_was (D : DS) (ok : D.Ok) (ks : List Bool) (t : Int) (m : Nat) : ∀ k, k ≤ D.uf.length → (crashTo ks t m D.uf D.dur k).length = D.dur.length ∧
    (∀ n, n < D.nb → ∀ s, s < 8 → ∃ y, Was D n k y ∧ sc (blk (crashTo ks t m D.uf D.dur k) n) s = sc y s) ∧
    (∀ n, n < D.nb → (∀ j (h : j < D.uf.length), j < k → (j : Int) = t → D.uf[j].1 ≠ n) → Was D n k (blk (crashTo ks t m D.uf D.dur k) n))
  | 0, _ => ⟨rfl, fun n _ s _ => ⟨_, .inl rfl, rfl⟩, fun n _ _ => .inl rfl⟩
  | k + 1, h => by
    obtain ⟨ih0, ih1, ih2⟩ := crash_was D ok ks t m k (by omega)
    have hg : D.uf[k]? = some D.uf[k] := List.getElem?_eq_getElem (by omega)
    obtain ⟨hw1, hw2⟩ := ok.at k (by omega)
    have hfit : D.uf[k].1 * 4096 + 4096 ≤ (crashTo ks t m D.uf D.dur k).length := by rw [ih0]; exact ok.room hw1
    rw [crashTo, hg]
    have hnew : Was D D.uf[k].1 (k + 1) D.uf[k].2 := .inr ⟨k, by omega, by omega, rfl, rfl⟩
    dsimp only
    by_cases ht : (k : Int) = t
    · rw [if_pos ht]
      refine ⟨by rw [carry_length _ _ _ _ hfit hw2, ih0], fun n hn s hs => ?_, fun n hn hno => ?_⟩
      · by_cases e : n = D.uf[k].1
        · rw [e, sc_carry _ _ _ _ _ hfit hw2 hs]
          by_cases hbit : bit m s = true
          · rw [if_pos hbit]
            exact ⟨_, hnew, rfl⟩
          · rw [if_neg hbit]
            obtain ⟨y, hy, hq⟩ := ih1 _ hw1 s hs
            exact ⟨y, hy.step, hq⟩
        · rw [blk_carry_other _ _ _ _ _ hfit hw2 e]
          obtain ⟨y, hy, hq⟩ := ih1 n hn s hs
          exact ⟨y, hy.step, hq⟩
      · have e : n ≠ D.uf[k].1 := fun e => hno k (by omega) (by omega) ht e.symm
        rw [blk_carry_other _ _ _ _ _ hfit hw2 e]
        exact (ih2 n hn (fun j hj hk => hno j hj (by omega))).step
    · rw [if_neg ht]
      by_cases hk : keeps ks k = true
      · rw [if_pos hk]
        refine ⟨by rw [carry_length _ _ _ _ hfit hw2, ih0], fun n hn s hs => ?_, fun n hn hno => ?_⟩
        · by_cases e : n = D.uf[k].1
          · rw [e, blk_carry_all _ _ _ hfit hw2]
            exact ⟨_, hnew, rfl⟩
          · rw [blk_carry_other _ _ _ _ _ hfit hw2 e]
            obtain ⟨y, hy, hq⟩ := ih1 n hn s hs
            exact ⟨y, hy.step, hq⟩
        · by_cases e : n = D.uf[k].1
          · rw [e, blk_carry_all _ _ _ hfit hw2]
            exact hnew
          · rw [blk_carry_other _ _ _ _ _ hfit hw2 e]
            exact (ih2 n hn (fun j hj hk => hno j hj (by omega))).step
      · rw [if_neg hk]
        refine ⟨ih0, fun n hn s hs => ?_, fun n hn hno => (ih2 n hn (fun j hj hk => hno j hj (by omega))).step⟩
        obtain ⟨y, hy, hq⟩ := ih1 n hn s hs
        exact ⟨y, hy.step, hq⟩

/-- what the law asks, list by list -/
def anyW (b : List UInt8) (ys : List (List UInt8)) (k : Nat) : Bool := (ys.take k).any (fun y => b == y)
def anyS (b : List UInt8) (s : Nat) (ys : List (List UInt8)) (k : Nat) : Bool := (ys.take k).any (fun y => sc b s == sc y s)
theorem anyW_succ (b : List UInt8) (ys : List (List UInt8)) (k : Nat) (h : k < ys.length) : anyW b ys (k + 1) = (anyW b ys k || (b == ys[k])) := by
  unfold anyW
  rw [List.take_succ_eq_append_getElem h, List.any_append]
  simp only [List.any_cons, List.any_nil, Bool.or_false]
theorem anyS_succ (b : List UInt8) (s : Nat) (ys : List (List UInt8)) (k : Nat) (h : k < ys.length) : anyS b s ys (k + 1) = (anyS b s ys k || (sc b s == sc ys[k] s)) := by
  unfold anyS
  rw [List.take_succ_eq_append_getElem h, List.any_append]
  simp only [List.any_cons, List.any_nil, Bool.or_false]
theorem anyW_all (b : List UInt8) (ys : List (List UInt8)) (h : b ∈ ys) : anyW b ys ys.length = true := by
  unfold anyW
  rw [List.take_length, List.any_eq_true]
  exact ⟨b, h, by simp⟩
theorem anyS_all (b : List UInt8) (s : Nat) (ys : List (List UInt8)) (y : List UInt8) (h : y ∈ ys) (e : sc b s = sc y s) : anyS b s ys ys.length = true := by
  unfold anyS
  rw [List.take_length, List.any_eq_true]
  exact ⟨y, h, by simp [e]⟩
/-- how many of the first k blocks are none of these wholly -/
def partly (C D : DS) : Nat → Nat
  | 0 => 0
  | k + 1 => partly C D k + if anyW (C.stand k) (sinceOf D k) (sinceOf D k).length = true then 0 else 1
theorem crash_stand (D : DS) (ks : List Bool) (t : Int) (m n : Nat) : (D.crash ks t m).stand n = blk (crashTo ks t m D.uf D.dur D.uf.length) n := rfl
theorem crash_sector (D : DS) (ok : D.Ok) (ks : List Bool) (t : Int) (m n s : Nat) (hn : n < D.nb) (hs : s < 8) : anyS ((D.crash ks t m).stand n) s (sinceOf D n) (sinceOf D n).length = true := by
  obtain ⟨_, h1, _⟩ := crash_was D ok ks t m D.uf.length (Nat.le_refl _)
  obtain ⟨y, hy, hq⟩ := h1 n hn s hs
  rw [crash_stand]
  exact anyS_all _ _ _ _ hy.mem hq
theorem crash_one (D : DS) (ok : D.Ok) (ks : List Bool) (t : Int) (m i j : Nat) (hi : i < D.nb) (hj : j < D.nb) (h1 : ¬ anyW ((D.crash ks t m).stand i) (sinceOf D i) (sinceOf D i).length = true) (h2 : ¬ anyW ((D.crash ks t m).stand j) (sinceOf D j) (sinceOf D j).length = true) : i = j := by
  obtain ⟨_, _, hw⟩ := crash_was D ok ks t m D.uf.length (Nat.le_refl _)
  have key : ∀ n, n < D.nb → ¬ anyW ((D.crash ks t m).stand n) (sinceOf D n) (sinceOf D n).length = true → ∃ q, ∃ h : q < D.uf.length, (q : Int) = t ∧ D.uf[q].1 = n := by
    intro n hn hno
    by_cases h : ∃ q, ∃ h : q < D.uf.length, (q : Int) = t ∧ D.uf[q].1 = n
    · exact h
    · refine absurd (anyW_all _ _ ?_) hno
      rw [crash_stand]
      exact (hw n hn (fun q hq _ ht e => h ⟨q, hq, ht, e⟩)).mem
  obtain ⟨q, hq, ht, e⟩ := key i hi h1
  obtain ⟨q', hq', ht', e'⟩ := key j hj h2
  have : q = q' := by omega
  subst this
  exact e.symm.trans e'
theorem partly_le (C D : DS) (h : ∀ i j, i < 4 → j < 4 → ¬ anyW (C.stand i) (sinceOf D i) (sinceOf D i).length = true → ¬ anyW (C.stand j) (sinceOf D j) (sinceOf D j).length = true → i = j) : ∀ k, k ≤ 4 → partly C D k ≤ 1 ∧ (partly C D k = 1 → ∃ i, i < k ∧ ¬ anyW (C.stand i) (sinceOf D i) (sinceOf D i).length = true)
  | 0, _ => ⟨by simp [partly], fun h => by simp [partly] at h⟩
  | k + 1, hk => by
    obtain ⟨i1, i2⟩ := partly_le C D h k (by omega)
    rw [partly]
    by_cases q : anyW (C.stand k) (sinceOf D k) (sinceOf D k).length = true
    · rw [if_pos q]
      exact ⟨i1, fun e => by obtain ⟨i, hi, hn⟩ := i2 e; exact ⟨i, by omega, hn⟩⟩
    · rw [if_neg q]
      have : partly C D k = 0 := by
        rcases Nat.lt_or_ge (partly C D k) 1 with e | e
        · omega
        · obtain ⟨i, hi, hn⟩ := i2 (by omega)
          have := h i k (by omega) (by omega) hn q
          omega
      exact ⟨by omega, fun _ => ⟨k, by omega, q⟩⟩
theorem sinceOf_len (D : DS) (ok : D.Ok) (n : Nat) (hn : n < D.nb) : ∀ y ∈ sinceOf D n, y.length = 4096 := by
  intro y hy
  unfold sinceOf at hy
  rcases List.mem_cons.1 hy with h | h
  · rw [h]; exact blk_length _ _ (ok.room hn)
  · obtain ⟨p, hp, rfl⟩ := List.mem_map.1 h
    exact (ok.each p (List.mem_filter.1 hp).1).2
theorem sc_length (x : List UInt8) (s : Nat) (hx : x.length = 4096) (hs : s < 8) : (sc x s).length = 512 := by simp [sc]; omega
theorem sc_rd {w : World} {g o : Nat} {x : List UInt8} (h : Rd w (some ⟨g, o, none⟩) x) (s : Nat) (hx : x.length = 4096) (hs : s < 8) : Rd w (some ⟨g, o + s * 512, none⟩) (sc x s) := by
  intro _
  obtain ⟨b, o', e, hc⟩ := h (by omega)
  cases e
  refine ⟨g, o + s * 512, rfl, fun j hj => ?_⟩
  rw [sc_length x s hx hs] at hj
  have := hc (s * 512 + j) (by omega)
  rw [Nat.add_assoc, this]
  simp [sc]
end Go.Proofs.Ytagnmmapnpcijaa
