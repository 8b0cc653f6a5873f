/-
  NestWhole, plainly: what is written of five cells, and what stands in a row of five numbers beside it.
-/
import Derived.Test.YtbpbclmlkdnfbaaNAwk
namespace Go.Proofs.Ytbpbclmlkdnfbaa.T
open Go.RowKit Go.Proofs.Ytbpbclmlkdnfbaa.C
theorem kitPick_at (n m : Int) (w : World) (h1 : 1 ≤ m) (h2 : m ≤ 1000) : Calls Try.prog 27 #[.int .i64 n, .int .i64 m] w fun r w' => r = .returned (.int .i64 (n % m)) ∧ w' = w := by
  have e1 : n.tmod m = if 0 ≤ n ∨ n % m = 0 then n % m else n % m - m := by
    by_cases h : 0 ≤ n
    · rw [if_pos (.inl h), Int.tmod_eq_emod_of_nonneg h]
    · have := Int.tmod_eq_emod (a := n) (b := m)
      rw [this]
      have hd : m ∣ n ↔ n % m = 0 := Int.dvd_iff_emod_eq_zero
      by_cases h0 : n % m = 0
      · rw [if_pos (.inr (hd.2 h0)), if_pos (.inr h0)]; omega
      · rw [if_neg (by rintro (h' | h'); exact h h'; exact h0 (hd.1 h')), if_neg (by rintro (h' | h'); exact h h'; exact h0 h')]
        omega
  have hz0 : 0 ≤ n % m := Int.emod_nonneg _ (by omega)
  have hz1 : n % m < m := Int.emod_lt_of_pos _ (by omega)
  have hnz : ¬ (m = 0) := by omega
  have hm1 : ¬ (m < 1) := by omega
  generalize hz : n % m = z at *
  generalize hy : n.tmod m = y at *
  by_cases hc : 0 ≤ n ∨ z = 0
  · rw [if_pos hc] at e1
    subst e1
    have hyl : ¬ y < 0 := by omega
    go_enter Try.func27, Try.ntmps27
    go_wp2
    go_ret
    simp
  · rw [if_neg hc] at e1
    have hyl : y < 0 := by omega
    have hs : y + m = z := by omega
    have hs2 : y = z - m := e1
    clear e1 hc
    subst hs2
    go_enter Try.func27, Try.ntmps27
    go_wp2
    go_ret
    simp

def wS : M := C.M0 5
def wX (W : List (Int × Int)) (Mk : List (List (Int × Int))) : TX := ⟨1, 0, ⟨[], W, Mk⟩, 1, [], 0, false⟩
/-- W says what the five numbers are -/
structure Wv (W : List (Int × Int)) (nw : List Int) : Prop where
  nd : (kys W).Nodup
  rng : ∀ k ∈ kys W, 0 ≤ k ∧ k < 5
  len : nw.length = 5
  ag : ∀ c : Nat, c < 5 → (gt W (c : Int)).getD 0 = nw.getD c 0
theorem Wv.le {W : List (Int × Int)} {nw : List Int} (h : Wv W nw) : W.length ≤ 5 := by
  have := nodup_sub (kys W) [0, 1, 2, 3, 4] h.nd (fun x hx => by
    have := h.rng x hx
    simp
    omega)
  rw [kys_len] at this
  simpa using this
theorem Wv.nil : Wv [] [0, 0, 0, 0, 0] := ⟨by simp [kys], fun k hk => by simp [kys] at hk, rfl, fun c hc => by
  have : c = 0 ∨ c = 1 ∨ c = 2 ∨ c = 3 ∨ c = 4 := by omega
  rcases this with rfl | rfl | rfl | rfl | rfl <;> rfl⟩
theorem Wv.put {W : List (Int × Int)} {nw : List Int} (h : Wv W nw) (c : Nat) (hc : c < 5) (v : Int) : Wv (pt W (c : Int) v) (nw.set c v) := by
  refine ⟨?_, fun k hk => ?_, by rw [List.length_set]; exact h.len, fun d hd => ?_⟩
  · rw [kys_pt]
    split
    · exact h.nd
    · rename_i hn
      rw [List.nodup_append]
      refine ⟨h.nd, by simp, fun a ha b hb => ?_⟩
      simp at hb
      subst hb
      intro e
      subst e
      exact hn ((gt_some_iff W _).1 ha)
  · rw [kys_pt] at hk
    split at hk
    · exact h.rng k hk
    · rw [List.mem_append] at hk
      rcases hk with hk | hk
      · exact h.rng k hk
      · simp at hk; omega
  · rw [gt_pt]
    by_cases e : d = c
    · subst e
      have := h.len
      simp [List.getD, show d < nw.length by omega]
    · rw [if_neg (by omega), h.ag d hd]
      simp [List.getD, show ¬ c = d by omega]
theorem wcell (c : Nat) (hc : c < 5) : wS.cell? (c : Int) = some ⟨.int .i64 0, 0, 0⟩ := by
  have : c = 0 ∨ c = 1 ∨ c = 2 ∨ c = 3 ∨ c = 4 := by omega
  rcases this with rfl | rfl | rfl | rfl | rfl <;> rfl
theorem wwrite {W : List (Int × Int)} {nw : List Int} (h : Wv W nw) (Mk : List (List (Int × Int))) (c : Nat) (hc : c < 5) (v : Int) : (wX W Mk).write wS (c : Int) v = (0, wX (pt W (c : Int) v) Mk) := by
  have hl := h.le
  unfold TX.write
  rw [if_neg (by show ¬ (1 : Int) ≠ 1; omega), wcell c hc]
  have e : (wX W Mk).S.write (c : Int) v = (0, ⟨[], pt W (c : Int) v, Mk⟩) := by
    unfold SS.write
    rw [if_neg (by omega), if_neg (by show ¬ ((gt W (c : Int)).isSome = false ∧ 256 ≤ W.length); omega)]
    rfl
  rw [e]
  rfl
theorem wopen (W : List (Int × Int)) (Mk : List (List (Int × Int))) : (wX W Mk).open1 = wX W (Mk ++ [W]) := rfl
theorem wleft (W W2 : List (Int × Int)) (Mk Mk2 : List (List (Int × Int))) (e : Int) : (wX W Mk).left1 (wX W2 Mk2) e = wX (if e = 0 then W2 else W) Mk := rfl
/-- pairs of numbers in a row -/
def RdP (w : World) (a : Option Addr) (ps : List (Int × Int)) : Prop :=
  0 < ps.length → ∃ b o, a = some ⟨b, o, none⟩ ∧ ∀ j (h : j < ps.length), w.cell? ⟨b, o + j * 2, none⟩ = some (.int .i64 ps[j].1) ∧ w.cell? ⟨b, o + j * 2 + 1, none⟩ = some (.int .i64 ps[j].2)
theorem RdP.at {w u : World} {a : Option Addr} {ps : List (Int × Int)} (h : RdP w a ps) (hb : Below w.heap.size w u) (k : Nat) (hk : k < ps.length) : ∃ b o p, a = some ⟨b, o, none⟩ ∧ b < w.heap.size ∧ u.cell? ⟨b, o + k * 2, none⟩ = some (.int .i64 p.1) ∧ u.cell? ⟨b, o + k * 2 + 1, none⟩ = some (.int .i64 (p : Int × Int).2) := by
  obtain ⟨b, o, rfl, hc⟩ := h (by omega)
  obtain ⟨c0, c1⟩ := hc k hk
  have hl : b < w.heap.size := block_lt_of_cell c0
  refine ⟨b, o, ps[k], rfl, hl, ?_, ?_⟩
  · rw [hb.cell (p := ⟨b, o + k * 2, none⟩) hl]; exact c0
  · rw [hb.cell (p := ⟨b, o + k * 2 + 1, none⟩) hl]; exact c1
end Go.Proofs.Ytbpbclmlkdnfbaa.T
