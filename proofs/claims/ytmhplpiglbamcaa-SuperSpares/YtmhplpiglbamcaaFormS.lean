/-
  GetSuper's contract, and a superblock's one form.
-/
import Derived.Test.YtmhplpiglbamcaaGetSuper
import Derived.Test.YtmhplpiglbamcaaForms
namespace Go.Proofs.Ytmhplpiglbamcaa
open Go.RowKit

theorem getSuper_at (n cap : Nat) (a : Option Addr) (xs : List UInt8) (w : World) (hn : xs.length = n) (hcap : n ≤ cap) (hm : cap ≤ 9223372036854775807) (hr : Rd w a xs) :
    Calls Try.prog 13 #[.slice a n cap] w fun r w' => GetsS w w' (getSuper xs) r := by
  have e : getSuper xs = ansS (i64 (num xs 8 8)) (i64 (num xs 16 8)) (i64 (num xs 24 8)) (i64 (num xs 32 8)) n xs := by rw [← hn]; rfl
  rw [e]
  cases h : rightS (i64 (num xs 8 8)) (i64 (num xs 16 8)) (i64 (num xs 24 8)) (i64 (num xs 32 8))
  · exact getSuper_wrong n cap a xs _ _ _ _ w hn (by omega) hr rfl rfl rfl rfl h
  · by_cases h4 : n = 4096
    · subst h4
      obtain ⟨bb, oo, rfl, _⟩ := hr (by omega)
      have hh := rightS_nat h
      obtain ⟨b, hb⟩ := Int.eq_ofNat_of_zero_le (show 0 ≤ i64 (num xs 8 8) by omega)
      obtain ⟨e, he⟩ := Int.eq_ofNat_of_zero_le (show 0 ≤ i64 (num xs 16 8) by omega)
      obtain ⟨q, hq⟩ := Int.eq_ofNat_of_zero_le (show 0 ≤ i64 (num xs 24 8) by omega)
      obtain ⟨t, ht⟩ := Int.eq_ofNat_of_zero_le (show 0 ≤ i64 (num xs 32 8) by omega)
      rw [hb, he, hq, ht] at h ⊢
      rcases Bool.eq_false_or_eq_true (isThen xs (headS b e q t)) with hH | hH
      · have e9 : ansS b e q t 4096 xs = some ⟨b, e, q, t⟩ := by
          have hH' : isThen xs (headS (b : Int).toNat (e : Int).toNat (q : Int).toNat (t : Int).toNat) = true := hH
          unfold ansS
          rw [h, decide_eq_true (rfl : (4096 : Nat) = 4096), hH']
          rfl
        rw [e9]
        exact getSuper_ok bb oo cap b e q t xs w hn hcap hm (by omega) hr hb he hq ht h hH
      · have e9 : ansS b e q t 4096 xs = none := by
          have hH' : isThen xs (headS (b : Int).toNat (e : Int).toNat (q : Int).toNat (t : Int).toNat) = false := hH
          unfold ansS
          rw [h, decide_eq_true (rfl : (4096 : Nat) = 4096), hH']
          rfl
        rw [e9]
        exact getSuper_bad bb oo cap b e q t xs w hn hcap hm (by omega) hr hb he hq ht h hH
    · exact getSuper_off n cap a xs _ _ _ _ w hn (by omega) hr rfl rfl rfl rfl h h4

theorem superB_eq (b e q t : Nat) : superB b e q t = letters ++ (toBE 8 b ++ (toBE 8 e ++ (toBE 8 q ++ (toBE 8 t ++ (toBE 4 (crc 0 (lead [b, e, q, t])) ++ noughts 4052))))) := by
  simp [superB, headS, lead]
theorem readS_put (b e q t : Nat) (hb : b < 9223372036854775808) (he : e < 9223372036854775808) (hq : q < 9223372036854775808) (ht : t < 9223372036854775808) : readS (superB b e q t) = ⟨b, e, q, t⟩ := by
  have n0 : num (superB b e q t) 8 8 = b := by rw [superB_eq]; exact num_put _ _ 8 _ _ rfl (by omega)
  have n1 : num (superB b e q t) 16 8 = e := by
    rw [superB_eq, ← List.append_assoc]
    exact num_put _ _ 8 _ _ (by simp only [List.length_append, toBE_length]; rfl) (by omega)
  have n2 : num (superB b e q t) 24 8 = q := by
    rw [superB_eq, ← List.append_assoc, ← List.append_assoc]
    exact num_put _ _ 8 _ _ (by simp only [List.length_append, toBE_length]; rfl) (by omega)
  have n3 : num (superB b e q t) 32 8 = t := by
    rw [superB_eq, ← List.append_assoc, ← List.append_assoc, ← List.append_assoc]
    exact num_put _ _ 8 _ _ (by simp only [List.length_append, toBE_length]; rfl) (by omega)
  unfold readS
  rw [n0, n1, n2, n3, i64_in b hb, i64_in e he, i64_in q hq, i64_in t ht]
theorem getSuper_put (b e q t : Int) (h : rightS b e q t = true) : getSuper (superB b.toNat e.toNat q.toNat t.toNat) = some ⟨b, e, q, t⟩ := by
  obtain ⟨b, e, q, t, rfl, rfl, rfl, rfl, hb, he, hq, ht⟩ := rightS_lt h
  simp only [Int.toNat_natCast]
  unfold getSuper
  rw [readS_put b e q t hb he hq ht]
  have hi : isThen (superB b e q t) (headS (b : Int).toNat (e : Int).toNat (q : Int).toNat (t : Int).toNat) = true := isThen_self (headS b e q t) 4052
  show (if rightS b e q t && (decide ((superB b e q t).length = 4096) && isThen (superB b e q t) (headS (b : Int).toNat (e : Int).toNat (q : Int).toNat (t : Int).toNat)) then some (⟨b, e, q, t⟩ : Sup) else none) = _
  rw [h, hi, decide_eq_true (superB_length b e q t)]
  rfl
theorem getSuper_some {xs : List UInt8} {s : Sup} (h : getSuper xs = some s) : rightS s.b s.e s.q s.t = true ∧ superB s.b.toNat s.e.toNat s.q.toNat s.t.toNat = xs := by
  obtain ⟨hc, hx⟩ := if_some h
  simp only [Bool.and_eq_true, decide_eq_true_eq] at hc
  obtain ⟨hr, hl, ht⟩ := hc
  subst hx
  refine ⟨hr, ?_⟩
  obtain ⟨_, t2⟩ := isThen_true ht
  rw [hl, headS_length] at t2
  exact t2.symm
theorem getSuper_turned (b e q t p ch : Nat) (hp : p < 37) (h0 : 0 < ch) (h4 : ch < 4294967296) : getSuper (chg (superB b e q t) p ch 4) = none := by
  cases h : getSuper (chg (superB b e q t) p ch 4) with
  | none => rfl
  | some s =>
    exfalso
    obtain ⟨_, g2⟩ := getSuper_some h
    obtain ⟨b', hb⟩ : ∃ x, x = s.b.toNat := ⟨_, rfl⟩
    obtain ⟨e', he⟩ : ∃ x, x = s.e.toNat := ⟨_, rfl⟩
    obtain ⟨q', hq⟩ : ∃ x, x = s.q.toNat := ⟨_, rfl⟩
    obtain ⟨t', ht⟩ : ∃ x, x = s.t.toNat := ⟨_, rfl⟩
    rw [← hb, ← he, ← hq, ← ht] at g2
    have e1 : ∀ b e q t, superB b e q t = lead [b, e, q, t] ++ (toBE 4 (crc 0 (lead [b, e, q, t])) ++ noughts 4052) := fun b e q t => by simp only [superB, headS, List.append_assoc]
    rw [e1 b e q t, e1 b' e' q' t', chg_left _ _ p ch 4 (by rw [lead_length]; simp; omega)] at g2
    have hin := List.append_inj g2 (by rw [chg_length, lead_length, lead_length]; rfl)
    have hin2 := List.append_inj hin.2 (by rw [toBE_length, toBE_length])
    have hc := toBE_inj (by have := crc_lt 0 (lead [b', e', q', t']); omega) (by have := crc_lt 0 (lead [b, e, q, t]); omega) hin2.1
    rw [hin.1] at hc
    have := chg_seen (lead [b, e, q, t]) p ch 4 (by omega) hc.symm
    exact chg_ne (lead [b, e, q, t]) p ch (by rw [lead_length]; simp; omega) h0 h4 this.symm
end Go.Proofs.Ytmhplpiglbamcaa
