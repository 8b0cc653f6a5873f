import Derived.Test.YtpponamckndhpaaTexts
import Derived.WalkKit
import Derived.WalkSpells
import Derived.WalkLawsBesides
namespace Go.Proofs.Ytpponamckndhpaa
open Go.RowKit

theorem add64_nil (v : Nat) (w : World) (hv : v < 18446744073709551616) :
    Calls Try.prog 21 #[.slice none 0 0, .int .u64 v] w fun e w' => e = .returned (.slice (some ⟨w.heap.size, 0, none⟩) 8 8) ∧ Own w' w.heap.size (toBE 8 v) ∧ Below w.heap.size w w' := by
  have h := add64_any none 0 [] v w hv (by decide) (Rd.nil _ _)
  simpa using h

theorem conv8 {u : World} {g v : Nat} (h : Own u g (toBE 8 v)) : (convert 25 9 (.slice (some ⟨g, 0, none⟩) 8 8)).run Try.prog u = .ok (.string ⟨(toBE 8 v).toArray⟩) u := by
  have h2 := conv_run u (some ⟨g, 0, none⟩) 8 (toBE 8 v) h.rd
  rw [toBE_length] at h2
  exact h2

theorem less_toBE : ∀ (n a b : Nat), a < 256 ^ n → b < 256 ^ n → Op.bytesLess (toBE n a) (toBE n b) = decide (a < b)
  | 0, a, b, ha, hb => by
    simp at ha hb
    subst ha hb
    rfl
  | n + 1, a, b, ha, hb => by
    have ih := less_toBE n (a % 256 ^ n) (b % 256 ^ n) (Nat.mod_lt _ (Nat.pow_pos (by omega))) (Nat.mod_lt _ (Nat.pow_pos (by omega)))
    rw [toBE_mod, toBE_mod] at ih
    rw [toBE_cons, toBE_cons]
    have hp : 0 < 256 ^ n := Nat.pow_pos (by omega)
    have qa : a / 256 ^ n < 256 := Nat.div_lt_of_lt_mul (by rw [← Nat.pow_succ]; exact ha)
    have qb : b / 256 ^ n < 256 := Nat.div_lt_of_lt_mul (by rw [← Nat.pow_succ]; exact hb)
    have da := Nat.div_add_mod a (256 ^ n)
    have db := Nat.div_add_mod b (256 ^ n)
    have ma := Nat.mod_lt a hp
    have mb := Nat.mod_lt b hp
    have ca : (UInt8.ofNat (a / 256 ^ n)).toNat = a / 256 ^ n := by rw [ofNat_toNat]; exact Nat.mod_eq_of_lt (by assumption)
    have cb : (UInt8.ofNat (b / 256 ^ n)).toNat = b / 256 ^ n := by rw [ofNat_toNat]; exact Nat.mod_eq_of_lt (by assumption)
    rw [Op.bytesLess, ih, Bool.eq_iff_iff]
    simp only [Bool.or_eq_true, Bool.and_eq_true, decide_eq_true_eq, beq_iff_eq, UInt8.lt_iff_toNat_lt, ← UInt8.toNat_inj, ca, cb]
    generalize a / 256 ^ n = p at *
    generalize b / 256 ^ n = q at *
    generalize a % 256 ^ n = r at *
    generalize b % 256 ^ n = t at *
    generalize 256 ^ n = M at *
    constructor
    · rintro (h | ⟨rfl, h⟩)
      · have : M * (p + 1) ≤ M * q := Nat.mul_le_mul_left M h
        rw [Nat.mul_add] at this
        omega
      · omega
    · intro h
      rcases Nat.lt_trichotomy p q with h1 | rfl | h1
      · exact .inl h1
      · exact .inr ⟨rfl, by omega⟩
      · have : M * (q + 1) ≤ M * p := Nat.mul_le_mul_left M h1
        rw [Nat.mul_add] at this
        omega

theorem eq_toBE (n a b : Nat) (ha : a < 256 ^ n) (hb : b < 256 ^ n) : (toBE n a == toBE n b) = ((a : Int) == (b : Int)) := by
  rw [Bool.eq_iff_iff]
  simp only [beq_iff_eq]
  constructor
  · intro h
    have h2 := congrArg beNat h
    rw [beNat_toBE, beNat_toBE, Nat.mod_eq_of_lt ha, Nat.mod_eq_of_lt hb] at h2
    rw [h2]
  · intro h
    rw [Int.ofNat.inj h]

set_option maxHeartbeats 400000 in
theorem order_any (a b : Nat) (w : World) (ha : a < 18446744073709551616) (hb : b < 18446744073709551616) :
    Calls Try.prog 6 #[.int .u64 a, .int .u64 b] w fun e w' => e = .returned (.bool true) ∧ Below w.heap.size w w' := by
  go_enter Try.func6, Try.ntmps6
  go_wp2
  go_region_with (go_at_call 21; first | (have h1 := ‹Own _ w.heap.size (toBE 8 a)›; have h1b := ‹Below w.heap.size w _›; refine (add64_nil b _ hb).mono ?_; rintro e w2 ⟨rfl, ho2, hb2⟩; have hcv2 := conv8 ho2; have hcv1 := conv8 (h1.below hb2 h1.lt); have hB2 := h1b.trans (hb2.mono h1b.size)) | (refine (add64_nil a _ ha).mono ?_; rintro e w1 ⟨rfl, ho1, hb1⟩; have ho1' : Own w1 w.heap.size (toBE 8 a) := ho1; have hb1' : Below w.heap.size w w1 := ((Below.refl w.heap.size w).drew).trans hb1; have hcv := conv8 ho1'; clear ho1 hb1))
  all_goals clear h1 h1b hcv hcv1 hcv2 ho1' hb1' ho2 hb2
  all_goals have hlen := toBE_length 8 a
  all_goals have hless := less_toBE 8 a b ha hb
  all_goals have heq := eq_toBE 8 a b ha hb
  all_goals go_wp2_with (go_at_call 13; refine (awake_any _).mono ?_; rintro e w3 ⟨rfl, hb3⟩)
  all_goals go_ret
  all_goals exact ⟨rfl, hB2.trans (hb3.mono hB2.size)⟩
end Go.Proofs.Ytpponamckndhpaa
