/-
  Plain facts on the register of a check sum: it is linear over bits, and forgets nothing; nothing of the program is named here.
-/
import Derived.WalkKit
namespace Go.Proofs.Ytghcmlkgpedkkaa

/-- What is taken xor the register. -/
def taps : Nat := 2197175160

/-- One turn of a register whose lowest bit has been held against the byte's. -/
def turn (x : Nat) : Nat := if x % 2 = 1 then (x / 2) ^^^ taps else x / 2

/-- One turn with a bit. -/
def step (r b : Nat) : Nat := if r % 2 = b then r / 2 else (r / 2) ^^^ taps

/-- The register behind the first i bits of a byte. -/
def steps (r c : Nat) : Nat → Nat
  | 0 => r
  | i + 1 => step (steps r c i) (c / 2 ^ i % 2)

/-- The register behind bytes. -/
def reg (r : Nat) (xs : List UInt8) : Nat := xs.foldl (fun r c => steps r c.toNat 8) r

/-- A sum that goes on behind another one. -/
def crc (s : Nat) (xs : List UInt8) : Nat := 4294967295 - reg (4294967295 - s) xs

theorem xor_lt {a b : Nat} (ha : a < 4294967296) (hb : b < 4294967296) : a ^^^ b < 4294967296 := Nat.xor_lt_two_pow (n := 32) ha hb

theorem turn_lt {x : Nat} (h : x < 4294967296) : turn x < 4294967296 := by
  unfold turn
  split
  · exact xor_lt (by omega) (by decide)
  · omega

theorem step_lt {r : Nat} (b : Nat) (h : r < 4294967296) : step r b < 4294967296 := by
  unfold step
  split
  · omega
  · exact xor_lt (by omega) (by decide)

theorem steps_lt {r : Nat} (c : Nat) (h : r < 4294967296) (i : Nat) : steps r c i < 4294967296 := by
  induction i with
  | zero => exact h
  | succ i ih => exact step_lt _ ih

theorem reg_nil (r : Nat) : reg r [] = r := rfl
theorem reg_cons (r : Nat) (c : UInt8) (xs : List UInt8) : reg r (c :: xs) = reg (steps r c.toNat 8) xs := by unfold reg; rw [List.foldl_cons]
theorem reg_append (r : Nat) (xs ys : List UInt8) : reg r (xs ++ ys) = reg (reg r xs) ys := by simp [reg, List.foldl_append]
theorem reg_lt (xs : List UInt8) {r : Nat} (h : r < 4294967296) : reg r xs < 4294967296 := by
  induction xs generalizing r with
  | nil => rw [reg_nil]; exact h
  | cons c xs ih => rw [reg_cons]; exact ih (steps_lt _ h 8)

theorem reg_succ (r : Nat) (xs : List UInt8) (k : Nat) (h : k < xs.length) : reg r (xs.take (k + 1)) = steps (reg r (xs.take k)) xs[k].toNat 8 := by
  rw [List.take_succ_eq_append_getElem h, reg_append, reg_cons, reg_nil]

theorem xor_half (a b : Nat) : (a ^^^ b) / 2 = a / 2 ^^^ b / 2 := by
  have := Nat.shiftRight_xor_distrib (a := a) (b := b) (i := 1)
  simpa [Nat.shiftRight_eq_div_pow] using this

theorem xor_low (a b : Nat) : (a ^^^ b) % 2 = (a % 2 + b % 2) % 2 := by
  have h := Nat.testBit_xor a b 0
  simp only [Nat.testBit_zero] at h
  have ha : a % 2 = 0 ∨ a % 2 = 1 := by omega
  have hb : b % 2 = 0 ∨ b % 2 = 1 := by omega
  have hc : (a ^^^ b) % 2 = 0 ∨ (a ^^^ b) % 2 = 1 := by omega
  rcases ha with ha | ha <;> rcases hb with hb | hb <;> rcases hc with hc | hc <;> simp [ha, hb, hc] at h ⊢

/-- The turn is linear. -/
theorem turn_xor (x y : Nat) : turn (x ^^^ y) = turn x ^^^ turn y := by
  have hx : x % 2 = 0 ∨ x % 2 = 1 := by omega
  have hy : y % 2 = 0 ∨ y % 2 = 1 := by omega
  unfold turn
  rw [xor_low, xor_half]
  rcases hx with hx | hx <;> rcases hy with hy | hy <;> simp only [hx, hy]
  · rfl
  · simp only [if_true, Nat.zero_ne_one, if_false]
    rw [Nat.xor_assoc]
  · simp only [if_true, Nat.zero_ne_one, if_false]
    rw [Nat.xor_assoc, Nat.xor_assoc, Nat.xor_comm taps]
  · simp only [if_true, Nat.reduceAdd, Nat.reduceMod, Nat.zero_ne_one, if_false]
    rw [Nat.xor_assoc, ← Nat.xor_assoc taps, Nat.xor_comm taps, Nat.xor_assoc, Nat.xor_self, Nat.xor_zero]

theorem turn_zero : turn 0 = 0 := rfl

/-- A turn forgets nothing. -/
theorem turn_eq_zero {x : Nat} (h : x < 4294967296) (e : turn x = 0) : x = 0 := by
  unfold turn at e
  split at e
  · exfalso
    have h1 : (x / 2 ^^^ taps).testBit 31 = true := by
      rw [Nat.testBit_xor]
      have ha : (x / 2).testBit 31 = false := Nat.testBit_lt_two_pow (by omega)
      rw [ha]
      decide
    rw [e] at h1
    simp at h1
  · omega

/-- So many turns. -/
def turns : Nat → Nat → Nat
  | 0, x => x
  | n + 1, x => turn (turns n x)

theorem turns_lt {x : Nat} (h : x < 4294967296) : ∀ n, turns n x < 4294967296
  | 0 => h
  | n + 1 => turn_lt (turns_lt h n)
theorem turns_xor (x y : Nat) : ∀ n, turns n (x ^^^ y) = turns n x ^^^ turns n y
  | 0 => rfl
  | n + 1 => by rw [turns, turns_xor x y n, turn_xor]; rfl
theorem turns_add (x m : Nat) : ∀ n, turns (m + n) x = turns n (turns m x)
  | 0 => rfl
  | n + 1 => by rw [← Nat.add_assoc, turns, turns_add x m n]; rfl
theorem turns_eq_zero {x : Nat} (h : x < 4294967296) : ∀ n, turns n x = 0 → x = 0
  | 0, e => e
  | n + 1, e => turns_eq_zero h n (turn_eq_zero (turns_lt h n) e)

theorem xor_eq_zero {a b : Nat} (h : a ^^^ b = 0) : a = b := by
  have : a ^^^ b ^^^ b = b := by rw [h, Nat.zero_xor]
  rwa [Nat.xor_assoc, Nat.xor_self, Nat.xor_zero] at this

theorem turns_inj {x y : Nat} (hx : x < 4294967296) (hy : y < 4294967296) (n : Nat) (h : turns n x = turns n y) : x = y := by
  apply xor_eq_zero
  apply turns_eq_zero (xor_lt hx hy) n
  rw [turns_xor, h, Nat.xor_self]

/-- A bit that stands so high falls out behind so many turns. -/
theorem turns_high : ∀ (n d : Nat), turns n (d * 2 ^ n) = d
  | 0, d => by simp [turns]
  | n + 1, d => by
    have e : d * 2 ^ (n + 1) = (d * 2) * 2 ^ n := by rw [Nat.pow_succ, Nat.mul_assoc, Nat.mul_comm 2]
    rw [e, turns, turns_high n (d * 2)]
    unfold turn
    rw [if_neg (by omega)]
    omega

theorem step_turn (r b : Nat) (hb : b < 2) : step r b = turn (r ^^^ b) := by
  unfold step turn
  rw [xor_low, xor_half, show b / 2 = 0 by omega, Nat.xor_zero]
  by_cases h : r % 2 = b
  · rw [if_pos h, if_neg (by omega)]
  · rw [if_neg h, if_pos (by omega)]

theorem low_split (c i : Nat) : c % 2 ^ (i + 1) = c % 2 ^ i ^^^ (c / 2 ^ i % 2) * 2 ^ i := by
  rw [Nat.pow_succ, Nat.mod_mul]
  apply Nat.eq_of_testBit_eq
  intro j
  rw [Nat.testBit_xor, Nat.mul_comm (c / 2 ^ i % 2), Nat.add_comm, Nat.testBit_two_pow_mul_add _ (Nat.mod_lt _ (Nat.two_pow_pos i)), Nat.testBit_two_pow_mul]
  by_cases h : j < i
  · simp [h, Nat.not_le.2 h]
  · have h2 : i ≤ j := by omega
    have h3 : (c % 2 ^ i).testBit j = false := Nat.testBit_lt_two_pow (Nat.lt_of_lt_of_le (Nat.mod_lt _ (Nat.two_pow_pos i)) (Nat.pow_le_pow_right (by omega) h2))
    simp [h, h2, h3]

theorem steps_turns (r c : Nat) : ∀ i, steps r c i = turns i (r ^^^ c % 2 ^ i)
  | 0 => by simp [steps, turns, Nat.mod_one]
  | i + 1 => by
    rw [steps, steps_turns r c i, step_turn _ _ (by omega), low_split, ← Nat.xor_assoc, turns, turns_xor _ (c / 2 ^ i % 2 * 2 ^ i), turns_high]

theorem byte_turns (r : Nat) (c : UInt8) : steps r c.toNat 8 = turns 8 (r ^^^ c.toNat) := by
  rw [steps_turns]
  have := c.toNat_lt
  rw [Nat.mod_eq_of_lt (by omega)]

/-- Three registers and three lists held against each other by xor. -/
theorem reg_xor3 : ∀ (n : Nat) (a b c : List UInt8) (r s t : Nat), a.length = n → b.length = n → c.length = n →
    reg (r ^^^ s ^^^ t) (List.zipWith (· ^^^ ·) (List.zipWith (· ^^^ ·) a b) c) = reg r a ^^^ reg s b ^^^ reg t c
  | 0, a, b, c, r, s, t, ha, hb, hc => by
    rw [List.eq_nil_of_length_eq_zero ha, List.eq_nil_of_length_eq_zero hb, List.eq_nil_of_length_eq_zero hc]
    rfl
  | n + 1, a, b, c, r, s, t, ha, hb, hc => by
    match a, b, c, ha, hb, hc with
    | x :: a, y :: b, z :: c, ha, hb, hc =>
      simp only [List.zipWith_cons_cons, reg_cons]
      rw [← reg_xor3 n a b c _ _ _ (by simpa using ha) (by simpa using hb) (by simpa using hc)]
      congr 1
      rw [byte_turns, byte_turns, byte_turns, byte_turns, ← turns_xor, ← turns_xor, UInt8.toNat_xor, UInt8.toNat_xor]
      congr 1
      ac_rfl

/-- The number of bytes, the lowest first. -/
def leNat : List UInt8 → Nat
  | [] => 0
  | c :: xs => c.toNat ^^^ leNat xs * 2 ^ 8

theorem leNat_lt : ∀ (xs : List UInt8), leNat xs < 2 ^ (8 * xs.length)
  | [] => by decide
  | c :: xs => by
    have h := leNat_lt xs
    have hc := c.toNat_lt
    apply Nat.xor_lt_two_pow
    · exact Nat.lt_of_lt_of_le hc (Nat.pow_le_pow_right (by omega) (by simp; omega))
    · have e : 2 ^ (8 * (c :: xs).length) = 2 ^ (8 * xs.length) * 2 ^ 8 := by rw [← Nat.pow_add]; congr 1
      rw [e]
      exact (Nat.mul_lt_mul_right (by decide)).2 h

theorem leNat_inj : ∀ (xs ys : List UInt8), xs.length = ys.length → leNat xs = leNat ys → xs = ys
  | [], [], _, _ => rfl
  | x :: xs, y :: ys, hl, h => by
    have hx := x.toNat_lt
    have hy := y.toNat_lt
    have k : ∀ (z : UInt8) (n : Nat), (z.toNat ^^^ n * 2 ^ 8) % 2 ^ 8 = z.toNat ∧ (z.toNat ^^^ n * 2 ^ 8) / 2 ^ 8 = n := fun z n => by
      have hz := z.toNat_lt
      constructor
      · rw [Nat.xor_mod_two_pow]
        simp
      · have := Nat.shiftRight_xor_distrib (a := z.toNat) (b := n * 2 ^ 8) (i := 8)
        rw [Nat.shiftRight_eq_div_pow, Nat.shiftRight_eq_div_pow, Nat.shiftRight_eq_div_pow] at this
        rw [this, Nat.mul_div_cancel _ (by decide), Nat.div_eq_of_lt hz, Nat.zero_xor]
    unfold leNat at h
    have e1 : x.toNat = y.toNat := by rw [← (k x (leNat xs)).1, h, (k y (leNat ys)).1]
    have e2 : leNat xs = leNat ys := by rw [← (k x (leNat xs)).2, h, (k y (leNat ys)).2]
    rw [UInt8.toNat_inj.1 e1, leNat_inj xs ys (by simpa using hl) e2]

theorem reg_le : ∀ (xs : List UInt8) (r : Nat), reg r xs = turns (8 * xs.length) (r ^^^ leNat xs)
  | [], r => by simp [reg, leNat, turns]
  | c :: xs, r => by
    rw [reg_cons, reg_le xs, byte_turns]
    have e : 8 * (c :: xs).length = 8 + 8 * xs.length := by simp; omega
    rw [e, turns_add]
    congr 1
    rw [leNat, ← Nat.xor_assoc, turns_xor _ (leNat xs * 2 ^ 8), turns_high]

/-- Bytes of one list alone tell the register. -/
theorem reg_inj_start (xs : List UInt8) {r s : Nat} (hr : r < 4294967296) (hs : s < 4294967296) (h : reg r xs = reg s xs) : r = s := by
  rw [reg_le, reg_le, turns_xor, turns_xor] at h
  have h2 : turns (8 * xs.length) r = turns (8 * xs.length) s := by
    apply xor_eq_zero
    have : turns (8 * xs.length) r ^^^ turns (8 * xs.length) (leNat xs) ^^^ (turns (8 * xs.length) s ^^^ turns (8 * xs.length) (leNat xs)) = 0 := by rw [h, Nat.xor_self]
    rw [← this]
    generalize turns (8 * xs.length) r = x
    generalize turns (8 * xs.length) s = y
    generalize turns (8 * xs.length) (leNat xs) = z
    have e : x ^^^ z ^^^ (y ^^^ z) = x ^^^ y ^^^ (z ^^^ z) := by ac_rfl
    rw [e, Nat.xor_self, Nat.xor_zero]
  exact turns_inj hr hs _ h2

/-- Up to four bytes next to each other tell. -/
theorem reg_burst (pre ys zs post : List UInt8) (r : Nat) (hr : r < 4294967296) (hl : ys.length = zs.length) (h4 : ys.length ≤ 4) (h : reg r (pre ++ (ys ++ post)) = reg r (pre ++ (zs ++ post))) : ys = zs := by
  rw [reg_append, reg_append, reg_append, reg_append] at h
  have hR := reg_lt pre hr
  have h1 := reg_inj_start post (reg_lt ys hR) (reg_lt zs hR) h
  have b1 : leNat ys < 4294967296 := Nat.lt_of_lt_of_le (leNat_lt ys) (Nat.pow_le_pow_right (n := 2) (j := 32) (by omega) (by omega))
  have b2 : leNat zs < 4294967296 := Nat.lt_of_lt_of_le (leNat_lt zs) (Nat.pow_le_pow_right (n := 2) (j := 32) (by omega) (by omega))
  rw [reg_le ys, reg_le zs, ← hl] at h1
  have h2 := turns_inj (xor_lt hR b1) (xor_lt hR b2) _ h1
  apply leNat_inj _ _ hl
  have : reg r pre ^^^ (reg r pre ^^^ leNat ys) = reg r pre ^^^ (reg r pre ^^^ leNat zs) := by rw [h2]
  rwa [← Nat.xor_assoc, ← Nat.xor_assoc, Nat.xor_self, Nat.zero_xor, Nat.zero_xor] at this

theorem crc_lt (s : Nat) (xs : List UInt8) : crc s xs < 4294967296 := by unfold crc; omega

theorem flip_flip {s : Nat} (h : s < 4294967296) : 4294967295 - (4294967295 - s) = s := by omega

/-- Sums go on behind one another. -/
theorem crc_append (s : Nat) (xs ys : List UInt8) : crc (crc s xs) ys = crc s (xs ++ ys) := by
  unfold crc
  have h := reg_lt xs (r := 4294967295 - s) (by omega)
  rw [flip_flip h, reg_append]

theorem crc_nil {s : Nat} (h : s < 4294967296) : crc s [] = s := by
  unfold crc
  rw [reg_nil, flip_flip h]

theorem flip_xor {s : Nat} (h : s < 4294967296) : 4294967295 - s = s ^^^ 4294967295 := by
  apply Nat.eq_of_testBit_eq
  intro i
  have e : 4294967295 - s = 2 ^ 32 - (s + 1) := by omega
  rw [e, Nat.testBit_two_pow_sub_succ h, Nat.testBit_xor, show (4294967295 : Nat) = 2 ^ 32 - 1 by rfl, Nat.testBit_two_pow_sub_one]
  by_cases hi : i < 32
  · simp [hi]
  · have : s.testBit i = false := Nat.testBit_lt_two_pow (Nat.lt_of_lt_of_le h (Nat.pow_le_pow_right (n := 2) (i := 32) (by omega) (by omega)))
    simp [hi, this]

/-- Three lists as long held against each other have their sums held so. -/
theorem crc_xor3 (n : Nat) (a b c : List UInt8) (ha : a.length = n) (hb : b.length = n) (hc : c.length = n) :
    crc 0 (List.zipWith (· ^^^ ·) (List.zipWith (· ^^^ ·) a b) c) = crc 0 a ^^^ crc 0 b ^^^ crc 0 c := by
  unfold crc
  have h := reg_xor3 n a b c 4294967295 4294967295 4294967295 ha hb hc
  rw [Nat.xor_self, Nat.zero_xor] at h
  have l1 := reg_lt a (r := 4294967295) (by omega)
  have l2 := reg_lt b (r := 4294967295) (by omega)
  have l3 := reg_lt c (r := 4294967295) (by omega)
  simp only [Nat.sub_zero]
  rw [h, flip_xor l1, flip_xor l2, flip_xor l3, flip_xor (xor_lt (xor_lt l1 l2) l3)]
  generalize reg 4294967295 a = x
  generalize reg 4294967295 b = y
  generalize reg 4294967295 c = z
  have e : x ^^^ 4294967295 ^^^ (y ^^^ 4294967295) ^^^ (z ^^^ 4294967295) = (x ^^^ y ^^^ z ^^^ 4294967295) ^^^ (4294967295 ^^^ 4294967295) := by ac_rfl
  rw [e, Nat.xor_self, Nat.xor_zero]

theorem crc_burst (pre ys zs post : List UInt8) (hl : ys.length = zs.length) (h4 : ys.length ≤ 4) (h : crc 0 (pre ++ (ys ++ post)) = crc 0 (pre ++ (zs ++ post))) : ys = zs := by
  have l1 := reg_lt (pre ++ (ys ++ post)) (r := 4294967295) (by omega)
  have l2 := reg_lt (pre ++ (zs ++ post)) (r := 4294967295) (by omega)
  exact reg_burst pre ys zs post 4294967295 (by omega) hl h4 (by unfold crc at h; simp only [Nat.sub_zero] at h; omega)

end Go.Proofs.Ytghcmlkgpedkkaa
