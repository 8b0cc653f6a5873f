/-
  RcZeros, RcCrc, RcSums, RcBody, RcPutHM, RcPutHb, RcHide, RcEntsOf, RcRightH, RcRightG, RcPutB, RcBodyOf, RcGetH, RcUnhide, RcGetB, RcHead, RcCat, RcGrp, RcMix, RcSame, RcLow, RcMade, HFit: put together.
-/
import Derived.Test.YtdkaacjeogifdaaG3
import Derived.Lib.AppendZerosOnto
import Derived.WalkKit
import Derived.WalkSpells
import Derived.WalkLawsBesides
import Derived.Laws.BitsLemmas
import Derived.Lib.SlBytesConst
import Derived.BigQuiet
import Derived.Deep.QuietTactic
/-
  append(s, make([]byte, k)...), upon a row of one's own; entries in memory.
-/
namespace Go.Proofs.Ytdkaacjeogifdaa.Rc
open Go.RowKit

def nought (n : Nat) : List UInt8 := List.replicate n 0
theorem nought_length (n : Nat) : (nought n).length = n := by simp [nought]
theorem zeroCells_bytes (k : Nat) : Builtin.zeroCells (Value.cells (.int .u8 0)) k = (bcs (nought k)).toArray := by
  apply Array.toList_inj.1
  apply List.ext_getElem
  · simp [Builtin.zeroCells, bcs, nought, Value.cells]
  · intro i h1 h2
    simp [Builtin.zeroCells, bcs, bc, nought, Value.cells, Nat.mod_one]

theorem info3 : Try.prog.underlying 3 = some (.int .i64) := by kernel_rfl

theorem run_append_zeros (w : World) (base ty : Nat) (v : Value) (n k : Nat) (xs : List UInt8) (h0 : 0 < n) (hk : 0 < k) (hown : w.ownsRow base 5 1 v n (bcs xs)) (hb : n + k ≤ 140737488355328) (hbase : base ≤ w.heap.size) :
    ∃ v' w', (Builtin.append_ #[26, 3] ty #[v, .int .i64 (k : Int)]).run Try.prog w = .ok v' w' ∧ w'.ownsRow base 5 1 v' (n + k) (bcs (xs ++ nought k)) ∧ w.grownBy w' v.ownBlock := by
  obtain ⟨i0, hi, hz0, hz1, hz2⟩ := info_parts info5
  have hx : xs.length = n := by have := hown.1; rw [bcs_length] at this; omega
  have hlen : (bcs (xs ++ nought k)).length = (n + k) * 1 := by rw [bcs_length]; simp [nought_length, hx]
  rcases hown.2 with ⟨rfl, rfl⟩ | ⟨g, cap, cur, rfl, hbg, hg, hnc, hcm, hcs, htake⟩
  · omega
  · have hw : IntKind.i64.wrap (k : Int) = k := by rw [IntKind.wrap_i64]; omega
    have hneg : ¬ ((k : Int) < 0) := by omega
    have h48 : ¬ (281474976710656 < (k : Int)) := by omega
    have hk0 : ¬ k = 0 := by omega
    by_cases hroom : n + k ≤ cap
    · have hfit : n * 1 + (bcs (nought k)).length ≤ cur.size := by rw [bcs_length, nought_length]; omega
      have hst := run_storeCells_at Try.prog g (n * 1) 5 (bcs (nought k)) 0 cur w hg (by simpa using hfit) (bcs_oneCell _)
      simp only [Nat.add_zero, Nat.mul_one] at hst
      refine ⟨.slice (some ⟨g, 0, none⟩) (n + k) cap, w.setRow g (cur.toList.take n ++ bcs (nought k) ++ cur.toList.drop (n + (bcs (nought k)).length)).toArray, ?_, ⟨hlen, .inr ⟨g, cap, _, rfl, hbg, setRow_heap w g cur _ 5 _ hg, hroom, hcm, ?_, ?_⟩⟩, ⟨rfl, rfl, rfl, by simp, fun j _ hj => setRow_other w g j _ (fun e => hj (by simp [Value.ownBlock, e]))⟩⟩
      · simp [Builtin.append_, run_underlying Try.underlying26, run_underlying info3, sizeOf, typeInfo, zeroValue, hi, hz0, hz1, hz2, asInt, asIntOf, hw, hneg, hk0, h48, hroom, zeroCells_bytes, Addr.add_lit, hst]
      · simp [bcs_length, nought_length]; omega
      · rw [Nat.mul_one] at htake
        have e : cur.toList.take n ++ bcs (nought k) ++ cur.toList.drop (n + (bcs (nought k)).length) = bcs (xs ++ nought k) ++ cur.toList.drop (n + (bcs (nought k)).length) := by rw [htake, bcs_append]
        rw [← hlen]
        show List.take _ (cur.toList.take n ++ bcs (nought k) ++ cur.toList.drop (n + (bcs (nought k)).length)) = _
        rw [e]
        exact List.take_left
    · have holds : ∀ j u, (bcs xs)[j]? = some u → w.drew.cell? ((⟨g, 0, none⟩ : Addr).add j) = some u := hown.cells (g := g) rfl
      have hold := run_firstCells_some (P := Try.prog) w.drew i0.size n ⟨g, 0, none⟩ n cap (bcs xs) (by rw [hz1]; exact hown.1) holds
      have hr := Lib.run_append_grow_zeros (P := Try.prog) w 26 3 ty 5 i0 (.int .u8 0) .i64 .i64 Try.underlying26 info3 hi hz0 (some ⟨g, 0, none⟩) n cap (bcs xs) hold k hk (by omega) (by omega) (by omega) (by rw [hz2]; omega) (growslice_fits (by omega) (by rw [hz2]; omega))
      have hge := grownCap_ge w (n + k) cap 5
      have hcm2 : grownCap w (n + k) cap 5 ≤ maxLen := grownCap_le_maxLen w (n + k) cap 5 (by unfold maxLen; omega)
      refine ⟨_, _, hr, ⟨hlen, .inr ⟨w.heap.size, _, _, rfl, hbase, heap_alloc_new w.drew _, hge, hcm2, ?_, ?_⟩⟩, ⟨rfl, rfl, rfl, by simp, fun j hj _ => Below.heap_alloc w.drew _ j hj⟩⟩
      · rw [zeroCells_bytes, zeroCells_bytes]
        simp [bcs_length, nought_length, hx]
        omega
      · rw [zeroCells_bytes, zeroCells_bytes, ← hlen]
        have e : ((bcs xs).toArray ++ (bcs (nought k)).toArray ++ (bcs (nought (grownCap w (n + k) cap 5 - (n + k)))).toArray).toList = bcs (xs ++ nought k) ++ bcs (nought (grownCap w (n + k) cap 5 - (n + k))) := by simp [bcs_append]
        rw [e]
        exact List.take_left

/-- an entry lies here -/
def EntAt (w : World) (b o : Nat) (e : Nat × List UInt8) : Prop :=
  w.cell? ⟨b, o, none⟩ = some (.int .i64 (e.1 : Int)) ∧ ∃ g q c, w.cell? ⟨b, o + 1, none⟩ = some (.slice (some ⟨g, q, none⟩) 64 c) ∧ 64 ≤ c ∧ c ≤ 9223372036854775807 ∧ e.2.length = 64 ∧ Rd w (some ⟨g, q, none⟩) e.2
/-- entries, one behind the other -/
def Ents (w : World) (a : Option Addr) (es : List (Nat × List UInt8)) : Prop :=
  0 < es.length → ∃ b o, a = some ⟨b, o, none⟩ ∧ ∀ j (h : j < es.length), EntAt w b (o + j * 2) es[j]
theorem EntAt.below {w w' : World} {b o : Nat} {e : Nat × List UInt8} (h : EntAt w b o e) (hb : Below w.heap.size w w') : EntAt w' b o e := by
  obtain ⟨h1, g, q, c, h2, h3, h4, h5, h6⟩ := h
  have hlt : b < w.heap.size := block_lt_of_cell h1
  exact ⟨(hb.cell (p := ⟨b, o, none⟩) hlt).trans h1, g, q, c, (hb.cell (p := ⟨b, o + 1, none⟩) hlt).trans h2, h3, h4, h5, h6.below hb (Nat.le_refl _)⟩
theorem Ents.below {w w' : World} {a : Option Addr} {es : List (Nat × List UInt8)} (h : Ents w a es) (hb : Below w.heap.size w w') : Ents w' a es := fun hp => by
  obtain ⟨b, o, ha, hc⟩ := h hp
  exact ⟨b, o, ha, fun j hj => (hc j hj).below hb⟩
/-- a block of one's own, as a row -/
theorem Own.owns {w : World} {g B : Nat} {ys : List UInt8} (h : Own w g ys) (hB : B ≤ g) (hm : ys.length ≤ maxLen) : w.ownsRow B 5 1 (.slice (some ⟨g, 0, none⟩) ys.length ys.length) ys.length (bcs ys) :=
  ⟨by rw [bcs_length]; omega, .inr ⟨g, ys.length, (bcs ys).toArray, rfl, hB, h, Nat.le_refl _, hm, by simp [bcs_length], List.take_of_length_le (by simp [bcs_length])⟩⟩

/-- entries as bytes -/
def entsB (es : List (Nat × List UInt8)) : List UInt8 := es.flatMap fun e => toBE 2 e.1 ++ e.2
theorem entsB_length (es : List (Nat × List UInt8)) (h : ∀ e ∈ es, e.2.length = 64) : (entsB es).length = es.length * 66 := by
  induction es with
  | nil => rfl
  | cons e es ih =>
    have h1 := ih (fun x hx => h x (List.mem_cons_of_mem _ hx))
    have h2 := h e (List.mem_cons_self)
    simp only [entsB, List.flatMap_cons, List.length_append, toBE_length, List.length_cons] at h1 ⊢
    omega
theorem entsB_take (es : List (Nat × List UInt8)) (k : Nat) (h : k < es.length) : entsB (es.take (k + 1)) = entsB (es.take k) ++ toBE 2 es[k].1 ++ es[k].2 := by
  unfold entsB
  rw [List.take_succ_eq_append_getElem h, List.flatMap_append]
  simp only [List.flatMap_cons, List.flatMap_nil, List.append_nil, List.append_assoc]
/-- what stands behind the sum -/
def restB (es : List (Nat × List UInt8)) : List UInt8 := entsB es ++ nought (4026 - es.length * 66)
end Go.Proofs.Ytdkaacjeogifdaa.Rc

/-
  Plain facts on the register of a check sum: it is linear over bits, and forgets nothing; nothing of the program is named here.
-/
namespace Go.Proofs.Ytdkaacjeogifdaa.Rc

/-- What is taken xor the register. -/
def taps : Nat := 2197175160

/-- One turn of a register whose lowest bit has been held against the byte's. -/
def turn (x : Nat) : Nat := if x % 2 = 1 then (x / 2) ^^^ taps else x / 2

/-- One turn with a bit. -/
def step (r b : Nat) : Nat := if r % 2 = b then r / 2 else (r / 2) ^^^ taps

/-- The register behind the first i bits of a byte. -/
def steps (r c : Nat) : Nat → Nat
  | 0 => r
  | i + 1 => step (steps r c i) (c / 2 ^ i % 2)

/-- The register behind bytes. -/
def reg (r : Nat) (xs : List UInt8) : Nat := xs.foldl (fun r c => steps r c.toNat 8) r

/-- A sum that goes on behind another one. -/
def crc (s : Nat) (xs : List UInt8) : Nat := 4294967295 - reg (4294967295 - s) xs

theorem xor_lt {a b : Nat} (ha : a < 4294967296) (hb : b < 4294967296) : a ^^^ b < 4294967296 := Nat.xor_lt_two_pow (n := 32) ha hb

theorem turn_lt {x : Nat} (h : x < 4294967296) : turn x < 4294967296 := by
  unfold turn
  split
  · exact xor_lt (by omega) (by decide)
  · omega

theorem step_lt {r : Nat} (b : Nat) (h : r < 4294967296) : step r b < 4294967296 := by
  unfold step
  split
  · omega
  · exact xor_lt (by omega) (by decide)

theorem steps_lt {r : Nat} (c : Nat) (h : r < 4294967296) (i : Nat) : steps r c i < 4294967296 := by
  induction i with
  | zero => exact h
  | succ i ih => exact step_lt _ ih

theorem reg_nil (r : Nat) : reg r [] = r := rfl
theorem reg_cons (r : Nat) (c : UInt8) (xs : List UInt8) : reg r (c :: xs) = reg (steps r c.toNat 8) xs := by unfold reg; rw [List.foldl_cons]
theorem reg_append (r : Nat) (xs ys : List UInt8) : reg r (xs ++ ys) = reg (reg r xs) ys := by simp [reg, List.foldl_append]
theorem reg_lt (xs : List UInt8) {r : Nat} (h : r < 4294967296) : reg r xs < 4294967296 := by
  induction xs generalizing r with
  | nil => rw [reg_nil]; exact h
  | cons c xs ih => rw [reg_cons]; exact ih (steps_lt _ h 8)

theorem reg_succ (r : Nat) (xs : List UInt8) (k : Nat) (h : k < xs.length) : reg r (xs.take (k + 1)) = steps (reg r (xs.take k)) xs[k].toNat 8 := by
  rw [List.take_succ_eq_append_getElem h, reg_append, reg_cons, reg_nil]

theorem xor_half (a b : Nat) : (a ^^^ b) / 2 = a / 2 ^^^ b / 2 := by
  have := Nat.shiftRight_xor_distrib (a := a) (b := b) (i := 1)
  simpa [Nat.shiftRight_eq_div_pow] using this

theorem xor_low (a b : Nat) : (a ^^^ b) % 2 = (a % 2 + b % 2) % 2 := by
  have h := Nat.testBit_xor a b 0
  simp only [Nat.testBit_zero] at h
  have ha : a % 2 = 0 ∨ a % 2 = 1 := by omega
  have hb : b % 2 = 0 ∨ b % 2 = 1 := by omega
  have hc : (a ^^^ b) % 2 = 0 ∨ (a ^^^ b) % 2 = 1 := by omega
  rcases ha with ha | ha <;> rcases hb with hb | hb <;> rcases hc with hc | hc <;> simp [ha, hb, hc] at h ⊢

/-- The turn is linear. -/
theorem turn_xor (x y : Nat) : turn (x ^^^ y) = turn x ^^^ turn y := by
  have hx : x % 2 = 0 ∨ x % 2 = 1 := by omega
  have hy : y % 2 = 0 ∨ y % 2 = 1 := by omega
  unfold turn
  rw [xor_low, xor_half]
  rcases hx with hx | hx <;> rcases hy with hy | hy <;> simp only [hx, hy]
  · rfl
  · simp only [if_true, Nat.zero_ne_one, if_false]
    rw [Nat.xor_assoc]
  · simp only [if_true, Nat.zero_ne_one, if_false]
    rw [Nat.xor_assoc, Nat.xor_assoc, Nat.xor_comm taps]
  · simp only [if_true, Nat.reduceAdd, Nat.reduceMod, Nat.zero_ne_one, if_false]
    rw [Nat.xor_assoc, ← Nat.xor_assoc taps, Nat.xor_comm taps, Nat.xor_assoc, Nat.xor_self, Nat.xor_zero]

theorem turn_zero : turn 0 = 0 := rfl

/-- A turn forgets nothing. -/
theorem turn_eq_zero {x : Nat} (h : x < 4294967296) (e : turn x = 0) : x = 0 := by
  unfold turn at e
  split at e
  · exfalso
    have h1 : (x / 2 ^^^ taps).testBit 31 = true := by
      rw [Nat.testBit_xor]
      have ha : (x / 2).testBit 31 = false := Nat.testBit_lt_two_pow (by omega)
      rw [ha]
      decide
    rw [e] at h1
    simp at h1
  · omega

/-- So many turns. -/
def turns : Nat → Nat → Nat
  | 0, x => x
  | n + 1, x => turn (turns n x)

theorem turns_lt {x : Nat} (h : x < 4294967296) : ∀ n, turns n x < 4294967296
  | 0 => h
  | n + 1 => turn_lt (turns_lt h n)
theorem turns_xor (x y : Nat) : ∀ n, turns n (x ^^^ y) = turns n x ^^^ turns n y
  | 0 => rfl
  | n + 1 => by rw [turns, turns_xor x y n, turn_xor]; rfl
theorem turns_add (x m : Nat) : ∀ n, turns (m + n) x = turns n (turns m x)
  | 0 => rfl
  | n + 1 => by rw [← Nat.add_assoc, turns, turns_add x m n]; rfl
theorem turns_eq_zero {x : Nat} (h : x < 4294967296) : ∀ n, turns n x = 0 → x = 0
  | 0, e => e
  | n + 1, e => turns_eq_zero h n (turn_eq_zero (turns_lt h n) e)

theorem xor_eq_zero {a b : Nat} (h : a ^^^ b = 0) : a = b := by
  have : a ^^^ b ^^^ b = b := by rw [h, Nat.zero_xor]
  rwa [Nat.xor_assoc, Nat.xor_self, Nat.xor_zero] at this

theorem turns_inj {x y : Nat} (hx : x < 4294967296) (hy : y < 4294967296) (n : Nat) (h : turns n x = turns n y) : x = y := by
  apply xor_eq_zero
  apply turns_eq_zero (xor_lt hx hy) n
  rw [turns_xor, h, Nat.xor_self]

/-- A bit that stands so high falls out behind so many turns. -/
theorem turns_high : ∀ (n d : Nat), turns n (d * 2 ^ n) = d
  | 0, d => by simp [turns]
  | n + 1, d => by
    have e : d * 2 ^ (n + 1) = (d * 2) * 2 ^ n := by rw [Nat.pow_succ, Nat.mul_assoc, Nat.mul_comm 2]
    rw [e, turns, turns_high n (d * 2)]
    unfold turn
    rw [if_neg (by omega)]
    omega

theorem step_turn (r b : Nat) (hb : b < 2) : step r b = turn (r ^^^ b) := by
  unfold step turn
  rw [xor_low, xor_half, show b / 2 = 0 by omega, Nat.xor_zero]
  by_cases h : r % 2 = b
  · rw [if_pos h, if_neg (by omega)]
  · rw [if_neg h, if_pos (by omega)]

theorem low_split (c i : Nat) : c % 2 ^ (i + 1) = c % 2 ^ i ^^^ (c / 2 ^ i % 2) * 2 ^ i := by
  rw [Nat.pow_succ, Nat.mod_mul]
  apply Nat.eq_of_testBit_eq
  intro j
  rw [Nat.testBit_xor, Nat.mul_comm (c / 2 ^ i % 2), Nat.add_comm, Nat.testBit_two_pow_mul_add _ (Nat.mod_lt _ (Nat.two_pow_pos i)), Nat.testBit_two_pow_mul]
  by_cases h : j < i
  · simp [h, Nat.not_le.2 h]
  · have h2 : i ≤ j := by omega
    have h3 : (c % 2 ^ i).testBit j = false := Nat.testBit_lt_two_pow (Nat.lt_of_lt_of_le (Nat.mod_lt _ (Nat.two_pow_pos i)) (Nat.pow_le_pow_right (by omega) h2))
    simp [h, h2, h3]

theorem steps_turns (r c : Nat) : ∀ i, steps r c i = turns i (r ^^^ c % 2 ^ i)
  | 0 => by simp [steps, turns, Nat.mod_one]
  | i + 1 => by
    rw [steps, steps_turns r c i, step_turn _ _ (by omega), low_split, ← Nat.xor_assoc, turns, turns_xor _ (c / 2 ^ i % 2 * 2 ^ i), turns_high]

theorem byte_turns (r : Nat) (c : UInt8) : steps r c.toNat 8 = turns 8 (r ^^^ c.toNat) := by
  rw [steps_turns]
  have := c.toNat_lt
  rw [Nat.mod_eq_of_lt (by omega)]

/-- Three registers and three lists held against each other by xor. -/
theorem reg_xor3 : ∀ (n : Nat) (a b c : List UInt8) (r s t : Nat), a.length = n → b.length = n → c.length = n →
    reg (r ^^^ s ^^^ t) (List.zipWith (· ^^^ ·) (List.zipWith (· ^^^ ·) a b) c) = reg r a ^^^ reg s b ^^^ reg t c
  | 0, a, b, c, r, s, t, ha, hb, hc => by
    rw [List.eq_nil_of_length_eq_zero ha, List.eq_nil_of_length_eq_zero hb, List.eq_nil_of_length_eq_zero hc]
    rfl
  | n + 1, a, b, c, r, s, t, ha, hb, hc => by
    match a, b, c, ha, hb, hc with
    | x :: a, y :: b, z :: c, ha, hb, hc =>
      simp only [List.zipWith_cons_cons, reg_cons]
      rw [← reg_xor3 n a b c _ _ _ (by simpa using ha) (by simpa using hb) (by simpa using hc)]
      congr 1
      rw [byte_turns, byte_turns, byte_turns, byte_turns, ← turns_xor, ← turns_xor, UInt8.toNat_xor, UInt8.toNat_xor]
      congr 1
      ac_rfl

/-- The number of bytes, the lowest first. -/
def leNat : List UInt8 → Nat
  | [] => 0
  | c :: xs => c.toNat ^^^ leNat xs * 2 ^ 8

theorem leNat_lt : ∀ (xs : List UInt8), leNat xs < 2 ^ (8 * xs.length)
  | [] => by decide
  | c :: xs => by
    have h := leNat_lt xs
    have hc := c.toNat_lt
    apply Nat.xor_lt_two_pow
    · exact Nat.lt_of_lt_of_le hc (Nat.pow_le_pow_right (by omega) (by simp; omega))
    · have e : 2 ^ (8 * (c :: xs).length) = 2 ^ (8 * xs.length) * 2 ^ 8 := by rw [← Nat.pow_add]; congr 1
      rw [e]
      exact (Nat.mul_lt_mul_right (by decide)).2 h

theorem leNat_inj : ∀ (xs ys : List UInt8), xs.length = ys.length → leNat xs = leNat ys → xs = ys
  | [], [], _, _ => rfl
  | x :: xs, y :: ys, hl, h => by
    have hx := x.toNat_lt
    have hy := y.toNat_lt
    have k : ∀ (z : UInt8) (n : Nat), (z.toNat ^^^ n * 2 ^ 8) % 2 ^ 8 = z.toNat ∧ (z.toNat ^^^ n * 2 ^ 8) / 2 ^ 8 = n := fun z n => by
      have hz := z.toNat_lt
      constructor
      · rw [Nat.xor_mod_two_pow]
        simp
      · have := Nat.shiftRight_xor_distrib (a := z.toNat) (b := n * 2 ^ 8) (i := 8)
        rw [Nat.shiftRight_eq_div_pow, Nat.shiftRight_eq_div_pow, Nat.shiftRight_eq_div_pow] at this
        rw [this, Nat.mul_div_cancel _ (by decide), Nat.div_eq_of_lt hz, Nat.zero_xor]
    unfold leNat at h
    have e1 : x.toNat = y.toNat := by rw [← (k x (leNat xs)).1, h, (k y (leNat ys)).1]
    have e2 : leNat xs = leNat ys := by rw [← (k x (leNat xs)).2, h, (k y (leNat ys)).2]
    rw [UInt8.toNat_inj.1 e1, leNat_inj xs ys (by simpa using hl) e2]

theorem reg_le : ∀ (xs : List UInt8) (r : Nat), reg r xs = turns (8 * xs.length) (r ^^^ leNat xs)
  | [], r => by simp [reg, leNat, turns]
  | c :: xs, r => by
    rw [reg_cons, reg_le xs, byte_turns]
    have e : 8 * (c :: xs).length = 8 + 8 * xs.length := by simp; omega
    rw [e, turns_add]
    congr 1
    rw [leNat, ← Nat.xor_assoc, turns_xor _ (leNat xs * 2 ^ 8), turns_high]

/-- Bytes of one list alone tell the register. -/
theorem reg_inj_start (xs : List UInt8) {r s : Nat} (hr : r < 4294967296) (hs : s < 4294967296) (h : reg r xs = reg s xs) : r = s := by
  rw [reg_le, reg_le, turns_xor, turns_xor] at h
  have h2 : turns (8 * xs.length) r = turns (8 * xs.length) s := by
    apply xor_eq_zero
    have : turns (8 * xs.length) r ^^^ turns (8 * xs.length) (leNat xs) ^^^ (turns (8 * xs.length) s ^^^ turns (8 * xs.length) (leNat xs)) = 0 := by rw [h, Nat.xor_self]
    rw [← this]
    generalize turns (8 * xs.length) r = x
    generalize turns (8 * xs.length) s = y
    generalize turns (8 * xs.length) (leNat xs) = z
    have e : x ^^^ z ^^^ (y ^^^ z) = x ^^^ y ^^^ (z ^^^ z) := by ac_rfl
    rw [e, Nat.xor_self, Nat.xor_zero]
  exact turns_inj hr hs _ h2

/-- Up to four bytes next to each other tell. -/
theorem reg_burst (pre ys zs post : List UInt8) (r : Nat) (hr : r < 4294967296) (hl : ys.length = zs.length) (h4 : ys.length ≤ 4) (h : reg r (pre ++ (ys ++ post)) = reg r (pre ++ (zs ++ post))) : ys = zs := by
  rw [reg_append, reg_append, reg_append, reg_append] at h
  have hR := reg_lt pre hr
  have h1 := reg_inj_start post (reg_lt ys hR) (reg_lt zs hR) h
  have b1 : leNat ys < 4294967296 := Nat.lt_of_lt_of_le (leNat_lt ys) (Nat.pow_le_pow_right (n := 2) (j := 32) (by omega) (by omega))
  have b2 : leNat zs < 4294967296 := Nat.lt_of_lt_of_le (leNat_lt zs) (Nat.pow_le_pow_right (n := 2) (j := 32) (by omega) (by omega))
  rw [reg_le ys, reg_le zs, ← hl] at h1
  have h2 := turns_inj (xor_lt hR b1) (xor_lt hR b2) _ h1
  apply leNat_inj _ _ hl
  have : reg r pre ^^^ (reg r pre ^^^ leNat ys) = reg r pre ^^^ (reg r pre ^^^ leNat zs) := by rw [h2]
  rwa [← Nat.xor_assoc, ← Nat.xor_assoc, Nat.xor_self, Nat.zero_xor, Nat.zero_xor] at this

theorem crc_lt (s : Nat) (xs : List UInt8) : crc s xs < 4294967296 := by unfold crc; omega

theorem flip_flip {s : Nat} (h : s < 4294967296) : 4294967295 - (4294967295 - s) = s := by omega

/-- Sums go on behind one another. -/
theorem crc_append (s : Nat) (xs ys : List UInt8) : crc (crc s xs) ys = crc s (xs ++ ys) := by
  unfold crc
  have h := reg_lt xs (r := 4294967295 - s) (by omega)
  rw [flip_flip h, reg_append]

theorem crc_nil {s : Nat} (h : s < 4294967296) : crc s [] = s := by
  unfold crc
  rw [reg_nil, flip_flip h]

theorem flip_xor {s : Nat} (h : s < 4294967296) : 4294967295 - s = s ^^^ 4294967295 := by
  apply Nat.eq_of_testBit_eq
  intro i
  have e : 4294967295 - s = 2 ^ 32 - (s + 1) := by omega
  rw [e, Nat.testBit_two_pow_sub_succ h, Nat.testBit_xor, show (4294967295 : Nat) = 2 ^ 32 - 1 by rfl, Nat.testBit_two_pow_sub_one]
  by_cases hi : i < 32
  · simp [hi]
  · have : s.testBit i = false := Nat.testBit_lt_two_pow (Nat.lt_of_lt_of_le h (Nat.pow_le_pow_right (n := 2) (i := 32) (by omega) (by omega)))
    simp [hi, this]

/-- Three lists as long held against each other have their sums held so. -/
theorem crc_xor3 (n : Nat) (a b c : List UInt8) (ha : a.length = n) (hb : b.length = n) (hc : c.length = n) :
    crc 0 (List.zipWith (· ^^^ ·) (List.zipWith (· ^^^ ·) a b) c) = crc 0 a ^^^ crc 0 b ^^^ crc 0 c := by
  unfold crc
  have h := reg_xor3 n a b c 4294967295 4294967295 4294967295 ha hb hc
  rw [Nat.xor_self, Nat.zero_xor] at h
  have l1 := reg_lt a (r := 4294967295) (by omega)
  have l2 := reg_lt b (r := 4294967295) (by omega)
  have l3 := reg_lt c (r := 4294967295) (by omega)
  simp only [Nat.sub_zero]
  rw [h, flip_xor l1, flip_xor l2, flip_xor l3, flip_xor (xor_lt (xor_lt l1 l2) l3)]
  generalize reg 4294967295 a = x
  generalize reg 4294967295 b = y
  generalize reg 4294967295 c = z
  have e : x ^^^ 4294967295 ^^^ (y ^^^ 4294967295) ^^^ (z ^^^ 4294967295) = (x ^^^ y ^^^ z ^^^ 4294967295) ^^^ (4294967295 ^^^ 4294967295) := by ac_rfl
  rw [e, Nat.xor_self, Nat.xor_zero]

theorem crc_burst (pre ys zs post : List UInt8) (hl : ys.length = zs.length) (h4 : ys.length ≤ 4) (h : crc 0 (pre ++ (ys ++ post)) = crc 0 (pre ++ (zs ++ post))) : ys = zs := by
  have l1 := reg_lt (pre ++ (ys ++ post)) (r := 4294967295) (by omega)
  have l2 := reg_lt (pre ++ (zs ++ post)) (r := 4294967295) (by omega)
  exact reg_burst pre ys zs post 4294967295 (by omega) hl h4 (by unfold crc at h; simp only [Nat.sub_zero] at h; omega)

end Go.Proofs.Ytdkaacjeogifdaa.Rc

/-
  What the layer's calls do: the closure's turn, More, Crc; each told by the register of the plain text.
-/
namespace Go.Proofs.Ytdkaacjeogifdaa.Rc
open Go.RowKit

/-- One variable of 32 bits in a block of its own. -/
def One (w : World) (g r : Nat) : Prop := w.heap[g]? = some (.cells #[.int .u32 (r : Int)] 102 (0, 0))

theorem One.cell {w : World} {g r : Nat} (h : One w g r) : w.cell? ⟨g, 0, none⟩ = some (.int .u32 (r : Int)) := cell_of_one h
theorem One.frozen {w : World} {g r : Nat} (h : One w g r) : w.frozen? ⟨g, 0, none⟩ = false := free_of_one h
theorem One.store {w : World} {g r : Nat} (h : One w g r) (s : Nat) : One (w.setCell ⟨g, 0, none⟩ (.int .u32 (s : Int))) g s := one_setCell h

theorem xor_u32 (a b : Nat) (ha : a < 4294967296) (hb : b < 4294967296) : bits .xor .u32 (a : Int) (b : Int) = ((a ^^^ b : Nat) : Int) := by
  have hx : a ^^^ b < 2 ^ 32 := Nat.xor_lt_two_pow (by omega) (by omega)
  have h1 : (BitVec.ofInt 32 (a : Int)).toNat = a := by
    rw [BitVec.ofInt_natCast, BitVec.toNat_ofNat]; exact Nat.mod_eq_of_lt (by omega)
  have h2 : (BitVec.ofInt 32 (b : Int)).toNat = b := by
    rw [BitVec.ofInt_natCast, BitVec.toNat_ofNat]; exact Nat.mod_eq_of_lt (by omega)
  show IntKind.u32.wrap ((BitVec.ofInt 32 (a : Int) ^^^ BitVec.ofInt 32 (b : Int)).toNat : Int) = _
  rw [BitVec.toNat_xor, h1, h2, IntKind.wrap_u32]
  omega

theorem xor_u8 (a b : Nat) (ha : a < 256) (hb : b < 256) : bits .xor .u8 (a : Int) (b : Int) = ((a ^^^ b : Nat) : Int) := by
  have hx : a ^^^ b < 2 ^ 8 := Nat.xor_lt_two_pow (by omega) (by omega)
  have h1 : (BitVec.ofInt 8 (a : Int)).toNat = a := by
    rw [BitVec.ofInt_natCast, BitVec.toNat_ofNat]; exact Nat.mod_eq_of_lt (by omega)
  have h2 : (BitVec.ofInt 8 (b : Int)).toNat = b := by
    rw [BitVec.ofInt_natCast, BitVec.toNat_ofNat]; exact Nat.mod_eq_of_lt (by omega)
  show IntKind.u8.wrap ((BitVec.ofInt 8 (a : Int) ^^^ BitVec.ofInt 8 (b : Int)).toNat : Int) = _
  rw [BitVec.toNat_xor, h1, h2, IntKind.wrap_u8]
  omega

theorem and_one (a : Nat) (ha : a < 4294967296) : bits .and .u32 (a : Int) 1 = ((a % 2 : Nat) : Int) := by
  have h := bits_mask .u32 32 (by decide) (fun n h0 h1 => by rw [IntKind.wrap_u32]; omega) 1 (by decide) (a : Int) (by omega) (by omega)
  simpa using h

theorem of_not_bne {a b : Int} (h : (a != b) = false) : a = b := by simpa using h

theorem not_u32 (s : Nat) (hs : s < 4294967296) : bits .xor .u32 IntKind.u32.max (s : Int) = ((4294967295 - s : Nat) : Int) := by
  have e : IntKind.u32.max = ((4294967295 : Nat) : Int) := by decide
  rw [e, xor_u32 _ _ (by decide) hs, Nat.xor_comm, ← flip_xor hs]

theorem turn_any (g r b : Nat) (w : World) (hr : r < 4294967296) (h : One w g r) :
    Calls Try.prog 87 #[.int .u32 b, .pointer (some ⟨g, 0, none⟩)] w fun e w' => e = .returned (.tuple #[]) ∧ One w' g (step r b) ∧ w.grownBy w' (some g) := by
  have hc := h.cell
  have hf := h.frozen
  have ha := and_one r hr
  have hx : bits .xor .u32 ((r : Int) / 2) 2197175160 = ((r / 2 ^^^ taps : Nat) : Int) := xor_u32 (r / 2) taps (by omega) (by decide)
  have Ha : Hid _ := ha
  have Hx : Hid _ := hx
  clear ha hx
  go_enter Try.func87, Try.ntmps87
  go_wp2
  · go_end0
    rename_i ht
    rw [Ha.out] at ht
    have hne : r % 2 ≠ b := by
      intro e
      rw [e] at ht
      simp at ht
    rw [Hx.out]
    unfold step
    rw [if_neg hne]
    exact ⟨rfl, (h.store (r / 2)).store _, grown_trans (grown_store _ _ _ _) (grown_store _ _ _ _)⟩
  · go_end0
    rename_i ht
    rw [Ha.out] at ht
    have heq : r % 2 = b := by
      have := of_not_bne ht
      omega
    unfold step
    rw [if_pos heq]
    exact ⟨rfl, h.store (r / 2), grown_store _ _ _ _⟩

theorem turn_at (g r b : Nat) (V : Int) (w : World) (hV : V = (b : Int)) (hr : r < 4294967296) (h : One w g r) :
    Calls Try.prog 87 #[.int .u32 V, .pointer (some ⟨g, 0, none⟩)] w fun e w' => e = .returned (.tuple #[]) ∧ One w' g (step r b) ∧ w.grownBy w' (some g) := by
  subst hV
  exact turn_any g r b w hr h

theorem byte_bit (c : UInt8) (i : Nat) : bits .and .u32 ((c.toNat : Int) % 4294967296 / 2 ^ i) 1 = ((c.toNat / 2 ^ i % 2 : Nat) : Int) := by
  have e : (c.toNat : Int) % 4294967296 = c.toNat := by have := u8_lt c; omega
  rw [e]
  have h := and_one (c.toNat / 2 ^ i) (by have := u8_lt c; have := Nat.div_le_self c.toNat (2 ^ i); omega)
  rw [← h]
  congr 1

theorem more_in (b o cap n : Nat) (xs : List UInt8) (s : Nat) (w : World) (hl : xs.length = n) (hn : n ≤ 9223372036854775807) (hs : s < 4294967296)
    (hc : ∀ j, j < n → w.cell? ⟨b, o + j, none⟩ = some (.int .u8 ((xs.getD j 0).toNat : Int))) (hb : b < w.heap.size) :
    Calls Try.prog 81 #[.int .u32 s, .slice (some ⟨b, o, none⟩) n cap] w fun e w' => e = .returned (.int .u32 (crc s xs : Nat)) ∧ Below w.heap.size w w' := by
  have Hl : Hid (xs.length = n) := hl
  clear hl
  have Hs : Hid _ := not_u32 s hs
  go_enter Try.func81, Try.ntmps81
  go_wp2_with fail
  rw [Hs.out]
  go_loopw [15] (fun i wr => ∃ k : Nat, k ≤ n ∧ i = .int .i64 k ∧ One wr w.heap.size (reg (4294967295 - s) (xs.take k)) ∧ Below w.heap.size w wr) (fun i _ => n - (intOf i).toNat)
  case atStart => exact ⟨0, Nat.zero_le _, rfl, heap_alloc_new w _, (Below.refl _ _).alloc (Nat.le_refl _) _⟩
  case round =>
    obtain ⟨k, hk, rfl, hone, hbel⟩ := hrel
    by_cases hlt : k < n
    · obtain ⟨c, hcc⟩ : ∃ c, xs.getD k 0 = c := ⟨_, rfl⟩
      have hcx : wr.cell? ⟨b, o + k, none⟩ = some (.int .u8 (c.toNat : Int)) := by rw [← hcc]; exact (hbel.cell (by exact hb)).trans (hc k hlt)
      obtain ⟨R, hR⟩ : ∃ R, reg (4294967295 - s) (xs.take k) = R := ⟨_, rfl⟩
      rw [hR] at hone
      have HR : Hid _ := hR
      have Hcc : Hid _ := hcc
      clear hR hcc
      have hRl : R < 4294967296 := by rw [← HR.out]; exact reg_lt _ (by omega)
      go_wp2_with fail
      go_loopw [19] (fun i wq => ∃ j : Nat, j ≤ 8 ∧ i = .int .i64 j ∧ One wq w.heap.size (steps R c.toNat j) ∧ Below w.heap.size w wq) (fun i _ => 8 - (intOf i).toNat)
      case atStart => exact ⟨0, Nat.zero_le _, rfl, hone, hbel⟩
      case round =>
        obtain ⟨j, hj, rfl, hone2, hbel2⟩ := hrel
        by_cases hlt2 : j < 8
        · go_wp2_with fail
          refine (turn_at w.heap.size (steps R c.toNat j) (c.toNat / 2 ^ j % 2) _ wr (byte_bit c j) (steps_lt _ hRl j) hone2).mono ?_
          rintro e w1 ⟨rfl, hone3, hgr⟩
          have hbel3 : Below w.heap.size w w1 := hbel2.grown hgr hbel2.size (fun k hk => by simp at hk; omega)
          clear hgr hone2 hbel2
          go_wp2
          go_roundw
          case rel => exact ⟨j + 1, by omega, by go_num, hone3, hbel3⟩
          case measure => simp [intOf]; omega
        · obtain rfl : j = 8 := by omega
          go_wp2
          go_roundw
          case rel =>
            refine ⟨k + 1, by omega, by go_num, ?_, hbel2⟩
            have hk' : k < xs.length := by rw [Hl.out]; exact hlt
            have hcc := Hcc.out
            rw [reg_succ _ _ _ hk', HR.out]
            simp only [List.getD, List.getElem?_eq_getElem hk', Option.getD_some] at hcc
            rw [hcc]
            exact hone2
          case measure => simp [intOf]; omega
    · obtain rfl : k = n := by omega
      have hce := hone.cell
      go_wp2
      go_ret
      refine ⟨?_, hbel⟩
      rw [List.take_of_length_le (by rw [Hl.out]; exact Nat.le_refl _), not_u32 _ (reg_lt _ (by omega))]
      rfl

theorem more_none (a : Option Addr) (cap : Nat) (s : Nat) (w : World) (hs : s < 4294967296) :
    Calls Try.prog 81 #[.int .u32 s, .slice a 0 cap] w fun e w' => e = .returned (.int .u32 (crc s [] : Nat)) ∧ Below w.heap.size w w' := by
  have Hs : Hid _ := not_u32 s hs
  have Ht : Hid _ := not_u32 (4294967295 - s) (by omega)
  go_enter Try.func81, Try.ntmps81
  go_wp2_with fail
  rw [Hs.out]
  refine wp_loop_rounds 1 ?_
  rw [rounds_succ]
  go_wp2
  go_ret
  rw [Ht.out]
  exact ⟨rfl, (Below.refl _ _).alloc (Nat.le_refl _) _⟩

/-- More: the sum that goes on behind another one. -/
theorem more_at (cap n : Nat) (a : Option Addr) (xs : List UInt8) (s : Nat) (S : Int) (w : World) (hS : S = (s : Int)) (hl : xs.length = n) (hn : n ≤ 9223372036854775807) (hs : s < 4294967296) (hr : Rd w a xs) :
    Calls Try.prog 81 #[.int .u32 S, .slice a n cap] w fun e w' => e = .returned (.int .u32 (crc s xs : Nat)) ∧ Below w.heap.size w w' := by
  subst hS
  by_cases h0 : 0 < n
  · obtain ⟨b, o, rfl, hc⟩ := hr (by omega)
    refine more_in b o cap n xs s w hl hn hs (fun j hj => ?_) (block_lt_of_cell (hc 0 (by omega)))
    rw [hc j (by omega)]
    simp [List.getD, List.getElem?_eq_getElem (show j < xs.length by omega)]
  · obtain rfl : n = 0 := by omega
    obtain rfl : xs = [] := List.eq_nil_of_length_eq_zero hl
    exact more_none a cap s w hs

/-- Crc: the remainder. -/
theorem crc_at (cap n : Nat) (a : Option Addr) (xs : List UInt8) (w : World) (hl : xs.length = n) (hn : n ≤ 9223372036854775807) (hr : Rd w a xs) :
    Calls Try.prog 72 #[.slice a n cap] w fun e w' => e = .returned (.int .u32 (crc 0 xs : Nat)) ∧ Below w.heap.size w w' := by
  have Hl : Hid _ := hl
  clear hl
  go_enter Try.func72, Try.ntmps72
  go_wp2_with (go_at_call 81; refine (more_at cap n a xs 0 0 w rfl Hl.out hn (by omega) hr).mono ?_; rintro e w1 ⟨rfl, hb⟩)
  go_ret
  exact ⟨rfl, hb⟩

theorem crc_digits : crc 0 [49, 50, 51, 52, 53, 54, 55, 56, 57] = 3808858755 := by decide +kernel

/-- Bytes of a literal text lie in a new block, whose end is marked. -/
theorem rd_marked (w : World) (fr : Nat × Nat) (xs : List UInt8) : Rd (w.alloc (.cells (bcs xs).toArray 5 fr)) (some ⟨w.heap.size, 0, none⟩) xs := fun _ => ⟨w.heap.size, 0, rfl, fun j hj => by
  rw [Nat.zero_add, cell_of_row _ w.heap.size j _ 5 fr (heap_alloc_new w _)]
  simpa using bcs_getElem? xs j hj⟩

end Go.Proofs.Ytdkaacjeogifdaa.Rc

/-
  body: what stands behind the stamps of a head.
-/
namespace Go.Proofs.Ytdkaacjeogifdaa.Rc
open Go.RowKit

theorem restB_length (es : List (Nat × List UInt8)) (h : ∀ e ∈ es, e.2.length = 64) (hn : es.length ≤ 32) : (restB es).length = 4026 := by
  unfold restB
  rw [List.length_append, entsB_length es h, nought_length]
  omega
theorem wpList_append_ran {w : World} {ops : Array Oper} {rest : List Oper} {o : Oper} {a : Act} {Q : Exit → Act → World → Prop} (hgd : o.guard = none) (sl x : Operand) (t u : TypeId)
    (ho : o.op = .call { callee := .builtin .append, args := #[sl, x], argTypes := #[t, u] }) (v s v' : Value) (W : World) (hs : a.eval sl = v) (hx : a.eval x = s)
    (hrun : ∀ ty, (Builtin.append_ #[t, u] ty #[v, s]).run Try.prog w = .ok v' W) (h : wpList Try.prog ops Q rest (a.put o.dst v') W) : wpList Try.prog ops Q (o :: rest) a w := by
  refine wpList_plain hgd fun K hK => ?_
  unfold Oper.wp execOp
  simp only [ho, resolve, invoke, builtin, Sem.run_bind, Sem.run_pure, Result.andThen_ok, List.map_toArray, List.map_cons, List.map_nil, hs, hx, hrun]
  exact hK _ _ h


def bodyB (es : List (Nat × List UInt8)) : List UInt8 := toBE 2 es.length ++ toBE 4 (crc 0 (restB es)) ++ restB es
theorem bodyB_length (es : List (Nat × List UInt8)) (h : ∀ e ∈ es, e.2.length = 64) (hn : es.length ≤ 32) : (bodyB es).length = 4032 := by
  unfold bodyB
  simp [toBE_length, restB_length es h hn]

end Go.Proofs.Ytdkaacjeogifdaa.Rc

/-
  putHeading: what it does to memory.
-/
namespace Go.Proofs.Ytdkaacjeogifdaa.Rc
open Go.RowKit Go.Shelf
attribute [local go_sem] Oper.semAt_some

theorem make_run (n : Nat) (hn : n ≤ 281474976710656) (u : World) : (Instr.makeSlice 26 (.int .i64 (n : Int)) (.int .i64 (n : Int))).run Try.prog u =
    .ok (.slice (some ⟨u.heap.size, 0, none⟩) n n) (u.alloc (.cells (bcs (nought n)).toArray 5)) := by
  obtain ⟨i0, hi, hz0, hz1, hz2⟩ := info_parts info5
  have h := run_make (P := Try.prog) u 26 5 i0 (.int .u8 0) Try.underlying26 hi hz0 .i64 .i64 (n : Int) (n : Int) (by omega) (Int.le_refl _) (by rw [hz2]; omega) (by omega)
  have e : ((n : Int)).toNat = n := by omega
  rw [e, hz1, Nat.mul_one] at h
  have e2 : madeCells #[.int .u8 0] n = (bcs (nought n)).toArray := made_zero n
  rw [← e2]
  exact h


/-- copy, where what is copied may be longer than where it goes -/
theorem copy_row2 (g cap off dLen dCap : Nat) (a : Option Addr) (sLen sCap : Nat) (xs ys : List UInt8) (u : World) (hg : RowB u g cap ys) (hr : Rd u a xs) (hl : xs.length = Nat.min sLen dLen) (hfit : off + xs.length ≤ ys.length) (h0 : 0 < xs.length) :
    ∃ W, (∀ ty, (Builtin.copy_ #[26, 26] ty #[.slice (some ⟨g, off, none⟩) dLen dCap, .slice a sLen sCap]).run Try.prog u = .ok (goInt xs.length) W) ∧ RowB W g cap (over ys off xs) ∧ u.grownBy W (some g) := by
  obtain ⟨b, o, rfl, hc⟩ := hr h0
  obtain ⟨W, h1, h2, h3⟩ := copy_row g cap off xs.length dCap (some ⟨b, o, none⟩) sCap xs ys u hg hr (Nat.le_refl _) hfit h0
  obtain ⟨cur, hb, hlc, hm, hs, ht⟩ := hg
  have hsrc : ∀ j v, (bcs xs)[j]? = some v → u.cell? ((⟨b, o, none⟩ : Addr).add j) = some v := fun j v hj => by
    have hj' : j < xs.length := by have := (List.getElem?_eq_some_iff.1 hj).1; simpa [bcs_length] using this
    rw [bcs_getElem? xs j hj'] at hj
    rw [Addr.add_lit, hc j hj']
    exact hj
  have k1 := fun ty => run_copy_row (P := Try.prog) u 26 26 ty 5 g off dLen dCap ⟨b, o, none⟩ sLen sCap cur 5 (bcs xs) Try.underlying26 size5 hb (by rw [bcs_length]; exact hl) hsrc (by rw [bcs_length]; omega) (bcs_oneCell xs)
  have k2 := run_copy_row (P := Try.prog) u 26 26 0 5 g off xs.length dCap ⟨b, o, none⟩ xs.length sCap cur 5 (bcs xs) Try.underlying26 size5 hb (by rw [bcs_length]; exact (Nat.min_self _).symm) hsrc (by rw [bcs_length]; omega) (bcs_oneCell xs)
  refine ⟨W, fun ty => ?_, h2, h3⟩
  rw [k1 ty]
  rw [h1 0] at k2
  rw [bcs_length] at k2 ⊢
  exact k2.symm

/-- one sector of a head -/
def putStep (M BB : List UInt8) (st : List UInt8 × Nat) (x : Fin 8) : List UInt8 × Nat := (over (over st.1 (x.val * 512) M) (x.val * 512 + 8) ((BB.drop (st.2 * 504)).take 504), st.2 + 1)
def putTo (Z M BB : List UInt8) (pre : List (Fin 8)) : List UInt8 × Nat := pre.foldl (putStep M BB) (Z, 0)
theorem putTo_snoc (Z M BB : List UInt8) (pre : List (Fin 8)) (x : Fin 8) : putTo Z M BB (pre ++ [x]) = putStep M BB (putTo Z M BB pre) x := by simp [putTo]
theorem putTo_two (Z M BB : List UInt8) (pre : List (Fin 8)) : (putTo Z M BB pre).2 = pre.length := by
  unfold putTo
  have : ∀ (pre : List (Fin 8)) (st : List UInt8 × Nat), (pre.foldl (putStep M BB) st).2 = st.2 + pre.length := by
    intro pre
    induction pre with
    | nil => intro st; rfl
    | cons x pre ih =>
      intro st
      rw [List.foldl_cons, ih]
      simp [putStep]
      omega
  rw [this]
  simp
theorem putTo_length (Z M BB : List UInt8) (hl : Z.length = 4096) (hm : M.length = 8) (hb : BB.length = 4032) (pre : List (Fin 8)) (_ : pre.length ≤ 8) : (putTo Z M BB pre).1.length = 4096 := by
  unfold putTo
  have : ∀ (pre : List (Fin 8)) (st : List UInt8 × Nat), st.1.length = 4096 → (pre.foldl (putStep M BB) st).1.length = 4096 := by
    intro pre
    induction pre with
    | nil => intro st h; exact h
    | cons x pre ih =>
      intro st h
      have hx := x.isLt
      rw [List.foldl_cons]
      refine ih _ ?_
      unfold putStep
      have h1 : (over st.1 (x.val * 512) M).length = 4096 := by rw [over_length _ _ _ (by rw [h, hm]; omega)]; exact h
      rw [over_length _ _ _ (by rw [h1]; simp [hb]; omega)]
      exact h1
  exact this pre _ hl

/-- what stands in memory while the sectors come -/
def PutI (h g4 gr cv b8 b9 k1 : Nat) (M BB d : List UInt8) (k : Nat) (W : World) : Prop :=
  RowB W h 4096 d ∧ Box W b8 #[.slice (some ⟨g4, 0, none⟩) 8 8] 26 ∧ (∃ o', Box W b9 #[.slice (some ⟨gr, o', none⟩) (4032 - k * 504) (cv - k * 504)] 26 ∧ (k < 8 → o' = k * 504)) ∧ Own W g4 M ∧ RowB W gr cv BB ∧ ∃ cs, Box W k1 cs 26
theorem PutI.kept {h g4 gr cv b8 b9 k1 : Nat} {M BB d : List UInt8} {k : Nat} {A B : World} {row : Option Nat} (hI : PutI h g4 gr cv b8 b9 k1 M BB d k A) (hg : A.grownBy B row) (hr : ∀ r, row = some r → ∃ o : Obj, A.heap[r]? = some o ∧ o.isCells = false) : PutI h g4 gr cv b8 b9 k1 M BB d k B := by
  obtain ⟨a1, a2, ⟨o', a3, a4⟩, a5, a6, cs, a7⟩ := hI
  exact ⟨a1.kept hg hr, a2.kept hg hr, ⟨o', a3.kept hg hr, a4⟩, Box.kept a5 hg hr, a6.kept hg hr, cs, a7.kept hg hr⟩

theorem puth_round (w W : World) (h g4 gr cv b8 b9 k1 k : Nat) (M BB d : List UInt8) (x : Fin 8) (z8 : w.heap.size + 2 ≤ b8) (z9 : w.heap.size + 2 ≤ b9) (zk : b9 ≠ k1) (hne : b9 ≠ b8) (hk : k < 8) (hd : d.length = 4096) (hm : M.length = 8) (hb : BB.length = 4032) (hc1 : 4032 ≤ cv) (hc2 : cv ≤ 9223372036854775807)
    (hh : h = w.heap.size + 1) (zg : g4 ≠ h) (zr : gr ≠ h)
    (hI : PutI h g4 gr cv b8 b9 k1 M BB d k W) (hB : Below w.heap.size w W) :
    ∃ W5 W6 L C, (∀ ty, (Builtin.copy_ #[26, 26] ty #[.slice (some ⟨h, x.val * 512, none⟩) 512 512, .slice (some ⟨g4, 0, none⟩) 8 8]).run Try.prog W = .ok (goInt 8) W5) ∧
      (∀ ty, (Builtin.copy_ #[26, 26] ty #[.slice (some ⟨h, x.val * 512 + 8, none⟩) 504 504, .slice (some ⟨gr, k * 504, none⟩) L C]).run Try.prog W5.drew = .ok (goInt 504) W6) ∧
      W.cell? ⟨b8, 0, none⟩ = some (.slice (some ⟨g4, 0, none⟩) 8 8) ∧ W5.cell? ⟨b9, 0, none⟩ = some (.slice (some ⟨gr, k * 504, none⟩) L C) ∧ W6.cell? ⟨b9, 0, none⟩ = some (.slice (some ⟨gr, k * 504, none⟩) L C) ∧ W6.frozen? ⟨b9, 0, none⟩ = false ∧
      (504 ≤ L ∧ 504 ≤ C ∧ L ≤ C ∧ C ≤ 9223372036854775807 ∧ (k + 1 < 8 → C ≠ 504)) ∧
      ∀ v', (∃ o', v' = .slice (some ⟨gr, o', none⟩) (L - 504) (C - 504) ∧ (k + 1 < 8 → o' = (k + 1) * 504)) →
        KeepsOthers W (W6.setCell ⟨b9, 0, none⟩ v') ∧ CellK k1 W (W6.setCell ⟨b9, 0, none⟩ v') ∧ PutI h g4 gr cv b8 b9 k1 M BB (over (over d (x.val * 512) M) (x.val * 512 + 8) ((BB.drop (k * 504)).take 504)) (k + 1) (W6.setCell ⟨b9, 0, none⟩ v') ∧ Below w.heap.size w (W6.setCell ⟨b9, 0, none⟩ v') := by
  obtain ⟨a1, a2, ⟨o', a3, a4⟩, a5, a6, cs, a7⟩ := hI
  obtain rfl := a4 hk
  have hx8 := x.isLt
  have n8 : b8 ≠ h := by omega
  have n9 : b9 ≠ h := by omega
  have nk : k1 ≠ h := by
    obtain ⟨cur, q, _⟩ := a1
    exact fun e => q.ne a7 (by decide) e.symm
  obtain ⟨W5, r5, row5, g5⟩ := copy_row h 4096 (x.val * 512) 512 512 (some ⟨g4, 0, none⟩) 8 M d W a1 a5.rd (by omega) (by omega) (by omega)
  rw [hm] at r5
  have b5 : Box W5 b9 _ 26 := a3.grown g5 (fun e => n9 (by cases e; rfl))
  have t5 : ((BB.drop (k * 504)).take 504).length = 504 := by simp; omega
  have rd5 : Rd W5.drew (some ⟨gr, k * 504, none⟩) ((BB.drop (k * 504)).take 504) := by
    have := ((a6.grown g5 (fun e => zr (by cases e; rfl))).rd).part (k * 504) 504
    rw [Nat.zero_add] at this
    exact this
  have hl5 : (over d (x.val * 512) M).length = 4096 := by rw [over_length _ _ _ (by omega)]; exact hd
  obtain ⟨W6, r6, row6, g6⟩ := copy_row2 h 4096 (x.val * 512 + 8) 504 504 (some ⟨gr, k * 504, none⟩) (4032 - k * 504) (cv - k * 504) _ _ W5.drew (show RowB W5.drew h 4096 _ from row5) rd5 (by rw [t5]; exact (Nat.min_eq_right (by omega)).symm) (by omega) (by omega)
  rw [t5] at r6
  have b6 : Box W6 b9 _ 26 := Box.grown (w := W5.drew) b5 g6 (fun e => n9 (by cases e; rfl))
  have B5 := hB.grown g5 hB.size (fun j e => by cases e; omega)
  have B6 : Below w.heap.size w W6 := B5.drew.grown g6 B5.size (fun j e => by cases e; omega)
  have k5 : KeepsOthers W W5 := by obtain ⟨cur, q, _⟩ := a1; exact keeps_grown q g5
  have k6 : KeepsOthers W5.drew W6 := by obtain ⟨cur, q, _⟩ := row5; exact keeps_grown (A := W5.drew) q g6
  refine ⟨W5, W6, 4032 - k * 504, cv - k * 504, r5, r6, a2.cell 0, b5.cell 0, b6.cell 0, b6.frozen 0, ⟨by omega, by omega, by omega, by omega, by omega⟩, ?_⟩
  rintro v' ⟨o', rfl, ho⟩
  have st : ∀ {g : Nat} {cs : Array Value} {t : TypeId}, Box W g cs t → g ≠ h → g ≠ b9 → Box (W6.setCell ⟨b9, 0, none⟩ (.slice (some ⟨gr, o', none⟩) (4032 - k * 504 - 504) (cv - k * 504 - 504))) g cs t := fun hb h1 h2 =>
    (heap_setCell_other W6 ⟨b9, 0, none⟩ _ _ h2).trans (Box.grown (w := W5.drew) (show Box W5 _ _ _ from hb.grown g5 (fun e => h1 (Option.some.inj e).symm)) g6 (fun e => h1 (Option.some.inj e).symm))
  refine ⟨((k5.trans (KeepsOthers.drew W5)).trans k6).trans (KeepsOthers.setCell _ _ _), ?_, ⟨rowB_store row6 b6 (by decide) _, st a2 n8 (fun e => hne e.symm), ⟨o', ?_, ho⟩, st a5 zg (fun e => ?_), ?_, cs, st a7 nk (fun e => zk e.symm)⟩, B6.setCell (p := ⟨b9, 0, none⟩) (by show w.heap.size ≤ b9; omega) _⟩
  · exact ((st a7 nk (fun e => zk e.symm)).cell 0).trans (a7.cell 0).symm
  · have := b6.store 0 (.slice (some ⟨gr, o', none⟩) (4032 - k * 504 - 504) (cv - k * 504 - 504))
    have e1 : 4032 - (k + 1) * 504 = 4032 - k * 504 - 504 := by omega
    have e2 : cv - (k + 1) * 504 = cv - k * 504 - 504 := by omega
    rw [e1, e2]
    simpa using this
  · exact Box.ne (t := 5) (t' := 26) a5 a3 (by decide) e
  · obtain ⟨cur, q, rest⟩ := a6
    exact ⟨cur, st q zr (q.ne a3 (by decide)), rest⟩


theorem owns_below {w w' : World} {base e size n : Nat} {v : Value} {xs : List Value} (h : w.ownsRow base e size v n xs) (hb : Below w.heap.size w w') : w'.ownsRow base e size v n xs := by
  refine ⟨h.1, ?_⟩
  rcases h.2 with h | ⟨g, cap, cur, e1, e2, e3, e4⟩
  · exact .inl h
  · exact .inr ⟨g, cap, cur, e1, e2, (hb.block g (Array.getElem?_eq_some_iff.1 e3).1).trans e3, e4⟩
theorem owns_base {w : World} {base base' e size n : Nat} {v : Value} {xs : List Value} (h : w.ownsRow base e size v n xs) (hb : base' ≤ base) : w.ownsRow base' e size v n xs := by
  refine ⟨h.1, ?_⟩
  rcases h.2 with h | ⟨g, cap, cur, e1, e2, e3⟩
  · exact .inl h
  · exact .inr ⟨g, cap, cur, e1, Nat.le_trans hb e2, e3⟩
theorem Own.other {w : World} {g b : Nat} {ys : List UInt8} {j : Nat} {u : Value} (h : Own w g ys) (hne : g ≠ b) : Own (w.setCell ⟨b, j, none⟩ u) g ys := (heap_setCell_other w ⟨b, j, none⟩ g u hne).trans h

/-- the stamp and the rest, each in a box -/
def PutHI (k0 g4 b8 b9 : Nat) (av : Option Addr) (cv : Nat) (M BB : List UInt8) (W : World) : Prop :=
  (k0 ≤ b8 ∧ k0 ≤ b9 ∧ b9 ≠ b8) ∧ Box W b8 #[.slice (some ⟨g4, 0, none⟩) 8 8] 26 ∧ Box W b9 #[.slice av 4032 cv] 26 ∧ (k0 ≤ g4 ∧ Own W g4 M) ∧ W.ownsRow k0 5 1 (.slice av 4032 cv) 4032 (bcs BB)

theorem putHI_end {V : World} {k0 g4 b8 b9 : Nat} {av : Option Addr} {cv : Nat} {M BB : List UInt8} (hne : b9 ≠ b8) (z8 : k0 ≤ b8) (z9 : k0 ≤ b9) (z4 : k0 ≤ g4) (m4 : Own V g4 M) (r7 : V.ownsRow k0 5 1 (.slice av 4032 cv) 4032 (bcs BB))
    (p8 : Box V b8 #[.slice none 0 0] 26) (p9 : Box V b9 #[.slice none 0 0] 26) : PutHI k0 g4 b8 b9 av cv M BB ((V.setCell ⟨b8, 0, none⟩ (.slice (some ⟨g4, 0, none⟩) 8 8)).setCell ⟨b9, 0, none⟩ (.slice av 4032 cv)) := by
  have q8 : Box (V.setCell ⟨b8, 0, none⟩ (.slice (some ⟨g4, 0, none⟩) 8 8)) b8 #[.slice (some ⟨g4, 0, none⟩) 8 8] 26 := by have := p8.store 0 (.slice (some ⟨g4, 0, none⟩) 8 8); simpa using this
  have q9 : Box (V.setCell ⟨b8, 0, none⟩ (.slice (some ⟨g4, 0, none⟩) 8 8)) b9 #[.slice none 0 0] 26 := (heap_setCell_other V ⟨b8, 0, none⟩ b9 _ hne).trans p9
  have n8 : g4 ≠ b8 := Box.ne (t := 5) (t' := 26) m4 p8 (by decide)
  have n9 : g4 ≠ b9 := Box.ne (t := 5) (t' := 26) m4 p9 (by decide)
  have nr : ∀ g, (Value.slice av 4032 cv).ownBlock = some g → g ≠ b8 ∧ g ≠ b9 := fun g hg => by
    obtain ⟨_, cur, q⟩ := owns_block r7 g hg
    exact ⟨q.ne p8 (by decide), q.ne p9 (by decide)⟩
  refine ⟨⟨z8, z9, hne⟩, (heap_setCell_other _ ⟨b9, 0, none⟩ b8 _ (fun h => hne h.symm)).trans q8, ?_, ⟨z4, Own.other (Own.other m4 n8) n9⟩, ?_⟩
  · have := q9.store 0 (.slice av 4032 cv); simpa using this
  · exact owns_grown (owns_grown r7 (grown_store V b8 0 _) (fun g hg e => (nr g hg).1 (by cases e; rfl))) (grown_store _ b9 0 _) (fun g hg e => (nr g hg).2 (by cases e; rfl))

end Go.Proofs.Ytdkaacjeogifdaa.Rc

/-
  putHeading.
-/
namespace Go.Proofs.Ytdkaacjeogifdaa.Rc
open Go.RowKit Go.Shelf
attribute [local go_sem] Oper.semAt_some

/-- a head -/
def headB (e s : Nat) (es : List (Nat × List UInt8)) : List UInt8 := (putTo (nought 4096) (mark e s) (bodyB es) (List.finRange 8)).1

end Go.Proofs.Ytdkaacjeogifdaa.Rc

/-
  hide.
-/
namespace Go.Proofs.Ytdkaacjeogifdaa.Rc
open Go.RowKit Go.Shelf
attribute [local go_sem] Oper.semAt_some

end Go.Proofs.Ytdkaacjeogifdaa.Rc

/-
  entriesOf.
-/
namespace Go.Proofs.Ytdkaacjeogifdaa.Rc
open Go.RowKit

theorem two_cells {w : World} {g : Nat} {c0 c1 : Value} {t : TypeId} (h : Box w g #[c0, c1] t) : ∀ j u, ([c0, c1] : List Value)[j]? = some u → w.cell? ((⟨g, 0, none⟩ : Addr).add j) = some u := fun j u hj => by
  rw [Addr.add_lit, Nat.zero_add, h.cell j]
  simpa using hj

/-- entry i of a body -/
def entOf (BB : List UInt8) (i : Nat) : Nat × List UInt8 := (beNat ((BB.drop (6 + i * 66)).take 2), (BB.drop (8 + i * 66)).take 64)
def entsOf (BB : List UInt8) (n : Nat) : List (Nat × List UInt8) := (List.range n).map (entOf BB)
theorem entsOf_length (BB : List UInt8) (n : Nat) : (entsOf BB n).length = n := by simp [entsOf]
def entCell (BB : List UInt8) (g o cap i : Nat) : List Value := [.int .i64 ((entOf BB i).1 : Int), .slice (some ⟨g, o + (8 + i * 66), none⟩) 64 (cap - (8 + i * 66))]
def entCells (BB : List UInt8) (g o cap n : Nat) : List Value := (List.range n).flatMap (entCell BB g o cap)
theorem entCells_succ (BB : List UInt8) (g o cap n : Nat) : entCells BB g o cap (n + 1) = entCells BB g o cap n ++ entCell BB g o cap n := by simp [entCells, List.range_succ]
theorem entCells_at (BB : List UInt8) (g o cap n i : Nat) (h : i < n) : (entCells BB g o cap n)[i * 2]? = some (.int .i64 ((entOf BB i).1 : Int)) ∧ (entCells BB g o cap n)[i * 2 + 1]? = some (.slice (some ⟨g, o + (8 + i * 66), none⟩) 64 (cap - (8 + i * 66))) := by
  have hl : ∀ n, (entCells BB g o cap n).length = n * 2 := by
    intro n
    induction n with
    | zero => rfl
    | succ n ih => rw [entCells_succ, List.length_append, ih]; simp [entCell]; omega
  induction n with
  | zero => omega
  | succ n ih =>
    rw [entCells_succ]
    by_cases hi : i < n
    · obtain ⟨a, b⟩ := ih hi
      rw [List.getElem?_append_left (by rw [hl]; omega), List.getElem?_append_left (by rw [hl]; omega)]
      exact ⟨a, b⟩
    · obtain rfl : i = n := by omega
      rw [List.getElem?_append_right (by rw [hl]; omega), List.getElem?_append_right (by rw [hl]; omega), hl]
      have e1 : i * 2 - i * 2 = 0 := by omega
      have e2 : i * 2 + 1 - i * 2 = 1 := by omega
      rw [e1, e2]
      exact ⟨rfl, rfl⟩

/-- how many a body says -/
def cntOf (BB : List UInt8) : Nat := beNat (BB.take 2)

theorem numAt_body (BB : List UInt8) (k : Nat) (hl : BB.length = 4032) (h : k + 2 ≤ 4032) : numAt BB (k : Int) 2 = some (beNat ((BB.drop k).take 2)) := numAt_some (by omega)
theorem be2_lt (l : List UInt8) : beNat (l.take 2) < 65536 := by
  have h := beNat_lt (l.take 2)
  have h2 : (l.take 2).length ≤ 2 := by simp; omega
  exact Nat.lt_of_lt_of_le h (by
    have : 256 ^ (l.take 2).length ≤ 256 ^ 2 := Nat.pow_le_pow_right (by omega) h2
    omega)

/-- the row as entries -/
theorem entsOf_ents {w w' : World} {g o cap : Nat} {BB : List UInt8} {v : Value} (hl : BB.length = 4032) (hcap : 4032 ≤ cap) (hmax : cap ≤ 9223372036854775807) (hr : Rd w' (some ⟨g, o, none⟩) BB) (hc : cntOf BB ≤ 32)
    (hown : w'.ownsRow w.heap.size 62 2 v (cntOf BB) (entCells BB g o cap (cntOf BB))) : ∃ a c, v = .slice a (cntOf BB) c ∧ Ents w' a (entsOf BB (cntOf BB)) := by
  obtain ⟨a, c, rfl⟩ := owns_shape hown
  refine ⟨a, c, rfl, fun hp => ?_⟩
  rw [entsOf_length] at hp
  rcases hown.2 with ⟨hv, hn⟩ | ⟨gv, cap', cur, hv, _⟩
  · omega
  · have ha : a = some ⟨gv, 0, none⟩ := by simpa using (Value.slice.inj hv).1
    subst ha
    refine ⟨gv, 0, rfl, fun j hj => ?_⟩
    rw [entsOf_length] at hj
    obtain ⟨e1, e2⟩ := entCells_at BB g o cap (cntOf BB) j hj
    have hb : (Value.slice (some ⟨gv, 0, none⟩) (cntOf BB) c).ownBlock = some gv := rfl
    have k1 := hown.cells hb _ _ e1
    have k2 := hown.cells hb _ _ e2
    rw [Addr.add_lit] at k1 k2
    have hx : (entsOf BB (cntOf BB))[j]'(by rw [entsOf_length]; exact hj) = entOf BB j := by simp [entsOf]
    rw [hx]
    refine ⟨k1, g, o + (8 + j * 66), cap - (8 + j * 66), ?_, by omega, by omega, by simp [entOf]; omega, hr.part (8 + j * 66) 64⟩
    rw [Nat.add_assoc]
    exact k2
end Go.Proofs.Ytdkaacjeogifdaa.Rc

/-
  rightHeading.
-/
namespace Go.Proofs.Ytdkaacjeogifdaa.Rc
open Go.RowKit

/-- the blocks of entries lie here -/
def Blks (w : World) (a : Option Addr) (bs : List Int) : Prop :=
  0 < bs.length → ∃ b o, a = some ⟨b, o, none⟩ ∧ ∀ j (h : j < bs.length), w.cell? ⟨b, o + j * 2, none⟩ = some (.int .i64 bs[j]) ∧ ∃ x l c, w.cell? ⟨b, o + j * 2 + 1, none⟩ = some (.slice x l c)
theorem Blks.below {w w' : World} {a : Option Addr} {bs : List Int} (h : Blks w a bs) (hb : Below w.heap.size w w') : Blks w' a bs := fun hp => by
  obtain ⟨b, o, ha, hc⟩ := h hp
  refine ⟨b, o, ha, fun j hj => ?_⟩
  obtain ⟨h1, x, l, c, h2⟩ := hc j hj
  have hlt : b < w.heap.size := block_lt_of_cell h1
  exact ⟨(hb.cell (p := ⟨b, o + j * 2, none⟩) hlt).trans h1, x, l, c, (hb.cell (p := ⟨b, o + j * 2 + 1, none⟩) hlt).trans h2⟩
theorem Ents.blks {w : World} {a : Option Addr} {es : List (Nat × List UInt8)} (h : Ents w a es) : Blks w a (es.map fun e => (e.1 : Int)) := fun hp => by
  rw [List.length_map] at hp
  obtain ⟨b, o, ha, hc⟩ := h hp
  refine ⟨b, o, ha, fun j hj => ?_⟩
  rw [List.length_map] at hj
  obtain ⟨h1, g, q, c, h2, _⟩ := hc j hj
  exact ⟨by rw [List.getElem_map]; exact h1, _, _, _, h2⟩

/-- unlike blocks of a disk -/
def okTo (bs : List Int) (k : Nat) : Prop := ∀ j (h : j < bs.length), j < k → (0 ≤ bs[j] ∧ bs[j] ≤ 511) ∧ bs[j] ∉ bs.take j
def okHead (e s : Int) (bs : List Int) : Prop := okStamp e s = true ∧ (1 ≤ bs.length ∧ bs.length ≤ 32) ∧ okTo bs bs.length

/-- which blocks were met -/
def tk (bs : List Int) (k : Nat) : List Bool := (List.range 512).map fun (i : Nat) => decide ((i : Int) ∈ bs.take k)
theorem tk_length (bs : List Int) (k : Nat) : (tk bs k).length = 512 := by simp [tk]
theorem tk_at (bs : List Int) (k m : Nat) (h : m < 512) : (tk bs k)[m]? = some (decide ((m : Int) ∈ bs.take k)) := by simp [tk, h]
theorem tk_set (bs : List Int) (k m : Nat) (hk : k < bs.length) (hm : bs[k] = (m : Int)) (h : m < 512) : (tk bs k).set m true = tk bs (k + 1) := by
  apply List.ext_getElem?
  intro i
  rw [List.getElem?_set]
  by_cases hi : i < 512
  · rw [tk_at bs (k + 1) i hi, tk_at bs k i hi, tk_length, List.take_succ_eq_append_getElem hk, hm]
    by_cases he : m = i
    · subst he
      simp [h]
    · simp [he]
      omega
  · rw [List.getElem?_eq_none (by rw [tk_length]; omega), List.getElem?_eq_none (by rw [tk_length]; omega)]
    split <;> simp_all
def tkc (bs : List Int) (k : Nat) : Array Value := ((tk bs k).map Value.bool).toArray
theorem okTo_succ {bs : List Int} {k : Nat} (hk : k < bs.length) (h : okTo bs k) (h1 : 0 ≤ bs[k] ∧ bs[k] ≤ 511) (h2 : bs[k] ∉ bs.take k) : okTo bs (k + 1) := fun j hj hlt => by
  by_cases he : j < k
  · exact h j hj he
  · obtain rfl : j = k := by omega
    exact ⟨h1, h2⟩

end Go.Proofs.Ytdkaacjeogifdaa.Rc

/-
  rightHeading, of any heading; rightGroup.
-/
namespace Go.Proofs.Ytdkaacjeogifdaa.Rc
open Go.RowKit

theorem owns_belowH {w w' : World} {base e size n : Nat} {v : Value} {xs : List Value} (h : w.ownsRow base e size v n xs) (hb : Below w.heap.size w w') : w'.ownsRow base e size v n xs := by
  refine ⟨h.1, ?_⟩
  rcases h.2 with h | ⟨g, cap, cur, e1, e2, e3, e4⟩
  · exact .inl h
  · exact .inr ⟨g, cap, cur, e1, e2, (hb.block g (Array.getElem?_eq_some_iff.1 e3).1).trans e3, e4⟩

/-- an image lies here -/
def ImgAt (w : World) (b o : Nat) (i : Int × List UInt8) : Prop :=
  w.cell? ⟨b, o, none⟩ = some (.int .i64 i.1) ∧ ∃ x c, w.cell? ⟨b, o + 1, none⟩ = some (.slice x i.2.length c) ∧ i.2.length ≤ c ∧ c ≤ 9223372036854775807 ∧ (x = none → c = 0) ∧ Rd w x i.2
/-- images, one behind the other -/
def Imgs (w : World) (a : Option Addr) (is : List (Int × List UInt8)) : Prop :=
  0 < is.length → ∃ b o, a = some ⟨b, o, none⟩ ∧ ∀ j (h : j < is.length), ImgAt w b (o + j * 2) is[j]
theorem ImgAt.below {w w' : World} {b o : Nat} {i : Int × List UInt8} (h : ImgAt w b o i) (hb : Below w.heap.size w w') : ImgAt w' b o i := by
  obtain ⟨h1, x, c, h2, h3, h4, h5, h6⟩ := h
  have hlt : b < w.heap.size := block_lt_of_cell h1
  exact ⟨(hb.cell (p := ⟨b, o, none⟩) hlt).trans h1, x, c, (hb.cell (p := ⟨b, o + 1, none⟩) hlt).trans h2, h3, h4, h5, h6.below hb (Nat.le_refl _)⟩
theorem Imgs.below {w w' : World} {a : Option Addr} {is : List (Int × List UInt8)} (h : Imgs w a is) (hb : Below w.heap.size w w') : Imgs w' a is := fun hp => by
  obtain ⟨b, o, ha, hc⟩ := h hp
  exact ⟨b, o, ha, fun j hj => (hc j hj).below hb⟩

def blkCells (bs : List Int) : List Value := bs.flatMap fun b => [.int .i64 b, .slice none 0 0]
theorem blkCells_at (bs : List Int) (i : Nat) (h : i < bs.length) : (blkCells bs)[i * 2]? = some (.int .i64 bs[i]) ∧ (blkCells bs)[i * 2 + 1]? = some (.slice none 0 0) := by
  induction bs generalizing i with
  | nil => simp at h
  | cons b bs ih =>
    cases i with
    | zero => exact ⟨rfl, rfl⟩
    | succ i =>
      obtain ⟨p, q⟩ := ih i (by simpa using h)
      have e1 : (i + 1) * 2 = i * 2 + 1 + 1 := by omega
      simp only [blkCells, List.flatMap_cons, e1, List.cons_append, List.nil_append, List.getElem?_cons_succ, List.getElem_cons_succ]
      exact ⟨p, q⟩

def okGroup (e s : Int) (is : List (Int × List UInt8)) : Prop := okHead e s (is.map (·.1)) ∧ ∀ i ∈ is, i.2.length = 4096

end Go.Proofs.Ytdkaacjeogifdaa.Rc

/-
  Put.
-/
namespace Go.Proofs.Ytdkaacjeogifdaa.Rc
open Go.RowKit

theorem info31 : (Try.prog.info? 26).map (fun i => (i.zero, i.size, i.bytes)) = some (some (.slice none 0 0), 1, 24) := by kernel_rfl

/-- what was made of an image: its block (h, c), what is hidden (q, d) -/
structure PP where
  b : Int
  xs : List UInt8
  h : Nat
  c : Nat
  q : Nat
  d : Nat
def stB (M xs : List UInt8) : List UInt8 := (hideTo xs M (List.finRange 8)).1
def hdB (M xs : List UInt8) : List UInt8 := (hideTo xs M (List.finRange 8)).2
def rowC (ps : List PP) : List Value := ps.map fun p => .slice (some ⟨p.h, 0, none⟩) 4096 p.c
def entC (ps : List PP) : List Value := ps.flatMap fun p => [.int .i64 p.b, .slice (some ⟨p.q, 0, none⟩) 64 p.d]
theorem entC_length (ps : List PP) : (entC ps).length = ps.length * 2 := by
  induction ps with
  | nil => rfl
  | cons p ps ih => simp only [entC, List.flatMap_cons, List.length_append, List.length_cons, List.length_nil] at ih ⊢; omega
theorem entC_at (ps : List PP) (i : Nat) (h : i < ps.length) : (entC ps)[i * 2]? = some (.int .i64 ps[i].b) ∧ (entC ps)[i * 2 + 1]? = some (.slice (some ⟨ps[i].q, 0, none⟩) 64 ps[i].d) := by
  induction ps generalizing i with
  | nil => simp at h
  | cons p ps ih =>
    cases i with
    | zero => exact ⟨rfl, rfl⟩
    | succ i =>
      obtain ⟨u, v⟩ := ih i (by simpa using h)
      have e1 : (i + 1) * 2 = i * 2 + 1 + 1 := by omega
      simp only [entC, List.flatMap_cons, e1, List.cons_append, List.nil_append, List.getElem?_cons_succ, List.getElem_cons_succ]
      exact ⟨u, v⟩

/-- their entries -/
def esOf (M : List UInt8) (ps : List PP) : List (Nat × List UInt8) := ps.map fun p => (p.b.toNat, hdB M p.xs)

/-- all of them in memory -/
structure PutJ (M : List UInt8) (B : Nat) (W : World) (ps : List PP) : Prop where
  rows : ∀ p ∈ ps, RowB W p.h p.c (stB M p.xs) ∧ RowB W p.q p.d (hdB M p.xs) ∧ B ≤ p.h ∧ B ≤ p.q
  apart : (ps.map PP.h).Nodup
theorem PutJ.mono {M : List UInt8} {B : Nat} {W W' : World} {ps : List PP} (h : PutJ M B W ps) (hk : ∀ g cur, Box W g cur 5 → W'.heap[g]? = W.heap[g]?) : PutJ M B W' ps :=
  ⟨fun p hp => by
    obtain ⟨a1, a2, a3⟩ := h.rows p hp
    refine ⟨a1.same ?_, a2.same ?_, a3⟩
    · obtain ⟨cur, q, _⟩ := a1; exact hk _ _ q
    · obtain ⟨cur, q, _⟩ := a2; exact hk _ _ q, h.apart⟩
theorem PutJ.below {M : List UInt8} {B : Nat} {W W' : World} {ps : List PP} (h : PutJ M B W ps) (hb : Below W.heap.size W W') : PutJ M B W' ps := h.mono fun g _ q => hb.block g q.lt
theorem PutJ.grown {M : List UInt8} {B base e size n : Nat} {W W' : World} {ps : List PP} {v : Value} {xs : List Value} (h : PutJ M B W ps) (ho : W.ownsRow base e size v n xs) (he : (5 : TypeId) ≠ e) (hg : W.grownBy W' v.ownBlock) : PutJ M B W' ps := h.mono fun g cur q => hg.block g q.lt (fun eq => by
  obtain ⟨_, c2, q2⟩ := owns_block ho g eq.symm
  exact q.ne q2 he rfl)
theorem PutJ.store {M : List UInt8} {B b j : Nat} {W : World} {ps : List PP} {cs : Array Value} {t : TypeId} (h : PutJ M B W ps) (hb : Box W b cs t) (ht : (5 : TypeId) ≠ t) (u : Value) : PutJ M B (W.setCell ⟨b, j, none⟩ u) ps := h.mono fun g _ q => heap_setCell_other W ⟨b, j, none⟩ g u (q.ne hb ht)
theorem PutJ.snoc {M : List UInt8} {B : Nat} {W W' : World} {ps : List PP} (h : PutJ M B W ps) (hb : Below W.heap.size W W') (p : PP) (h1 : RowB W' p.h p.c (stB M p.xs)) (h2 : RowB W' p.q p.d (hdB M p.xs)) (h3 : W.heap.size ≤ p.h) (h4 : W.heap.size ≤ p.q) (hB : B ≤ W.heap.size) : PutJ M B W' (ps ++ [p]) :=
  ⟨fun x hx => by
    rcases List.mem_append.1 hx with hx | hx
    · exact (h.below hb).rows x hx
    · simp at hx
      subst hx
      exact ⟨h1, h2, by omega, by omega⟩, by
    rw [List.map_append, List.nodup_append]
    refine ⟨h.apart, by simp, fun x hx y hy => ?_⟩
    obtain ⟨z, hz, rfl⟩ := List.mem_map.1 hx
    simp at hy
    subst hy
    have := (h.rows z hz).1.lt
    omega⟩

end Go.Proofs.Ytdkaacjeogifdaa.Rc

/-
  bodyOf.
-/
namespace Go.Proofs.Ytdkaacjeogifdaa.Rc
open Go.RowKit Go.Shelf
attribute [local go_sem] Oper.semAt_some

/-- what stands behind the stamps of these sectors -/
def bodyTo (xs : List UInt8) (pre : List (Fin 8)) : List UInt8 := pre.flatMap fun x => (sec xs x.val).drop 8
theorem bodyTo_snoc (xs : List UInt8) (pre : List (Fin 8)) (x : Fin 8) : bodyTo xs (pre ++ [x]) = bodyTo xs pre ++ (sec xs x.val).drop 8 := by simp [bodyTo]

/-- one round's work on memory -/
theorem bodyOf_round (w W : World) (k0 k1 : Nat) (cs : Array Value) (xs : List UInt8) (pre : List (Fin 8)) (v : Value) (x : Fin 8) (h01 : k0 < k1) (hw : w.heap.size < k0) (hB : Below w.heap.size w W)
    (hv : Box W k0 #[v] 26) (hown : W.ownsRow w.heap.size 5 1 v (pre.length * 504) (bcs (bodyTo xs pre))) (hk : Box W k1 cs 26)
    (v' : Value) (w2 : World) (hown2 : w2.ownsRow w.heap.size 5 1 v' (pre.length * 504 + 504) (bcs (bodyTo xs pre) ++ bcs ((sec xs x.val).drop 8))) (hg2 : W.drew.grownBy w2 v.ownBlock) :
    w2.cell? ⟨k0, 0, none⟩ = some v ∧ w2.frozen? ⟨k0, 0, none⟩ = false ∧ KeepsOthers W (w2.setCell ⟨k0, 0, none⟩ v') ∧ (w2.setCell ⟨k0, 0, none⟩ v').heap[k1]? = W.heap[k1]? ∧
      Box (w2.setCell ⟨k0, 0, none⟩ v') k0 #[v'] 26 ∧ ((w2.setCell ⟨k0, 0, none⟩ v').ownsRow w.heap.size 5 1 v' ((pre ++ [x]).length * 504) (bcs (bodyTo xs (pre ++ [x]))) ∧ Box (w2.setCell ⟨k0, 0, none⟩ v') k1 cs 26) ∧ Below w.heap.size w (w2.setCell ⟨k0, 0, none⟩ v') := by
  have hne : ∀ g', v.ownBlock = some g' → w.heap.size ≤ g' ∧ g' ≠ k0 ∧ g' ≠ k1 := fun g' e => by
    obtain ⟨q1, cur, q2⟩ := owns_block hown g' e
    exact ⟨q1, q2.ne hv (by decide), q2.ne hk (by decide)⟩
  have hv2 : Box w2 k0 #[v] 26 := Box.grown (w := W.drew) hv hg2 (fun e => (hne _ e).2.1 rfl)
  have hk2 : Box w2 k1 cs 26 := Box.grown (w := W.drew) hk hg2 (fun e => (hne _ e).2.2 rfl)
  have hB2 : Below w.heap.size w w2 := (hB.drew).grown hg2 hB.size (fun k e => (hne _ e).1)
  have a1 : w2.heap[k1]? = W.heap[k1]? := hg2.block k1 hk.lt (fun e => (hne _ e.symm).2.2 rfl)
  have a2 : (w2.setCell ⟨k0, 0, none⟩ v').heap[k1]? = w2.heap[k1]? := heap_setCell_other w2 ⟨k0, 0, none⟩ k1 v' (by show k1 ≠ k0; omega)
  refine ⟨hv2.cell 0, hv2.frozen 0, ((KeepsOthers.drew W).trans (keeps_owns (w := W.drew) hown hg2)).trans (KeepsOthers.setCell w2 _ _), a2.trans a1, ?_, ⟨?_, a2.trans hk2⟩, hB2.setCell (p := ⟨k0, 0, none⟩) (by show w.heap.size ≤ k0; omega) v'⟩
  · have := hv2.store 0 v'; simpa using this
  · have e1 : (pre ++ [x]).length * 504 = pre.length * 504 + 504 := by simp; omega
    rw [e1, bodyTo_snoc, bcs_append]
    refine owns_grown hown2 (grown_store w2 k0 0 v') (fun g' e => ?_)
    obtain ⟨_, cur, q⟩ := owns_block hown2 g' e
    intro e2
    cases e2
    exact q.ne hv2 (by decide) rfl

end Go.Proofs.Ytdkaacjeogifdaa.Rc

/-
  getHeading.
-/
namespace Go.Proofs.Ytdkaacjeogifdaa.Rc
open Go.RowKit

/-- what a block says, were it a head -/
def saidE (xs : List UInt8) : Nat := beNat (xs.take 8) / 1099511627776
def saidS (xs : List UInt8) : Nat := beNat (xs.take 8) % 1099511627776
def bodyX (xs : List UInt8) : List UInt8 := bodyTo xs (List.finRange 8)
def saidEs (xs : List UInt8) : List (Nat × List UInt8) := if cntOf (bodyX xs) ≤ 32 then entsOf (bodyX xs) (cntOf (bodyX xs)) else []
/-- is it a head? -/
def isHead (xs : List UInt8) : Prop := xs.length = 4096 ∧ okHead (saidE xs) (saidS xs) ((saidEs xs).map fun e => (e.1 : Int)) ∧ xs = headB (saidE xs) (saidS xs) (saidEs xs)

theorem bodyX_length (xs : List UInt8) (hl : xs.length = 4096) : (bodyX xs).length = 4032 := by
  unfold bodyX bodyTo
  have : ∀ pre : List (Fin 8), (pre.flatMap fun x => (sec xs x.val).drop 8).length = pre.length * 504 := by
    intro pre
    induction pre with
    | nil => rfl
    | cons x pre ih =>
      have := sec_length xs x.val hl x.isLt
      rw [List.flatMap_cons, List.length_append, ih, List.length_drop, this, List.length_cons]
      omega
  rw [this]
  simp

theorem be8_lt (l : List UInt8) : beNat (l.take 8) < 18446744073709551616 := beNat_take_lt l 8 (by omega)

/-- entries that lie in blocks from B on -/
def EntsB (B : Nat) (w : World) (a : Option Addr) (es : List (Nat × List UInt8)) : Prop :=
  Ents w a es ∧ (0 < es.length → ∀ b o, a = some ⟨b, o, none⟩ → B ≤ b ∧ ∀ j, j < es.length → ∀ g q c, w.cell? ⟨b, o + j * 2 + 1, none⟩ = some (.slice (some ⟨g, q, none⟩) 64 c) → B ≤ g)
theorem EntsB.below {B : Nat} {w w' : World} {a : Option Addr} {es : List (Nat × List UInt8)} (h : EntsB B w a es) (hb : Below w.heap.size w w') : EntsB B w' a es := by
  refine ⟨h.1.below hb, fun hp b o ha => ?_⟩
  obtain ⟨h1, h2⟩ := h.2 hp b o ha
  refine ⟨h1, fun j hj g q c hc => h2 j hj g q c ?_⟩
  obtain ⟨b', o', ha', hc'⟩ := h.1 hp
  rw [ha] at ha'
  cases ha'
  have hlt : b < w.heap.size := block_lt_of_cell (hc' j hj).1
  rw [← hb.cell (p := ⟨b, o + j * 2 + 1, none⟩) hlt]
  exact hc
theorem EntsB.store {B x i : Nat} {w : World} {a : Option Addr} {es : List (Nat × List UInt8)} {u : Value} (h : EntsB B w a es) (hx : x < B) : EntsB B (w.setCell ⟨x, i, none⟩ u) a es := by
  have hup : Upd (fun k => k = x) w (w.setCell ⟨x, i, none⟩ u) := Upd.setCell (g := x) (Upd.refl (fun k => k = x) w) (.inl rfl) u
  have hcell : ∀ b k, B ≤ b → (w.setCell ⟨x, i, none⟩ u).cell? ⟨b, k, none⟩ = w.cell? ⟨b, k, none⟩ := fun b k hb => World.cell?_of_block (a := ⟨b, k, none⟩) (heap_setCell_other w ⟨x, i, none⟩ b u (by show b ≠ x; omega))
  refine ⟨fun hp => ?_, fun hp b o ha => ?_⟩
  · obtain ⟨b, o, ha, hc⟩ := h.1 hp
    obtain ⟨h1, h2⟩ := h.2 hp b o ha
    refine ⟨b, o, ha, fun j hj => ?_⟩
    obtain ⟨q1, g, q, c, q2, q3, q4, q5, q6⟩ := hc j hj
    have hg := h2 j hj g q c q2
    exact ⟨(hcell _ _ h1).trans q1, g, q, c, (hcell _ _ h1).trans q2, q3, q4, q5, q6.upd hup (by show ¬ g = x; omega)⟩
  · obtain ⟨h1, h2⟩ := h.2 hp b o ha
    exact ⟨h1, fun j hj g q c hc => h2 j hj g q c ((hcell _ _ h1).symm.trans hc)⟩

/-- what getHeading tells -/
def GetH (w : World) (xs : List UInt8) (r : Ending) (w' : World) : Prop :=
  (isHead xs ∧ ∃ a c, r = .returned (.tuple #[.agg #[.int .i64 (saidE xs : Int), .int .i64 (saidS xs : Int), .slice a (saidEs xs).length c], .bool true]) ∧ Ents w' a (saidEs xs) ∧ Below w.heap.size w w') ∨
  (¬ isHead xs ∧ r = .returned (.tuple #[.agg #[.int .i64 0, .int .i64 0, .slice none 0 0], .bool false]) ∧ Below w.heap.size w w')

end Go.Proofs.Ytdkaacjeogifdaa.Rc

/-
  unhide.
-/
namespace Go.Proofs.Ytdkaacjeogifdaa.Rc
open Go.RowKit Go.Shelf
attribute [local go_sem] Oper.semAt_some

/-- what was hidden laid back, sector by sector -/
def unhideStep (H : List UInt8) (st : List UInt8 × Nat) (x : Fin 8) : List UInt8 × Nat := (over st.1 (x.val * 512) ((H.drop (st.2 * 8)).take 8), st.2 + 1)
def unhideTo (xs H : List UInt8) (pre : List (Fin 8)) : List UInt8 × Nat := pre.foldl (unhideStep H) (xs, 0)
theorem unhideTo_snoc (xs H : List UInt8) (pre : List (Fin 8)) (x : Fin 8) : unhideTo xs H (pre ++ [x]) = unhideStep H (unhideTo xs H pre) x := by simp [unhideTo]
theorem unhideTo_two (xs H : List UInt8) (pre : List (Fin 8)) : (unhideTo xs H pre).2 = pre.length := by
  unfold unhideTo
  have : ∀ (pre : List (Fin 8)) (st : List UInt8 × Nat), (pre.foldl (unhideStep H) st).2 = st.2 + pre.length := by
    intro pre
    induction pre with
    | nil => intro st; rfl
    | cons x pre ih =>
      intro st
      rw [List.foldl_cons, ih]
      simp [unhideStep]
      omega
  rw [this]
  simp
theorem unhideTo_length (xs H : List UInt8) (hl : xs.length = 4096) (pre : List (Fin 8)) : (unhideTo xs H pre).1.length = 4096 := by
  unfold unhideTo
  have : ∀ (pre : List (Fin 8)) (st : List UInt8 × Nat), st.1.length = 4096 → (pre.foldl (unhideStep H) st).1.length = 4096 := by
    intro pre
    induction pre with
    | nil => intro st h; exact h
    | cons x pre ih =>
      intro st h
      have hx := x.isLt
      rw [List.foldl_cons]
      refine ih _ ?_
      unfold unhideStep
      rw [over_length _ _ _ (by rw [h]; simp; omega)]
      exact h
  exact this pre _ hl

/-- what stands in memory while the sectors come -/
def UnhideI (w : World) (h c gm om cm : Nat) (d : List UInt8) (k : Nat) (W : World) : Prop :=
  RowB W h c d ∧ (∃ o', Box W w.heap.size #[.slice (some ⟨gm, o', none⟩) (64 - k * 8) (cm - k * 8)] 26 ∧ (k < 8 → o' = om + k * 8))

end Go.Proofs.Ytdkaacjeogifdaa.Rc

/-
  Head, Get.
-/
namespace Go.Proofs.Ytdkaacjeogifdaa.Rc
open Go.RowKit

/-- bytes, list by list -/
def LstAt (w : World) (b o : Nat) (xs : List UInt8) : Prop := ∃ x c, w.cell? ⟨b, o, none⟩ = some (.slice x xs.length c) ∧ xs.length ≤ c ∧ c ≤ 9223372036854775807 ∧ (x = none → c = 0) ∧ Rd w x xs
def Lsts (w : World) (a : Option Addr) (ls : List (List UInt8)) : Prop :=
  0 < ls.length → ∃ b o, a = some ⟨b, o, none⟩ ∧ ∀ j (h : j < ls.length), LstAt w b (o + j) ls[j]
theorem LstAt.below {w w' : World} {b o : Nat} {xs : List UInt8} (h : LstAt w b o xs) (hb : Below w.heap.size w w') : LstAt w' b o xs := by
  obtain ⟨x, c, h2, h3, h4, h5, h6⟩ := h
  have hlt : b < w.heap.size := block_lt_of_cell h2
  exact ⟨x, c, (hb.cell (p := ⟨b, o, none⟩) hlt).trans h2, h3, h4, h5, h6.below hb (Nat.le_refl _)⟩
theorem Lsts.below {w w' : World} {a : Option Addr} {ls : List (List UInt8)} (h : Lsts w a ls) (hb : Below w.heap.size w w') : Lsts w' a ls := fun hp => by
  obtain ⟨b, o, ha, hc⟩ := h hp
  exact ⟨b, o, ha, fun j hj => (hc j hj).below hb⟩

/-- an image that was got: its data lie at (h, c) -/
structure GG where
  b : Int
  xs : List UInt8
  h : Nat
  c : Nat
def imgC (ps : List GG) : List Value := ps.flatMap fun p => [.int .i64 p.b, .slice (some ⟨p.h, 0, none⟩) 4096 p.c]
theorem imgC_length (ps : List GG) : (imgC ps).length = ps.length * 2 := by
  induction ps with
  | nil => rfl
  | cons p ps ih => simp only [imgC, List.flatMap_cons, List.length_append, List.length_cons, List.length_nil] at ih ⊢; omega
theorem imgC_at (ps : List GG) (i : Nat) (h : i < ps.length) : (imgC ps)[i * 2]? = some (.int .i64 ps[i].b) ∧ (imgC ps)[i * 2 + 1]? = some (.slice (some ⟨ps[i].h, 0, none⟩) 4096 ps[i].c) := by
  induction ps generalizing i with
  | nil => simp at h
  | cons p ps ih =>
    cases i with
    | zero => exact ⟨rfl, rfl⟩
    | succ i =>
      obtain ⟨u, v⟩ := ih i (by simpa using h)
      have e1 : (i + 1) * 2 = i * 2 + 1 + 1 := by omega
      simp only [imgC, List.flatMap_cons, e1, List.cons_append, List.nil_append, List.getElem?_cons_succ, List.getElem_cons_succ]
      exact ⟨u, v⟩
structure GetJ (B : Nat) (W : World) (ps : List GG) : Prop where
  rows : ∀ p ∈ ps, RowB W p.h p.c p.xs ∧ B ≤ p.h ∧ p.xs.length = 4096
  apart : (ps.map GG.h).Nodup
theorem GetJ.mono {B : Nat} {W W' : World} {ps : List GG} (h : GetJ B W ps) (hk : ∀ g cur, Box W g cur 5 → W'.heap[g]? = W.heap[g]?) : GetJ B W' ps :=
  ⟨fun p hp => by
    obtain ⟨a1, a2⟩ := h.rows p hp
    refine ⟨a1.same ?_, a2⟩
    obtain ⟨cur, q, _⟩ := a1; exact hk _ _ q, h.apart⟩
theorem GetJ.below {B : Nat} {W W' : World} {ps : List GG} (h : GetJ B W ps) (hb : Below W.heap.size W W') : GetJ B W' ps := h.mono fun g _ q => hb.block g q.lt
theorem GetJ.grown {B base e size n : Nat} {W W' : World} {ps : List GG} {v : Value} {xs : List Value} (h : GetJ B W ps) (ho : W.ownsRow base e size v n xs) (he : (5 : TypeId) ≠ e) (hg : W.grownBy W' v.ownBlock) : GetJ B W' ps := h.mono fun g cur q => hg.block g q.lt (fun eq => by
  obtain ⟨_, c2, q2⟩ := owns_block ho g eq.symm
  exact q.ne q2 he rfl)
theorem GetJ.store {B b j : Nat} {W : World} {ps : List GG} {cs : Array Value} {t : TypeId} (h : GetJ B W ps) (hb : Box W b cs t) (ht : (5 : TypeId) ≠ t) (u : Value) : GetJ B (W.setCell ⟨b, j, none⟩ u) ps := h.mono fun g _ q => heap_setCell_other W ⟨b, j, none⟩ g u (q.ne hb ht)
theorem GetJ.snoc {B : Nat} {W W' : World} {ps : List GG} (h : GetJ B W ps) (hb : Below W.heap.size W W') (p : GG) (h1 : RowB W' p.h p.c p.xs) (h3 : W.heap.size ≤ p.h) (h4 : p.xs.length = 4096) (hB : B ≤ W.heap.size) : GetJ B W' (ps ++ [p]) :=
  ⟨fun x hx => by
    rcases List.mem_append.1 hx with hx | hx
    · exact (h.below hb).rows x hx
    · simp at hx
      subst hx
      exact ⟨h1, by omega, h4⟩, by
    rw [List.map_append, List.nodup_append]
    refine ⟨h.apart, by simp, fun x hx y hy => ?_⟩
    obtain ⟨z, hz, rfl⟩ := List.mem_map.1 hx
    simp at hy
    subst hy
    have := (h.rows z hz).1.lt
    omega⟩

/-- image j of blocks whose head says es -/
def imgOf (ls : List (List UInt8)) (es : List (Nat × List UInt8)) (j : Nat) : Int × List UInt8 := (((es[j]?.getD (0, [])).1 : Int), (unhideTo (ls[j + 1]?.getD []) (es[j]?.getD (0, [])).2 (List.finRange 8)).1)
def imgsTo (ls : List (List UInt8)) (es : List (Nat × List UInt8)) (k : Nat) : List (Int × List UInt8) := (List.range k).map (imgOf ls es)
theorem imgsTo_succ (ls : List (List UInt8)) (es : List (Nat × List UInt8)) (k : Nat) : imgsTo ls es (k + 1) = imgsTo ls es k ++ [imgOf ls es k] := by simp [imgsTo, List.range_succ]
/-- the first k images' blocks bear the stamp -/
def stampedTo (ls : List (List UInt8)) (e s : Int) (k : Nat) : Prop := ∀ j, j < k → stampedB (ls[j + 1]?.getD []) e s = true
/-- are these the blocks of a group? -/
def isGrp (ls : List (List UInt8)) : Prop := 0 < ls.length ∧ isHead (ls[0]?.getD []) ∧ ls.length = (saidEs (ls[0]?.getD [])).length + 1 ∧ stampedTo ls (saidE (ls[0]?.getD [])) (saidS (ls[0]?.getD [])) (saidEs (ls[0]?.getD [])).length

theorem info38 : (Try.prog.info? 37).map (fun i => (i.zero, i.size, i.bytes)) = some (some (.agg #[.int .i64 0, .slice none 0 0]), 2, 32) := by kernel_rfl

/-- what Get tells -/
def GetR (w : World) (ls : List (List UInt8)) (r : Ending) (w' : World) : Prop :=
  (isGrp ls ∧ ∃ a c ps, r = .returned (.tuple #[.agg #[.int .i64 (saidE (ls[0]?.getD []) : Int), .int .i64 (saidS (ls[0]?.getD []) : Int), .slice a (saidEs (ls[0]?.getD [])).length c], .int .i64 0]) ∧ w'.ownsRow w.heap.size 37 2 (.slice a (saidEs (ls[0]?.getD [])).length c) (saidEs (ls[0]?.getD [])).length (imgC ps) ∧
    GetJ w.heap.size w' ps ∧ ps.map (fun p => (p.b, p.xs)) = imgsTo ls (saidEs (ls[0]?.getD [])) (saidEs (ls[0]?.getD [])).length ∧ Below w.heap.size w w') ∨
  (¬ isGrp ls ∧ r = .returned (.tuple #[.agg #[.int .i64 0, .int .i64 0, .slice none 0 0], .int .i64 80]) ∧ Below w.heap.size w w')

theorem zero_below {w W : World} (B : Below w.heap.size w W) : Below w.heap.size w (((W.setCell ⟨w.heap.size, 0, none⟩ (.int .i64 0)).setCell ⟨w.heap.size, 1, none⟩ (.int .i64 0)).setCell ⟨w.heap.size, 2, none⟩ (.slice none 0 0)) :=
  ((B.setCell (p := ⟨w.heap.size, 0, none⟩) (by simp) _).setCell (p := ⟨w.heap.size, 1, none⟩) (by simp) _).setCell (p := ⟨w.heap.size, 2, none⟩) (by simp) _

theorem zero_box {w W : World} (b : Box W w.heap.size #[.int .i64 0, .int .i64 0, .slice none 0 0] 40) : Box (((W.setCell ⟨w.heap.size, 0, none⟩ (.int .i64 0)).setCell ⟨w.heap.size, 1, none⟩ (.int .i64 0)).setCell ⟨w.heap.size, 2, none⟩ (.slice none 0 0)) w.heap.size #[.int .i64 0, .int .i64 0, .slice none 0 0] 40 := by
  have := ((b.store 0 (.int .i64 0)).store 1 (.int .i64 0)).store 2 (.slice none 0 0)
  simpa using this

end Go.Proofs.Ytdkaacjeogifdaa.Rc

/-
  Put of what is no right group; Head.
-/
namespace Go.Proofs.Ytdkaacjeogifdaa.Rc
open Go.RowKit

/-- what Head tells -/
def HeadR (w : World) (xs : List UInt8) (r : Ending) (w' : World) : Prop :=
  (isHead xs ∧ r = .returned (.tuple #[.int .i64 (saidE xs : Int), .int .i64 (saidS xs : Int), .int .i64 ((saidEs xs).length : Int), .bool true]) ∧ Below w.heap.size w w') ∨
  (¬ isHead xs ∧ r = .returned (.tuple #[.int .i64 0, .int .i64 0, .int .i64 0, .bool false]) ∧ Below w.heap.size w w')

end Go.Proofs.Ytdkaacjeogifdaa.Rc

/-
  Blocks, sector by sector: what the walks through sectors come to. No walk here.
-/
namespace Go.Proofs.Ytdkaacjeogifdaa.Rc

/-- eight parts, one behind the other -/
def cat (f : Fin 8 → List UInt8) (k : Nat) : List UInt8 := (firsts k).flatMap f
theorem cat_succ (f : Fin 8 → List UInt8) (k : Nat) (h : k < 8) : cat f (k + 1) = cat f k ++ f ⟨k, h⟩ := by unfold cat; rw [firsts_succ k h]; simp
theorem cat_length (f : Fin 8 → List UInt8) (n : Nat) (hf : ∀ x, (f x).length = n) : ∀ k, k ≤ 8 → (cat f k).length = k * n
  | 0, _ => by simp [cat, firsts]
  | k + 1, h => by rw [cat_succ f k h, List.length_append, cat_length f n hf k (by omega), hf, Nat.add_mul, Nat.one_mul]
theorem over_app (A B M : List UInt8) (off : Nat) (h : A.length = off) : over (A ++ B) off M = A ++ (M ++ B.drop M.length) := by
  subst h
  unfold over
  rw [List.take_left, List.drop_append]
  congr 2
  rw [List.drop_eq_nil_of_le (by omega), List.nil_append]
  congr 1
  omega
theorem drop_sec (xs : List UInt8) (k : Nat) : xs.drop (k * 512 + 8) = (sec xs k).drop 8 ++ xs.drop ((k + 1) * 512) := by
  unfold sec
  rw [List.drop_take, List.drop_drop]
  have e : xs.drop ((k + 1) * 512) = (xs.drop (k * 512 + 8)).drop 504 := by rw [List.drop_drop]; exact congrArg (fun i => xs.drop i) (by omega)
  rw [e]
  exact (List.take_append_drop 504 _).symm
theorem sec_app (A B : List UInt8) (k : Nat) (h : A.length = k * 512) : sec (A ++ B) k = B.take 512 := by
  unfold sec
  rw [List.drop_append, List.drop_eq_nil_of_le (by omega), List.nil_append, h, Nat.sub_self, List.drop_zero]

theorem hideTo_firsts (xs M : List UInt8) (hl : xs.length = 4096) (hm : M.length = 8) : ∀ k, k ≤ 8 → hideTo xs M (firsts k) = (cat (fun x => M ++ (sec xs x.val).drop 8) k ++ xs.drop (k * 512), cat (fun x => (sec xs x.val).take 8) k)
  | 0, _ => by simp [hideTo, firsts, cat]
  | k + 1, h => by
    have hA : (cat (fun x => M ++ (sec xs x.val).drop 8) k).length = k * 512 := cat_length _ 512 (fun x => by have := sec_length xs x.val hl x.isLt; simp [this, hm]) k (by omega)
    rw [firsts_succ k h, hideTo_snoc, hideTo_firsts xs M hl hm k (by omega), cat_succ _ k h, cat_succ _ k h]
    unfold hideStep
    dsimp only
    rw [over_app _ _ _ _ hA, sec_app _ _ _ hA, hm, List.drop_drop, drop_sec]
    simp only [List.append_assoc]
    rfl
theorem unhideTo_firsts (xs H : List UInt8) (hl : xs.length = 4096) (hh : H.length = 64) : ∀ k, k ≤ 8 → unhideTo xs H (firsts k) = (cat (fun x => (H.drop (x.val * 8)).take 8 ++ (sec xs x.val).drop 8) k ++ xs.drop (k * 512), k)
  | 0, _ => by simp [unhideTo, firsts, cat]
  | k + 1, h => by
    have hA : (cat (fun x => (H.drop (x.val * 8)).take 8 ++ (sec xs x.val).drop 8) k).length = k * 512 := cat_length _ 512 (fun x => by have := sec_length xs x.val hl x.isLt; have := x.isLt; simp; omega) k (by omega)
    have h8 : ((H.drop (k * 8)).take 8).length = 8 := by simp; omega
    rw [firsts_succ k h, unhideTo_snoc, unhideTo_firsts xs H hl hh k (by omega), cat_succ _ k h]
    unfold unhideStep
    dsimp only
    rw [over_app _ _ _ _ hA, h8, List.drop_drop, drop_sec]
    simp only [List.append_assoc]
theorem putTo_firsts (Z M BB : List UInt8) (hl : Z.length = 4096) (hm : M.length = 8) (hb : BB.length = 4032) : ∀ k, k ≤ 8 → putTo Z M BB (firsts k) = (cat (fun x => M ++ (BB.drop (x.val * 504)).take 504) k ++ Z.drop (k * 512), k)
  | 0, _ => by simp [putTo, firsts, cat]
  | k + 1, h => by
    have hA : (cat (fun x => M ++ (BB.drop (x.val * 504)).take 504) k).length = k * 512 := cat_length _ 512 (fun x => by have := x.isLt; simp [hm]; omega) k (by omega)
    have h5 : ((BB.drop (k * 504)).take 504).length = 504 := by simp; omega
    rw [firsts_succ k h, putTo_snoc, putTo_firsts Z M BB hl hm hb k (by omega), cat_succ _ k h]
    unfold putStep
    dsimp only
    rw [over_app _ _ _ _ hA, ← List.append_assoc, over_app _ _ _ (k * 512 + 8) (by rw [List.length_append, hA, hm]), h5, hm, List.drop_drop, List.drop_drop]
    have e0 : k * 512 + 8 + 504 = (k + 1) * 512 := by omega
    rw [e0]
    simp only [List.append_assoc]

/-- what the calls come to -/
theorem stB_cat (M xs : List UInt8) (hl : xs.length = 4096) (hm : M.length = 8) : stB M xs = cat (fun x => M ++ (sec xs x.val).drop 8) 8 := by
  unfold stB
  rw [← firsts_all, hideTo_firsts xs M hl hm 8 (by omega)]
  simp [List.drop_eq_nil_of_le, hl]
theorem hdB_cat (M xs : List UInt8) (hl : xs.length = 4096) (hm : M.length = 8) : hdB M xs = cat (fun x => (sec xs x.val).take 8) 8 := by
  unfold hdB
  rw [← firsts_all, hideTo_firsts xs M hl hm 8 (by omega)]
theorem unhide_cat (xs H : List UInt8) (hl : xs.length = 4096) (hh : H.length = 64) : (unhideTo xs H (List.finRange 8)).1 = cat (fun x => (H.drop (x.val * 8)).take 8 ++ (sec xs x.val).drop 8) 8 := by
  rw [← firsts_all, unhideTo_firsts xs H hl hh 8 (by omega)]
  simp [List.drop_eq_nil_of_le, hl]
theorem headB_cat (e s : Nat) (es : List (Nat × List UInt8)) (hb : (bodyB es).length = 4032) : headB e s es = cat (fun x => mark e s ++ ((bodyB es).drop (x.val * 504)).take 504) 8 := by
  unfold headB
  rw [← firsts_all, putTo_firsts _ _ _ (nought_length _) (mark_length _ _) hb 8 (by omega)]
  have : (nought 4096).drop (8 * 512) = [] := List.drop_eq_nil_of_le (by rw [nought_length]; omega)
  rw [this, List.append_nil]
theorem bodyX_cat (xs : List UInt8) : bodyX xs = cat (fun x => (sec xs x.val).drop 8) 8 := by unfold bodyX bodyTo cat; rw [firsts_all]

/-- part x of eight parts -/
theorem part_cat (f : Fin 8 → List UInt8) (n : Nat) (hf : ∀ x, (f x).length = n) (x : Fin 8) : ∀ k, k ≤ 8 → x.val < k → ((cat f k).drop (x.val * n)).take n = f x
  | 0, _, h => absurd h (by omega)
  | k + 1, hk, h => by
    have hl := cat_length f n hf k (by omega)
    rw [cat_succ f k hk]
    by_cases hx : x.val < k
    · have h1 : x.val * n + n ≤ k * n := by
        have := Nat.mul_le_mul_right n (show x.val + 1 ≤ k from hx)
        rw [Nat.add_mul, Nat.one_mul] at this
        exact this
      rw [List.drop_append_of_le_length (by omega), List.take_append_of_le_length (by rw [List.length_drop]; omega)]
      exact part_cat f n hf x k (by omega) hx
    · obtain ⟨xv, hxv⟩ := x
      obtain rfl : xv = k := by simp at h hx; omega
      rw [List.drop_append, List.drop_eq_nil_of_le (by rw [hl]; exact Nat.le_refl _), List.nil_append, hl, Nat.sub_self, List.drop_zero, List.take_of_length_le (by rw [hf]; exact Nat.le_refl _)]
theorem sec_cat (f : Fin 8 → List UInt8) (hf : ∀ x, (f x).length = 512) (x : Fin 8) : sec (cat f 8) x.val = f x := part_cat f 512 hf x 8 (by omega) x.isLt
/-- a block is its sectors -/
theorem cat_sec (xs : List UInt8) (hl : xs.length = 4096) : cat (fun x => sec xs x.val) 8 = xs := by
  have : ∀ k, k ≤ 8 → cat (fun x => sec xs x.val) k = xs.take (k * 512) := by
    intro k
    induction k with
    | zero => intro _; simp [cat, firsts]
    | succ k ih =>
      intro h
      rw [cat_succ _ k h, ih (by omega)]
      unfold sec
      have e : (k + 1) * 512 = k * 512 + 512 := by omega
      rw [e, List.take_add]
  rw [this 8 (by omega)]
  exact List.take_of_length_le (by omega)

/-- what is hidden is laid back -/
theorem unhide_hide (M xs : List UInt8) (hl : xs.length = 4096) (hm : M.length = 8) : (unhideTo (stB M xs) (hdB M xs) (List.finRange 8)).1 = xs := by
  have hf : ∀ x : Fin 8, (M ++ (sec xs x.val).drop 8).length = 512 := fun x => by have := sec_length xs x.val hl x.isLt; simp [this, hm]
  have hg : ∀ x : Fin 8, ((sec xs x.val).take 8).length = 8 := fun x => by have := sec_length xs x.val hl x.isLt; simp [this]
  have h1 : (stB M xs).length = 4096 := by rw [stB_cat M xs hl hm, cat_length _ 512 hf 8 (by omega)]
  have h2 : (hdB M xs).length = 64 := by rw [hdB_cat M xs hl hm, cat_length _ 8 hg 8 (by omega)]
  rw [unhide_cat _ _ h1 h2]
  have : (fun x : Fin 8 => ((hdB M xs).drop (x.val * 8)).take 8 ++ (sec (stB M xs) x.val).drop 8) = fun x => sec xs x.val := by
    funext x
    rw [hdB_cat M xs hl hm, part_cat _ 8 hg x 8 (by omega) x.isLt, stB_cat M xs hl hm, sec_cat _ hf x]
    have : (M ++ (sec xs x.val).drop 8).drop 8 = (sec xs x.val).drop 8 := List.drop_left' hm
    rw [this]
    exact List.take_append_drop 8 _
  rw [this]
  exact cat_sec xs hl
end Go.Proofs.Ytdkaacjeogifdaa.Rc

/-
  What is put is got: no walk here.
-/
namespace Go.Proofs.Ytdkaacjeogifdaa.Rc

/-- parts of 504, one behind the other -/
theorem cat_parts (bb : List UInt8) (hl : bb.length = 4032) : cat (fun x => (bb.drop (x.val * 504)).take 504) 8 = bb := by
  have : ∀ k, k ≤ 8 → cat (fun x => (bb.drop (x.val * 504)).take 504) k = bb.take (k * 504) := by
    intro k
    induction k with
    | zero => intro _; simp [cat, firsts]
    | succ k ih =>
      intro h
      rw [cat_succ _ k h, ih (by omega)]
      have e : (k + 1) * 504 = k * 504 + 504 := by omega
      rw [e, List.take_add]
  rw [this 8 (by omega)]
  exact List.take_of_length_le (by omega)

section
variable {e s : Nat} {es : List (Nat × List UInt8)}
theorem part_len (hb : (bodyB es).length = 4032) (x : Fin 8) : (mark e s ++ ((bodyB es).drop (x.val * 504)).take 504).length = 512 := by
  have := x.isLt
  simp [mark_length, hb]
  omega
theorem sec_head (hb : (bodyB es).length = 4032) (x : Fin 8) : sec (headB e s es) x.val = mark e s ++ ((bodyB es).drop (x.val * 504)).take 504 := by
  rw [headB_cat e s es hb]
  exact sec_cat _ (part_len hb) x
theorem headB_length (hb : (bodyB es).length = 4032) : (headB e s es).length = 4096 := by
  rw [headB_cat e s es hb, cat_length _ 512 (part_len hb) 8 (by omega)]
theorem body_head (hb : (bodyB es).length = 4032) : bodyX (headB e s es) = bodyB es := by
  rw [bodyX_cat]
  have : (fun x : Fin 8 => (sec (headB e s es) x.val).drop 8) = fun x => ((bodyB es).drop (x.val * 504)).take 504 := by
    funext x
    rw [sec_head hb x]
    exact List.drop_left' (mark_length _ _)
  rw [this]
  exact cat_parts _ hb
theorem take8_sec (xs : List UInt8) : xs.take 8 = (sec xs 0).take 8 := by
  unfold sec
  rw [Nat.zero_mul, List.drop_zero, List.take_take]
  rfl
theorem take8_head (hb : (bodyB es).length = 4032) : (headB e s es).take 8 = mark e s := by
  rw [take8_sec, show sec (headB e s es) 0 = _ from sec_head hb (0 : Fin 8)]
  exact List.take_left' (mark_length _ _)
theorem be_mark (he : e ≤ 8388608) (hs : s ≤ 549755813888) : beNat (mark e s) = stampN e s := by
  unfold mark
  rw [beNat_toBE]
  refine Nat.mod_eq_of_lt ?_
  unfold stampN
  omega
theorem said_head (hb : (bodyB es).length = 4032) (he : e ≤ 8388608) (hs : s ≤ 549755813888) : saidE (headB e s es) = e ∧ saidS (headB e s es) = s := by
  unfold saidE saidS
  rw [take8_head hb, be_mark he hs]
  unfold stampN
  omega
theorem cnt_body (hn : es.length ≤ 32) : cntOf (bodyB es) = es.length := by
  unfold cntOf bodyB
  rw [List.append_assoc, List.take_left' (toBE_length _ _), beNat_toBE]
  omega
theorem entsB_split (h : ∀ x ∈ es, x.2.length = 64) (i : Nat) (hi : i < es.length) : ∃ r, entsB es = entsB (es.take i) ++ (toBE 2 es[i].1 ++ (es[i].2 ++ r)) ∧ (entsB (es.take i)).length = i * 66 := by
  refine ⟨entsB (es.drop (i + 1)), ?_, ?_⟩
  · have e1 : es = es.take i ++ es[i] :: es.drop (i + 1) := by simp
    have : entsB es = entsB (es.take i ++ es[i] :: es.drop (i + 1)) := by rw [← e1]
    rw [this]
    unfold entsB
    rw [List.flatMap_append, List.flatMap_cons]
    simp only [List.append_assoc]
  · rw [entsB_length _ (fun x hx => h x (List.mem_of_mem_take hx))]
    rw [List.length_take, Nat.min_eq_left (by omega)]
theorem ent_body (h : ∀ x ∈ es, x.2.length = 64) (hb : ∀ x ∈ es, x.1 ≤ 511) (i : Nat) (hi : i < es.length) : entOf (bodyB es) i = es[i] := by
  obtain ⟨r, e1, e2⟩ := entsB_split h i hi
  have hm := List.getElem_mem hi
  have d6 : (bodyB es).drop (6 + i * 66) = toBE 2 es[i].1 ++ (es[i].2 ++ (r ++ nought (4026 - es.length * 66))) := by
    unfold bodyB restB
    rw [← List.drop_drop, List.drop_left' (by rw [List.length_append, toBE_length, toBE_length]), e1]
    simp only [List.append_assoc]
    exact List.drop_left' e2
  have d8 : (bodyB es).drop (8 + i * 66) = es[i].2 ++ (r ++ nought (4026 - es.length * 66)) := by
    rw [show 8 + i * 66 = (6 + i * 66) + 2 by omega, ← List.drop_drop, d6]
    exact List.drop_left' (toBE_length _ _)
  unfold entOf
  rw [d6, d8, List.take_left' (toBE_length _ _), List.take_left' (h _ hm), beNat_toBE, Nat.mod_eq_of_lt (by have := hb _ hm; omega)]
theorem ents_body (h : ∀ x ∈ es, x.2.length = 64) (hb : ∀ x ∈ es, x.1 ≤ 511) : entsOf (bodyB es) es.length = es := by
  refine List.ext_getElem (entsOf_length _ _) (fun i h1 h2 => ?_)
  have : (entsOf (bodyB es) es.length)[i] = entOf (bodyB es) i := by simp [entsOf]
  rw [this]
  exact ent_body h hb i h2
/-- what a head says -/
theorem said_es (h : ∀ x ∈ es, x.2.length = 64) (hb : ∀ x ∈ es, x.1 ≤ 511) (hn : es.length ≤ 32) : saidEs (headB e s es) = es := by
  unfold saidEs
  rw [body_head (bodyB_length es h hn), cnt_body hn, if_pos hn]
  exact ents_body h hb
theorem head_is (h : ∀ x ∈ es, x.2.length = 64) (hb : ∀ x ∈ es, x.1 ≤ 511) (hn : es.length ≤ 32) (hok : okHead e s (es.map fun x => (x.1 : Int))) : isHead (headB e s es) := by
  have hl := bodyB_length es h hn
  have hst := (okStamp_iff _ _).1 hok.1
  obtain ⟨q1, q2⟩ := said_head (e := e) (s := s) hl (by omega) (by omega)
  unfold isHead
  rw [q1, q2, said_es h hb hn]
  exact ⟨headB_length hl, hok, rfl⟩
end

/-- a group's entries, its blocks -/
def entL (M : List UInt8) (is : List (Int × List UInt8)) : List (Nat × List UInt8) := is.map fun i => (i.1.toNat, hdB M i.2)
def putL (e s : Nat) (is : List (Int × List UInt8)) : List (List UInt8) := headB e s (entL (mark e s) is) :: is.map fun i => stB (mark e s) i.2

section
variable {e s : Nat} {is : List (Int × List UInt8)}
theorem hdB_length (M xs : List UInt8) (hl : xs.length = 4096) (hm : M.length = 8) : (hdB M xs).length = 64 := by
  rw [hdB_cat M xs hl hm, cat_length _ 8 (fun x => by have := sec_length xs x.val hl x.isLt; simp [this]) 8 (by omega)]
theorem stB_length (M xs : List UInt8) (hl : xs.length = 4096) (hm : M.length = 8) : (stB M xs).length = 4096 := by
  rw [stB_cat M xs hl hm, cat_length _ 512 (fun x => by have := sec_length xs x.val hl x.isLt; simp [this, hm]) 8 (by omega)]
theorem okTo_each {bs : List Int} (h : okTo bs bs.length) : ∀ b ∈ bs, 0 ≤ b ∧ b ≤ 511 := fun b hb => by
  obtain ⟨j, hj, rfl⟩ := List.getElem_of_mem hb
  exact (h j hj hj).1
theorem entL_len (hok : okGroup e s is) : ∀ x ∈ entL (mark e s) is, x.2.length = 64 := fun x hx => by
  obtain ⟨i, hi, rfl⟩ := List.mem_map.1 hx
  exact hdB_length _ _ (hok.2 i hi) (mark_length _ _)
theorem entL_blk (hok : okGroup e s is) : ∀ x ∈ entL (mark e s) is, x.1 ≤ 511 := fun x hx => by
  obtain ⟨i, hi, rfl⟩ := List.mem_map.1 hx
  have := okTo_each hok.1.2.2 i.1 (List.mem_map.2 ⟨i, hi, rfl⟩)
  show i.1.toNat ≤ 511
  omega
theorem entL_map (hok : okGroup e s is) (M : List UInt8) : ((entL M is).map fun x => (x.1 : Int)) = is.map (·.1) := by
  unfold entL
  rw [List.map_map]
  refine List.map_congr_left (fun i hi => ?_)
  have := okTo_each hok.1.2.2 i.1 (List.mem_map.2 ⟨i, hi, rfl⟩)
  show ((i.1.toNat : Nat) : Int) = i.1
  omega
theorem entL_length (M : List UInt8) : (entL M is).length = is.length := by simp [entL]
theorem is_length (hok : okGroup e s is) : 1 ≤ is.length ∧ is.length ≤ 32 := by have := hok.1.2.1; simpa using this
theorem put_head (hok : okGroup e s is) : isHead (headB e s (entL (mark e s) is)) :=
  head_is (entL_len hok) (entL_blk hok) (by rw [entL_length]; exact (is_length hok).2) (by rw [entL_map hok]; exact hok.1)
theorem put_said (hok : okGroup e s is) : saidE (headB e s (entL (mark e s) is)) = e ∧ saidS (headB e s (entL (mark e s) is)) = s ∧ saidEs (headB e s (entL (mark e s) is)) = entL (mark e s) is := by
  have hn : (entL (mark e s) is).length ≤ 32 := by rw [entL_length]; exact (is_length hok).2
  have hst := (okStamp_iff _ _).1 hok.1.1
  obtain ⟨q1, q2⟩ := said_head (e := e) (s := s) (bodyB_length _ (entL_len hok) hn) (by omega) (by omega)
  exact ⟨q1, q2, said_es (entL_len hok) (entL_blk hok) hn⟩
theorem sec_st (M xs : List UInt8) (hl : xs.length = 4096) (hm : M.length = 8) (x : Fin 8) : sec (stB M xs) x.val = M ++ (sec xs x.val).drop 8 := by
  rw [stB_cat M xs hl hm]
  exact sec_cat _ (fun x => by have := sec_length xs x.val hl x.isLt; simp [this, hm]) x
theorem st_stamped (hok : okGroup e s is) (i : Int × List UInt8) (hi : i ∈ is) : stampedB (stB (mark e s) i.2) (e : Int) (s : Int) = true := by
  unfold stampedB
  have hl := hok.2 i hi
  have h1 := stB_length (mark e s) i.2 hl (mark_length _ _)
  have h2 : okStamp (e : Int) (s : Int) = true := hok.1.1
  rw [h2]
  simp only [h1, decide_true, Bool.true_and]
  unfold allMarked
  rw [List.all_eq_true]
  intro x _
  rw [sec_st _ _ hl (mark_length _ _) x, List.take_left' (mark_length _ _)]
  simp
/-- what is put is a group -/
theorem put_grp (hok : okGroup e s is) : isGrp (putL e s is) := by
  obtain ⟨q1, q2, q3⟩ := put_said hok
  unfold isGrp
  have e0 : (putL e s is)[0]?.getD [] = headB e s (entL (mark e s) is) := rfl
  rw [e0, q1, q2, q3, entL_length]
  refine ⟨by simp [putL], put_head hok, by simp [putL], fun j hj => ?_⟩
  have : (putL e s is)[j + 1]?.getD [] = stB (mark e s) (is[j]).2 := by simp [putL, hj]
  rw [this]
  exact st_stamped hok _ (List.getElem_mem hj)
/-- and that group is got -/
theorem put_imgs (hok : okGroup e s is) : imgsTo (putL e s is) (entL (mark e s) is) is.length = is := by
  refine List.ext_getElem (by simp [imgsTo]) (fun j h1 h2 => ?_)
  have e9 : (imgsTo (putL e s is) (entL (mark e s) is) is.length)[j] = imgOf (putL e s is) (entL (mark e s) is) j := by simp [imgsTo]
  rw [e9]
  unfold imgOf
  have hm := List.getElem_mem h2
  have e1 : (putL e s is)[j + 1]?.getD [] = stB (mark e s) (is[j]).2 := by simp [putL, h2]
  have e2 : (entL (mark e s) is)[j]?.getD (0, []) = ((is[j]).1.toNat, hdB (mark e s) (is[j]).2) := by simp [entL, h2]
  rw [e1, e2]
  dsimp only
  rw [unhide_hide _ _ (hok.2 _ hm) (mark_length _ _)]
  have := okTo_each hok.1.2.2 (is[j]).1 (List.mem_map.2 ⟨_, hm, rfl⟩)
  refine Prod.ext ?_ rfl
  show (((is[j]).1.toNat : Nat) : Int) = (is[j]).1
  omega
end
end Go.Proofs.Ytdkaacjeogifdaa.Rc

/-
  A group is taken only if all of it was written: no walk here.
-/
namespace Go.Proofs.Ytdkaacjeogifdaa.Rc

theorem mark_inj {e s e' s' : Nat} (he : e ≤ 8388608) (hs : s ≤ 549755813888) (he' : e' ≤ 8388608) (hs' : s' ≤ 549755813888) (h : mark e s = mark e' s') : e = e' ∧ s = s' := by
  have h1 := congrArg beNat h
  rw [be_mark he hs, be_mark he' hs'] at h1
  unfold stampN at h1
  omega
/-- no noughts bear a stamp -/
theorem mark_ne {e s : Nat} (he : 1 ≤ e) (he2 : e ≤ 8388608) (hs : s ≤ 549755813888) : mark e s ≠ List.replicate 8 0 := fun h => by
  have h1 := congrArg beNat h
  rw [be_mark he2 hs] at h1
  have h2 : beNat (List.replicate 8 0) = 0 := by decide
  rw [h2] at h1
  unfold stampN at h1
  omega

/-- every sector of a group bears the stamp that it says -/
theorem grp_marks {ls : List (List UInt8)} (h : isGrp ls) (b : Nat) (hb : b < ls.length) (x : Fin 8) : (sec ls[b] x.val).take 8 = mark (saidE (ls[0]?.getD [])) (saidS (ls[0]?.getD [])) := by
  obtain ⟨h0, hh, hn, hs⟩ := h
  cases b with
  | zero =>
    have e0 : ls[0] = ls[0]?.getD [] := by simp [h0]
    rw [e0]
    obtain ⟨h1, h2, h3⟩ := hh
    have hlen : ∀ y ∈ saidEs (ls[0]?.getD []), y.2.length = 64 := by
      intro y hy
      unfold saidEs at hy
      split at hy
      · unfold entsOf at hy
        obtain ⟨i, hi, rfl⟩ := List.mem_map.1 hy
        have hi' : i < cntOf (bodyX (ls[0]?.getD [])) := by simpa using hi
        have hbl := bodyX_length _ h1
        unfold entOf
        show ((List.drop (8 + i * 66) _).take 64).length = 64
        rw [List.length_take, List.length_drop, hbl]
        omega
      · cases hy
    have hbd : (bodyB (saidEs (ls[0]?.getD []))).length = 4032 := bodyB_length _ hlen (by have := h2.2.1; simpa using this.2)
    have h4 := sec_head (e := saidE (ls[0]?.getD [])) (s := saidS (ls[0]?.getD [])) hbd x
    rw [← h3] at h4
    rw [h4]
    exact List.take_left' (mark_length _ _)
  | succ j =>
    have hj : j < (saidEs (ls[0]?.getD [])).length := by omega
    have h1 := hs j hj
    have e1 : ls[j + 1]?.getD [] = ls[j + 1] := by simp [hb]
    rw [e1] at h1
    unfold stampedB allMarked at h1
    simp only [Bool.and_eq_true, List.all_eq_true] at h1
    have h2 := h1.2.2 x (List.mem_finRange x)
    simpa using h2
theorem grp_ok {ls : List (List UInt8)} (h : isGrp ls) : okStamp (saidE (ls[0]?.getD [])) (saidS (ls[0]?.getD [])) = true := h.2.1.2.1.1
theorem grp_len {ls : List (List UInt8)} (h : isGrp ls) (b : Nat) (hb : b < ls.length) : ls[b].length = 4096 := by
  obtain ⟨h0, hh, hn, hs⟩ := h
  cases b with
  | zero =>
    have e0 : ls[0] = ls[0]?.getD [] := by simp [h0]
    rw [e0]
    exact hh.1
  | succ j =>
    have h1 := hs j (by omega)
    have e1 : ls[j + 1]?.getD [] = ls[j + 1] := by simp [hb]
    rw [e1] at h1
    unfold stampedB at h1
    simp only [Bool.and_eq_true, decide_eq_true_eq] at h1
    exact h1.1

section
variable {e s e' s' : Nat} {is is' : List (Int × List UInt8)}
theorem put_marks (hok : okGroup e s is) (b : Nat) (hb : b < (putL e s is).length) (x : Fin 8) : (sec (putL e s is)[b] x.val).take 8 = mark e s := by
  have h := grp_marks (put_grp hok) b hb x
  have e0 : (putL e s is)[0]?.getD [] = headB e s (entL (mark e s) is) := rfl
  rw [e0, (put_said hok).1, (put_said hok).2.1] at h
  exact h

/-- where one sector is another group's, or was never written, only the other group whole is a group -/
theorem mix_grp (hok : okGroup e s is) (hok' : okGroup e' s' is') (hne : ¬(e = e' ∧ s = s')) (X : List (List UInt8)) (hl : X.length = (putL e s is).length)
    (hsec : ∀ b (h : b < X.length) (x : Fin 8), sec X[b] x.val = sec ((putL e s is)[b]'(by omega)) x.val ∨ (∃ h' : b < (putL e' s' is').length, sec X[b] x.val = sec ((putL e' s' is')[b]) x.val) ∨ (sec X[b] x.val).take 8 = List.replicate 8 0)
    (hsome : ∃ b, ∃ h : b < X.length, ∃ x : Fin 8, (∃ h' : b < (putL e' s' is').length, sec X[b] x.val = sec ((putL e' s' is')[b]) x.val) ∨ (sec X[b] x.val).take 8 = List.replicate 8 0)
    (hg : isGrp X) : X = putL e' s' is' := by
  have st := (okStamp_iff _ _).1 (grp_ok hg)
  have st1 := (okStamp_iff _ _).1 hok.1.1
  have st2 := (okStamp_iff _ _).1 hok'.1.1
  have noz : mark (saidE (X[0]?.getD [])) (saidS (X[0]?.getD [])) ≠ List.replicate 8 0 := mark_ne (by omega) (by omega) (by omega)
  have hthe : saidE (X[0]?.getD []) = e' ∧ saidS (X[0]?.getD []) = s' := by
    obtain ⟨b, hb, x, ⟨h', hx⟩ | hx⟩ := hsome
    · have h1 := grp_marks hg b hb x
      rw [hx, put_marks hok' b h' x] at h1
      obtain ⟨q1, q2⟩ := mark_inj (by omega) (by omega) (by omega) (by omega) h1
      exact ⟨q1.symm, q2.symm⟩
    · exact absurd ((grp_marks hg b hb x).symm.trans hx) noz
  have hall : ∀ b (hb : b < X.length), ∃ h' : b < (putL e' s' is').length, X[b] = (putL e' s' is')[b] := by
    intro b hb
    have each : ∀ x : Fin 8, ∃ h' : b < (putL e' s' is').length, sec X[b] x.val = sec ((putL e' s' is')[b]) x.val := by
      intro x
      rcases hsec b hb x with hx | hx | hx
      · have h1 := grp_marks hg b hb x
        rw [hx, put_marks hok b (by omega) x, hthe.1, hthe.2] at h1
        exact absurd (mark_inj (by omega) (by omega) (by omega) (by omega) h1) hne
      · exact hx
      · exact absurd ((grp_marks hg b hb x).symm.trans hx) noz
    obtain ⟨h', _⟩ := each 0
    refine ⟨h', ?_⟩
    rw [← cat_sec X[b] (grp_len hg b hb), ← cat_sec _ (grp_len (put_grp hok') b h')]
    congr 1
    funext x
    obtain ⟨_, h2⟩ := each x
    exact h2
  have h0 : 0 < X.length := hg.1
  obtain ⟨h0', e0⟩ := hall 0 h0
  have hX0 : X[0]?.getD [] = headB e' s' (entL (mark e' s') is') := by
    rw [List.getElem?_eq_getElem h0, Option.getD_some, e0]
    rfl
  have hlen : X.length = (putL e' s' is').length := by
    have := hg.2.2.1
    rw [hX0, (put_said hok').2.2, entL_length] at this
    rw [this]
    simp [putL]
  refine List.ext_getElem hlen (fun b h1 h2 => ?_)
  obtain ⟨_, e1⟩ := hall b h1
  exact e1
end
end Go.Proofs.Ytdkaacjeogifdaa.Rc

/-
  SameLists, SameImages, SameGroup.
-/
namespace Go.Proofs.Ytdkaacjeogifdaa.Rc
open Go.RowKit

theorem below_drewN {B : Nat} {a w : World} (h : Below B a w) (n : Nat) : Below B a (w.drewN n) := ⟨h.os, h.tape, h.output, h.size, h.block⟩
theorem LstAt.drewN {w : World} {b o : Nat} {xs : List UInt8} (h : LstAt w b o xs) (n : Nat) : LstAt (w.drewN n) b o xs := h.below (below_drewN (Below.refl _ _) n)

set_option maxRecDepth 100000 in
set_option maxHeartbeats 1000000 in
theorem sameImages_at (a a' : Option Addr) (n c n' c' : Nat) (ls ms : List (Int × List UInt8)) (w : World) (hl : ls.length = n) (hm : ms.length = n') (hn : n ≤ 1000000000) (hL : Imgs w a ls) (hM : Imgs w a' ms) :
    Calls Try.prog 26 #[.slice a n c, .slice a' n' c'] w fun r w' => r = .returned (.bool (decide (ls = ms))) ∧ Below w.heap.size w w' := by
  by_cases hnn : n = n'
  · subst hnn
    have HL : Hid (ls.length = n) := hl
    have HM : Hid (ms.length = n) := hm
    have HLL : Hid (Imgs w a ls) := hL
    have HMM : Hid (Imgs w a' ms) := hM
    clear hl hm hL hM
    obtain ⟨q, hq⟩ : ∃ q, q = decide (ls = ms) := ⟨_, rfl⟩
    rw [← hq]
    have HQ : Hid (q = decide (ls = ms)) := hq
    clear hq
    go_enter Try.func26, Try.ntmps26
    go_wp2_with fail
    go_loopw [5] (fun v u => ∃ k : Nat, k ≤ n ∧ v = .int .i64 (k : Int) ∧ ls.take k = ms.take k ∧ Below w.heap.size w u) (fun v _ => n - (intOf v).toNat)
    case atStart => exact ⟨0, Nat.zero_le _, rfl, by simp, Below.refl _ _⟩
    case round =>
      obtain ⟨k, hk, rfl, ht, B⟩ := hrel
      have HT : Hid (ls.take k = ms.take k) := ht
      clear ht
      by_cases hlt : k < n
      · have k1 : k < ls.length := by rw [HL.out]; exact hlt
        have k2 : k < ms.length := by rw [HM.out]; exact hlt
        obtain ⟨b, o, rfl, hc⟩ := HLL.out (by omega)
        obtain ⟨b', o', rfl, hc'⟩ := HMM.out (by omega)
        obtain ⟨g0, x, cx, g1, g2, g3, g4, g5⟩ := hc k k1
        obtain ⟨f0, y, cy, f1, f2, f3, f4, f5⟩ := hc' k k2
        have lb : b < w.heap.size := block_lt_of_cell g1
        have lb' : b' < w.heap.size := block_lt_of_cell f1
        rw [← B.cell (p := ⟨b, o + k * 2, none⟩) lb] at g0
        rw [← B.cell (p := ⟨b', o' + k * 2, none⟩) lb'] at f0
        rw [← B.cell (p := ⟨b, o + k * 2 + 1, none⟩) lb] at g1
        rw [← B.cell (p := ⟨b', o' + k * 2 + 1, none⟩) lb'] at f1
        have r1 := g5.below B (Nat.le_refl _)
        have r2 := f5.below B (Nat.le_refl _)
        have hstep : Hid (ls.take (k + 1) = ls.take k ++ [ls[k]] ∧ ms.take (k + 1) = ms.take k ++ [ms[k]]) := ⟨List.take_succ_eq_append_getElem k1, List.take_succ_eq_append_getElem k2⟩
        have hmem : Hid (ls = ms → (ls[k]'k1) = (ms[k]'k2)) := fun e => by subst e; rfl
        generalize (ls[k]'k1) = X at g0 g1 g2 r1 hstep hmem
        generalize (ms[k]'k2) = Y at f0 f1 f2 r2 hstep hmem
        obtain ⟨bx, xs⟩ := X
        obtain ⟨bY, ys⟩ := Y
        dsimp only at g0 g1 g2 r1 f0 f1 f2 r2
        clear hc hc' g2 g3 g4 g5 f2 f3 f4 f5 lb lb'
        by_cases hbb : bx = bY
        · subst hbb
          have cS : ∀ q : Nat, Calls Try.prog 15 #[.slice x xs.length cx, .slice y ys.length cy] (wr.drewN q) fun e w' => e = .returned (.bool (xs == ys)) ∧ w' = wr.drewN q := fun q => (same_at cx cy xs.length ys.length x y xs ys (wr.drewN q) rfl rfl r1 r2).mono fun e w' ⟨h1, h2⟩ => ⟨h1, h2.symm⟩
          clear r1 r2
          by_cases hxy : xs = ys
          · have hb : (xs == ys) = true := by simp [hxy]
            rw [hb] at cS
            have HCS : Hid _ := cS
            have HXY : Hid _ := hxy
            clear cS hb hxy
            go_wp2_with fail
            go_quiet ((go_at_call 15; exact Calls.quiet_of_same (HCS.out _)))
            have B2 := below_drewN B nq
            clear HCS g0 f0 g1 f1
            go_wp2_with fail
            go_roundw
            case rel => exact ⟨k + 1, by omega, by push_cast; rfl, by rw [hstep.out.1, hstep.out.2, HT.out, HXY.out], B2⟩
            case measure => simp [intOf]; omega
          · have hb : (xs == ys) = false := by simp [hxy]
            rw [hb] at cS
            have HCS : Hid _ := cS
            have hqf : q = false := by rw [HQ.out]; exact decide_eq_false (fun e => hxy (Prod.mk.inj (hmem.out e)).2)
            clear cS hb hxy
            go_wp2_with fail
            go_quiet ((go_at_call 15; exact Calls.quiet_of_same (HCS.out _)))
            have B2 := below_drewN B nq
            clear HCS g0 f0 g1 f1
            go_wp2_with fail
            go_ret
            exact ⟨by rw [hqf]; rfl, B2⟩
        · have hbf : (bx == bY) = false := by simp [hbb]
          have hbn : (bx != bY) = true := by simp [hbb]
          have hqf : q = false := by rw [HQ.out]; exact decide_eq_false (fun e => hbb (Prod.mk.inj (hmem.out e)).1)
          clear r1 r2
          go_wp2_with fail
          go_quiet (fail)
          have B2 := below_drewN B nq
          clear g0 f0 g1 f1
          go_wp2_with fail
          go_ret
          exact ⟨by rw [hqf]; rfl, B2⟩
      · have hke : k = n := by omega
        have hqt : q = true := by
          rw [HQ.out]
          refine decide_eq_true ?_
          have := HT.out
          rwa [List.take_of_length_le (by rw [HL.out]; omega), List.take_of_length_le (by rw [HM.out]; omega)] at this
        go_wp2_with fail
        go_ret
        exact ⟨by rw [hqt]; rfl, B⟩
  · rw [decide_eq_false (fun e => hnn (by rw [← hl, ← hm, e]))]
    have hnb : ((n : Int) == (n' : Int)) = false := by simp; omega
    clear hl hm
    go_enter Try.func26, Try.ntmps26
    go_wp2_with fail
    go_ret
    exact ⟨rfl, Below.refl _ _⟩

end Go.Proofs.Ytdkaacjeogifdaa.Rc

/-
  What the laws' own helpers make: filled, one, CopyLists.
-/
namespace Go.Proofs.Ytdkaacjeogifdaa.Rc
open Go.RowKit

/-- the first k bytes are c, the others noughts -/
def fillK (c : UInt8) (k : Nat) : List UInt8 := (List.range 4096).map fun i => if i < k then c else 0
def fill (c : UInt8) : List UInt8 := fillK c 4096
theorem fillK_length (c : UInt8) (k : Nat) : (fillK c k).length = 4096 := by simp [fillK]
theorem fill_length (c : UInt8) : (fill c).length = 4096 := fillK_length c 4096
theorem fillK_get (c : UInt8) (k i : Nat) : (fillK c k)[i]? = if i < 4096 then some (if i < k then c else 0) else none := by
  unfold fillK
  rw [List.getElem?_map]
  by_cases h : i < 4096
  · rw [List.getElem?_range h, if_pos h]; rfl
  · rw [List.getElem?_eq_none (by simp; omega), if_neg h]; rfl
theorem fillK_zero (c : UInt8) : fillK c 0 = List.replicate 4096 0 := by
  apply List.ext_getElem?
  intro i
  rw [fillK_get, List.getElem?_replicate]
  simp
theorem fillK_set (c : UInt8) (k : Nat) (h : k < 4096) : (fillK c k).set k c = fillK c (k + 1) := by
  apply List.ext_getElem?
  intro i
  rw [List.getElem?_set, fillK_get, fillK_get, fillK_length]
  by_cases e : k = i
  · subst e
    rw [if_pos rfl, if_pos h, if_pos h, if_pos (by omega)]
  · rw [if_neg e]
    by_cases h1 : i < k
    · rw [if_pos h1, if_pos (show i < k + 1 by omega)]
    · rw [if_neg h1, if_neg (show ¬ i < k + 1 by omega)]
theorem fill_get (c : UInt8) (i : Nat) (h : i < 4096) : (fill c)[i]? = some c := by
  unfold fill
  rw [fillK_get, if_pos h, if_pos h]

theorem nought_fill (c : UInt8) : nought 4096 = fillK c 0 := by rw [fillK_zero]; rfl

end Go.Proofs.Ytdkaacjeogifdaa.Rc

/-
  Made: so many bytes, out of a number.
-/
namespace Go.Proofs.Ytdkaacjeogifdaa.Rc
open Go.RowKit

def nx (x : Int) : Int := IntKind.u64.wrap (IntKind.u64.wrap (x * 2862933555777941757) + 3037000493)
/-- the number behind k bytes -/
def seedAt (s : Int) : Nat → Int
  | 0 => nx (IntKind.u64.wrap s)
  | k + 1 => if k % 8 = 0 then nx (seedAt s k) else seedAt s k
def byteAt (s : Int) (k : Nat) : UInt8 := UInt8.ofNat (seedAt s (k + 1) / 1099511627776 % 256).toNat
def madeK (s : Int) (n : Nat) : Nat → List UInt8
  | 0 => nought n
  | k + 1 => (madeK s n k).set k (byteAt s k)
def madeL (s : Int) (n : Nat) : List UInt8 := madeK s n n
theorem madeK_length (s : Int) (n : Nat) : ∀ k, (madeK s n k).length = n
  | 0 => nought_length n
  | k + 1 => by rw [madeK, List.length_set, madeK_length s n k]
theorem byteAt_eq (s : Int) (k : Nat) : ((byteAt s k).toNat : Int) = seedAt s (k + 1) / 1099511627776 % 256 := by
  unfold byteAt
  have h1 : 0 ≤ seedAt s (k + 1) / 1099511627776 % 256 := Int.emod_nonneg _ (by decide)
  have h2 : seedAt s (k + 1) / 1099511627776 % 256 < 256 := Int.emod_lt_of_pos _ (by decide)
  rw [UInt8.toNat_ofNat']
  omega
theorem seedAt_step (s : Int) (k : Nat) (h : k % 8 = 0) : seedAt s (k + 1) = nx (seedAt s k) := by rw [seedAt, if_pos h]
theorem seedAt_same (s : Int) (k : Nat) (h : ¬ k % 8 = 0) : seedAt s (k + 1) = seedAt s k := by rw [seedAt, if_neg h]
theorem nx_range (x : Int) : 0 ≤ nx x ∧ nx x ≤ 18446744073709551615 := by unfold nx; rw [IntKind.wrap_u64]; omega
theorem seedAt_range (s : Int) : ∀ k, 0 ≤ seedAt s k ∧ seedAt s k ≤ 18446744073709551615
  | 0 => nx_range _
  | k + 1 => by rw [seedAt]; split; exact nx_range _; exact seedAt_range s k

set_option maxRecDepth 100000 in
set_option maxHeartbeats 2000000 in
theorem made_at (s : Int) (n : Nat) (w : World) (hn : n ≤ 1000000) :
    Calls Try.prog 16 #[.int .i64 s, .int .i64 (n : Int)] w fun e w' => e = .returned (.slice (some ⟨w.heap.size, 0, none⟩) n n) ∧ Own w' w.heap.size (madeL s n) ∧ Below w.heap.size w w' := by
  have hm : ∀ u : World, (Instr.makeSlice 26 (.int .i64 (n : Int)) (.int .i64 (n : Int))).run Try.prog u = .ok (.slice (some ⟨u.heap.size, 0, none⟩) n n) (u.alloc (.cells (bcs (madeK s n 0)).toArray 5)) := make_run n (by omega)
  have o0 := own_lit w (madeK s n 0)
  have B0 := (Below.refl w.heap.size w).alloc (Nat.le_refl _) (.cells (bcs (madeK s n 0)).toArray 5)
  obtain ⟨U, hU⟩ : ∃ U, U = w.alloc (.cells (bcs (madeK s n 0)).toArray 5) := ⟨_, rfl⟩
  rw [← hU] at o0 B0
  have HU : Hid _ := hU
  clear hU
  go_enter Try.func16, Try.ntmps16
  go_wp2_with fail
  rw [← HU.out]
  go_loopw [6, 7] (fun x i wr => ∃ k : Nat, k ≤ n ∧ x = .int .u64 (seedAt s k) ∧ i = .int .i64 k ∧ Own wr w.heap.size (madeK s n k) ∧ Below w.heap.size w wr) (fun _ i _ => n - (intOf i).toNat)
  case atStart => exact ⟨0, Nat.zero_le _, rfl, rfl, o0, B0⟩
  case round =>
    obtain ⟨k, hk, rfl, rfl, o, B⟩ := hrel
    clear o0 B0 hm HU
    by_cases hlt : k < n
    · have hlt2 : (k : Int) < (n : Int) := by omega
      have c0 := o.cell k (by rw [madeK_length]; exact hlt)
      have f0 := o.frozen k
      have o1 := o.store k (byteAt s k)
      have B1 := B.setCell (p := ⟨w.heap.size, k, none⟩) (Nat.le_refl _) (.int .u8 ((byteAt s k).toNat : Int))
      generalize ((madeK s n k)[k]'(by rw [madeK_length]; exact hlt)) = q at c0
      have o1' : Own _ w.heap.size (madeK s n (k + 1)) := o1
      clear o1
      rw [byteAt_eq] at o1' B1
      have r0 := seedAt_range s k
      by_cases h8 : k % 8 = 0
      · have e8 : ((k : Int) % 8 == 0) = true := by simp; omega
        rw [seedAt_step s k h8] at o1' B1
        unfold nx at o1' B1
        have Hs : Hid _ := seedAt_step s k h8
        clear h8
        go_wp2
        go_roundw
        case rel => exact ⟨k + 1, by omega, by rw [Hs.out]; rfl, by go_num, o1', B1⟩
        case measure => simp [intOf]; omega
      · have e8 : ((k : Int) % 8 == 0) = false := by simp; omega
        rw [seedAt_same s k h8] at o1' B1
        have Hs : Hid _ := seedAt_same s k h8
        clear h8
        go_wp2
        go_roundw
        case rel => exact ⟨k + 1, by omega, by rw [Hs.out], by go_num, o1', B1⟩
        case measure => simp [intOf]; omega
    · have hkn : k = n := by omega
      subst k
      go_wp2
      go_ret
      exact ⟨rfl, o, B⟩
end Go.Proofs.Ytdkaacjeogifdaa.Rc

/-
  allFit; the law's made.
-/
namespace Go.Proofs.Ytdkaacjeogifdaa.H
open Go.RowKit
open Go.Proofs.Ytdkaacjeogifdaa.Su (wi)
open Go.Proofs.Ytdkaacjeogifdaa.Dk (Box)

/-- the cells of images, whatever their data -/
def CellsI (w : World) (a : Option Addr) (is : List (Int × Option Addr × Nat × Nat)) : Prop :=
  0 < is.length → ∃ b o, a = some ⟨b, o, none⟩ ∧ ∀ j (h : j < is.length), w.cell? ⟨b, o + j * 2, none⟩ = some (.int .i64 is[j].1) ∧ w.cell? ⟨b, o + j * 2 + 1, none⟩ = some (.slice is[j].2.1 is[j].2.2.1 is[j].2.2.2)
def fits (size : Int) (q : Int × Option Addr × Nat × Nat) : Bool := wi q.1 2 (size - 1) && decide (q.2.2.1 = 4096)

set_option maxRecDepth 100000 in
set_option maxHeartbeats 4000000 in
theorem allFit_at (w : World) (a : Option Addr) (n c : Nat) (is : List (Int × Option Addr × Nat × Nat)) (size : Int) (hl : is.length = n) (hn : n ≤ 1000000) (hs : 0 ≤ size ∧ size ≤ 1000000) (hc : CellsI w a is) :
    Calls Try.prog 39 #[.slice a n c, .int .i64 size] w fun r w' => r = .returned (.bool (is.all (fits size))) ∧ Below w.heap.size w w' := by
  have HC : Hid (CellsI w a is) := hc
  have HL : Hid (is.length = n) := hl
  obtain ⟨hs1, hs2⟩ := hs
  clear hc hl
  go_enter Try.func39, Try.ntmps39
  go_wp2_with fail
  go_loopw [9] (fun i u => ∃ k : Nat, k ≤ n ∧ i = .int .i64 (k : Int) ∧ (is.take k).all (fits size) = true ∧ Below w.heap.size w u) (fun i _ => n - (intOf i).toNat)
  case atStart => exact ⟨0, Nat.zero_le _, rfl, by simp, Below.refl _ _⟩
  case round =>
    obtain ⟨k, hk, rfl, hal, B⟩ := hrel
    have HA : Hid ((is.take k).all (fits size) = true) := hal
    clear hal
    by_cases hlt : k < n
    · have hki : (k : Int) < (n : Int) := by omega
      have hkl : k < is.length := by rw [HL.out]; exact hlt
      obtain ⟨b, o, rfl, hcc⟩ := HC.out (by omega)
      obtain ⟨c0, c1⟩ := hcc k hkl
      have hst : Hid ((is.take (k + 1)).all (fits size) = ((is.take k).all (fits size) && fits size is[k])) := by
        show _ = _
        rw [List.take_succ_eq_append_getElem hkl, List.all_append]; simp
      have hno : Hid (fits size is[k] = false → is.all (fits size) = false) := fun h => by
        rw [List.all_eq_false]
        exact ⟨is[k], List.getElem_mem hkl, by rw [h]; simp⟩
      generalize (is[k]'hkl) = q at c0 c1 hst hno
      obtain ⟨qb, qa, qn, qc⟩ := q
      dsimp only at c0 c1
      have l0 := block_lt_of_cell c0
      have x0 := (B.cell (p := ⟨b, o + k * 2, none⟩) l0).trans c0
      have x1 := (B.cell (p := ⟨b, o + k * 2 + 1, none⟩) l0).trans c1
      have bx := Box.new wr #[.int .i64 qb, .slice qa qn qc] 37
      have B1 := B.alloc B.size (.cells #[.int .i64 qb, .slice qa qn qc] 37)
      have y0 := bx.cell 0
      have y1 := bx.cell 1
      simp only [List.getElem?_toArray, List.getElem?_cons_zero, List.getElem?_cons_succ] at y0 y1
      have cW := within_at qb 2 (size - 1) (wr.alloc (.cells #[.int .i64 qb, .slice qa qn qc] 37))
      have wr1 : IntKind.i64.wrap (size - 1) = size - 1 := by rw [IntKind.wrap_i64]; omega
      clear hcc c0 c1 l0 bx
      cases hwi : wi qb 2 (size - 1)
      · have hf : fits size (qb, qa, qn, qc) = false := by simp [fits, hwi]
        have hres := hno.out hf
        rw [hwi] at cW
        have HRes : Hid (is.all (fits size) = false) := hres
        clear hres hf hst hno HA
        go_wp2_with fail
        refine Calls.mono cW ?_
        rintro r u ⟨rfl, rfl⟩
        go_wp2_with fail
        go_ret
        exact ⟨by rw [HRes.out]; rfl, B1⟩
      · rw [hwi] at cW
        by_cases hq : qn = 4096
        · have hf : fits size (qb, qa, qn, qc) = true := by simp [fits, hwi, hq]
          have hal : (is.take (k + 1)).all (fits size) = true := by rw [hst.out, HA.out, hf]; rfl
          have HA2 : Hid ((is.take (k + 1)).all (fits size) = true) := hal
          clear hal hst hno HA hf
          subst hq
          go_wp2_with fail
          refine Calls.mono cW ?_
          rintro r u ⟨rfl, rfl⟩
          go_wp2_with fail
          go_roundw
          case rel => exact ⟨k + 1, by omega, by push_cast; rfl, HA2.out, B1⟩
          case measure => simp [intOf]; omega
        · have hf : fits size (qb, qa, qn, qc) = false := by simp [fits, hwi, hq]
          have hres := hno.out hf
          have hne : ((qn : Int) != 4096) = true := by simp; omega
          have HRes : Hid (is.all (fits size) = false) := hres
          clear hres hq hf hst hno HA
          go_wp2_with fail
          refine Calls.mono cW ?_
          rintro r u ⟨rfl, rfl⟩
          go_wp2_with fail
          go_ret
          exact ⟨by rw [HRes.out]; rfl, B1⟩
    · have hke : k = n := by omega
      have hall : is.all (fits size) = true := by have := HA.out; rw [hke, ← HL.out, List.take_length] at this; exact this
      have HRes : Hid (is.all (fits size) = true) := hall
      clear hall HA
      subst hke
      go_wp2_with fail
      go_ret
      exact ⟨by rw [HRes.out]; rfl, B⟩
end Go.Proofs.Ytdkaacjeogifdaa.H
