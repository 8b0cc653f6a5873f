import Derived.Test.YtpponamckndhpaaTexts
import Derived.WalkKit
import Derived.WalkSpells
import Derived.WalkLawsBesides
namespace Go.Proofs.Ytpponamckndhpaa
open Go.RowKit

/-! ### the contracts, the lengths told apart -/
theorem add8_at (g cap n : Nat) (a : Option Addr) (xs : List UInt8) (v : Nat) (V : Int) (w : World) (hV : V = (v : Int)) (hg : w.heap.size = g) (hn : xs.length = n) (hv : v < 256) (hm : n + 1 ≤ 281474976710656) (hr : Rd w a xs) :
    Calls Try.prog 17 #[.slice a n cap, .int .u8 V] w fun e w' => e = .returned (.slice (some ⟨g, 0, none⟩) (n + 1) (n + 1)) ∧ Own w' g (xs ++ toBE 1 v) ∧ Below g w w' := by
  subst hn hg hV; exact add8_any a cap xs v w hv hm hr
theorem add16_at (g cap n : Nat) (a : Option Addr) (xs : List UInt8) (v : Nat) (V : Int) (w : World) (hV : V = (v : Int)) (hg : w.heap.size = g) (hn : xs.length = n) (hv : v < 65536) (hm : n + 2 ≤ 281474976710656) (hr : Rd w a xs) :
    Calls Try.prog 19 #[.slice a n cap, .int .u16 V] w fun e w' => e = .returned (.slice (some ⟨g, 0, none⟩) (n + 2) (n + 2)) ∧ Own w' g (xs ++ toBE 2 v) ∧ Below g w w' := by
  subst hn hg hV; exact add16_any a cap xs v w hv hm hr
theorem add32_at (g cap n : Nat) (a : Option Addr) (xs : List UInt8) (v : Nat) (V : Int) (w : World) (hV : V = (v : Int)) (hg : w.heap.size = g) (hn : xs.length = n) (hv : v < 4294967296) (hm : n + 4 ≤ 281474976710656) (hr : Rd w a xs) :
    Calls Try.prog 20 #[.slice a n cap, .int .u32 V] w fun e w' => e = .returned (.slice (some ⟨g, 0, none⟩) (n + 4) (n + 4)) ∧ Own w' g (xs ++ toBE 4 v) ∧ Below g w w' := by
  subst hn hg hV; exact add32_any a cap xs v w hv hm hr
theorem add64_at (g cap n : Nat) (a : Option Addr) (xs : List UInt8) (v : Nat) (V : Int) (w : World) (hV : V = (v : Int)) (hg : w.heap.size = g) (hn : xs.length = n) (hv : v < 18446744073709551616) (hm : n + 8 ≤ 281474976710656) (hr : Rd w a xs) :
    Calls Try.prog 21 #[.slice a n cap, .int .u64 V] w fun e w' => e = .returned (.slice (some ⟨g, 0, none⟩) (n + 8) (n + 8)) ∧ Own w' g (xs ++ toBE 8 v) ∧ Below g w w' := by
  subst hn hg hV; exact add64_any a cap xs v w hv hm hr
theorem addText_at (g cap n m : Nat) (a : Option Addr) (xs : List UInt8) (s : ByteArray) (p : List UInt8) (w : World) (hg : w.heap.size = g) (hn : xs.length = n) (hs : s = ⟨p.toArray⟩) (hp : p.length = m) (hm : m ≤ 65535) (hl : n + (2 + m) ≤ 281474976710656) (hr : Rd w a xs) :
    Calls Try.prog 12 #[.slice a n cap, .string s] w fun e w' => e = .returned (.tuple #[.slice (some ⟨g, 0, none⟩) (n + (2 + m)) (n + (2 + m)), .int .i64 0]) ∧ Own w' g (xs ++ (toBE 2 m ++ p)) ∧ Below g w w' := by
  subst hn hg hs hp
  have h := addText_any a cap xs ⟨p.toArray⟩ w (by simpa [ByteArray.size] using hm) (by simpa [ByteArray.size] using hl) hr
  simpa [ByteArray.size] using h
theorem u8_at (cap n : Nat) (a : Option Addr) (xs : List UInt8) (i : Int) (v : Nat) (V : Int) (w : World) (hV : (v : Int) = V) (hn : xs.length = n) (hm : n ≤ 9223372036854775807) (hr : Rd w a xs) (hv : numAt xs i 1 = some v) :
    Calls Try.prog 9 #[.slice a n cap, .int .i64 i] w fun e w' => e = .returned (.tuple #[.int .u8 V, .bool true]) ∧ w = w' := by
  subst hn hV; have h := u8_any a cap xs i w hm hr; rw [hv] at h; exact h
theorem u16_at (cap n : Nat) (a : Option Addr) (xs : List UInt8) (i : Int) (v : Nat) (V : Int) (w : World) (hV : (v : Int) = V) (hn : xs.length = n) (hm : n ≤ 9223372036854775807) (hr : Rd w a xs) (hv : numAt xs i 2 = some v) :
    Calls Try.prog 7 #[.slice a n cap, .int .i64 i] w fun e w' => e = .returned (.tuple #[.int .u16 V, .bool true]) ∧ w = w' := by
  subst hn hV; have h := u16_any a cap xs i w hm hr; rw [hv] at h; exact h
theorem u32_at (cap n : Nat) (a : Option Addr) (xs : List UInt8) (i : Int) (v : Nat) (V : Int) (w : World) (hV : (v : Int) = V) (hn : xs.length = n) (hm : n ≤ 9223372036854775807) (hr : Rd w a xs) (hv : numAt xs i 4 = some v) :
    Calls Try.prog 10 #[.slice a n cap, .int .i64 i] w fun e w' => e = .returned (.tuple #[.int .u32 V, .bool true]) ∧ w = w' := by
  subst hn hV; have h := u32_any a cap xs i w hm hr; rw [hv] at h; exact h
theorem u64_at (cap n : Nat) (a : Option Addr) (xs : List UInt8) (i : Int) (v : Nat) (V : Int) (w : World) (hV : (v : Int) = V) (hn : xs.length = n) (hm : n ≤ 9223372036854775807) (hr : Rd w a xs) (hv : numAt xs i 8 = some v) :
    Calls Try.prog 8 #[.slice a n cap, .int .i64 i] w fun e w' => e = .returned (.tuple #[.int .u64 V, .bool true]) ∧ w = w' := by
  subst hn hV; have h := u64_any a cap xs i w hm hr; rw [hv] at h; exact h
theorem text_at (cap n : Nat) (a : Option Addr) (xs t : List UInt8) (i : Int) (j : Nat) (w : World) (hn : xs.length = n) (hl : n ≤ 281474976710656) (hcap : n ≤ cap) (hm : cap ≤ 9223372036854775807) (hr : Rd w a xs) (ht : textAt xs i = some (t, j)) :
    Calls Try.prog 11 #[.slice a n cap, .int .i64 i] w fun e w' => e = .returned (.tuple #[.string ⟨t.toArray⟩, .int .i64 j, .bool true]) ∧ w = w' := by
  subst hn; have h := text_any a cap xs i w hl hcap hm hr; rw [ht] at h; exact h
theorem same_at (ca cb n m : Nat) (a b : Option Addr) (xs ys : List UInt8) (w : World) (hn : xs.length = n) (hm : ys.length = m) (ha : Rd w a xs) (hb : Rd w b ys) :
    Calls Try.prog 16 #[.slice a n ca, .slice b m cb] w fun e w' => e = .returned (.bool (xs == ys)) ∧ w = w' := by
  subst hn hm; exact same_any a b ca cb xs ys w ha hb

theorem text_str (t : List UInt8) (P : ByteArray) (h : P = ⟨t.toArray⟩) : P.toList = t := by
  rw [h]; simp
theorem wrap16 (x : Int) : IntKind.u16.wrap x = x % 65536 := by simp [IntKind.wrap, IntKind.bits, IntKind.signed]

/-! ### what was put is read -/
theorem numAt_put (pre post : List UInt8) (k v : Nat) (i : Int) (hi : i = (pre.length : Int)) : numAt (pre ++ (toBE k v ++ post)) i k = some (v % 256 ^ k) := by
  subst hi
  rw [numAt_some (by simp [toBE_length])]
  rw [List.drop_left, List.take_append_of_le_length (by simp [toBE_length]), List.take_of_length_le (by simp [toBE_length]), beNat_toBE]

theorem textAt_put (pre post t : List UInt8) (i : Int) (hi : i = (pre.length : Int)) (ht : t.length < 65536) : textAt (pre ++ (toBE 2 t.length ++ (t ++ post))) i = some (t, pre.length + 2 + t.length) := by
  unfold textAt
  rw [numAt_put pre (t ++ post) 2 t.length i hi]
  subst hi
  have e : t.length % 256 ^ 2 = t.length := Nat.mod_eq_of_lt (by omega)
  simp only [e, Int.toNat_natCast]
  rw [if_pos (by simp [toBE_length]; omega)]
  have e2 : (pre ++ (toBE 2 t.length ++ (t ++ post))).drop (pre.length + 2) = t ++ post := by
    rw [← List.append_assoc]
    exact List.drop_left' (by simp [toBE_length])
  rw [e2, List.take_left]

/-- the head of a row of one's own -/
theorem Own.rd_head {w : World} {g : Nat} {xs post : List UInt8} (h : Own w g (xs ++ post)) : Rd w (some ⟨g, 0, none⟩) xs := fun _ => ⟨g, 0, rfl, fun j hj => by
  rw [Nat.zero_add, h.cell j (by simp; omega), List.getElem_append_left hj]⟩

set_option maxRecDepth 100000 in
set_option maxHeartbeats 1000000 in
theorem back_any (a : Option Addr) (cap n m1 m2 : Nat) (xs : List UInt8) (P Q : ByteArray) (p q : List UInt8) (v : Nat) (w : World) (hr : Rd w a xs) (hn : xs.length = n) (hm : n ≤ 140737488355328) (hP : P = ⟨p.toArray⟩) (hQ : Q = ⟨q.toArray⟩) (hm1 : p.length = m1) (hm2 : q.length = m2) (l1 : m1 ≤ 65535) (l2 : m2 ≤ 65535) (hv : v < 18446744073709551616) :
    Calls Try.prog 5 #[.slice a n cap, .string P, .string Q, .int .u64 v] w fun e w' => e = .returned (.bool true) ∧ Below w.heap.size w w' := by
  have z1 : P.size = m1 := by rw [hP, ← hm1]; simp [ByteArray.size]
  have z2 : Q.size = m2 := by rw [hQ, ← hm2]; simp [ByteArray.size]
  have HP : Hid (P = ⟨p.toArray⟩) := hP
  have HQ : Hid (Q = ⟨q.toArray⟩) := hQ
  have HN : Hid (xs.length = n) := hn
  have H1 : Hid (p.length = m1) := hm1
  have H2 : Hid (q.length = m2) := hm2
  clear hP hQ hn hm1 hm2
  go_enter Try.func5, Try.ntmps5
  have hl8 := toBE_length 1 (v / 2048 % 256)
  have hl16 := toBE_length 2 (v / 128 % 65536)
  have hl32 := toBE_length 4 (v / 8 % 4294967296)
  have hl64 := toBE_length 8 v
  have hlp := toBE_length 2 m1
  have hlq := toBE_length 2 m2
  obtain ⟨L1, hL1⟩ : ∃ L, L = xs ++ toBE 1 (v / 2048 % 256) := ⟨_, rfl⟩
  obtain ⟨L2, hL2⟩ : ∃ L, L = L1 ++ toBE 2 (v / 128 % 65536) := ⟨_, rfl⟩
  obtain ⟨L3, hL3⟩ : ∃ L, L = L2 ++ toBE 4 (v / 8 % 4294967296) := ⟨_, rfl⟩
  obtain ⟨L4, hL4⟩ : ∃ L, L = L3 ++ toBE 8 v := ⟨_, rfl⟩
  obtain ⟨L5, hL5⟩ : ∃ L, L = L4 ++ (toBE 2 m1 ++ p) := ⟨_, rfl⟩
  obtain ⟨L6, hL6⟩ : ∃ L, L = L5 ++ (toBE 2 m2 ++ q) := ⟨_, rfl⟩
  have N1 : Hid (L1.length = n + 1) := by rw [hL1, List.length_append, hl8, HN.out]; exact rfl
  have N2 : Hid (L2.length = n + 3) := by rw [hL2, List.length_append, hl16, N1.out]; exact rfl
  have N3 : Hid (L3.length = n + 7) := by rw [hL3, List.length_append, hl32, N2.out]; exact rfl
  have N4 : Hid (L4.length = n + 15) := by rw [hL4, List.length_append, hl64, N3.out]; exact rfl
  have N5 : Hid (L5.length = n + 17 + m1) := by rw [hL5, List.length_append, List.length_append, hlp, H1.out, N4.out]; show _ = _; omega
  have N6 : Hid (L6.length = n + 19 + m1 + m2) := by rw [hL6, List.length_append, List.length_append, hlq, H2.out, N5.out]; show _ = _; omega
  have e1 : L6 = xs ++ (toBE 1 (v / 2048 % 256) ++ (toBE 2 (v / 128 % 65536) ++ (toBE 4 (v / 8 % 4294967296) ++ (toBE 8 v ++ (toBE 2 m1 ++ (p ++ (toBE 2 m2 ++ q))))))) := by rw [hL6, hL5, hL4, hL3, hL2, hL1]; simp only [List.append_assoc]
  have e2 : L6 = L1 ++ (toBE 2 (v / 128 % 65536) ++ (toBE 4 (v / 8 % 4294967296) ++ (toBE 8 v ++ (toBE 2 m1 ++ (p ++ (toBE 2 m2 ++ q)))))) := by rw [hL6, hL5, hL4, hL3, hL2]; simp only [List.append_assoc]
  have e3 : L6 = L2 ++ (toBE 4 (v / 8 % 4294967296) ++ (toBE 8 v ++ (toBE 2 m1 ++ (p ++ (toBE 2 m2 ++ q))))) := by rw [hL6, hL5, hL4, hL3]; simp only [List.append_assoc]
  have e4 : L6 = L3 ++ (toBE 8 v ++ (toBE 2 m1 ++ (p ++ (toBE 2 m2 ++ q)))) := by rw [hL6, hL5, hL4]; simp only [List.append_assoc]
  have e5 : L6 = L4 ++ (toBE 2 m1 ++ (p ++ (toBE 2 m2 ++ q))) := by rw [hL6, hL5]; simp only [List.append_assoc]
  have e6 : L6 = L5 ++ (toBE 2 m2 ++ (q ++ [])) := by rw [hL6]; simp only [List.append_nil]
  have R1 : Hid (numAt L6 (n : Int) 1 = some (v / 2048 % 256 % 256 ^ 1)) := by rw [e1]; exact numAt_put _ _ _ _ _ (by have := HN.out; omega)
  have R2 : Hid (numAt L6 ((n : Int) + 1) 2 = some (v / 128 % 65536 % 256 ^ 2)) := by rw [e2]; exact numAt_put _ _ _ _ _ (by have := N1.out; omega)
  have R3 : Hid (numAt L6 ((n : Int) + 3) 4 = some (v / 8 % 4294967296 % 256 ^ 4)) := by rw [e3]; exact numAt_put _ _ _ _ _ (by have := N2.out; omega)
  have R4 : Hid (numAt L6 ((n : Int) + 7) 8 = some (v % 256 ^ 8)) := by rw [e4]; exact numAt_put _ _ _ _ _ (by have := N3.out; omega)
  have R5 : Hid (textAt L6 ((n : Int) + 15) = some (p, n + 17 + m1)) := by
    have h := textAt_put L4 (toBE 2 m2 ++ q) p ((n : Int) + 15) (by have := N4.out; omega) (by have := H1.out; omega)
    rw [H1.out, ← e5, N4.out] at h
    exact h
  have R6 : Hid (textAt L6 ((n + 17 + m1 : Nat) : Int) = some (q, n + 19 + m1 + m2)) := by
    have h := textAt_put L5 [] q ((n + 17 + m1 : Nat) : Int) (by have := N5.out; omega) (by have := H2.out; omega)
    rw [H2.out, ← e6, N5.out] at h
    have e : n + 17 + m1 + 2 + m2 = n + 19 + m1 + m2 := by omega
    rw [e] at h
    exact h
  have E1 : Hid (L6 = xs ++ L6.drop n) := by
    have h : L6.take n = xs := by rw [e1, ← HN.out]; exact List.take_left
    show L6 = xs ++ L6.drop n
    rw [← h]; simp
  have U1 : Hid (L1 = xs ++ toBE 1 (v / 2048 % 256)) := hL1
  have U2 : Hid (L2 = L1 ++ toBE 2 (v / 128 % 65536)) := hL2
  have U3 : Hid (L3 = L2 ++ toBE 4 (v / 8 % 4294967296)) := hL3
  have U4 : Hid (L4 = L3 ++ toBE 8 v) := hL4
  have U5 : Hid (L5 = L4 ++ (toBE 2 m1 ++ p)) := hL5
  have U6 : Hid (L6 = L5 ++ (toBE 2 m2 ++ q)) := hL6
  clear hl8 hl16 hl32 hl64 hlp hlq hL1 hL2 hL3 hL4 hL5 hL6 e1 e2 e3 e4 e5 e6
  go_wp2_with fail
  refine (add8_at w.heap.size cap n a xs (v / 2048 % 256) _ w (by omega) rfl HN.out (by omega) (by omega) hr).mono ?_
  rintro e w1 ⟨rfl, o1, b1⟩
  rw [← U1.out] at o1
  go_wp2_with fail
  refine (add16_at w1.heap.size _ _ _ L1 (v / 128 % 65536) _ w1 (by rw [wrap16]; omega) rfl N1.out (by omega) (by omega) o1.rd).mono ?_
  rintro e w2 ⟨rfl, o2, b2⟩
  rw [← U2.out] at o2
  have B2 : Below w.heap.size w w2 := b1.trans (b2.mono b1.size)
  clear o1 b1 b2
  go_wp2_with fail
  refine (add32_at w2.heap.size _ _ _ L2 (v / 8 % 4294967296) _ w2 (by omega) rfl N2.out (by omega) (by omega) o2.rd).mono ?_
  rintro e w3 ⟨rfl, o3, b3⟩
  rw [← U3.out] at o3
  have B3 : Below w.heap.size w w3 := B2.trans (b3.mono B2.size)
  clear o2 B2 b3
  go_wp2_with fail
  refine (add64_at w3.heap.size _ _ _ L3 v _ w3 rfl rfl N3.out (by omega) (by omega) o3.rd).mono ?_
  rintro e w4 ⟨rfl, o4, b4⟩
  rw [← U4.out] at o4
  have B4 : Below w.heap.size w w4 := B3.trans (b4.mono B3.size)
  clear o3 B3 b4
  go_wp2_with fail
  refine (addText_at w4.heap.size _ _ m1 _ L4 P p w4 rfl N4.out HP.out H1.out l1 (by omega) o4.rd).mono ?_
  rintro e w5 ⟨rfl, o5, b5⟩
  rw [← U5.out] at o5
  have B5 : Below w.heap.size w w5 := B4.trans (b5.mono B4.size)
  clear o4 B4 b5
  go_wp2_with fail
  refine (addText_at w5.heap.size _ _ m2 _ L5 Q q w5 rfl (N5.out.trans (by omega)) HQ.out H2.out l2 (by omega) o5.rd).mono ?_
  rintro e w6 ⟨rfl, o6, b6⟩
  rw [← U6.out] at o6
  have B6 : Below w.heap.size w w6 := B5.trans (b6.mono B5.size)
  clear o5 B5 b6
  have W16 : Hid (((v / 128 % 65536 % 256 ^ 2 : Nat) : Int) = IntKind.u16.wrap ((v : Int) / 128)) := by show _ = _; rw [wrap16]; omega
  go_wp2_with fail
  refine (u8_at _ _ _ L6 (n : Int) _ ((v : Int) / 2048 % 256) w6 (by omega) (N6.out.trans (by omega)) (by omega) o6.rd R1.out).mono ?_
  rintro e w' ⟨rfl, rfl⟩
  go_wp2_with fail
  refine (u16_at _ _ _ L6 ((n : Int) + 1) _ (IntKind.u16.wrap ((v : Int) / 128)) w6 W16.out (N6.out.trans (by omega)) (by omega) o6.rd R2.out).mono ?_
  rintro e w' ⟨rfl, rfl⟩
  go_wp2_with fail
  refine (u32_at _ _ _ L6 ((n : Int) + 3) _ ((v : Int) / 8 % 4294967296) w6 (by omega) (N6.out.trans (by omega)) (by omega) o6.rd R3.out).mono ?_
  rintro e w' ⟨rfl, rfl⟩
  go_wp2_with fail
  refine (u64_at _ _ _ L6 ((n : Int) + 7) _ (v : Int) w6 (by omega) (N6.out.trans (by omega)) (by omega) o6.rd R4.out).mono ?_
  rintro e w' ⟨rfl, rfl⟩
  go_wp2_with fail
  refine (text_at _ _ _ L6 p ((n : Int) + 15) (n + 17 + m1) w6 (N6.out.trans (by omega)) (by omega) (by omega) (by omega) o6.rd R5.out).mono ?_
  rintro e w' ⟨rfl, rfl⟩
  go_wp2_with fail
  refine (text_at _ _ _ L6 q _ (n + 19 + m1 + m2) w6 (N6.out.trans (by omega)) (by omega) (by omega) (by omega) o6.rd ?_).mono ?_
  · have h := R6.out; simpa using h
  rintro e w' ⟨rfl, rfl⟩
  have tP := text_str p P HP.out
  have tQ := text_str q Q HQ.out
  have eN : n + 15 + (2 + m1) + (2 + m2) = n + 19 + m1 + m2 := by omega
  have hh : Rd w6 (some ⟨w5.heap.size, 0, none⟩) xs := Own.rd_head (post := L6.drop n) (by have h := o6; rw [E1.out] at h; exact h)
  have hx := hr.below B6 (Nat.le_refl _)
  clear o6 U1 U2 U3 U4 U5 U6 E1 R1 R2 R3 R4 R5 R6 N1 N2 N3 N4 N5 N6 W16 hr
  go_wp2_with fail
  refine (same_at _ _ n n _ _ xs xs w6 HN.out HN.out hh hx).mono ?_
  rintro e w' ⟨rfl, rfl⟩
  clear hh hx
  go_wp2_with fail
  refine (awake_any w6).mono ?_
  rintro e w7 ⟨rfl, b7⟩
  go_wp2
  go_ret
  exact ⟨rfl, B6.trans (b7.mono B6.size)⟩

set_option maxRecDepth 100000 in
theorem back_long (a : Option Addr) (cap n : Nat) (P Q : ByteArray) (v : Nat) (w : World) (hP : P.size ≤ 9223372036854775807) (hQ : Q.size ≤ 9223372036854775807) (h : 65535 < P.size ∨ 65535 < Q.size) :
    Calls Try.prog 5 #[.slice a n cap, .string P, .string Q, .int .u64 v] w fun e w' => e = .returned (.bool true) ∧ Below w.heap.size w w' := by
  by_cases h1 : 65535 < P.size
  · go_enter Try.func5, Try.ntmps5
    go_wp2_with (go_at_call 13; refine (awake_any _).mono ?_; rintro e w' ⟨rfl, hb⟩)
    go_ret
    exact ⟨rfl, hb⟩
  · have h2 : 65535 < Q.size := by omega
    clear h
    go_enter Try.func5, Try.ntmps5
    go_wp2_with (go_at_call 13; refine (awake_any _).mono ?_; rintro e w' ⟨rfl, hb⟩)
    go_ret
    exact ⟨rfl, hb⟩
end Go.Proofs.Ytpponamckndhpaa
