/-
  OctetsTells, walked: whatever the bytes, the text, the place and the number, it returns true and writes nothing that was there.
-/
import Derived.Test.YtpponamckndhpaaRefTexts
import Derived.WalkKit
import Derived.WalkSpells
import Derived.WalkLawsBesides
namespace Go.Proofs.Ytpponamckndhpaa
open Go.RowKit

theorem u8_num (cap n : Nat) (a : Option Addr) (xs : List UInt8) (i : Int) (q : Nat) (ok : Bool) (w : World) (hl : xs.length = n) (hm : n ≤ 9223372036854775807) (hr : Rd w a xs) (hq : (numAt xs i 1).getD 0 = q) (hok : (numAt xs i 1).isSome = ok) :
    Calls Try.prog 9 #[.slice a n cap, .int .i64 i] w fun e w' => e = .returned (.tuple #[.int .u8 q, .bool ok]) ∧ w = w' := by
  subst hl hq hok; exact u8_any a cap xs i w hm hr
theorem u16_num (cap n : Nat) (a : Option Addr) (xs : List UInt8) (i : Int) (q : Nat) (ok : Bool) (w : World) (hl : xs.length = n) (hm : n ≤ 9223372036854775807) (hr : Rd w a xs) (hq : (numAt xs i 2).getD 0 = q) (hok : (numAt xs i 2).isSome = ok) :
    Calls Try.prog 7 #[.slice a n cap, .int .i64 i] w fun e w' => e = .returned (.tuple #[.int .u16 q, .bool ok]) ∧ w = w' := by
  subst hl hq hok; exact u16_any a cap xs i w hm hr
theorem u32_num (cap n : Nat) (a : Option Addr) (xs : List UInt8) (i : Int) (q : Nat) (ok : Bool) (w : World) (hl : xs.length = n) (hm : n ≤ 9223372036854775807) (hr : Rd w a xs) (hq : (numAt xs i 4).getD 0 = q) (hok : (numAt xs i 4).isSome = ok) :
    Calls Try.prog 10 #[.slice a n cap, .int .i64 i] w fun e w' => e = .returned (.tuple #[.int .u32 q, .bool ok]) ∧ w = w' := by
  subst hl hq hok; exact u32_any a cap xs i w hm hr
theorem u64_num (cap n : Nat) (a : Option Addr) (xs : List UInt8) (i : Int) (q : Nat) (ok : Bool) (w : World) (hl : xs.length = n) (hm : n ≤ 9223372036854775807) (hr : Rd w a xs) (hq : (numAt xs i 8).getD 0 = q) (hok : (numAt xs i 8).isSome = ok) :
    Calls Try.prog 8 #[.slice a n cap, .int .i64 i] w fun e w' => e = .returned (.tuple #[.int .u64 q, .bool ok]) ∧ w = w' := by
  subst hl hq hok; exact u64_any a cap xs i w hm hr
theorem ref_num (cap n : Nat) (a : Option Addr) (xs : List UInt8) (i : Int) (size : Nat) (S : Int) (q : Nat) (ok : Bool) (w : World) (hS : S = (size : Int)) (hl : xs.length = n) (hs0 : 0 < size) (hs : size ≤ 8) (hm : n ≤ 9223372036854775807) (hr : Rd w a xs) (hq : (numAt xs i size).getD 0 = q) (hok : (numAt xs i size).isSome = ok) :
    Calls Try.prog 15 #[.slice a n cap, .int .i64 i, .int .i64 S] w fun e w' => e = .returned (.tuple #[.int .u64 q, .bool ok]) ∧ w = w' := by
  subst hq hok; exact refNumber_at cap n a xs i size S w hS hl hs0 hs hm hr
theorem text_num (cap n : Nat) (a : Option Addr) (xs t : List UInt8) (i : Int) (j : Nat) (ok : Bool) (w : World) (hl : xs.length = n) (hn : n ≤ 281474976710656) (hcap : n ≤ cap) (hm : cap ≤ 9223372036854775807) (hr : Rd w a xs) (ht : (textAt xs i).getD ([], 0) = (t, j)) (hok : (textAt xs i).isSome = ok) :
    Calls Try.prog 11 #[.slice a n cap, .int .i64 i] w fun e w' => e = .returned (.tuple #[.string ⟨t.toArray⟩, .int .i64 j, .bool ok]) ∧ w = w' := by
  subst hl hok; have h := text_any a cap xs i w hn hcap hm hr; rw [ht] at h; exact h
theorem refText_num (cap n : Nat) (a : Option Addr) (xs t : List UInt8) (i : Int) (j : Nat) (ok : Bool) (w : World) (hl : xs.length = n) (hn : n ≤ 281474976710656) (hcap : n ≤ cap) (hm : cap ≤ 9223372036854775807) (hr : Rd w a xs) (ht : (textAt xs i).getD ([], 0) = (t, j)) (hok : (textAt xs i).isSome = ok) :
    Calls Try.prog 23 #[.slice a n cap, .int .i64 i] w fun e w' => e = .returned (.tuple #[.string ⟨t.toArray⟩, .int .i64 j, .bool ok]) ∧ w = w' := by
  subst hl hok; have h := refText_any a cap xs i w hn hcap hm hr; rw [ht] at h; exact h
/-- Add of the document, its row told -/
theorem refAdd_row (cap n N : Nat) (a : Option Addr) (xs : List UInt8) (v : Nat) (V S : Int) (w : World) (hV : V = (v : Int)) (hS : S = (N : Int)) (hl : xs.length = n) (hv : v < 18446744073709551616) (hN0 : 0 < N) (hN : N ≤ 8) (hn : n ≤ 140737488355300) (hr : Rd w a xs) (hnil : a = none → cap = 0) :
    Calls Try.prog 18 #[.slice a n cap, .int .u64 V, .int .i64 S] w fun e w' => ∃ g cap', e = .returned (.slice (some ⟨g, 0, none⟩) (n + N) cap') ∧ Rd w' (some ⟨g, 0, none⟩) (xs ++ toBE N v) ∧ Below w.heap.size w w' := by
  refine (refAdd_at cap n N a xs v V S w hV hS hl hv hN0 hN hn hr hnil).mono ?_
  rintro e w' ⟨v', rfl, ho, hb⟩
  obtain ⟨al, cl, hval, hll, hlc, hlm, hrl, hpos⟩ := owns_rd ho
  obtain ⟨g, rfl, hg0, hg1⟩ := hpos (by omega)
  subst hval
  exact ⟨g, cl, rfl, hrl, hb⟩

theorem len_text {xs p : List UInt8} {n m : Nat} (h : xs.length = n) (hp : p.length = m) : (xs ++ (toBE 2 m ++ p)).length = n + 2 + m := by
  rw [List.length_append, List.length_append, toBE_length, h, hp]; omega
theorem len_put {xs : List UInt8} {n : Nat} (h : xs.length = n) (k v : Nat) : (xs ++ toBE k v).length = n + k := by rw [List.length_append, toBE_length, h]

set_option maxRecDepth 100000 in
set_option maxHeartbeats 1000000 in
theorem tells_any (cap n m : Nat) (a : Option Addr) (xs p : List UInt8) (s : ByteArray) (i : Int) (v : Nat) (w : World) (hr : Rd w a xs) (hl : xs.length = n) (hn : n ≤ 140737488351232) (hcap : n ≤ cap) (hcm : cap ≤ 9223372036854775807) (hnil : a = none → cap = 0) (hs : s = ⟨p.toArray⟩) (hp : p.length = m) (hm : m ≤ 9223372036854775807) (hv : v < 18446744073709551616) :
    Calls Try.prog 4 #[.slice a n cap, .string s, .int .i64 i, .int .u64 v] w fun e w' => e = .returned (.bool true) ∧ Below w.heap.size w w' := by
  have hz : s.size = m := by rw [hs, ← hp]; simp [ByteArray.size]
  have HL : Hid (xs.length = n) := hl
  have HS : Hid (s = ⟨p.toArray⟩) := hs
  have HP : Hid (p.length = m) := hp
  have HNIL : Hid (a = none → cap = 0) := hnil
  clear hl hs hp hnil
  obtain ⟨q1, hq1⟩ : ∃ q, (numAt xs i 1).getD 0 = q := ⟨_, rfl⟩
  obtain ⟨q2, hq2⟩ : ∃ q, (numAt xs i 2).getD 0 = q := ⟨_, rfl⟩
  obtain ⟨q4, hq4⟩ : ∃ q, (numAt xs i 4).getD 0 = q := ⟨_, rfl⟩
  obtain ⟨q8, hq8⟩ : ∃ q, (numAt xs i 8).getD 0 = q := ⟨_, rfl⟩
  obtain ⟨k1, hk1⟩ : ∃ q, (numAt xs i 1).isSome = q := ⟨_, rfl⟩
  obtain ⟨k2, hk2⟩ : ∃ q, (numAt xs i 2).isSome = q := ⟨_, rfl⟩
  obtain ⟨k4, hk4⟩ : ∃ q, (numAt xs i 4).isSome = q := ⟨_, rfl⟩
  obtain ⟨k8, hk8⟩ : ∃ q, (numAt xs i 8).isSome = q := ⟨_, rfl⟩
  have b1 : q1 < 256 := by have := numAt_lt xs i 1; rw [hq1] at this; simpa using this
  have b2 : q2 < 65536 := by have := numAt_lt xs i 2; rw [hq2] at this; simpa using this
  have b4 : q4 < 4294967296 := by have := numAt_lt xs i 4; rw [hq4] at this; simpa using this
  have b8 : q8 < 18446744073709551616 := by have := numAt_lt xs i 8; rw [hq8] at this; simpa using this
  have Q1 : Hid ((numAt xs i 1).getD 0 = q1 ∧ (numAt xs i 1).isSome = k1) := ⟨hq1, hk1⟩
  have Q2 : Hid ((numAt xs i 2).getD 0 = q2 ∧ (numAt xs i 2).isSome = k2) := ⟨hq2, hk2⟩
  have Q4 : Hid ((numAt xs i 4).getD 0 = q4 ∧ (numAt xs i 4).isSome = k4) := ⟨hq4, hk4⟩
  have Q8 : Hid ((numAt xs i 8).getD 0 = q8 ∧ (numAt xs i 8).isSome = k8) := ⟨hq8, hk8⟩
  obtain ⟨⟨t, j⟩, ht⟩ : ∃ r, (textAt xs i).getD ([], 0) = r := ⟨_, rfl⟩
  obtain ⟨kt, hkt⟩ : ∃ q, (textAt xs i).isSome = q := ⟨_, rfl⟩
  have QT : Hid ((textAt xs i).getD ([], 0) = (t, j) ∧ (textAt xs i).isSome = kt) := ⟨ht, hkt⟩
  clear hq1 hq2 hq4 hq8 hk1 hk2 hk4 hk8 ht hkt
  go_enter Try.func4, Try.ntmps4
  go_wp2_with fail
  refine (lent_at cap n a xs w HL.out (by omega) hr HNIL.out).mono ?_
  rintro e w1 ⟨g, c1, rfl, hc1, hc1m, hg, hi1, B1⟩
  have hr1 : Rd w1 a xs := hr.below B1 (Nat.le_refl _)
  have hin := hi1.head
  clear hr
  go_wp2_with fail
  refine (u8_num _ _ _ xs i q1 k1 w1 HL.out (by omega) hin Q1.out.1 Q1.out.2).mono ?_
  rintro e w' ⟨rfl, rfl⟩
  go_wp2_with fail
  refine (u16_num _ _ _ xs i q2 k2 w1 HL.out (by omega) hin Q2.out.1 Q2.out.2).mono ?_
  rintro e w' ⟨rfl, rfl⟩
  go_wp2_with fail
  refine (u32_num _ _ _ xs i q4 k4 w1 HL.out (by omega) hin Q4.out.1 Q4.out.2).mono ?_
  rintro e w' ⟨rfl, rfl⟩
  go_wp2_with fail
  refine (u64_num _ _ _ xs i q8 k8 w1 HL.out (by omega) hin Q8.out.1 Q8.out.2).mono ?_
  rintro e w' ⟨rfl, rfl⟩
  go_wp2_with fail
  refine (ref_num _ _ _ xs i 1 _ q1 k1 w1 rfl HL.out (by omega) (by omega) (by omega) hr1 Q1.out.1 Q1.out.2).mono ?_
  rintro e w' ⟨rfl, rfl⟩
  go_wp2_with fail
  refine (ref_num _ _ _ xs i 2 _ q2 k2 w1 rfl HL.out (by omega) (by omega) (by omega) hr1 Q2.out.1 Q2.out.2).mono ?_
  rintro e w' ⟨rfl, rfl⟩
  go_wp2_with fail
  refine (ref_num _ _ _ xs i 4 _ q4 k4 w1 rfl HL.out (by omega) (by omega) (by omega) hr1 Q4.out.1 Q4.out.2).mono ?_
  rintro e w' ⟨rfl, rfl⟩
  go_wp2_with fail
  refine (ref_num _ _ _ xs i 8 _ q8 k8 w1 rfl HL.out (by omega) (by omega) (by omega) hr1 Q8.out.1 Q8.out.2).mono ?_
  rintro e w' ⟨rfl, rfl⟩
  clear Q1 Q2 Q4 Q8
  go_wp2_with fail
  refine (add8_at w1.heap.size _ n _ xs (v % 256) _ w1 (by omega) rfl HL.out (by omega) (by omega) hi1.head).mono ?_
  rintro e w8a ⟨rfl, o8, c8⟩
  have hi8a := hi1.below c8 (Nat.le_refl _)
  have hr8a := hr1.below c8 (Nat.le_refl _)
  have B8a : Below w.heap.size w w8a := B1.trans (c8.mono B1.size)
  have rd8 := o8.rd
  clear hi1 hr1 hin B1 c8 o8
  go_wp2_with fail
  refine (refAdd_row cap n 1 a xs (v % 256) _ _ w8a (by omega) rfl HL.out (by omega) (by omega) (by omega) (by omega) hr8a HNIL.out).mono ?_
  rintro e w8b ⟨g8, d8, rfl, rr8, c8⟩
  have hi8 := hi8a.below c8 (Nat.le_refl _)
  have hr8 := hr8a.below c8 (Nat.le_refl _)
  have B8 : Below w.heap.size w w8b := B8a.trans (c8.mono B8a.size)
  have rd8' := rd8.below c8 (Nat.le_refl _)
  clear hi8a hr8a B8a rd8 c8
  go_wp2_with fail
  refine (same_at _ _ _ _ _ _ (xs ++ toBE 1 (v % 256)) (xs ++ toBE 1 (v % 256)) w8b (len_put HL.out _ _) (len_put HL.out _ _) rd8' rr8).mono ?_
  rintro e w' ⟨rfl, rfl⟩
  clear rd8' rr8
  go_wp2_with fail
  refine (add16_at w8b.heap.size _ n _ xs (v % 65536) _ w8b (by rw [wrap16]; omega) rfl HL.out (by omega) (by omega) hi8.head).mono ?_
  rintro e w16a ⟨rfl, o16, c16⟩
  have hi16a := hi8.below c16 (Nat.le_refl _)
  have hr16a := hr8.below c16 (Nat.le_refl _)
  have B16a : Below w.heap.size w w16a := B8.trans (c16.mono B8.size)
  have rd16 := o16.rd
  clear hi8 hr8 B8 c16 o16
  go_wp2_with fail
  refine (refAdd_row cap n 2 a xs (v % 65536) _ _ w16a (by omega) rfl HL.out (by omega) (by omega) (by omega) (by omega) hr16a HNIL.out).mono ?_
  rintro e w16b ⟨g16, d16, rfl, rr16, c16⟩
  have hi16 := hi16a.below c16 (Nat.le_refl _)
  have hr16 := hr16a.below c16 (Nat.le_refl _)
  have B16 : Below w.heap.size w w16b := B16a.trans (c16.mono B16a.size)
  have rd16' := rd16.below c16 (Nat.le_refl _)
  clear hi16a hr16a B16a rd16 c16
  go_wp2_with fail
  refine (same_at _ _ _ _ _ _ (xs ++ toBE 2 (v % 65536)) (xs ++ toBE 2 (v % 65536)) w16b (len_put HL.out _ _) (len_put HL.out _ _) rd16' rr16).mono ?_
  rintro e w' ⟨rfl, rfl⟩
  clear rd16' rr16
  go_wp2_with fail
  refine (add32_at w16b.heap.size _ n _ xs (v % 4294967296) _ w16b (by omega) rfl HL.out (by omega) (by omega) hi16.head).mono ?_
  rintro e w32a ⟨rfl, o32, c32⟩
  have hi32a := hi16.below c32 (Nat.le_refl _)
  have hr32a := hr16.below c32 (Nat.le_refl _)
  have B32a : Below w.heap.size w w32a := B16.trans (c32.mono B16.size)
  have rd32 := o32.rd
  clear hi16 hr16 B16 c32 o32
  go_wp2_with fail
  refine (refAdd_row cap n 4 a xs (v % 4294967296) _ _ w32a (by omega) rfl HL.out (by omega) (by omega) (by omega) (by omega) hr32a HNIL.out).mono ?_
  rintro e w32b ⟨g32, d32, rfl, rr32, c32⟩
  have hi32 := hi32a.below c32 (Nat.le_refl _)
  have hr32 := hr32a.below c32 (Nat.le_refl _)
  have B32 : Below w.heap.size w w32b := B32a.trans (c32.mono B32a.size)
  have rd32' := rd32.below c32 (Nat.le_refl _)
  clear hi32a hr32a B32a rd32 c32
  go_wp2_with fail
  refine (same_at _ _ _ _ _ _ (xs ++ toBE 4 (v % 4294967296)) (xs ++ toBE 4 (v % 4294967296)) w32b (len_put HL.out _ _) (len_put HL.out _ _) rd32' rr32).mono ?_
  rintro e w' ⟨rfl, rfl⟩
  clear rd32' rr32
  go_wp2_with fail
  refine (add64_at w32b.heap.size _ n _ xs v _ w32b rfl rfl HL.out (by omega) (by omega) hi32.head).mono ?_
  rintro e w64a ⟨rfl, o64, c64⟩
  have hi64a := hi32.below c64 (Nat.le_refl _)
  have hr64a := hr32.below c64 (Nat.le_refl _)
  have B64a : Below w.heap.size w w64a := B32.trans (c64.mono B32.size)
  have rd64 := o64.rd
  clear hi32 hr32 B32 c64 o64
  go_wp2_with fail
  refine (refAdd_row cap n 8 a xs v _ _ w64a rfl rfl HL.out (by omega) (by omega) (by omega) (by omega) hr64a HNIL.out).mono ?_
  rintro e w64b ⟨g64, d64, rfl, rr64, c64⟩
  have hi64 := hi64a.below c64 (Nat.le_refl _)
  have hr64 := hr64a.below c64 (Nat.le_refl _)
  have B64 : Below w.heap.size w w64b := B64a.trans (c64.mono B64a.size)
  have rd64' := rd64.below c64 (Nat.le_refl _)
  clear hi64a hr64a B64a rd64 c64
  go_wp2_with fail
  refine (same_at _ _ _ _ _ _ (xs ++ toBE 8 v) (xs ++ toBE 8 v) w64b (len_put HL.out _ _) (len_put HL.out _ _) rd64' rr64).mono ?_
  rintro e w' ⟨rfl, rfl⟩
  clear rd64' rr64
  by_cases hms : m ≤ 65535
  · go_wp2_with fail
    refine (addText_at w64b.heap.size _ n m _ xs s p w64b rfl HL.out HS.out HP.out hms (by omega) hi64.head).mono ?_
    rintro e wt ⟨rfl, ot, ct⟩
    have hit := hi64.below ct (Nat.le_refl _)
    have hrt := hr64.below ct (Nat.le_refl _)
    have Bt : Below w.heap.size w wt := B64.trans (ct.mono B64.size)
    have rdt := ot.rd
    clear hi64 hr64 B64 ct ot
    go_wp2_with fail
    refine (refAddText_at cap n m a xs p s wt HL.out HS.out HP.out hms hn hrt HNIL.out).mono ?_
    rintro e wu ⟨gu, du, rfl, rru, cu⟩
    have hiT := hit.below cu (Nat.le_refl _)
    have hrT := hrt.below cu (Nat.le_refl _)
    have BT : Below w.heap.size w wu := Bt.trans (cu.mono Bt.size)
    have rdT := rdt.below cu (Nat.le_refl _)
    clear hit hrt Bt cu rdt
    go_wp2_with fail
    refine (text_num _ _ _ xs t i j kt wu HL.out (by omega) (by omega) (by omega) hiT.head QT.out.1 QT.out.2).mono ?_
    rintro e w' ⟨rfl, rfl⟩
    go_wp2_with fail
    refine (refText_num _ _ _ xs t i j kt wu HL.out (by omega) (by omega) (by omega) hrT QT.out.1 QT.out.2).mono ?_
    rintro e w' ⟨rfl, rfl⟩
    clear QT
    go_wp2_with fail
    refine (same_at _ _ _ _ _ _ (xs ++ (toBE 2 m ++ p)) (xs ++ (toBE 2 m ++ p)) wu ((len_text HL.out HP.out).trans (by omega)) (len_text HL.out HP.out) rdT rru).mono ?_
    rintro e w' ⟨rfl, rfl⟩
    go_wp2_with fail
    refine (kept_at g c1 cap n a xs wu HL.out (by omega) hc1 hiT hrT).mono ?_
    rintro e w' ⟨rfl, rfl⟩
    go_wp2_with fail
    refine (awake_any wu).mono ?_
    rintro e wz ⟨rfl, bz⟩
    go_wp2
    go_ret
    exact ⟨rfl, BT.trans (bz.mono BT.size)⟩
  · go_wp2_with fail
    refine (addText_long _ _ _ s w64b (by unfold maxLen; omega) (by omega)).mono ?_
    rintro e w' ⟨rfl, rfl⟩
    go_wp2_with fail
    refine (refAddText_long a n cap s w64b (by omega) (by omega)).mono ?_
    rintro e w' ⟨rfl, rfl⟩
    have hiT := hi64
    have hrT := hr64
    have BT := B64
    clear hi64 hr64 B64
    go_wp2_with fail
    refine (text_num _ _ _ xs t i j kt w64b HL.out (by omega) (by omega) (by omega) hiT.head QT.out.1 QT.out.2).mono ?_
    rintro e w' ⟨rfl, rfl⟩
    go_wp2_with fail
    refine (refText_num _ _ _ xs t i j kt w64b HL.out (by omega) (by omega) (by omega) hrT QT.out.1 QT.out.2).mono ?_
    rintro e w' ⟨rfl, rfl⟩
    clear QT
    go_wp2_with fail
    refine (same_at _ _ 0 0 _ _ [] [] w64b rfl rfl (Rd.nil _ _) (Rd.nil _ _)).mono ?_
    rintro e w' ⟨rfl, rfl⟩
    go_wp2_with fail
    refine (kept_at g c1 cap n a xs w64b HL.out (by omega) hc1 hiT hrT).mono ?_
    rintro e w' ⟨rfl, rfl⟩
    go_wp2_with fail
    refine (awake_any w64b).mono ?_
    rintro e wz ⟨rfl, bz⟩
    go_wp2
    go_ret
    exact ⟨rfl, BT.trans (bz.mono BT.size)⟩
end Go.Proofs.Ytpponamckndhpaa
