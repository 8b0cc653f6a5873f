/-
  record's little calls: within, rightStamp, Blocks, stamp, unstamp; bytes.Clone, Equal, HasPrefix.
-/
import Derived.Test.YtghcmlkgpedkkaaMem
import Derived.Test.YtghcmlkgpedkkaaOctets
namespace Go.Proofs.Ytghcmlkgpedkkaa
open Go.RowKit

theorem within_at (x a b : Int) (w : World) : Calls Try.prog 41 #[.int .i64 x, .int .i64 a, .int .i64 b] w fun e w' => e = .returned (.bool (decide (a ≤ x) && decide (x ≤ b))) ∧ w = w' := by
  by_cases h : a ≤ x
  · go_enter Try.func41, Try.ntmps41
    go_wp2
    go_ret
    simp [h]
  · go_enter Try.func41, Try.ntmps41
    go_wp2
    go_ret
    simp
    omega

/-- a right stamp's numbers -/
def okStamp (e s : Int) : Bool := (decide (1 ≤ e) && decide (e ≤ 8388608)) && (decide (1 ≤ s) && decide (s ≤ 549755813888))
theorem okStamp_iff (e s : Int) : okStamp e s = true ↔ (1 ≤ e ∧ e ≤ 8388608) ∧ 1 ≤ s ∧ s ≤ 549755813888 := by simp [okStamp]

theorem rightStamp_at (e s : Int) (w : World) : Calls Try.prog 38 #[.int .i64 e, .int .i64 s] w fun x w' => x = .returned (.bool (okStamp e s)) ∧ w = w' := by
  unfold okStamp
  generalize hb : (decide (1 ≤ e) && decide (e ≤ 8388608)) = b
  generalize hc : (decide (1 ≤ s) && decide (s ≤ 549755813888)) = c
  have c1 := within_at e 1 8388608 w
  have c2 := within_at s 1 549755813888 w
  rw [hb] at c1
  rw [hc] at c2
  clear hb hc
  cases b
  all_goals
    go_enter Try.func38, Try.ntmps38
    go_wp2_with fail
    refine c1.mono ?_
    rintro x w' ⟨rfl, rfl⟩
    clear c1
    go_wp2_with fail
  · go_ret
    exact ⟨by simp, rfl⟩
  · refine c2.mono ?_
    rintro x w' ⟨rfl, rfl⟩
    clear c2
    go_wp2
    go_ret
    exact ⟨by simp, rfl⟩

/-- how many blocks -/
def blocksN (n : Int) : Int := if 1 ≤ n ∧ n ≤ 32 then n + 1 else 0
theorem blocks_at (n : Int) (w : World) : Calls Try.prog 17 #[.int .i64 n] w fun x w' => x = .returned (.int .i64 (blocksN n)) ∧ w = w' := by
  have c1 := within_at n 1 32 w
  unfold blocksN
  by_cases h : 1 ≤ n ∧ n ≤ 32
  · have hb : (decide (1 ≤ n) && decide (n ≤ 32)) = true := by simpa using h
    rw [hb] at c1
    rw [if_pos h]
    obtain ⟨h1, h2⟩ := h
    go_enter Try.func17, Try.ntmps17
    go_wp2_with fail
    refine c1.mono ?_
    rintro x w' ⟨rfl, rfl⟩
    go_wp2
    go_ret
    exact ⟨rfl, rfl⟩
  · have hb : (decide (1 ≤ n) && decide (n ≤ 32)) = false := by simpa using h
    rw [hb] at c1
    rw [if_neg h]
    clear h
    go_enter Try.func17, Try.ntmps17
    go_wp2_with fail
    refine c1.mono ?_
    rintro x w' ⟨rfl, rfl⟩
    go_wp2
    go_ret
    exact ⟨rfl, rfl⟩

/-- the stamp -/
def stampN (e s : Nat) : Nat := 1099511627776 * e + s
def mark (e s : Nat) : List UInt8 := toBE 8 (stampN e s)
theorem mark_length (e s : Nat) : (mark e s).length = 8 := toBE_length _ _

theorem stamp_or (e s : Nat) (he : e ≤ 8388608) (hs : s < 1099511627776) : bits .or .u64 ((e : Int) * 1099511627776) (s : Int) = ((stampN e s : Nat) : Int) := by
  rw [bits_join .u64 64 (by decide) (fun n h0 h1 => by rw [IntKind.wrap_u64]; omega) 40 ((e : Int) * 1099511627776) (s : Int) (by omega) (by omega) (by omega) (by omega) (by omega) (by omega)]
  unfold stampN
  omega

theorem stamp_at (e s : Nat) (E S : Int) (w : World) (hE : E = (e : Int)) (hS : S = (s : Int)) (he : e ≤ 8388608) (hs : s ≤ 549755813888) :
    Calls Try.prog 31 #[.int .i64 E, .int .i64 S] w fun x w' => x = .returned (.slice (some ⟨w.heap.size, 0, none⟩) 8 8) ∧ Own w' w.heap.size (mark e s) ∧ Below w.heap.size w w' := by
  subst hE hS
  have hor := stamp_or e s he (by omega)
  have h1 : IntKind.u64.wrap (e : Int) = (e : Int) := by rw [IntKind.wrap_u64]; omega
  have h2 : IntKind.u64.wrap (s : Int) = (s : Int) := by rw [IntKind.wrap_u64]; omega
  have c := add64_at w.heap.size 0 0 none [] (stampN e s) _ w rfl rfl rfl (by unfold stampN; omega) (by omega) (Rd.nil _ _)
  unfold mark
  generalize stampN e s = V at hor c ⊢
  go_enter Try.func31, Try.ntmps31
  go_wp2_with fail
  refine c.mono ?_
  rintro x w' ⟨rfl, ho, hb⟩
  go_wp2
  go_ret
  exact ⟨rfl, ho, hb⟩

theorem unstamp_at (v : Nat) (V : Int) (w : World) (hV : V = (v : Int)) (hv : v < 18446744073709551616) :
    Calls Try.prog 54 #[.int .u64 V] w fun x w' => x = .returned (.tuple #[.int .i64 ((v / 1099511627776 : Nat) : Int), .int .i64 ((v % 1099511627776 : Nat) : Int)]) ∧ w = w' := by
  subst hV
  have h1 : bits .and .u64 (v : Int) 1099511627775 = ((v % 1099511627776 : Nat) : Int) := by
    have h := bits_mask .u64 64 (by decide) (fun n h0 h1 => by rw [IntKind.wrap_u64]; omega) 40 (by decide) (v : Int) (by omega) (by omega)
    simpa using h
  have h2 : IntKind.i64.wrap ((v : Int) / 1099511627776) = ((v / 1099511627776 : Nat) : Int) := by rw [IntKind.wrap_i64]; omega
  have h3 : IntKind.i64.wrap ((v % 1099511627776 : Nat) : Int) = ((v % 1099511627776 : Nat) : Int) := by rw [IntKind.wrap_i64]; omega
  generalize ((v % 1099511627776 : Nat) : Int) = X at h1 h3 ⊢
  go_enter Try.func54, Try.ntmps54
  go_wp2
  go_ret2
  exact ⟨by simp, rfl⟩

theorem equal_at (ca cb n m : Nat) (a b : Option Addr) (xs ys : List UInt8) (w : World) (hn : xs.length = n) (hm : ys.length = m) (ha : Rd w a xs) (hb : Rd w b ys) :
    Calls Try.prog 55 #[.slice a n ca, .slice b m cb] w fun e w' => e = .returned (.bool (xs == ys)) ∧ w = w' := by
  subst hn hm
  have h1 := conv_run w a ca xs ha
  have h2 := conv_run w b cb ys hb
  go_enter Try.func55, Try.ntmps55
  go_wp2
  go_ret
  exact ⟨rfl, rfl⟩

/-- of a sector, and of eight bytes -/
theorem prefix_at (ca cb g o : Nat) (b : Option Addr) (xs ys : List UInt8) (w : World) (hn : xs.length = 512) (hm : ys.length = 8) (hca : 512 ≤ ca) (ha : Rd w (some ⟨g, o, none⟩) xs) (hb : Rd w b ys) :
    Calls Try.prog 40 #[.slice (some ⟨g, o, none⟩) 512 ca, .slice b 8 cb] w fun e w' => e = .returned (.bool (xs.take 8 == ys)) ∧ w = w' := by
  have hr : Rd w (some ⟨g, o, none⟩) (xs.take 8) := by
    have := ha.part 0 8
    simpa using this
  have c := equal_at ca cb 8 8 _ _ (xs.take 8) ys w (by simp; omega) hm hr hb
  have hca2 : 8 ≤ ca := by omega
  generalize (xs.take 8 == ys) = q at c ⊢
  go_enter Try.func40, Try.ntmps40
  go_wp2_with fail
  refine c.mono ?_
  rintro e w' ⟨rfl, rfl⟩
  go_wp2
  go_ret
  exact ⟨by simp, rfl⟩

set_option maxRecDepth 100000 in
/-- bytes.Clone of some bytes -/
theorem clone_at (cap n g o : Nat) (xs : List UInt8) (w : World) (hl : xs.length = n) (h0 : 0 < n) (hn : n ≤ 140737488355328) (hr : Rd w (some ⟨g, o, none⟩) xs) :
    Calls Try.prog 48 #[.slice (some ⟨g, o, none⟩) n cap] w fun e w' => ∃ h c, e = .returned (.slice (some ⟨h, 0, none⟩) n c) ∧ w.heap.size ≤ h ∧ RowB w' h c xs ∧ Below w.heap.size w w' := by
  obtain ⟨i0, hi, hz0, hz1, hz2⟩ := info_parts info5
  have hm : n ≤ maxLen := by unfold maxLen; omega
  have hq : ∀ u : World, (binOp .eql 31 (.slice (some ⟨g, o, none⟩) n cap) (.slice none 0 0)).run Try.prog u = .ok (.bool false) u := fun u => Lib.run_eql_slice_nil u 31 5 (some ⟨g, o, none⟩) n cap 0 0 Try.underlying31
  have o1 : (w.alloc (.cells #[] 5)).ownsRow w.heap.size 5 1 (.slice (some ⟨w.heap.size, 0, none⟩) 0 0) 0 [] := ⟨rfl, .inr ⟨w.heap.size, 0, #[], rfl, Nat.le_refl _, heap_alloc_new w _, Nat.le_refl _, by simp [maxLen], rfl, rfl⟩⟩
  have hr1 := hr.below ((Below.refl w.heap.size w).alloc (Nat.le_refl _) (.cells #[] 5)) (Nat.le_refl _)
  have B1 := (Below.refl w.heap.size w).alloc (Nat.le_refl _) (.cells #[] 5)
  go_enter Try.func48, Try.ntmps48
  go_wp2_with (at_builtin; refine wpList_append_bytes rfl _ _ rfl w.heap.size _ 0 [] rfl o1 (some ⟨g, o, none⟩) n cap xs rfl hl hr1 (fun h => by cases h) (by omega) (by simp) ?_)
  intro v' w1 hown hgrow
  have hown1 : w1.ownsRow w.heap.size 5 1 v' n (bcs xs) := by simpa using hown
  have hb : Below w.heap.size w w1 := B1.grown hgrow (by simp) (fun k hk => by simp [Value.ownBlock] at hk; omega)
  obtain ⟨h, c, rfl, hh, hrow⟩ := RowB.owns hown1 h0
  clear hgrow hown hown1 o1 B1 hr1
  go_wp2
  go_ret
  exact ⟨h, c, rfl, hh, hrow, hb⟩

end Go.Proofs.Ytghcmlkgpedkkaa
