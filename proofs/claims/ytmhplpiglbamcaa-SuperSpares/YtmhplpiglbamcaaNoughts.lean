/-
  What stands behind what is right: isThenNoughts and what it calls; padded.
-/
import Derived.Test.YtmhplpiglbamcaaOctets
import Derived.Test.YtmhplpiglbamcaaSums
namespace Go.Proofs.Ytmhplpiglbamcaa
open Go.RowKit

theorem equal_at (ca cb n m : Nat) (a b : Option Addr) (xs ys : List UInt8) (w : World) (hn : xs.length = n) (hm : ys.length = m) (ha : Rd w a xs) (hb : Rd w b ys) :
    Calls Try.prog 81 #[.slice a n ca, .slice b m cb] w fun e w' => e = .returned (.bool (xs == ys)) ∧ w = w' := by
  subst hn hm
  have h1 := conv_run w a ca xs ha
  have h2 := conv_run w b cb ys hb
  go_enter Try.func81, Try.ntmps81
  go_wp2
  go_ret
  exact ⟨rfl, rfl⟩

theorem Rd.take {w : World} {a : Option Addr} {xs : List UInt8} (h : Rd w a xs) (k : Nat) : Rd w a (xs.take k) := by
  have e := (List.take_append_drop k xs).symm
  rw [e] at h
  exact h.head

theorem Rd.isNil {w : World} {xs : List UInt8} (h : Rd w none xs) : xs = [] := by
  cases xs with
  | nil => rfl
  | cons c l =>
    obtain ⟨_, _, h', _⟩ := h (by simp)
    simp at h'

/-- The bytes from k on lie k further. -/
theorem Rd.drop {w : World} {b o : Nat} {xs : List UInt8} (h : Rd w (some ⟨b, o, none⟩) xs) (k : Nat) : Rd w (some ⟨b, o + k, none⟩) (xs.drop k) := fun hp => by
  have hk : k < xs.length := by simp at hp; omega
  obtain ⟨b', o', he, hc⟩ := h (by omega)
  simp only [Option.some.injEq, Addr.mk.injEq, and_true] at he
  obtain ⟨rfl, rfl⟩ := he
  refine ⟨b, o + k, rfl, fun j hj => ?_⟩
  have hj' : k + j < xs.length := by simp at hj; omega
  rw [Nat.add_assoc, hc (k + j) hj']
  simp

theorem prefix_at (ca cb n m : Nat) (a b : Option Addr) (xs ys : List UInt8) (w : World) (hn : xs.length = n) (hm : ys.length = m) (hcap : n ≤ ca) (_hmax : ca ≤ 9223372036854775807) (_hM : m ≤ 9223372036854775807) (ha : Rd w a xs) (hb : Rd w b ys) :
    Calls Try.prog 70 #[.slice a n ca, .slice b m cb] w fun e w' => e = .returned (.bool (decide (m ≤ n) && xs.take m == ys)) ∧ w = w' := by
  by_cases h : m ≤ n
  · have htl : Hid ((xs.take m).length = m) := by show _ = _; simp; omega
    have ht := ha.take m
    have hn0 : m ≤ ca := by omega
    have Hm : Hid _ := hm
    clear hn hm
    go_enter Try.func70, Try.ntmps70
    go_wp2_with fail
    all_goals refine (equal_at _ cb m m _ b (xs.take m) ys w htl.out Hm.out ht hb).mono ?_
    all_goals rintro e w' ⟨rfl, rfl⟩
    all_goals go_wp2
    all_goals go_ret
    all_goals simp [h]
  · clear hn hm
    go_enter Try.func70, Try.ntmps70
    go_wp2
    go_ret
    simp [h]

theorem set_at (c : UInt8) (w : World) : Calls Try.prog 69 #[.int .u8 (c.toNat : Int)] w fun e w' => e = .returned (.bool (c != 0)) ∧ w = w' := by
  have h : ((c.toNat : Int) != 0) = (c != 0) := by
    by_cases e : c = 0
    · subst e; rfl
    · have e2 : c.toNat ≠ 0 := fun h => e (UInt8.toNat_inj.1 h)
      have h1 : (c != 0) = true := by simpa using e
      have h2 : ((c.toNat : Int) != 0) = true := by simp; omega
      rw [h1, h2]
  go_enter Try.func69, Try.ntmps69
  go_wp2
  go_ret
  rw [← h]
  exact ⟨rfl, rfl⟩

theorem all_take_succ (xs : List UInt8) (k : Nat) (h : k < xs.length) (ha : (xs.take k).all (· == 0) = true) (hc : (xs[k] != 0) = false) : (xs.take (k + 1)).all (· == 0) = true := by
  rw [List.take_succ_eq_append_getElem h, List.all_append, ha]
  simpa using hc

theorem indexB_in (b o cap n : Nat) (xs : List UInt8) (w : World) (hl : xs.length = n) (hn : n ≤ 9223372036854775807) (hc : ∀ j (h : j < xs.length), w.cell? ⟨b, o + j, none⟩ = some (.int .u8 (xs[j].toNat : Int))) :
    Calls Try.prog 82 #[.slice (some ⟨b, o, none⟩) n cap, .func (.func 69) #[] #[]] w fun e w' => (∃ r : Int, e = .returned (.int .i64 r) ∧ decide (0 ≤ r) = !xs.all (· == 0)) ∧ w = w' := by
  have Hl : Hid _ := hl
  have Hc : Hid _ := hc
  clear hl hc
  go_enter Try.func82, Try.ntmps82
  go_wp2_with fail
  go_loop [8] (fun i => ∃ k : Nat, k ≤ n ∧ i = .int .i64 k ∧ Hid ((xs.take k).all (· == 0) = true)) (fun i => n - (intOf i).toNat)
  case atStart => exact ⟨0, Nat.zero_le _, rfl, by show _ = _; simp⟩
  case round =>
    obtain ⟨k, hk, rfl, hall⟩ := hrel
    by_cases hlt : k < n
    · have hlt' : Hid (k < xs.length) := by show _ < _; rw [Hl.out]; exact hlt
      obtain ⟨c, hcc⟩ : ∃ c, c = xs[k]'hlt'.out := ⟨_, rfl⟩
      have hce := Hc.out k hlt'.out
      rw [← hcc] at hce
      have Hcc : Hid _ := hcc
      clear hcc
      go_wp2_with fail
      refine (set_at c w).mono ?_
      rintro e w' ⟨rfl, rfl⟩
      cases hz : (c != 0)
      · go_wp2
        go_round
        case rel => exact ⟨k + 1, by omega, by go_num, all_take_succ xs k hlt'.out hall.out (by rw [← Hcc.out]; exact hz)⟩
        case measure => simp [intOf]; omega
      · go_wp2
        go_ret
        refine ⟨⟨k, rfl, ?_⟩, rfl⟩
        have h1 : xs.all (· == 0) = false := by
          rw [List.all_eq_false]
          exact ⟨xs[k]'hlt'.out, List.getElem_mem _, by rw [← Hcc.out]; simpa using hz⟩
        rw [h1]
        simp
    · obtain rfl : k = n := by omega
      go_wp2
      go_ret
      refine ⟨⟨-1, rfl, ?_⟩, rfl⟩
      have h1 := hall.out
      rw [List.take_of_length_le (by rw [Hl.out]; exact Nat.le_refl _)] at h1
      rw [h1]
      rfl

theorem indexB_none (a : Option Addr) (cap : Nat) (w : World) :
    Calls Try.prog 82 #[.slice a 0 cap, .func (.func 69) #[] #[]] w fun e w' => (∃ r : Int, e = .returned (.int .i64 r) ∧ decide (0 ≤ r) = !([] : List UInt8).all (· == 0)) ∧ w = w' := by
  go_enter Try.func82, Try.ntmps82
  go_wp2_with fail
  refine wp_loop_rounds 1 ?_
  rw [rounds_succ]
  go_wp2
  go_ret
  exact ⟨⟨-1, rfl, rfl⟩, rfl⟩

theorem containsB_at (cap n : Nat) (a : Option Addr) (xs : List UInt8) (w : World) (hl : xs.length = n) (hn : n ≤ 9223372036854775807) (hr : Rd w a xs) :
    Calls Try.prog 71 #[.slice a n cap, .func (.func 69) #[] #[]] w fun e w' => e = .returned (.bool (!xs.all (· == 0))) ∧ w = w' := by
  have c : Calls Try.prog 82 #[.slice a n cap, .func (.func 69) #[] #[]] w fun e w' => (∃ r : Int, e = .returned (.int .i64 r) ∧ decide (0 ≤ r) = !xs.all (· == 0)) ∧ w = w' := by
    by_cases h0 : 0 < n
    · obtain ⟨b, o, rfl, hc⟩ := hr (by omega)
      exact indexB_in b o cap n xs w hl hn hc
    · obtain rfl : n = 0 := by omega
      obtain rfl : xs = [] := List.eq_nil_of_length_eq_zero hl
      exact indexB_none a cap w
  generalize (!xs.all (· == 0)) = q at c ⊢
  clear hl
  go_enter Try.func71, Try.ntmps71
  go_wp2_with fail
  refine c.mono ?_
  rintro e w' ⟨⟨r, rfl, hq⟩, rfl⟩
  go_wp2
  go_ret
  exact ⟨by rw [← hq]; rfl, rfl⟩

/-- ys, and nothing but noughts behind them -/
def isThen (xs ys : List UInt8) : Bool := decide (ys.length ≤ xs.length) && xs.take ys.length == ys && (xs.drop ys.length).all (· == 0)

theorem isThen_at (ca cb n m : Nat) (a b : Option Addr) (xs ys : List UInt8) (w : World) (hn : xs.length = n) (hm : ys.length = m) (hcap : n ≤ ca) (hmax : ca ≤ 9223372036854775807) (hM : m ≤ 9223372036854775807) (hnil : a = none → ca = 0) (ha : Rd w a xs) (hb : Rd w b ys) :
    Calls Try.prog 45 #[.slice a n ca, .slice b m cb] w fun e w' => e = .returned (.bool (isThen xs ys)) ∧ w = w' := by
  unfold isThen
  rw [hn, hm]
  have c1 := prefix_at ca cb n m a b xs ys w hn hm hcap hmax hM ha hb
  cases hq : (decide (m ≤ n) && xs.take m == ys)
  · rw [hq] at c1
    clear hn hm
    go_enter Try.func45, Try.ntmps45
    go_wp2_with fail
    refine c1.mono ?_
    rintro e w' ⟨rfl, rfl⟩
    go_wp2
    go_ret
    exact ⟨rfl, rfl⟩
  · rw [hq] at c1
    have hmn : m ≤ n := by
      by_cases h : m ≤ n
      · exact h
      · simp [h] at hq
    have hdl : Hid ((xs.drop m).length = n - m) := by show _ = _; simp; omega
    have hmc : m ≤ ca := by omega
    clear hn hm hq hb
    go_enter Try.func45, Try.ntmps45
    go_wp2_with fail
    refine c1.mono ?_
    rintro e w' ⟨rfl, rfl⟩
    clear c1
    go_wp2_with fail
    · have e0 : xs.drop m = [] := List.eq_nil_of_length_eq_zero (by rw [hdl.out]; omega)
      have e1 : n - m = 0 := by omega
      rw [e1]
      refine (containsB_at 0 0 a [] w rfl (by omega) (Rd.nil _ _)).mono ?_
      rintro e w' ⟨rfl, rfl⟩
      go_wp2
      go_ret
      rw [e0]
      exact ⟨rfl, rfl⟩
    · have hrd : Rd w (Option.map (fun x => x.add m) a) (xs.drop m) := by
        cases a with
        | none => exact absurd (hnil rfl) (by omega)
        | some ad =>
          by_cases hp : 0 < xs.length
          · obtain ⟨b', o', he, _⟩ := ha hp
            obtain rfl := Option.some.inj he
            have h := ha.drop m
            rw [← Addr.add_lit] at h
            exact h
          · have : xs.drop m = [] := List.eq_nil_of_length_eq_zero (by simp; omega)
            rw [this]
            exact Rd.nil _ _
      refine (containsB_at (ca - m) (n - m) _ (xs.drop m) w hdl.out (by omega) hrd).mono ?_
      rintro e w' ⟨rfl, rfl⟩
      go_wp2
      go_ret
      exact ⟨by simp, rfl⟩

theorem padded_at (g cap n N : Nat) (a : Option Addr) (xs : List UInt8) (S : Int) (w : World) (hS : S = (N : Int)) (hg : w.heap.size = g) (hn : xs.length = n) (hN : n ≤ N) (hm : N ≤ 281474976710656) (hr : Rd w a xs) :
    Calls Try.prog 38 #[.slice a n cap, .int .i64 S] w fun e w' => e = .returned (.slice (some ⟨g, 0, none⟩) N N) ∧ Own w' g (xs ++ List.replicate (N - n) 0) ∧ Below g w w' := by
  subst hS hg hn
  obtain ⟨i0, hi, hz0, hz1, hz2⟩ := info_parts info5
  have hmk : ∀ u : World, (Instr.makeSlice 22 (.int .i64 (N : Int)) (.int .i64 (N : Int))).run Try.prog u =
      .ok (.slice (some ⟨u.heap.size, 0, none⟩) N N) (u.alloc (.cells (madeCells #[.int .u8 0] N) 5)) := fun u => by
    have h := run_make (P := Try.prog) u 22 5 i0 (.int .u8 0) Try.underlying22 hi hz0 .i64 .i64 (N : Int) (N : Int) (by omega) (Int.le_refl _) (by rw [hz2]; omega) (by omega)
    have e : ((N : Int)).toNat = N := by omega
    rw [e, hz1, Nat.mul_one] at h
    exact h
  have ho : Own (w.alloc (.cells (madeCells #[.int .u8 0] N) 5)) w.heap.size (List.replicate N 0) := by
    rw [made_zero]; exact heap_alloc_new w _
  have hb0 : Below w.heap.size w (w.alloc (.cells (madeCells #[.int .u8 0] N) 5)) := (Below.refl _ _).alloc (Nat.le_refl _) _
  obtain ⟨W, hcp, hoW, hgW⟩ := copy_run w.heap.size 0 N N (some ⟨w.heap.size, 0, none⟩) a cap xs (List.replicate N 0) _ ho (hr.below hb0 (Nat.le_refl _)) (fun _ => rfl) hN (by simpa using hN)
  have hbW : Below w.heap.size w W := hb0.grown hgW (by simp) (fun k hk => by simp at hk; omega)
  have hres : Own W w.heap.size (xs ++ List.replicate (N - xs.length) 0) := by
    have e : (List.replicate N (0 : UInt8)).drop (0 + xs.length) = List.replicate (N - xs.length) 0 := by simp
    rw [e] at hoW
    simpa using hoW
  clear hb0 ho hoW hgW hr
  go_enter Try.func38, Try.ntmps38
  go_wp2
  go_ret
  exact ⟨rfl, hres, hbW⟩
end Go.Proofs.Ytmhplpiglbamcaa
