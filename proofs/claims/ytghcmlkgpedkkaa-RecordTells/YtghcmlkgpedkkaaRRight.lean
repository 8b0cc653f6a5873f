/-
  The document's own Right, of any group.
-/
import Derived.Test.YtghcmlkgpedkkaaAny
import Derived.Test.YtghcmlkgpedkkaaRef
import Derived.Deep.RegionHeld3
import Derived.BigQuiet
import Derived.Deep.QuietTactic
namespace Go.Proofs.Ytghcmlkgpedkkaa
open Go.RowKit

/-- the first k images are right -/
def okPre (is : List (Int × List UInt8)) (k : Nat) : Prop := okTo (is.map (·.1)) k ∧ ∀ j (h : j < is.length), j < k → (is[j]).2.length = 4096
theorem is_length' {e s : Int} {is : List (Int × List UInt8)} (hok : okGroup e s is) : 1 ≤ is.length ∧ is.length ≤ 32 := by have := hok.1.2.1; simpa using this
theorem okPre_zero (is : List (Int × List UInt8)) : okPre is 0 := ⟨fun _ _ h => by omega, fun _ _ h => by omega⟩
theorem okPre_succ {is : List (Int × List UInt8)} {k : Nat} (hk : k < is.length) (h : okPre is k) (h1 : 0 ≤ (is[k]).1 ∧ (is[k]).1 ≤ 511) (h2 : ∀ i (hi : i < is.length), i < k → (is[i]).1 ≠ (is[k]).1) (h3 : (is[k]).2.length = 4096) : okPre is (k + 1) := by
  refine ⟨okTo_succ (by simpa using hk) h.1 (by simpa using h1) (fun hm => ?_), fun j hj hlt => ?_⟩
  · obtain ⟨i, hi, e⟩ := List.getElem_of_mem hm
    have hi' : i < k := by rw [List.length_take] at hi; omega
    rw [List.getElem_take] at e
    simp at e
    exact h2 i (by omega) hi' e
  · by_cases e : j = k
    · subst e
      exact h3
    · exact h.2 j hj (by omega)
theorem okPre_all {is : List (Int × List UInt8)} (h : okPre is is.length) {e s : Int} (hs : okStamp e s = true) (h1 : 1 ≤ is.length) (h2 : is.length ≤ 32) : okGroup e s is :=
  ⟨⟨hs, by rw [List.length_map]; exact ⟨h1, h2⟩, by have := h.1; rwa [List.length_map]⟩, fun i hi => by
    obtain ⟨j, hj, rfl⟩ := List.getElem_of_mem hi
    exact h.2 j hj hj⟩
theorem ok_at {e s : Int} {is : List (Int × List UInt8)} (h : okGroup e s is) (k : Nat) (hk : k < is.length) : (0 ≤ (is[k]).1 ∧ (is[k]).1 ≤ 511) ∧ (∀ i (hi : i < is.length), i < k → (is[i]).1 ≠ (is[k]).1) ∧ (is[k]).2.length = 4096 := by
  obtain ⟨q1, q2⟩ := h.1.2.2 k (by simpa using hk) (by simpa using hk)
  refine ⟨by simpa using q1, fun i hi hik e => q2 ?_, h.2 _ (List.getElem_mem hk)⟩
  rw [List.getElem_map, ← e]
  have : (is.map (·.1))[i]'(by simpa using hi) ∈ (is.map (·.1)).take k := by
    rw [List.mem_take_iff_getElem]
    exact ⟨i, by simp; omega, rfl⟩
  simpa using this

/-- what Right tells -/
def RightR (w : World) (e s : Int) (is : List (Int × List UInt8)) (r : Ending) (w' : World) : Prop := ∃ q : Bool, r = .returned (.bool q) ∧ (q = true ↔ okGroup e s is) ∧ Below w.heap.size w w'

set_option maxRecDepth 100000 in
set_option maxHeartbeats 4000000 in
theorem rright_at (e s : Int) (a : Option Addr) (n cap : Nat) (is : List (Int × List UInt8)) (w : World) (hl : is.length = n) (hI : Imgs w a is) :
    Calls Try.prog 42 #[.agg #[.int .i64 e, .int .i64 s, .slice a n cap]] w (RightR w e s is) := by
  have x1 := Box.new w #[.int .i64 e, .int .i64 s, .slice a n cap] 28
  have B1 := (Below.refl w.heap.size w).alloc (Nat.le_refl _) (.cells #[.int .i64 e, .int .i64 s, .slice a n cap] 28)
  have HL : Hid (is.length = n) := hl
  have HI : Hid (Imgs w a is) := hI
  clear hl hI
  by_cases hall : (1 ≤ e ∧ e ≤ 8388608) ∧ (1 ≤ s ∧ s ≤ 549755813888) ∧ 1 ≤ n ∧ n ≤ 32
  · obtain ⟨⟨h1, h2⟩, ⟨h3, h4⟩, h5, h6⟩ := hall
    have HST : Hid (okStamp e s = true) := (okStamp_iff _ _).2 ⟨⟨h1, h2⟩, h3, h4⟩
    have i5 : ¬ (n : Int) < 1 := by omega
    have i6 : ¬ (32 : Int) < (n : Int) := by omega
    have j1 : ¬ e < 1 := by omega
    have j2 : ¬ 8388608 < e := by omega
    have j3 : ¬ s < 1 := by omega
    have j4 : ¬ 549755813888 < s := by omega
    go_enter Try.func42, Try.ntmps42
    go_wp2_with fail
    clear i5 i6 j1 j2 j3 j4
    go_loopw [3] (fun v u => ∃ k : Nat, k ≤ n ∧ v = .int .i64 (k : Int) ∧ okPre is k ∧ Box u w.heap.size #[.int .i64 e, .int .i64 s, .slice a n cap] 28 ∧ Below w.heap.size w u) (fun v _ => n - (intOf v).toNat)
    case atStart => exact ⟨0, Nat.zero_le _, rfl, okPre_zero is, x1, B1⟩
    case round =>
      clear x1 B1
      obtain ⟨k, hk, rfl, hp, x1, B1⟩ := hrel
      have HP : Hid (okPre is k) := hp
      clear hp
      have c2 := x1.cell 2
      by_cases hlt : k < n
      · have k1 : k < is.length := by rw [HL.out]; exact hlt
        obtain ⟨b, o, rfl, hc⟩ := HI.out (by omega)
        obtain ⟨g0, x, cx, g1, g2, g3, g4, g5⟩ := hc k k1
        have lb : b < w.heap.size := block_lt_of_cell g1
        have HC : Hid (∀ j (h : j < is.length), ∀ u : World, Below w.heap.size w u → u.cell? ⟨b, o + j * 2, none⟩ = some (.int .i64 (is[j]).1)) := fun j h u hu => (hu.cell (p := ⟨b, o + j * 2, none⟩) lb).trans (hc j h).1
        rw [← B1.cell (p := ⟨b, o + k * 2, none⟩) lb] at g0
        rw [← B1.cell (p := ⟨b, o + k * 2 + 1, none⟩) lb] at g1
        have Hok : Hid (okGroup e s is → (0 ≤ (is[k]'k1).1 ∧ (is[k]'k1).1 ≤ 511) ∧ (∀ i (hi : i < is.length), i < k → (is[i]).1 ≠ (is[k]'k1).1) ∧ (is[k]'k1).2.length = 4096) := fun h => ok_at h k k1
        have Hsuc : Hid ((0 ≤ (is[k]'k1).1 ∧ (is[k]'k1).1 ≤ 511) → (∀ i (hi : i < is.length), i < k → (is[i]).1 ≠ (is[k]'k1).1) → (is[k]'k1).2.length = 4096 → okPre is (k + 1)) := fun q1 q2 q3 => okPre_succ k1 HP.out q1 q2 q3
        have HCk := HC.out k k1
        have HCK : Hid (∀ u : World, Below w.heap.size w u → u.cell? ⟨b, o + k * 2, none⟩ = some (.int .i64 (is[k]'k1).1)) := HCk
        clear HCk
        generalize (is[k]'k1) = X at g0 g1 g2 g5 Hok Hsuc HCK
        obtain ⟨bx, xs⟩ := X
        dsimp only at g0 g1 Hok Hsuc HCK
        obtain ⟨m, hm⟩ : ∃ m, m = xs.length := ⟨_, rfl⟩
        rw [← hm] at g1 Hok Hsuc
        clear hc g2 g3 g4 g5 hm
        by_cases hgood : (0 ≤ bx ∧ bx ≤ 511) ∧ m = 4096
        · obtain ⟨⟨q1, q2⟩, rfl⟩ := hgood
          have r1 : ¬ bx < 0 := by omega
          have r2 : ¬ 511 < bx := by omega
          go_wp2_with fail
          go_loopw [4] (fun v u => ∃ j : Nat, j ≤ k ∧ v = .int .i64 (j : Int) ∧ (∀ i (hi : i < is.length), i < j → (is[i]).1 ≠ bx) ∧ Box u w.heap.size #[.int .i64 e, .int .i64 s, .slice (some ⟨b, o, none⟩) n cap] 28 ∧ Below w.heap.size w u) (fun v _ => k - (intOf v).toNat)
          case atStart => exact ⟨0, Nat.zero_le _, rfl, fun _ _ h => by omega, x1, B1⟩
          case round =>
            clear g0 g1 c2 x1 B1
            obtain ⟨j, hj, rfl, hd, x1, B1⟩ := hrel
            have HD : Hid (∀ i (hi : i < is.length), i < j → (is[i]).1 ≠ bx) := hd
            clear hd
            have c2 := x1.cell 2
            by_cases hjk : j < k
            · have j1 : j < is.length := by omega
              have cj := HC.out j j1 wr B1
              have ck := HCK.out wr B1
              have Hne : Hid ((is[j]'j1).1 ≠ bx → ∀ i (hi : i < is.length), i < j + 1 → (is[i]).1 ≠ bx) := fun h i hi hlt => by
                by_cases q : i = j
                · subst q
                  exact h
                · exact HD.out i hi (by omega)
              have Heq : Hid ((is[j]'j1).1 = bx → ¬ okGroup e s is) := fun h ho => (Hok.out ho).2.1 j j1 hjk h
              generalize (is[j]'j1).1 = by2 at cj Hne Heq
              have a1 : (j : Int) < (n : Int) := by omega
              have a2 : (k : Int) < (n : Int) := by omega
              have a3 : (0 : Int) ≤ (j : Int) := by omega
              have a4 : (0 : Int) ≤ (k : Int) := by omega
              by_cases hq : by2 = bx
              · have hno : Hid (¬ okGroup e s is) := Heq.out hq
                subst hq
                clear Heq Hne
                go_wp2_with fail
                go_quiet (fail)
                have B2 := below_drewN B1 nq
                go_wp2_with fail
                go_ret
                exact ⟨false, rfl, ⟨fun h => (by cases h), fun h => absurd h hno.out⟩, B2⟩
              · have hqb : (by2 == bx) = false := by simp [hq]
                have HNE : Hid (∀ i (hi : i < is.length), i < j + 1 → (is[i]).1 ≠ bx) := Hne.out hq
                clear hq Heq Hne
                go_wp2_with fail
                go_quiet (fail)
                have B2 := below_drewN B1 nq
                have x2 : Box (wr.drewN nq) w.heap.size #[.int .i64 e, .int .i64 s, .slice (some ⟨b, o, none⟩) n cap] 28 := x1
                generalize wr.drewN nq = wq at B2 x2 ⊢
                clear x1 B1 c2 cj ck
                go_wp2_with fail
                go_roundw
                case rel => exact ⟨j + 1, by omega, by push_cast; rfl, HNE.out, x2, B2⟩
                case measure => simp [intOf]; omega
            · have hjk2 : j = k := by omega
              have HNE : Hid (∀ i (hi : i < is.length), i < k → (is[i]).1 ≠ bx) := by
                rw [← hjk2]
                exact HD.out
              clear hjk2
              go_wp2_with fail
              go_roundw
              case rel => exact ⟨k + 1, by omega, by push_cast; rfl, Hsuc.out ⟨q1, q2⟩ HNE.out (by first | rfl | trivial), x1, B1⟩
              case measure => simp [intOf]; omega
        · have HN : Hid (¬ ((0 ≤ bx ∧ bx ≤ 511) ∧ m = 4096)) := hgood
          have hno : Hid (¬ okGroup e s is) := fun h => HN.out ⟨(Hok.out h).1, (Hok.out h).2.2⟩
          clear hgood
          by_cases hm4 : m = 4096
          · have hr : bx < 0 ∨ (¬ bx < 0 ∧ 511 < bx) := by have := HN.out; omega
            subst hm4
            clear HN
            rcases hr with hr | ⟨hr, hr2⟩
            all_goals
              go_wp2_with fail
              go_ret
              exact ⟨false, rfl, ⟨fun h => (by cases h), fun h => absurd h hno.out⟩, B1⟩
          · have hmb : ((m : Int) == 4096) = false := by simp; omega
            have hmn : ((m : Int) != 4096) = true := by simp; omega
            clear hm4
            go_wp2_with fail
            all_goals
              go_ret
              exact ⟨false, rfl, ⟨fun h => (by cases h), fun h => absurd h hno.out⟩, B1⟩
      · have hke : k = n := by omega
        have hyes : Hid (okGroup e s is) := by
          have hp := HP.out
          rw [hke, ← HL.out] at hp
          exact okPre_all hp HST.out (by rw [HL.out]; exact h5) (by rw [HL.out]; exact h6)
        go_wp2_with fail
        go_ret
        exact ⟨true, rfl, ⟨fun _ => hyes.out, fun _ => rfl⟩, B1⟩
  · have HN : Hid (¬ ((1 ≤ e ∧ e ≤ 8388608) ∧ (1 ≤ s ∧ s ≤ 549755813888) ∧ 1 ≤ n ∧ n ≤ 32)) := hall
    have hno : Hid (¬ okGroup e s is) := fun h => HN.out (by
      have h1 := (okStamp_iff _ _).1 h.1.1
      have h2 := is_length' h
      rw [HL.out] at h2
      exact ⟨h1.1, h1.2, h2⟩)
    clear hall
    go_enter Try.func42, Try.ntmps42
    go_wp2_with fail
    all_goals first
      | (go_ret; exact ⟨false, rfl, ⟨fun h => (by cases h), fun h => absurd h hno.out⟩, B1⟩)
      | (exfalso; have := HN.out; omega)
end Go.Proofs.Ytghcmlkgpedkkaa
