/-
  The law's tasks: what their steps do, where that lies, and Step.
-/
import Derived.Test.YtjhhncbadkpbaaaPick
import Derived.Deep.RegionHeld3
import Derived.Deep.Cut
namespace Go.Proofs.Ytjhhncbadkpbaaa
open Go.RowKit

/-- what a step does -/
structure Do3 where
  tell : Int
  wake : Int
  inner : Bool
def do0 : Do3 := ⟨0, 0, false⟩
def doC (d : Do3) : Array Value := #[.int .i64 d.tell, .int .i64 d.wake, .bool d.inner]
/-- a list of such, in the arguments or in a row of the law's own -/
def DoRow (w : World) (B : Nat) (a : Option Addr) (xs : List Do3) : Prop :=
  0 < xs.length → ∃ b o, a = some ⟨b, o, none⟩ ∧ (∀ j (h : j < xs.length), w.cell? ⟨b, o + j * 3, none⟩ = some (.int .i64 xs[j].tell) ∧ w.cell? ⟨b, o + j * 3 + 1, none⟩ = some (.int .i64 xs[j].wake) ∧ w.cell? ⟨b, o + j * 3 + 2, none⟩ = some (.bool xs[j].inner)) ∧ (b < B ∨ ∃ cs, Box w b cs 45)
theorem DoRow.keep {w w' : World} {B : Nat} {a : Option Addr} {xs : List Do3} (h : DoRow w B a xs) (hb : Below B w w') (hk : ∀ k cs, Box w k cs 45 → Box w' k cs 45) : DoRow w' B a xs := fun h0 => by
  obtain ⟨b, o, rfl, hc, hm⟩ := h h0
  have old : ∀ j, w'.cell? ⟨b, j, none⟩ = w.cell? ⟨b, j, none⟩ := fun j => by
    rcases hm with h1 | ⟨cs, h1⟩
    · exact hb.cell (p := ⟨b, j, none⟩) h1
    · rw [(hk b cs h1).cell j, h1.cell j]
  refine ⟨b, o, rfl, fun j hj => ?_, ?_⟩
  · rw [old, old, old]; exact hc j hj
  · rcases hm with h1 | ⟨cs, h1⟩
    · exact .inl h1
    · exact .inr ⟨cs, hk b cs h1⟩
/-- what the tasks tell: a list that grows, and a mark -/
structure TW (w : World) (B tb bb : Nat) (tv : Value) (told : List Bool) (bad : Bool) : Prop where
  tbox : Box w tb #[tv] 25
  row : w.ownsRow B 4 1 tv told.length (told.map Value.bool)
  apt : tv.ownBlock ≠ some bb
  bbox : Box w bb #[.bool bad] 4
  ht : B ≤ tb
  hb : B ≤ bb
theorem TW.kt {w w' : World} {B tb bb : Nat} {tv : Value} {told : List Bool} {bad : Bool} (h : TW w B tb bb tv told bad) {p : TypeId → Prop} (hk : Kt p w w') (h1 : p 25) (h2 : p 4) : TW w' B tb bb tv told bad :=
  ⟨hk _ _ _ h.tbox h1, ownsRow_kt h.row hk h2, h.apt, hk _ _ _ h.bbox h2, h.ht, h.hb⟩
def tkC (s : Nat) (la : Option Addr) (ln lc n tb bb : Nat) : Array Value := #[ptr s, .slice la ln lc, .int .i64 (n : Int), ptr tb, ptr bb]
/-- blocks that are none of these stay -/
def KtF (F : Nat → Prop) (p : TypeId → Prop) (w w' : World) : Prop := ∀ k cs t, Box w k cs t → p t → ¬ F k → Box w' k cs t
theorem kitPick_at (n m : Int) (w : World) (h1 : 1 ≤ m) (h2 : m ≤ 1000) : Calls Try.prog 12 #[.int .i64 n, .int .i64 m] w fun r w' => r = .returned (.int .i64 (n % m)) ∧ w' = w := by
  have e1 : n.tmod m = if 0 ≤ n ∨ n % m = 0 then n % m else n % m - m := by
    by_cases h : 0 ≤ n
    · rw [if_pos (.inl h), Int.tmod_eq_emod_of_nonneg h]
    · have := Int.tmod_eq_emod (a := n) (b := m)
      rw [this]
      have hd : m ∣ n ↔ n % m = 0 := Int.dvd_iff_emod_eq_zero
      by_cases h0 : n % m = 0
      · rw [if_pos (.inr (hd.2 h0)), if_pos (.inr h0)]; omega
      · rw [if_neg (by rintro (h' | h'); exact h h'; exact h0 (hd.1 h')), if_neg (by rintro (h' | h'); exact h h'; exact h0 h')]
        omega
  have hz0 : 0 ≤ n % m := Int.emod_nonneg _ (by omega)
  have hz1 : n % m < m := Int.emod_lt_of_pos _ (by omega)
  have hnz : ¬ (m = 0) := by omega
  have hm1 : ¬ (m < 1) := by omega
  generalize hz : n % m = z at *
  generalize hy : n.tmod m = y at *
  by_cases hc : 0 ≤ n ∨ z = 0
  · rw [if_pos hc] at e1
    subst e1
    have hyl : ¬ y < 0 := by omega
    go_enter Try.func12, Try.ntmps12
    go_wp2
    go_ret
    simp
  · rw [if_neg hc] at e1
    have hyl : y < 0 := by omega
    have hs : y + m = z := by omega
    have hs2 : y = z - m := e1
    clear e1 hc
    subst hs2
    go_enter Try.func12, Try.ntmps12
    go_wp2
    go_ret
    simp
end Go.Proofs.Ytjhhncbadkpbaaa
