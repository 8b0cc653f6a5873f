/-
  The document's own sets: Seen, Value.
-/
import Derived.Test.YtdneikfocefnfaaSame
namespace Go.Proofs.Ytdneikfocefnfaa
open Go.RowKit
/-- pairs, as cells -/
def prs (L : List (Int × Int)) : List Value := L.flatMap fun p => [.int .i64 p.1, .int .i64 p.2]
theorem prs_cons (p : Int × Int) (L : List (Int × Int)) : prs (p :: L) = .int .i64 p.1 :: .int .i64 p.2 :: prs L := rfl
theorem prs_get {L : List (Int × Int)} {k : Nat} {p : Int × Int} (h : L[k]? = some p) : (prs L)[k * 2]? = some (.int .i64 p.1) ∧ (prs L)[k * 2 + 1]? = some (.int .i64 p.2) := by
  induction L generalizing k with
  | nil => simp at h
  | cons x L ih =>
    cases k with
    | zero => simp at h; subst h; simp [prs_cons]
    | succ k =>
      have := ih (k := k) (by simpa using h)
      rw [prs_cons, show (k + 1) * 2 = k * 2 + 1 + 1 by omega, show k * 2 + 1 + 1 + 1 = (k * 2 + 1) + 1 + 1 by omega]
      simpa only [List.getElem?_cons_succ] using this
theorem pair_at {w : World} {B n c : Nat} {e : TypeId} {a : Option Addr} {L : List (Int × Int)} (h : w.ownsRow B e 2 (.slice a n c) L.length (prs L)) (k : Nat) (hk : k < L.length) : ∃ g, a = some ⟨g, 0, none⟩ ∧ w.cell? ⟨g, k * 2, none⟩ = some (.int .i64 L[k].1) ∧ w.cell? ⟨g, k * 2 + 1, none⟩ = some (.int .i64 L[k].2) := by
  rcases h.2 with ⟨_, e0⟩ | ⟨g, cap, cur, e1, hb, hg, _, _, hs, ht⟩
  · omega
  injection e1 with e1
  obtain ⟨p1, p2⟩ := prs_get (L := L) (k := k) (p := L[k]) (List.getElem?_eq_getElem hk)
  refine ⟨g, e1, ?_, ?_⟩
  · rw [Box.cell hg, ← p1, ← ht, List.getElem?_take, if_pos (by omega)]
    simp
  · rw [Box.cell hg, ← p2, ← ht, List.getElem?_take, if_pos (by omega)]
    simp
theorem gt_first : ∀ (L : List (Int × Int)) (k : Nat) (h : k < L.length) (i : Int), (∀ j (hj : j < k), (L[j]'(by omega)).1 ≠ i) → L[k].1 = i → gt L i = some L[k].2
  | p :: L, 0, h, i, _, e => by rw [gt_cons, if_pos (show p.1 = i from e)]; rfl
  | p :: L, k + 1, h, i, hn, e => by
    rw [gt_cons, if_neg (show ¬ p.1 = i from hn 0 (by omega))]
    exact gt_first L k (by simpa using h) i (fun j hj => hn (j + 1) (by omega)) e
theorem gt_last (L : List (Int × Int)) (i : Int) (h : ∀ j (hj : j < L.length), L[j].1 ≠ i) : gt L i = none := by
  induction L with
  | nil => rfl
  | cons p L ih =>
    rw [gt_cons, if_neg (show ¬ p.1 = i from h 0 (by simp))]
    exact ih (fun j hj => h (j + 1) (by simpa using hj))

set_option maxRecDepth 100000 in
set_option maxHeartbeats 2000000 in
theorem rseen_at {w : World} {B r : Nat} {vR vW vM : Value} {L : List (Int × Int)} (hb : Box w r #[vR, vW, vM] 30) (h : w.ownsRow B 89 2 vR L.length (prs L)) (hl : L.length ≤ 256) (i : Int) :
    Calls Try.prog 23 #[ptr r, .int .i64 i] w fun e w' => e = .returned (.tuple #[.int .i64 ((gt L i).getD 0), .bool (gt L i).isSome]) ∧ w' = w := by
  have c0 : w.cell? ⟨r, 0, none⟩ = some vR := hb.cell 0
  obtain ⟨a, c, rfl⟩ := ownsRow_slice h
  have HR : Hid (∀ k (hk : k < L.length), ∃ g, a = some ⟨g, 0, none⟩ ∧ w.cell? ⟨g, k * 2, none⟩ = some (.int .i64 L[k].1) ∧ w.cell? ⟨g, k * 2 + 1, none⟩ = some (.int .i64 L[k].2)) := fun k hk => pair_at h k hk
  obtain ⟨n, hn⟩ : ∃ n, n = L.length := ⟨_, rfl⟩
  rw [← hn] at c0 hl
  have HN : Hid (n = L.length) := hn
  clear h hb hn
  unfold ptr
  go_enter Try.func23, Try.ntmps23
  go_wp2
  go_loopw [6] (fun v u => ∃ k : Nat, k ≤ n ∧ v = .int .i64 (k : Int) ∧ u = w ∧ Hid (∀ j (hj : j < L.length), j < k → L[j].1 ≠ i)) (fun v _ => n - (iv v).toNat)
  case atStart => exact ⟨0, Nat.zero_le _, rfl, rfl, fun j _ hj => by omega⟩
  case round =>
    obtain ⟨k, hk, rfl, rfl, hno⟩ := hrel
    by_cases hlt : k < n
    · have hki : (k : Int) < (n : Int) := by omega
      have hkL : k < L.length := by rw [← HN.out]; exact hlt
      obtain ⟨g, rfl, x1, x2⟩ := HR.out k hkL
      by_cases he : L[k].1 = i
      · have hg : Hid (gt L i = some L[k].2) := gt_first L k hkL i (fun j hj => hno.out j (by omega) hj) he
        rw [he] at x1
        generalize L[k].2 = z at *
        clear he
        go_wp2
        go_ret2
        rw [hg.out]
        simp
      · have hno2 : Hid (∀ j (hj : j < L.length), j < k + 1 → L[j].1 ≠ i) := fun j hj hjk => by
          by_cases e : j = k
          · subst e; exact he
          · exact hno.out j hj (by omega)
        generalize L[k].1 = y at *
        go_wp2
        go_roundw
        case rel => exact ⟨k + 1, by omega, by simp, trivial, hno2⟩
        case measure => simp only [iv]; omega
    · have hki : ¬ (k : Int) < (n : Int) := by omega
      have hg : Hid (gt L i = none) := gt_last L i (fun j hj => hno.out j hj (by rw [← HN.out] at hj; omega))
      go_wp2
      go_ret2
      rw [hg.out]
      simp

set_option maxRecDepth 100000 in
set_option maxHeartbeats 2000000 in
theorem rvalue_at {w : World} {B r : Nat} {vR vW vM : Value} {L : List (Int × Int)} (hb : Box w r #[vR, vW, vM] 30) (h : w.ownsRow B 91 2 vW L.length (prs L)) (hl : L.length ≤ 256) (i : Int) :
    Calls Try.prog 21 #[ptr r, .int .i64 i] w fun e w' => e = .returned (.tuple #[.int .i64 ((gt L i).getD 0), .bool (gt L i).isSome]) ∧ w' = w := by
  have c0 : w.cell? ⟨r, 1, none⟩ = some vW := hb.cell 1
  obtain ⟨a, c, rfl⟩ := ownsRow_slice h
  have HR : Hid (∀ k (hk : k < L.length), ∃ g, a = some ⟨g, 0, none⟩ ∧ w.cell? ⟨g, k * 2, none⟩ = some (.int .i64 L[k].1) ∧ w.cell? ⟨g, k * 2 + 1, none⟩ = some (.int .i64 L[k].2)) := fun k hk => pair_at h k hk
  obtain ⟨n, hn⟩ : ∃ n, n = L.length := ⟨_, rfl⟩
  rw [← hn] at c0 hl
  have HN : Hid (n = L.length) := hn
  clear h hb hn
  unfold ptr
  go_enter Try.func21, Try.ntmps21
  go_wp2
  go_loopw [6] (fun v u => ∃ k : Nat, k ≤ n ∧ v = .int .i64 (k : Int) ∧ u = w ∧ Hid (∀ j (hj : j < L.length), j < k → L[j].1 ≠ i)) (fun v _ => n - (iv v).toNat)
  case atStart => exact ⟨0, Nat.zero_le _, rfl, rfl, fun j _ hj => by omega⟩
  case round =>
    obtain ⟨k, hk, rfl, rfl, hno⟩ := hrel
    by_cases hlt : k < n
    · have hki : (k : Int) < (n : Int) := by omega
      have hkL : k < L.length := by rw [← HN.out]; exact hlt
      obtain ⟨g, rfl, x1, x2⟩ := HR.out k hkL
      by_cases he : L[k].1 = i
      · have hg : Hid (gt L i = some L[k].2) := gt_first L k hkL i (fun j hj => hno.out j (by omega) hj) he
        rw [he] at x1
        generalize L[k].2 = z at *
        clear he
        go_wp2
        go_ret2
        rw [hg.out]
        simp
      · have hno2 : Hid (∀ j (hj : j < L.length), j < k + 1 → L[j].1 ≠ i) := fun j hj hjk => by
          by_cases e : j = k
          · subst e; exact he
          · exact hno.out j hj (by omega)
        generalize L[k].1 = y at *
        go_wp2
        go_roundw
        case rel => exact ⟨k + 1, by omega, by simp, trivial, hno2⟩
        case measure => simp only [iv]; omega
    · have hki : ¬ (k : Int) < (n : Int) := by omega
      have hg : Hid (gt L i = none) := gt_last L i (fun j hj => hno.out j hj (by rw [← HN.out] at hj; omega))
      go_wp2
      go_ret2
      rw [hg.out]
      simp
end Go.Proofs.Ytdneikfocefnfaa
