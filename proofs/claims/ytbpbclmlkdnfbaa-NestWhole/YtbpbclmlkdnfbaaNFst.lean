/-
  First.
-/
import Derived.Test.YtbpbclmlkdnfbaaNScp
namespace Go.Proofs.Ytbpbclmlkdnfbaa.T
open Go.RowKit Go.Proofs.Ytbpbclmlkdnfbaa.C
section
variable {w0 u : World} {m gm g : Nat} {S : M} {x : TX} {G V : Nat → Prop}
/-- what comes of the k-th of bodies: the first ones told errors (I), it ends all (D), or not -/
def Tries (w0 u : World) (m gm g : Nat) (G V : Nat → Prop) (b : Nat → Value) (n : Nat) (I : Nat → World → M → TX → Prop) (D : Nat → Int → World → M → TX → Prop) : Prop :=
  ∀ k u' S x, k < n → ToG w0 u m gm S [(g, x)] G V u' → x.st = 1 → I k u' S x → Calls Try.prog 14 #[ptr g, b k] u' fun r u2 => ∃ e S2 x2, r = .returned (.int .i64 e) ∧ ToG w0 u m gm S2 [(g, x2)] G V u2 ∧ (e = 0 ∨ x2.st ≠ 1 → D k e u2 S2 x2) ∧ (e ≠ 0 → x2.st = 1 → I (k + 1) u2 S2 x2)
set_option maxHeartbeats 2000000 in
set_option maxRecDepth 20000 in
theorem first_at (h : Hg w0 u m gm S [(g, x)] G) (hs : x.st = 1) (b : Nat → Value) (n : Nat) (bb cap : Nat) (cs : Array Value) (hn : 1 ≤ n) (hn2 : n ≤ 1000) (hbx : Box u bb cs 46) (hcs : ∀ k, k < n → cs[k]? = some (b k)) (hG : ¬ (G bb ∨ V bb)) (I : Nat → World → M → TX → Prop) (D : Nat → Int → World → M → TX → Prop)
    (hI : I 0 u S x) (hT : Tries w0 u m gm g G V b n I D) : Calls Try.prog 18 #[ptr g, .slice (some ⟨bb, 0, none⟩) n cap] u fun r u' => ∃ (k : Nat) (e : Int) (S2 : M) (x2 : TX), r = .returned (.tuple #[.int .i64 (k : Int), .int .i64 e]) ∧ ToG w0 u m gm S2 [(g, x2)] G V u' ∧ (k < n ∧ D k e u' S2 x2 ∨ k = n ∧ e ≠ 0 ∧ I n u' S2 x2) := by
  have cst := h.status (j := 0) rfl
  rw [hs] at cst
  have HR : Hid (∀ u' S' x', ToG w0 u m gm S' [(g, x')] G V u' → ∀ k, k < n → u'.cell? ⟨bb, k, none⟩ = some (b k)) := fun u' S' x' hT k hk => by
    rw [(Box.upd hbx hT.upd hG).cell k]
    exact hcs k hk
  have HT : Hid (Tries w0 u m gm g G V b n I D) := hT
  have H0 : Hid (∃ S x, ToG w0 u m gm S [(g, x)] G V u ∧ x.st = 1 ∧ I 0 u S x) := ⟨S, x, ToG.refl h, hs, hI⟩
  have hn0 : ¬ ((n : Int) = 0) := by omega
  have hnb : ((n : Int) == 0) = false := by simpa using hn0
  clear h hs hbx hcs hG hI hT
  unfold ptr at *
  go_enter Try.func18, Try.ntmps18
  go_wp2_with (go_at_call 36; refine cst.mono ?_; rintro e wx ⟨rfl, hwx⟩; subst wx)
  go_loopw [6, 19] (fun l i u' => ∃ k : Nat, k ≤ n ∧ i = .int .i64 (k : Int) ∧ (∃ S x, ToG w0 u m gm S [(g, x)] G V u' ∧ x.st = 1 ∧ I k u' S x) ∧ ∃ e : Int, l = .int .i64 e ∧ (1 ≤ k → e ≠ 0)) (fun _ i _ => n - (civ i).toNat)
  case atStart => exact ⟨0, Nat.zero_le _, rfl, H0.out, 0, rfl, fun h => by omega⟩
  case round =>
    obtain ⟨k, hk, rfl, hJ, e, rfl, he⟩ := hrel
    obtain ⟨S', x', hT', hs', hI'⟩ := hJ
    have HT' : Hid (ToG w0 u m gm S' [(g, x')] G V wr ∧ x'.st = 1 ∧ I k wr S' x') := ⟨hT', hs', hI'⟩
    clear hT' hs' hI'
    by_cases hlt : k < n
    · have hlt' : (k : Int) < (n : Int) := by omega
      have cb := HR.out wr S' x' HT'.out.1 k hlt
      have cc := HT.out k wr S' x' hlt HT'.out.1 HT'.out.2.1 HT'.out.2.2
      unfold ptr at cc
      go_wp2_with fail
      refine cc.mono ?_
      rintro r u2 ⟨e2, S2, x2, rfl, k1, k2, k3⟩
      have K : Hid (ToG w0 u m gm S2 [(g, x2)] G V u2 ∧ (e2 = 0 ∨ x2.st ≠ 1 → D k e2 u2 S2 x2) ∧ (e2 ≠ 0 → x2.st = 1 → I (k + 1) u2 S2 x2)) := ⟨k1, k2, k3⟩
      have c2 := k1.has.status (j := 0) rfl
      clear k1 k2 k3 cc
      by_cases h0 : e2 = 0
      · subst h0
        go_wp2_with fail
        go_ret2
        exact ⟨k, 0, S2, x2, rfl, K.out.1, .inl ⟨hlt, K.out.2.1 (by simp)⟩⟩
      · have h0' : (e2 == 0) = false := by simpa using h0
        by_cases h1 : x2.st = 1
        · rw [h1] at c2
          unfold ptr at c2
          go_wp2_with (go_at_call 36; refine c2.mono ?_; rintro e wx ⟨rfl, hwx⟩; subst wx)
          exact ⟨⟨k + 1, by omega, by simp, ⟨S2, x2, K.out.1, h1, K.out.2.2 h0 h1⟩, e2, rfl, fun _ => h0⟩, by simp [civ]; omega⟩
        · have h1' : (x2.st == 1) = false := by simpa using h1
          have HS : Hid (x2.st ≠ 1) := h1
          generalize x2.st = st at c2 h1 h1'
          unfold ptr at c2
          go_wp2_with (go_at_call 36; refine c2.mono ?_; rintro e wx ⟨rfl, hwx⟩; subst wx)
          go_ret2
          exact ⟨k, e2, S2, x2, rfl, K.out.1, .inl ⟨hlt, K.out.2.1 (.inr HS.out)⟩⟩
    · have hkn : k = n := by omega
      subst k
      go_wp2_with fail
      go_ret2
      exact ⟨n, e, S', x', rfl, HT'.out.1, .inr ⟨rfl, he hn, HT'.out.2.2⟩⟩
set_option maxRecDepth 20000 in
theorem first_none (h : Hg w0 u m gm S [(g, x)] G) (hs : x.st = 1) : Calls Try.prog 18 #[ptr g, .slice none 0 0] u fun r u' => r = .returned (.tuple #[.int .i64 0, .int .i64 2]) ∧ u' = u := by
  have cst := h.status (j := 0) rfl
  rw [hs] at cst
  clear h hs
  unfold ptr at *
  go_enter Try.func18, Try.ntmps18
  go_wp2_with (go_at_call 36; refine cst.mono ?_; rintro e wx ⟨rfl, hwx⟩; subst wx)
  go_ret2
  exact ⟨rfl, rfl⟩
set_option maxRecDepth 20000 in
theorem first_no {w : World} {p : Option Addr} (h : NoT w p) (v : Value) : Calls Try.prog 18 #[.pointer p, v] w fun r w' => r = .returned (.tuple #[.int .i64 0, .int .i64 1]) ∧ w' = w := by
  have cst := status_no h
  clear h
  go_enter Try.func18, Try.ntmps18
  go_wp2_with (go_at_call 36; refine cst.mono ?_; rintro e wx ⟨rfl, hwx⟩; subst wx)
  go_ret2
  exact ⟨rfl, rfl⟩
end
end Go.Proofs.Ytbpbclmlkdnfbaa.T
