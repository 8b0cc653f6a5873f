/-
  AfterNumbers, walked.
-/
import Derived.Test.YtlbnilendcelkaaNon
import Derived.Test.YtlbnilendcelkaaAwk
namespace Go.Proofs.Ytlbnilendcelkaa
open Go.RowKit
/-- the first n of the chapter's many -/
def wn (i : Nat) : En Int := ⟨0, 1 + ((i % 2 : Nat) : Int), (i : Int)⟩
def W (n : Nat) : List (En Int) := (List.range n).map wn
theorem W_len (n : Nat) : (W n).length = n := by simp [W]
theorem W_succ (n : Nat) : W (n + 1) = W n ++ [wn n] := by simp [W, List.range_succ]
theorem W_one (m : Nat) : (W (2 * m)).filter (fun e => decide (e.own = 1)) = (List.range m).map fun j => (⟨0, 1, ((2 * j : Nat) : Int)⟩ : En Int) := by
  induction m with
  | zero => rfl
  | succ m ih =>
    rw [show 2 * (m + 1) = 2 * m + 1 + 1 by omega, W_succ, W_succ, List.filter_append, List.filter_append, ih, List.range_succ, List.map_append]
    have e1 : (2 * m) % 2 = 0 := by omega
    have e2 : (2 * m + 1) % 2 = 1 := by omega
    simp [wn, e1, e2]
theorem W_two (m : Nat) : (W (2 * m)).filter (fun e => !decide (e.own = 1)) = (List.range m).map fun j => (⟨0, 2, ((2 * j + 1 : Nat) : Int)⟩ : En Int) := by
  induction m with
  | zero => rfl
  | succ m ih =>
    rw [show 2 * (m + 1) = 2 * m + 1 + 1 by omega, W_succ, W_succ, List.filter_append, List.filter_append, ih, List.range_succ, List.map_append]
    have e1 : (2 * m) % 2 = 0 := by omega
    have e2 : (2 * m + 1) % 2 = 1 := by omega
    simp [wn, e1, e2]
theorem num_later (n : Nat) (h : n < 1024) : (⟨W n, []⟩ : QS Int).later (1 + ((n % 2 : Nat) : Int)) (n : Int) = (0, ⟨W (n + 1), []⟩) := by
  unfold QS.later
  rw [if_neg (by omega), if_neg (by simp [W_len]; omega), W_succ]
  rfl
theorem mine_mk (X Y : List (En Int)) (o : Int) : (⟨X, Y⟩ : QS Int).mine o = X.filter (fun e => decide (e.own = o)) := rfl
theorem commit_mk (X Y : List (En Int)) (o v : Int) (h : ¬ (o < 1 ∨ v < 0)) : (⟨X, Y⟩ : QS Int).commit o v = (((X.filter (fun e => decide (e.own = o))).length : Int), 0, ⟨X.filter (fun e => !decide (e.own = o)), mrg En.ver Y ((X.filter (fun e => decide (e.own = o))).map fun e => { e with ver := v })⟩) := by unfold QS.commit; rw [if_neg h]; rfl
/-- behind the loop: five calls -/
theorem num_seq : ∃ (A D : List (En Int)), (⟨W 1024, []⟩ : QS Int).later 3 0 = (5, ⟨W 1024, []⟩) ∧ (⟨W 1024, []⟩ : QS Int).commit 1 5 = (512, 0, ⟨A, D⟩) ∧ A.length = 512 ∧ D.length = 512 ∧ (⟨A, D⟩ : QS Int).later 3 0 = (5, ⟨A, D⟩) ∧ (⟨A, D⟩ : QS Int).take 5 = (D, ⟨A, []⟩) ∧ (⟨A, []⟩ : QS Int).later 3 0 = (0, ⟨A ++ [⟨0, 3, 0⟩], []⟩) ∧ (∃ e, D[1]? = some e ∧ e.act = 2) := by
  refine ⟨(List.range 512).map fun j => (⟨0, 2, ((2 * j + 1 : Nat) : Int)⟩ : En Int), ((List.range 512).map fun j => (⟨0, 1, ((2 * j : Nat) : Int)⟩ : En Int)).map fun e => { e with ver := 5 }, ?_, ?_, by simp, by simp, ?_, ?_, ?_, ?_⟩
  · unfold QS.later; rw [if_neg (by omega), if_pos (by simp [W_len])]
  · have h1 := W_one 512
    have h2 := W_two 512
    rw [show 2 * 512 = 1024 from rfl] at h1 h2
    rw [commit_mk _ _ _ _ (by omega), h1, h2, nil_mrg]
    simp
  · unfold QS.later; rw [if_neg (by omega), if_pos (by simp)]
  · unfold QS.take
    have h1 : ∀ (l : List (En Int)), (l.map fun e : En Int => { e with ver := 5 }).filter (fun e => decide (e.ver ≤ 5)) = l.map fun e : En Int => { e with ver := 5 } := fun l => List.filter_eq_self.2 (fun e he => by obtain ⟨x, _, rfl⟩ := List.mem_map.1 he; simp)
    have h2 : ∀ (l : List (En Int)), (l.map fun e : En Int => { e with ver := 5 }).filter (fun e => !decide (e.ver ≤ 5)) = [] := fun l => List.filter_eq_nil_iff.2 (fun e he => by obtain ⟨x, _, rfl⟩ := List.mem_map.1 he; simp)
    simp only [h1, h2]
  · unfold QS.later; rw [if_neg (by omega), if_neg (by simp)]
  · refine ⟨⟨5, 1, 2⟩, ?_, rfl⟩
    rw [List.getElem?_map, List.getElem?_map, List.getElem?_range (by omega)]
    rfl
set_option maxRecDepth 100000 in
set_option maxHeartbeats 8000000 in
theorem numbers_at (w : World) : Calls Try.prog 3 #[] w fun r w' => r = .returned (.bool true) ∧ Below w.heap.size w w' := by
  obtain ⟨A, D, q1, q2, hA, hD, q3, q4, q5, ⟨xe, hxe, hxa⟩⟩ := num_seq
  have HQ := hid (And.intro q1 (And.intro q2 (And.intro q3 (And.intro q4 q5))))
  have HX := hid (And.intro hA (And.intro hD (And.intro hxe hxa)))
  clear q1 q2 q3 q4 q5 hA hD hxe hxa
  have c0 := I.Sit.new w
  unfold ptr at *
  go_enter Try.func3, Try.ntmps3
  go_wp2_with fail
  refine Calls.mono c0 ?_
  rintro e w0 ⟨q, rfl, h0⟩
  have H0 := hid h0
  clear c0 h0
  go_wp2_with fail
  go_loopw [2] (fun i u => ∃ k : Nat, k ≤ 1024 ∧ i = .int .i64 (k : Int) ∧ Hid (Sit eI 49 33 w q ⟨W k, []⟩ [] u)) (fun i _ => 1024 - (intOf i).toNat)
  case atStart => exact ⟨0, Nat.zero_le _, by simp, H0.out⟩
  case round =>
    clear H0
    obtain ⟨k, hk, rfl, hrel⟩ := hrel
    by_cases hlt : k < 1024
    · have hki : (k : Int) < 1024 := by omega
      have c1 := I.Sit.later hrel.out (1 + ((k % 2 : Nat) : Int)) (k : Int)
      rw [num_later k hlt] at c1
      unfold ptr at c1
      clear hrel
      have hrem : (k : Int).tmod 2 = ((k % 2 : Nat) : Int) := by rw [Int.tmod_eq_emod_of_nonneg (by omega)]; omega
      have hk2 : k % 2 < 2 := Nat.mod_lt _ (by omega)
      generalize k % 2 = r at *
      have r1 : IntKind.i64.wrap (r : Int) = (r : Int) := by rw [IntKind.wrap_i64]; omega
      have r2 : IntKind.i64.wrap (1 + (r : Int)) = 1 + (r : Int) := by rw [IntKind.wrap_i64]; omega
      go_wp2_with fail
      refine Calls.mono c1 ?_
      rintro e w1 ⟨rfl, h1⟩
      have H1 := hid h1
      clear c1 h1
      go_wp2_with fail
      go_roundw
      case rel => exact ⟨k + 1, by omega, by simp, H1.out⟩
      case measure => simp only [intOf]; omega
    · have hki : ¬ (k : Int) < 1024 := by omega
      obtain rfl : k = 1024 := by omega
      have H1 := hid hrel.out
      clear hrel
      have c2 := I.Sit.later H1.out 3 0
      rw [HQ.out.1] at c2
      unfold ptr at *
      go_wp2_with fail
      refine Calls.mono c2 ?_
      rintro e u2x ⟨rfl, h2⟩
      have H2 := hid h2
      clear c2 h2 H1
      have c3 := I.Sit.commit H2.out (by simp [W_len]) 1 5
      rw [HQ.out.2.1] at c3
      unfold ptr at *
      go_wp2_with fail
      refine Calls.mono c3 ?_
      rintro e u3x ⟨rfl, h3⟩
      have H3 := hid h3
      clear c3 h3 H2
      have c4 := I.Sit.later H3.out 3 0
      rw [HQ.out.2.2.1] at c4
      unfold ptr at *
      go_wp2_with fail
      refine Calls.mono c4 ?_
      rintro e u4x ⟨rfl, h4⟩
      have H4 := hid h4
      clear c4 h4 H3
      have c5 := I.Sit.take H4.out 5
      rw [HQ.out.2.2.2.1] at c5
      unfold ptr at *
      go_wp2_with fail
      refine Calls.mono c5 ?_
      rintro e u5x ⟨v1, rfl, h5⟩
      have H5 := hid h5
      clear c5 h5 H4
      have c6 := I.Sit.later H5.out 3 0
      rw [HQ.out.2.2.2.2] at c6
      unfold ptr at *
      go_wp2_with fail
      refine Calls.mono c6 ?_
      rintro e u6x ⟨rfl, h6⟩
      have H6 := hid h6
      clear c6 h6 H5
      have c7 := Sit.len H6.out
      rw [show (A ++ [(⟨0, 3, 0⟩ : En Int)]).length = 513 by simp [HX.out.1]] at c7
      unfold ptr at *
      go_wp2_with fail
      refine Calls.mono c7 ?_
      rintro e u7x ⟨rfl, h7⟩
      have r1 : IsRow eI 33 u7x w.heap.size v1 D := (h7.1.choose_spec.2 (v1, D) (by simp)).1
      have HB := hid h7.2
      have hrl := r1.lay
      obtain ⟨xv, xo, xa⟩ := xe
      have hxa := HX.out.2.2.2
      simp only at hxa
      subst hxa
      rcases hrl with ⟨_, he⟩ | ⟨b1, cap1, hv1, _, l1⟩
      · have := HX.out.2.1; rw [he] at this; simp at this
      have x1 := (l1.get HX.out.2.2.1).2.2
      simp only [eI] at x1
      rw [HX.out.2.1] at hv1
      subst hv1
      clear c7 h7 H6 r1 l1
      have ca := awake_at u7x
      go_wp2_with fail
      refine Calls.mono ca ?_
      rintro e wz ⟨rfl, gz⟩
      have HF := hid (HB.out.trans (gz.mono HB.out.size))
      clear ca gz x1
      go_wp2_with fail
      go_ret
      exact ⟨rfl, HF.out⟩
end Go.Proofs.Ytlbnilendcelkaa
