/-
  The document's own list of pairs, in memory; find, Get and Next.
-/
import Derived.Test.YtlbjalodjcajfaaArg
namespace Go.Proofs.Ytlbjalodjcajfaa
open Go.RowKit Go.Maps
def pc (p : Pr) : List Value := [.string p.1, .string p.2]
def flat2 (P : List Pr) : List Value := P.flatMap pc
theorem flat2_cons (p : Pr) (P : List Pr) : flat2 (p :: P) = .string p.1 :: .string p.2 :: flat2 P := rfl
theorem flat2_app (P Q : List Pr) : flat2 (P ++ Q) = flat2 P ++ flat2 Q := by simp [flat2]
theorem flat2_len (P : List Pr) : (flat2 P).length = P.length * 2 := by
  induction P with
  | nil => rfl
  | cons p P ih => rw [flat2_cons]; simp [ih]; omega
theorem flat2_get {P : List Pr} {i : Nat} {p : Pr} (h : P[i]? = some p) : (flat2 P)[i * 2]? = some (.string p.1) ∧ (flat2 P)[i * 2 + 1]? = some (.string p.2) := by
  induction P generalizing i with
  | nil => simp at h
  | cons x P ih =>
    cases i with
    | zero => simp at h; subst h; simp [flat2_cons]
    | succ i =>
      have := ih (i := i) (by simpa using h)
      rw [flat2_cons, show (i + 1) * 2 = i * 2 + 1 + 1 by omega, show i * 2 + 1 + 1 + 1 = (i * 2 + 1) + 1 + 1 by omega]
      simpa only [List.getElem?_cons_succ] using this
theorem flat2_one (P : List Pr) : ∀ v ∈ flat2 P, v.oneCell' = true := by
  intro v hv
  obtain ⟨p, _, hp⟩ := List.mem_flatMap.1 hv
  simp only [pc, List.mem_cons, List.not_mem_nil, or_false] at hp
  rcases hp with rfl | rfl <;> rfl
/-- pairs in a block, from its beginning on -/
structure L2 (w : World) (g cap : Nat) (P : List Pr) (cur : Array Value) : Prop where
  bx : Box w g cur 58
  sz : cur.size = cap * 2
  le : P.length ≤ cap
  mx : cap ≤ 9223372036854775807
  tk : cur.toList.take (P.length * 2) = flat2 P
theorem L2.get {w : World} {g cap : Nat} {P : List Pr} {cur : Array Value} (h : L2 w g cap P cur) {i : Nat} {p : Pr} (hi : P[i]? = some p) : w.cell? ⟨g, i * 2, none⟩ = some (.string p.1) ∧ w.cell? ⟨g, i * 2 + 1, none⟩ = some (.string p.2) := by
  have hl := (List.getElem?_eq_some_iff.1 hi).1
  have hg := flat2_get hi
  rw [← h.tk] at hg
  simp only [List.getElem?_take] at hg
  rw [if_pos (by omega), if_pos (by omega)] at hg
  exact ⟨by rw [h.bx.cell]; simpa using hg.1, by rw [h.bx.cell]; simpa using hg.2⟩
theorem L2.at' {w w' : World} {g cap : Nat} {P : List Pr} {cur : Array Value} (h : L2 w g cap P cur) (k : w'.heap[g]? = w.heap[g]?) : L2 w' g cap P cur := { h with bx := k.trans h.bx }
theorem L2.below {w w' : World} {g cap : Nat} {P : List Pr} {cur : Array Value} (h : L2 w g cap P cur) (hb : Below w.heap.size w w') : L2 w' g cap P cur := h.at' (hb.block g h.bx.lt)
/-- the document's list -/
def DocV (w : World) (v : Value) (P : List Pr) : Prop := (P = [] ∧ v = .slice none 0 0) ∨ (P ≠ [] ∧ ∃ g cap cur, v = .slice (some ⟨g, 0, none⟩) P.length cap ∧ L2 w g cap P cur)
theorem DocV.below {w w' : World} {v : Value} {P : List Pr} (h : DocV w v P) (hb : Below w.heap.size w w') : DocV w' v P := by
  rcases h with h | ⟨h1, g, cap, cur, h2, h3⟩
  · exact .inl h
  · exact .inr ⟨h1, g, cap, cur, h2, h3.below hb⟩
/-- what is read of it -/
theorem DocV.open {w : World} {v : Value} {P : List Pr} (h : DocV w v P) : ∃ a c, v = .slice a P.length c ∧ ∀ u, Below w.heap.size w u → ∀ i p, P[i]? = some p → ∃ b, a = some ⟨b, 0, none⟩ ∧ u.cell? ⟨b, i * 2, none⟩ = some (.string p.1) ∧ u.cell? ⟨b, i * 2 + 1, none⟩ = some (.string p.2) := by
  rcases h with ⟨rfl, rfl⟩ | ⟨_, g, cap, cur, rfl, h⟩
  · exact ⟨none, 0, rfl, fun u _ i p hi => by simp at hi⟩
  · exact ⟨_, cap, rfl, fun u hu i p hi => ⟨g, rfl, (h.below hu).get hi⟩⟩
section
variable {w : World} {v : Value} {P : List Pr} {key : ByteArray}
set_option maxRecDepth 100000 in
set_option maxHeartbeats 2000000 in
theorem rfind_yes (h : DocV w v P) (hn : P.length ≤ 1024) {i : Nat} {p : Pr} (hi : P[i]? = some p) (hk : p.1 = key) (hlo : ∀ (j : Nat) (q : Pr), j < i → P[j]? = some q → q.1 ≠ key) :
    Calls Try.prog 38 #[v, .string key] w fun r w' => r = .returned (.int .i64 (i : Int)) ∧ Below w.heap.size w w' := by
  obtain ⟨a, c, rfl, hc⟩ := h.open
  have hil := (List.getElem?_eq_some_iff.1 hi).1
  have HC := hid (And.intro hc (And.intro hi (And.intro hk hlo)))
  obtain ⟨n, hnl⟩ : ∃ n, n = P.length := ⟨_, rfl⟩
  rw [← hnl] at hn hil ⊢
  have HN := hid hnl
  clear hc hi hk hlo hnl h
  go_enter Try.func38, Try.ntmps38
  go_wp2_with fail
  go_loopw [5] (fun x u => ∃ j : Nat, j ≤ i ∧ x = .int .i64 (j : Int) ∧ Hid (Below w.heap.size w u)) (fun x _ => i + 1 - (iof x).toNat)
  case atStart => exact ⟨0, by omega, by simp, Below.refl _ _⟩
  case round =>
    obtain ⟨j, hj, rfl, hrel⟩ := hrel
    have hki : (j : Int) < (n : Int) := by omega
    have hjl : j < P.length := by rw [← HN.out]; omega
    have hx := List.getElem?_eq_getElem hjl
    obtain ⟨q, hq⟩ : ∃ q, q = P[j] := ⟨_, rfl⟩
    rw [← hq] at hx
    obtain ⟨b, rfl, c0, c1⟩ := HC.out.1 wr hrel.out j q hx
    have hb := toList_beq q.1 key
    by_cases hji : j = i
    · subst hji
      have e : q = p := by have := HC.out.2.1; rw [hx] at this; injection this
      have hd : decide (q.1 = key) = true := decide_eq_true (by rw [e]; exact HC.out.2.2.1)
      rw [hd] at hb
      have HB := hid hrel.out
      clear hrel HC hx hq hd e
      go_wp2_with fail
      go_ret
      exact ⟨rfl, HB.out⟩
    · have hd : decide (q.1 = key) = false := decide_eq_false (HC.out.2.2.2 j q (by omega) hx)
      rw [hd] at hb
      have HB := hid hrel.out
      clear hrel hx hq hd
      go_wp2_with fail
      go_roundw
      case rel => exact ⟨j + 1, by omega, by simp, HB.out⟩
      case measure => simp only [iof]; omega
set_option maxRecDepth 100000 in
set_option maxHeartbeats 2000000 in
theorem rfind_no (h : DocV w v P) (hn : P.length ≤ 1024) (hno : ∀ p ∈ P, p.1 ≠ key) :
    Calls Try.prog 38 #[v, .string key] w fun r w' => r = .returned (.int .i64 (-1)) ∧ Below w.heap.size w w' := by
  obtain ⟨a, c, rfl, hc⟩ := h.open
  have HC := hid (And.intro hc hno)
  obtain ⟨n, hnl⟩ : ∃ n, n = P.length := ⟨_, rfl⟩
  rw [← hnl] at hn ⊢
  have HN := hid hnl
  clear hc hno hnl h
  go_enter Try.func38, Try.ntmps38
  go_wp2_with fail
  go_loopw [5] (fun x u => ∃ j : Nat, j ≤ n ∧ x = .int .i64 (j : Int) ∧ Hid (Below w.heap.size w u)) (fun x _ => n - (iof x).toNat)
  case atStart => exact ⟨0, by omega, by simp, Below.refl _ _⟩
  case round =>
    obtain ⟨j, hj, rfl, hrel⟩ := hrel
    by_cases hlt : j < n
    · have hki : (j : Int) < (n : Int) := by omega
      have hjl : j < P.length := by rw [← HN.out]; omega
      have hx := List.getElem?_eq_getElem hjl
      obtain ⟨q, hq⟩ : ∃ q, q = P[j] := ⟨_, rfl⟩
      rw [← hq] at hx
      obtain ⟨b, rfl, c0, c1⟩ := HC.out.1 wr hrel.out j q hx
      have hb := toList_beq q.1 key
      have hd : decide (q.1 = key) = false := decide_eq_false (HC.out.2 q (List.mem_of_getElem? hx))
      rw [hd] at hb
      have HB := hid hrel.out
      clear hrel hx hq hd
      go_wp2_with fail
      go_roundw
      case rel => exact ⟨j + 1, by omega, by simp, HB.out⟩
      case measure => simp only [iof]; omega
    · have hki : ¬ (j : Int) < (n : Int) := by omega
      go_wp2_with fail
      go_ret
      exact ⟨rfl, hrel.out⟩
theorem cut_first {A B' : List Pr} {p : Pr} (hc : Cut P key A (p :: B')) : ∀ (j : Nat) (q : Pr), j < A.length → P[j]? = some q → q.1 ≠ key := fun j q hj hq => by
  rw [hc.eq, List.getElem?_append_left hj] at hq
  exact lo_ne (hc.lo q (List.mem_of_getElem? hq))
set_option maxRecDepth 100000 in
set_option maxHeartbeats 2000000 in
theorem rget_at (h : DocV w v P) (hn : P.length ≤ 1024) (ha : Asc P) (key : ByteArray) :
    Calls Try.prog 16 #[v, .string key] w fun r w' => r = .returned (.tuple #[.string ((getP P key).getD ⟨#[]⟩), .bool (getP P key).isSome]) ∧ Below w.heap.size w w' := by
  rcases cut_case ha key with ⟨A, p, B', hc, hk, hB⟩ | ⟨A, B, hc, hno⟩
  · have cf := rfind_yes h hn (cut_get hc) hk (cut_first hc)
    rw [getP_has hc hk]
    simp only [Option.getD_some, Option.isSome_some]
    obtain ⟨a, c, rfl, hcl⟩ := h.open
    have hi := cut_get hc
    have hil := (List.getElem?_eq_some_iff.1 hi).1
    have HC := hid (And.intro hcl hi)
    generalize P.length = n at *
    generalize A.length = i at *
    have hki : (i : Int) < (n : Int) := by omega
    clear hc hB hcl hi h
    go_enter Try.func16, Try.ntmps16
    go_wp2_with fail
    refine cf.mono ?_
    rintro e w1 ⟨rfl, hb⟩
    obtain ⟨b, rfl, c0, c1⟩ := HC.out.1 w1 hb i p HC.out.2
    have HB := hid hb
    clear cf hb HC
    go_wp2_with fail
    go_ret2
    exact ⟨rfl, HB.out⟩
  · have cf := rfind_no h hn hno
    rw [getP_no hno]
    simp only [Option.getD_none, Option.isSome_none]
    clear h hc
    go_enter Try.func16, Try.ntmps16
    go_wp2_with fail
    refine cf.mono ?_
    rintro e w1 ⟨rfl, hb⟩
    have HB := hid hb
    clear cf hb
    go_wp2_with fail
    go_ret2
    exact ⟨rfl, HB.out⟩
end
end Go.Proofs.Ytlbjalodjcajfaa
