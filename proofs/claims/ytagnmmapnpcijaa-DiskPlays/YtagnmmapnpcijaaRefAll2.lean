/-
  The document's calls, told of the plain disk: what is armed, Crash, Read.
-/
import Derived.Test.YtagnmmapnpcijaaRefAll
namespace Go.Proofs.Ytagnmmapnpcijaa
open Go.RowKit

theorem rarmD {w : World} {Q : Nat → Prop} {a1 a2 : Option Addr} {n1 c1 n2 c2 : Nat} {D : DS} (h : RD w Q a1 a2 n1 c1 n2 c2 D) (n : Int) (hn : n ≤ 9223372036854775807) :
    Calls Try.prog 53 #[.agg (refA a1 a2 n1 c1 n2 c2 D), .int .i64 n] w fun r w' => r = .returned (.tuple #[.agg (refA a1 a2 n1 c1 n2 c2 (D.armed n)), .int .i64 (armE n : Int)]) ∧ RD w' Q a1 a2 n1 c1 n2 c2 (D.armed n) ∧ Below w.heap.size w w' := by
  refine (armed_ref 53 4 (.inl ⟨rfl, rfl⟩) a1 a2 n1 c1 n2 c2 D.n (fuseI D.arm) (fuseI D.fail) D.gone n w).mono ?_
  rintro r w' ⟨rfl, b⟩
  have R := h.below b
  by_cases q : n < 0
  · have e : D.armed n = D := by unfold DS.armed; rw [if_pos q]
    have e2 : armE n = 2 := by unfold armE; rw [if_pos q]
    rw [e, e2, if_pos q, if_pos q, if_pos q]
    exact ⟨rfl, R, b⟩
  · have e : D.armed n = { D with arm := ⟨true, n.toNat⟩ } := by unfold DS.armed; rw [if_neg q]
    have e2 : armE n = 0 := by unfold armE; rw [if_neg q]
    rw [e, e2, if_neg q, if_neg q, if_neg q, if_pos rfl, if_pos rfl]
    refine ⟨?_, ⟨R.safe, R.wr, ⟨R.ok.len, R.ok.lo, R.ok.hi, R.ok.each, by show n.toNat < _; omega, R.ok.fail⟩⟩, b⟩
    unfold refA fuseI
    simp
    omega
theorem rfailD {w : World} {Q : Nat → Prop} {a1 a2 : Option Addr} {n1 c1 n2 c2 : Nat} {D : DS} (h : RD w Q a1 a2 n1 c1 n2 c2 D) (n : Int) (hn : n ≤ 9223372036854775807) :
    Calls Try.prog 54 #[.agg (refA a1 a2 n1 c1 n2 c2 D), .int .i64 n] w fun r w' => r = .returned (.tuple #[.agg (refA a1 a2 n1 c1 n2 c2 (D.failing n)), .int .i64 (armE n : Int)]) ∧ RD w' Q a1 a2 n1 c1 n2 c2 (D.failing n) ∧ Below w.heap.size w w' := by
  refine (armed_ref 54 5 (.inr ⟨rfl, rfl⟩) a1 a2 n1 c1 n2 c2 D.n (fuseI D.arm) (fuseI D.fail) D.gone n w).mono ?_
  rintro r w' ⟨rfl, b⟩
  have R := h.below b
  by_cases q : n < 0
  · have e : D.failing n = D := by unfold DS.failing; rw [if_pos q]
    have e2 : armE n = 2 := by unfold armE; rw [if_pos q]
    rw [e, e2, if_pos q, if_pos q, if_pos q]
    exact ⟨rfl, R, b⟩
  · have e : D.failing n = { D with fail := ⟨true, n.toNat⟩ } := by unfold DS.failing; rw [if_neg q]
    have e2 : armE n = 0 := by unfold armE; rw [if_neg q]
    rw [e, e2, if_neg q, if_neg q, if_neg q, if_neg (by decide), if_neg (by decide)]
    refine ⟨?_, ⟨R.safe, R.wr, ⟨R.ok.len, R.ok.lo, R.ok.hi, R.ok.each, R.ok.arm, by show n.toNat < _; omega⟩⟩, b⟩
    unfold refA fuseI
    simp
    omega
theorem rcrashD {w : World} {Q : Nat → Prop} {a1 a2 : Option Addr} {n1 c1 n2 c2 : Nat} {D : DS} (h : RD w Q a1 a2 n1 c1 n2 c2 D) (hQ : ∀ i, w.heap.size ≤ i → Q i) (ak : Option Addr) (nk ck : Nat) (ks : List Bool) (t : Int) (m : Nat) (hm : m < 256) (hks : ks.length = nk) (hnk : nk ≤ 9223372036854775807) (hrk : RdBl w ak ks) (hlim : D.uf.length ≤ 1000000) :
    Calls Try.prog 31 #[.agg (refA a1 a2 n1 c1 n2 c2 D), .slice ak nk ck, .int .i64 t, .int .u8 (m : Int)] w fun r w' => ∃ a1' c1', r = .returned (.agg (refA a1' none n1 c1' 0 0 (D.crash ks t m))) ∧ RD w' Q a1' none n1 c1' 0 0 (D.crash ks t m) ∧ Below w.heap.size w w' := by
  have enw := h.nw
  refine (rcrash_at h hQ D.n (fuseI D.arm) (fuseI D.fail) D.gone ak nk ck ks t m hm hks hnk hrk (by omega)).mono ?_
  rintro r w' ⟨g, c, rfl, hs, b⟩
  refine ⟨_, c, rfl, ⟨hs, ⟨rfl, Nat.le_refl _, by unfold maxLen; omega, fun _ => ⟨rfl, rfl⟩, fun h => by omega⟩, ?_⟩, b⟩
  exact ⟨(crash_len D h.ok ks t m D.uf.length (Nat.le_refl _)).trans h.ok.len, h.ok.lo, h.ok.hi, fun p hp => (by cases hp), (by show (0 : Nat) < 9223372036854775808; omega), (by show (0 : Nat) < 9223372036854775808; omega)⟩
/-- Read: the same answer as the plain disk's -/
theorem rreadD {w : World} {Q : Nat → Prop} {a1 a2 : Option Addr} {n1 c1 n2 c2 : Nat} {D : DS} (h : RD w Q a1 a2 n1 c1 n2 c2 D) (n : Int) :
    Calls Try.prog 52 #[.agg (refA a1 a2 n1 c1 n2 c2 D), .int .i64 n] w fun r w' => ∃ a m c xs, r = .returned (.tuple #[.slice a m c, .int .i64 (D.readE n : Int)]) ∧ xs.length = m ∧ Rd w' a xs ∧ (D.readE n ≠ 0 → xs = []) ∧ (D.readE n = 0 → xs = D.stand n.toNat) ∧ Below w.heap.size w w' := by
  have ens := h.ns
  have hhi := h.ok.hi
  by_cases hn : 0 ≤ n ∧ n < D.nb
  · have hhas : D.has n = true := by unfold DS.has; simp [hn.1, hn.2]
    obtain ⟨k, rfl⟩ : ∃ k : Nat, n = k := ⟨n.toNat, by omega⟩
    cases hg : D.gone with
    | true =>
      have e : D.readE (k : Int) = 6 := by unfold DS.readE; rw [hhas, hg]; rfl
      rw [e]
      have c := rread_down a1 a2 n1 c1 n2 c2 D.n (fuseI D.arm) (fuseI D.fail) k w (by omega) (by omega)
      unfold refA
      rw [hg]
      refine c.mono ?_
      rintro r w' ⟨rfl, b⟩
      exact ⟨none, 0, 0, [], rfl, rfl, Rd.nil _ _, fun _ => rfl, fun h => by omega, b⟩
    | false =>
      have e : D.readE (k : Int) = 0 := by unfold DS.readE; rw [hhas, hg]; rfl
      rw [e]
      have c := rread_good h D.n (fuseI D.arm) (fuseI D.fail) k (by omega)
      unfold refA
      rw [hg]
      refine c.mono ?_
      rintro r w' ⟨p, o, c, rfl, hb, b⟩
      obtain ⟨_, hr, hl, _, _⟩ := hb.rd
      exact ⟨_, 4096, c, _, rfl, hl, hr, fun h => absurd rfl h, fun _ => rfl, b⟩
  · have hhas : D.has n = false := by
      unfold DS.has
      by_cases q : 0 ≤ n
      · have : ¬ n < D.nb := fun q' => hn ⟨q, q'⟩
        simp [this]
      · simp [q]
    have e : D.readE n = 70 := by unfold DS.readE; rw [hhas]; rfl
    rw [e]
    refine (rread_bad a1 a2 n1 c1 n2 c2 D.n (fuseI D.arm) (fuseI D.fail) D.gone n w (by omega) (by
      by_cases q : n < 0
      · exact .inl q
      · exact .inr ⟨by omega, by omega⟩)).mono ?_
    rintro r w' ⟨rfl, b⟩
    exact ⟨none, 0, 0, [], rfl, rfl, Rd.nil _ _, fun _ => rfl, fun h => by omega, b⟩
end Go.Proofs.Ytagnmmapnpcijaa
