/-
  The document's calls, told of the plain disk.
-/
import Derived.Test.YtagnmmapnpcijaaLent
namespace Go.Proofs.Ytagnmmapnpcijaa
open Go.RowKit

/-- the document's disk as a value -/
def refA (a1 a2 : Option Addr) (n1 c1 n2 c2 : Nat) (D : DS) : Array Value := #[.slice a1 n1 c1, .slice a2 n2 c2, .int .i64 (D.n : Int), .bool D.gone, .int .i64 (fuseI D.arm), .int .i64 (fuseI D.fail)]
theorem refA_oper (a1 a2 : Option Addr) (n1 c1 n2 c2 : Nat) (D : DS) : #[.slice a1 n1 c1, .slice a2 n2 c2, .int .i64 (D.n : Int), .bool (D.gone || (fuseI D.arm == 0)), .int .i64 (opA D.gone (fuseI D.arm)), .int .i64 (opA D.gone (fuseI D.fail))] = refA a1 a2 n1 c1 n2 c2 D.oper := by
  unfold refA
  rw [opD_D, opA_D, opA_D, oper_arm, oper_fail]
  have : D.oper.n = D.n := by unfold DS.oper; split <;> rfl
  rw [this]
theorem RD.oper {w : World} {Q : Nat → Prop} {a1 a2 : Option Addr} {n1 c1 n2 c2 : Nat} {D : DS} (h : RD w Q a1 a2 n1 c1 n2 c2 D) : RD w Q a1 a2 n1 c1 n2 c2 D.oper := by
  have e1 : D.oper.dur = D.dur := by unfold DS.oper; split <;> rfl
  have e2 : D.oper.uf = D.uf := by unfold DS.oper; split <;> rfl
  have e3 : D.oper.nb = D.nb := by unfold DS.oper; split <;> rfl
  have e4 : safeOf D.oper = safeOf D := by unfold safeOf; rw [e1, e3]
  have t : ∀ f : Fuse, f.left < 9223372036854775808 → f.then.left < 9223372036854775808 := fun f hf => by
    unfold Fuse.then
    split
    · split
      · show f.left - 1 < _; omega
      · show 0 < _; omega
    · exact hf
  exact ⟨by rw [e4]; exact h.safe, by rw [e2]; exact h.wr, ⟨by rw [e1, e3]; exact h.ok.len, by rw [e3]; exact h.ok.lo, by rw [e3]; exact h.ok.hi, by rw [e2, e3]; exact h.ok.each, by rw [oper_arm]; split; exact h.ok.arm; exact t _ h.ok.arm, by rw [oper_fail]; split; exact h.ok.fail; exact t _ h.ok.fail⟩⟩

theorem rflushD {w : World} {Q : Nat → Prop} {a1 a2 : Option Addr} {n1 c1 n2 c2 : Nat} {D : DS} (h : RD w Q a1 a2 n1 c1 n2 c2 D) (hQ : ∀ i, w.heap.size ≤ i → Q i) :
    Calls Try.prog 51 #[.agg (refA a1 a2 n1 c1 n2 c2 D)] w fun r w' => ∃ a1' a2' c1' n2' c2', r = .returned (.tuple #[.agg (refA a1' a2' n1 c1' n2' c2' D.flush), .int .i64 (D.operE : Int)]) ∧ RD w' Q a1' a2' n1 c1' n2' c2' D.flush ∧ Below w.heap.size w w' := by
  have l1 := fuseI_lo D.arm
  have l2 := fuseI_lo D.fail
  have l3 := fuseI_hi D.arm h.ok.arm
  have l4 := fuseI_hi D.fail h.ok.fail
  have hE := opE_D D
  by_cases h0 : D.operE = 0
  · rw [h0] at hE
    refine (rflush_good h hQ D.n (fuseI D.arm) (fuseI D.fail) D.gone l1 l3 l2 l4 hE).mono ?_
    rintro r w' ⟨g, c, rfl, hs, b⟩
    have hf : D.flush = { D.oper with dur := D.image, uf := [] } := by unfold DS.flush; rw [if_pos h0]
    have ho := h.oper.ok
    have e1 : D.oper.dur = D.dur := by unfold DS.oper; split <;> rfl
    have e3 : D.oper.nb = D.nb := by unfold DS.oper; split <;> rfl
    have es : safeOf D.flush = standsOf D := by
      rw [hf]
      unfold safeOf standsOf
      show (List.range D.oper.nb).map (blk D.image) = _
      rw [e3]
      refine List.map_congr_left fun k hk => stand_blk D h.ok k (by simpa using hk)
    refine ⟨_, none, c, 0, 0, ?_, ⟨by rw [es]; exact hs, by rw [hf]; exact ⟨rfl, Nat.le_refl _, by unfold maxLen; omega, fun _ => ⟨rfl, rfl⟩, fun h => by omega⟩, ?_⟩, b⟩
    · have e := refA_oper (some ⟨g, 0, none⟩) none n1 c 0 0 D
      rw [h0, hf]
      show _ = Ending.returned (Value.tuple #[.agg (refA (some ⟨g, 0, none⟩) none n1 c 0 0 D.oper), .int .i64 0])
      rw [← e]
    · rw [hf]
      exact ⟨by show D.image.length = D.oper.nb * 4096; rw [e3]; exact image_len D h.ok, ho.lo, ho.hi, fun p hp => (by cases hp), ho.arm, ho.fail⟩
  · refine (rflush_stop a1 a2 n1 c1 n2 c2 D.n (fuseI D.arm) (fuseI D.fail) D.gone (D.operE : Int) w l1 l3 l2 l4 hE (by omega)).mono ?_
    rintro r w' ⟨rfl, b⟩
    have hf : D.flush = D.oper := by unfold DS.flush; rw [if_neg h0]
    rw [hf]
    exact ⟨a1, a2, c1, n2, c2, by rw [refA_oper], (h.below b).oper, b⟩

theorem rwriteD {w : World} {Q : Nat → Prop} {a1 a2 : Option Addr} {n1 c1 n2 c2 : Nat} {D : DS} (h : RD w Q a1 a2 n1 c1 n2 c2 D) (hQ : ∀ i, w.heap.size ≤ i → Q i) (hlim : D.uf.length ≤ 1000000) (hcnt : D.n ≤ 1000000) (n : Int) (ab : Option Addr) (nb cb : Nat) (b : List UInt8) (hb : b.length = nb) (hnb : nb ≤ 9223372036854775807) (hrb : Rd w ab b) :
    Calls Try.prog 48 #[.agg (refA a1 a2 n1 c1 n2 c2 D), .int .i64 n, .slice ab nb cb] w fun r w' => ∃ a2' n2' c2', r = .returned (.tuple #[.agg (refA a1 a2' n1 c1 n2' c2' (D.write n b)), .int .i64 (D.writeE n b : Int)]) ∧ RD w' Q a1 a2' n1 c1 n2' c2' (D.write n b) ∧ Below w.heap.size w w' := by
  have l1 := fuseI_lo D.arm
  have l2 := fuseI_lo D.fail
  have l3 := fuseI_hi D.arm h.ok.arm
  have l4 := fuseI_hi D.fail h.ok.fail
  have hE := opE_D D
  have ens := h.ns
  have enw := h.nw
  have hhi := h.ok.hi
  by_cases hn : 0 ≤ n ∧ n < D.nb
  · have hhas : D.has n = true := by unfold DS.has; simp [hn.1, hn.2]
    by_cases h4 : b.length = 4096
    · obtain ⟨k, rfl⟩ : ∃ k : Nat, n = k := ⟨n.toNat, by omega⟩
      have hw : D.writeE (k : Int) b = D.operE := by unfold DS.writeE; rw [hhas, if_pos rfl, if_pos h4]
      have hb' : nb = 4096 := by omega
      subst hb'
      by_cases h0 : D.operE = 0
      · rw [h0] at hE
        have hd : D.write (k : Int) b = { D.oper with uf := D.uf ++ [(k, b)], n := D.n + 1 } := by unfold DS.write; rw [hhas, decide_eq_true h4, Bool.and_self, if_pos rfl, if_pos h0]; rfl
        refine (rwrite_good h hQ (by omega) D.n (fuseI D.arm) (fuseI D.fail) D.gone ⟨by omega, by omega⟩ k ab cb b h4 hrb (by omega) l1 l3 l2 l4 hE).mono ?_
        rintro r w' ⟨g, c, rfl, hs, hw', bl⟩
        have ho := h.oper.ok
        have e1 : D.oper.dur = D.dur := by unfold DS.oper; split <;> rfl
        have e2 : D.oper.uf = D.uf := by unfold DS.oper; split <;> rfl
        have e3 : D.oper.nb = D.nb := by unfold DS.oper; split <;> rfl
        refine ⟨_, n2 + 1, c, ?_, ⟨?_, by rw [hd]; exact hw', ?_⟩, bl⟩
        · rw [hw, h0, hd]
          unfold refA
          simp only [opD_D, opA_D, oper_arm, oper_fail]
          rfl
        · rw [hd]
          have : safeOf ({ D.oper with uf := D.uf ++ [(k, b)], n := D.n + 1 } : DS) = safeOf D := by
            unfold safeOf
            show (List.range D.oper.nb).map (blk D.oper.dur) = _
            rw [e1, e3]
          rw [this]
          exact hs
        · rw [hd]
          refine ⟨ho.len, ho.lo, ho.hi, fun p hp => ?_, ho.arm, ho.fail⟩
          show p.1 < D.oper.nb ∧ _
          rw [e3]
          rcases List.mem_append.1 hp with q | q
          · exact h.ok.each p q
          · have : p = (k, b) := by simpa using q
            subst this
            exact ⟨by have := hn.2; show k < D.nb; omega, h4⟩
      · have hd : D.write (k : Int) b = D.oper := by unfold DS.write; rw [hhas, decide_eq_true h4, Bool.and_self, if_pos rfl, if_neg h0]
        refine (rwrite_stop a1 a2 n1 c1 n2 c2 D.n (fuseI D.arm) (fuseI D.fail) D.gone k ab cb (D.operE : Int) w (by omega) (by omega) l1 l3 l2 l4 hE (by omega)).mono ?_
        rintro r w' ⟨rfl, bl⟩
        rw [hd, hw]
        exact ⟨a2, n2, c2, by rw [refA_oper], (h.below bl).oper, bl⟩
    · have hd : D.write n b = D := by unfold DS.write; rw [hhas, decide_eq_false h4]; rfl
      have hw : D.writeE n b = 2 := by unfold DS.writeE; rw [hhas, if_pos rfl, if_neg h4]
      refine (rwrite_no a1 a2 n1 c1 n2 c2 D.n (fuseI D.arm) (fuseI D.fail) D.gone n ab nb cb 2 w (by omega) hnb (.inr (.inr ⟨hn.1, by omega, by omega, rfl⟩))).mono ?_
      rintro r w' ⟨rfl, bl⟩
      rw [hd, hw]
      exact ⟨a2, n2, c2, rfl, h.below bl, bl⟩
  · have hhas : D.has n = false := by
      unfold DS.has
      by_cases q : 0 ≤ n
      · have : ¬ n < D.nb := fun q' => hn ⟨q, q'⟩
        simp [this]
      · simp [q]
    have hd : D.write n b = D := by unfold DS.write; rw [hhas]; rfl
    have hw : D.writeE n b = 70 := by unfold DS.writeE; rw [hhas]; rfl
    refine (rwrite_no a1 a2 n1 c1 n2 c2 D.n (fuseI D.arm) (fuseI D.fail) D.gone n ab nb cb 70 w (by omega) hnb (by
      by_cases q : n < 0
      · exact .inl ⟨q, rfl⟩
      · exact .inr (.inl ⟨by omega, by omega, rfl⟩))).mono ?_
    rintro r w' ⟨rfl, bl⟩
    rw [hd, hw]
    exact ⟨a2, n2, c2, rfl, h.below bl, bl⟩
end Go.Proofs.Ytagnmmapnpcijaa
