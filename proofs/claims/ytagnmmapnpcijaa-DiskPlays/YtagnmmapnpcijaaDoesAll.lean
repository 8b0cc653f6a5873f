/-
  The law's own 'does', whatever the operation.
-/
import Derived.Test.YtagnmmapnpcijaaDoesR
namespace Go.Proofs.Ytagnmmapnpcijaa
open Go.RowKit

variable {K : List (Nat × Obj)}

/-- a disk that is no greater by more than one write -/
def Near (D D' : DS) : Prop := D'.uf.length ≤ D.uf.length + 1 ∧ D'.n ≤ D.n + 1 ∧ D'.nb = D.nb
theorem oper_same (D : DS) : D.oper.uf = D.uf ∧ D.oper.n = D.n ∧ D.oper.nb = D.nb := by unfold DS.oper; split <;> exact ⟨rfl, rfl, rfl⟩
theorem near_write (D : DS) (n : Int) (x : List UInt8) : Near D (D.write n x) := by
  obtain ⟨e1, e2, e3⟩ := oper_same D
  unfold DS.write Near
  split
  · split
    · exact ⟨by simp, by simp, e3⟩
    · rw [e1, e2, e3]; omega
  · omega
theorem near_flush (D : DS) : Near D D.flush := by
  obtain ⟨e1, e2, e3⟩ := oper_same D
  unfold DS.flush Near
  split
  · refine ⟨?_, ?_, ?_⟩ <;> simp [e2, e3]
  · rw [e1, e2, e3]; omega
theorem near_arm (D : DS) (n : Int) : Near D (D.armed n) := by unfold DS.armed Near; split <;> simp
theorem near_fail (D : DS) (n : Int) : Near D (D.failing n) := by unfold DS.failing Near; split <;> simp
theorem near_crash (D : DS) (ks : List Bool) (n : Int) (m : Nat) : Near D (D.crash ks n m) := by unfold DS.crash Near; simp
theorem near_refl (D : DS) : Near D D := by unfold Near; omega

theorem does_at {w0 w : World} {g : Nat} {D : DS} {v : Value} (h : Both K w0 w g D v) (k n sz b : Int) (ak : Option Addr) (nk ck m : Nat) (ks : List Bool) (hn : n ≤ 9223372036854775807) (hm : m < 256) (hks : ks.length = nk) (hnk : nk ≤ 9223372036854775807) (kr : RdBl w0 ak ks) (kl : ∀ ad, ak = some ad → 0 < nk → ad.block < w0.heap.size) (hlim : D.uf.length ≤ 1000000) (hcnt : D.n ≤ 1000000) :
    Calls Try.prog 28 #[.pointer (some ⟨g, 0, none⟩), v, .agg #[.int .i64 k, .int .i64 n, .int .i64 sz, .int .i64 b, .slice ak nk ck, .int .u8 (m : Int)]] w fun r w' => ∃ D' v', r = .returned (.tuple #[v', .bool true]) ∧ Both K w0 w' g D' v' ∧ Near D D' := by
  by_cases k1 : k = 1
  · subst k1
    exact (does_write h n sz b ak nk ck m hlim hcnt).mono fun r w' ⟨x, v', e, h'⟩ => ⟨_, v', e, h', near_write _ _ _⟩
  by_cases k2 : k = 2
  · subst k2
    exact (does_flush h n sz b ak nk ck m).mono fun r w' ⟨v', e, h'⟩ => ⟨_, v', e, h', near_flush _⟩
  by_cases k3 : k = 3
  · subst k3
    exact (does_read h n sz b ak nk ck m hlim).mono fun r w' ⟨v', e, h'⟩ => ⟨_, v', e, h', near_refl _⟩
  by_cases k4 : k = 4
  · subst k4
    exact (does_arm h n sz b ak nk ck m hn).mono fun r w' ⟨v', e, h'⟩ => ⟨_, v', e, h', near_arm _ _⟩
  by_cases k5 : k = 5
  · subst k5
    exact (does_fail h n sz b ak nk ck m hn).mono fun r w' ⟨v', e, h'⟩ => ⟨_, v', e, h', near_fail _ _⟩
  by_cases k6 : k = 6
  · subst k6
    exact (does_crash h n sz b ak nk ck m ks hm hks hnk kr kl hlim).mono fun r w' ⟨v', e, h'⟩ => ⟨_, v', e, h', near_crash _ _ _ _⟩
  exact (does_none h k n sz b ak nk ck m (by omega)).mono fun r w' ⟨v', e, h'⟩ => ⟨_, v', e, h', near_refl _⟩
end Go.Proofs.Ytagnmmapnpcijaa
