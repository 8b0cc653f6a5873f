/-
  The document's own Pick, as the law meets it.
-/
import Derived.Test.YtjhhncbadkpbaaaRefPick
import Derived.Test.YtjhhncbadkpbaaaRefSame3
namespace Go.Proofs.Ytjhhncbadkpbaaa
open Go.RowKit
theorem rpick_to {w : World} {B g : Nat} {V : RV} {R : RS} {P : List PV} (h : RB w B g V R P) (p i : Nat) (hp : p < 18446744073709551616) (h0 : 0 < R.Ln.length) (hN : R.Ln.length < 1000) (hk : R.Ln[p % R.Ln.length]? = some (i + 1)) (hi : i < R.St.length) (hSp : R.Sp.length = R.St.length) (hP : P.length = R.St.length) (hSl : R.St.length < 1000) (hTd : R.Td.length < 1000000) (k : PV) (hkP : P[i]? = some k) (n : Nat) (hn : R.Sp[i]? = some n) (hnb : n < 100000) :
    Calls Try.prog 16 #[ptr g, .int .u64 (p : Int)] w fun r w' => r = .returned (.tuple #[.int .i64 ((i + 1 : Nat) : Int), .int .i64 ((((R.begun p i n).did (doAt k.xs n)).finSt (doAt k.xs n).tell : Nat) : Int), .bool true]) ∧ RTo w B g V (((R.begun p i n).did (doAt k.xs n)).fin i (doAt k.xs n).tell) P w' := by
  obtain ⟨_, ek⟩ := List.getElem?_eq_some_iff.1 hkP
  obtain ⟨_, en⟩ := List.getElem?_eq_some_iff.1 hn
  exact rpick_at h p i hp h0 hN hk hi hSp hP hSl hTd (doAt k.xs n) (by rw [ek, en]) (by rw [en]; exact hnb) ((R.begun p i n).did (doAt k.xs n)) n hn rfl (fun w' hw' => ⟨rfl, hw'⟩)
end Go.Proofs.Ytjhhncbadkpbaaa
