/-
  Entries compared; the order of keys; right lists.
-/
import Derived.Test.YtlbjalodjcajfaaGreatBeg
import Derived.Laws.StructEq
import Derived.Sort.Walk0
namespace Go.Proofs.YtlbjalodjcajfaaGreat
open Go.RowKit Go.Maps
theorem toList_inj {a b : ByteArray} (h : a.toList = b.toList) : a = b := by
  rw [Lib.toList_data, Lib.toList_data] at h
  exact ByteArray.ext (Array.toList_inj.1 h)
theorem toList_beq (a b : ByteArray) : (a.toList == b.toList) = decide (a = b) := by
  by_cases h : a = b
  · subst h; simp
  · rw [decide_eq_false h]
    have : a.toList ≠ b.toList := fun e => h (toList_inj e)
    simpa using this
def blt (a b : ByteArray) : Bool := Op.bytesLess a.toList b.toList
theorem bl_irrefl : ∀ l : List UInt8, Op.bytesLess l l = false
  | [] => rfl
  | a :: l => by simp [Op.bytesLess, bl_irrefl l]
theorem bl_trans : ∀ a b c : List UInt8, Op.bytesLess a b = true → Op.bytesLess b c = true → Op.bytesLess a c = true
  | _, [], _, h, _ => by cases ‹List UInt8› <;> simp [Op.bytesLess] at h
  | _, _ :: _, [], _, h => by simp [Op.bytesLess] at h
  | [], _ :: _, _ :: _, _, _ => rfl
  | a :: x, b :: y, c :: z, h1, h2 => by
    have ih := bl_trans x y z
    simp only [Op.bytesLess, Bool.or_eq_true, Bool.and_eq_true, decide_eq_true_eq, beq_iff_eq] at h1 h2 ⊢
    rcases h1 with h1 | ⟨rfl, h1⟩
    · rcases h2 with h2 | ⟨rfl, h2⟩
      · exact .inl (UInt8.lt_trans h1 h2)
      · exact .inl h1
    · rcases h2 with h2 | ⟨rfl, h2⟩
      · exact .inl h2
      · exact .inr ⟨rfl, ih h1 h2⟩
theorem bl_tri : ∀ a b : List UInt8, Op.bytesLess a b = false → Op.bytesLess b a = false → a = b
  | [], [], _, _ => rfl
  | [], _ :: _, h, _ => by simp [Op.bytesLess] at h
  | _ :: _, [], _, h => by simp [Op.bytesLess] at h
  | a :: x, b :: y, h1, h2 => by
    have ih := bl_tri x y
    simp only [Op.bytesLess, Bool.or_eq_false_iff, Bool.and_eq_false_iff, decide_eq_false_iff_not, beq_eq_false_iff_ne] at h1 h2
    have hab : a = b := UInt8.le_antisymm (UInt8.not_lt.1 h2.1) (UInt8.not_lt.1 h1.1)
    subst hab
    rw [ih (by rcases h1.2 with h | h; exact absurd rfl h; exact h) (by rcases h2.2 with h | h; exact absurd rfl h; exact h)]
theorem blt_irrefl (a : ByteArray) : blt a a = false := bl_irrefl _
theorem blt_trans {a b c : ByteArray} (h : blt a b = true) (k : blt b c = true) : blt a c = true := bl_trans _ _ _ h k
theorem blt_tri {a b : ByteArray} (h : blt a b = false) (k : blt b a = false) : a = b := toList_inj (bl_tri _ _ h k)
theorem blt_asymm {a b : ByteArray} (h : blt a b = true) : blt b a = false := by
  cases k : blt b a with
  | false => rfl
  | true => have := blt_trans h k; rw [blt_irrefl] at this; cases this
theorem fields27 : Tryz.prog.underlying 28 = some (.struct (Tryz.prog.fieldsOf 28)) := by kernel_rfl
theorem held27 : Tryz.prog.stoodInHeld 28 = false := by kernel_rfl
theorem guard27 : Tryz.prog.eqGuardType Tryz.prog.depth 28 = false := by kernel_rfl
theorem eqv27 (u : World) (e f : En) : (Op.equalIn 10000 28 (ag e) (ag f)).run Tryz.prog u = .ok (decide (e = f)) u := by
  unfold ag
  rw [run_equalIn_agg u 9999 28 _ _ fields27 held27]
  simp only [Program.fieldsOf, Tryz.underlying28]
  obtain ⟨eu, ek, ev⟩ := e
  obtain ⟨fu, fk, fv⟩ := f
  by_cases e1 : eu = fu
  · by_cases e2 : ek = fk
    · by_cases e3 : ev = fv
      · subst e1 e2 e3
        simp [go_sem, Op.eqFields]
      · simp [go_sem, Op.eqFields, e1, e2, e3]
        exact fun h => e3 (toList_inj h)
    · simp [go_sem, Op.eqFields, e1, e2]
      exact fun h => absurd (toList_inj h) e2
  · simp [go_sem, Op.eqFields, e1]
theorem neq27 (u : World) (e f : En) : (binOp .neq 28 (ag e) (ag f)).run Tryz.prog u = .ok (.bool (!decide (e = f))) u := by
  have := eqv27 u e f
  unfold ag at *
  rw [run_neq_struct, this]
  rfl
theorem eql27 (u : World) (e f : En) : (binOp .eql 28 (ag e) (ag f)).run Tryz.prog u = .ok (.bool (decide (e = f))) u := by
  have := eqv27 u e f
  unfold ag at *
  rw [run_eql_struct, this]
  rfl
theorem guardN27 (op : BinOp) (u : World) (x y : Operand) (xs ys : Array Value) : (eqGuard op 28 x y (.agg xs) (.agg ys)).run Tryz.prog u = .ok () u := run_eqGuard_agg u op 28 x y xs ys guard27
end Go.Proofs.YtlbjalodjcajfaaGreat
