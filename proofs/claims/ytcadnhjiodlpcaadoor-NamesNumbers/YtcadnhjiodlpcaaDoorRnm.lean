/-
  The document's own Name; a list of texts copied.
-/
import Derived.Test.YtcadnhjiodlpcaaDoorSam
namespace Go.Proofs.YtcadnhjiodlpcaaDoor
open Go.RowKit
theorem okB_nat (c : UInt8) : okB c = (((c.toNat : Int) != 0) && ((c.toNat : Int) != 47)) := by
  have a : ∀ k : Nat, k < 256 → ((c != UInt8.ofNat k) = ((c.toNat : Int) != (k : Int))) := by
    intro k hk
    by_cases h : c = UInt8.ofNat k
    · rw [h]; simp; omega
    · have : c.toNat ≠ k := fun e => h (by rw [← e]; simp)
      have e1 : (c != UInt8.ofNat k) = true := by simpa using h
      have e2 : (((c.toNat : Int)) != (k : Int)) = true := by simpa using (by omega : ¬ (c.toNat : Int) = k)
      rw [e1, e2]
  exact congr (congrArg (· && ·) (a 0 (by omega))) (a 47 (by omega))
set_option maxRecDepth 100000 in
theorem rname_at (x : Tx) (w : World) (hl : x.length ≤ 9223372036854775807) :
    Calls Tryd.prog 18 #[.string (bs x)] w fun e w' => e = .returned (.bool (isName x)) ∧ w' = w := by
  have hx := bs_toList x
  have hsz := bs_size x
  go_enter Tryd.func18, Tryd.ntmps18
  go_wp2_with fail
  go_loop [3] (fun v => ∃ i : Nat, i ≤ x.length ∧ v = .int .i64 (i : Int) ∧ Hid ((x.take i).all okB = true)) (fun v => x.length - (iof v).toNat)
  case atStart => exact ⟨0, by omega, by simp, hid rfl⟩
  case round =>
    obtain ⟨i, hi, rfl, hrel⟩ := hrel
    by_cases hlt : i < x.length
    · have hlt' : (i : Int) < (x.length : Int) := by omega
      have hs : (i : Int) < ((bs x).size : Int) := by rw [bs_size]; omega
      have hi2 : i < (bs x).size := by rw [bs_size]; exact hlt
      have wr1 : IntKind.i64.wrap ((i : Int) + 1) = ((i + 1 : Nat) : Int) := by rw [IntKind.wrap_i64]; omega
      have HX : Hid ((x.take (i + 1)).all okB = okB (x[i]'hlt)) := by
        refine hid ?_
        rw [List.take_succ_eq_append_getElem hlt, List.all_append, hrel.out]
        simp
      have HY : Hid (okB (x[i]'hlt) = false → isName x = false) := by
        refine hid (fun e => ?_)
        have : x.all okB = false := by
          apply Bool.eq_false_iff.2
          intro h
          have := List.all_eq_true.1 h _ (List.getElem_mem hlt)
          rw [e] at this
          cases this
        simp [isName, this]
      have ho := okB_nat (x[i]'hlt)
      have hb : ∀ c : UInt8, (bs x)[i]'hi2 = c → x[i]'hlt = c := fun c h => h
      have ho2 : okB (x[i]'hlt) = (!((((bs x)[i]'hi2).toNat : Int) == 0) && !((((bs x)[i]'hi2).toNat : Int) == 47)) := ho
      have HO := hid ho2
      clear ho ho2 hb
      go_wp2_with fail
      · rename_i h _
        go_ret
        have e : okB (x[i]'hlt) = false := by rw [HO.out, h]; rfl
        exact ⟨by rw [HY.out e]; rfl, rfl⟩
      · rename_i h _
        go_ret
        have e : okB (x[i]'hlt) = false := by
          rw [HO.out]
          rcases h with h | h <;> rw [h] <;> simp
        exact ⟨by rw [HY.out e]; rfl, rfl⟩
      · rename_i h
        have e : okB (x[i]'hlt) = true := by rw [HO.out, h.1, h.2]; rfl
        exact ⟨⟨i + 1, by omega, by simp, hid (by rw [HX.out, e])⟩, by simp only [iof]; omega⟩
    · have hlt' : ¬ (i : Int) < (x.length : Int) := by omega
      have HT : Hid (x.all okB = true) := by
        have := hrel.out
        rw [List.take_of_length_le (by omega)] at this
        exact hid this
      clear hrel
      go_wp2_with fail
      · rename_i h _ _
        go_ret
        exact ⟨rfl, rfl⟩
      · rename_i h1 h2 h3 _ _
        go_ret
        have e1 : 1 ≤ x.length := by omega
        have e2 : x.length ≤ 60 := by omega
        refine ⟨?_, rfl⟩
        have : isName x = (!x == [46] && !x == [46, 46]) := by
          simp only [isName, e1, e2, HT.out, decide_true, Bool.true_and]
          rfl
        rw [this]
        rfl
      · rename_i h1 _ _ h
        go_ret
        have e2 : ¬ x.length ≤ 60 := by omega
        have : isName x = false := by simp [isName, e2]
        exact ⟨by rw [this]; rfl, rfl⟩
      · rename_i h
        go_ret
        have e2 : ¬ 1 ≤ x.length := by omega
        have : isName x = false := by simp only [isName, e2, decide_false, Bool.false_and]
        exact ⟨by rw [this]; rfl, rfl⟩
end Go.Proofs.YtcadnhjiodlpcaaDoor
