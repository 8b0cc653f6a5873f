/-
  The fixed numbers of the chapter, as plain facts.
-/
import Derived.Test.YtmhplpiglbamcaaMany
namespace Go.Proofs.Ytmhplpiglbamcaa
open Go.RowKit

def supA : List UInt8 := superB 64 1 1 0
theorem supA_put : putSuper 64 1 1 0 = some supA := rfl
theorem supA_length : supA.length = 4096 := superB_length _ _ _ _
theorem supA_lead (j : Nat) (hj : j < 40) : supA[j]? = (lead [64, 1, 1, 0])[j]? := by
  unfold supA superB headS
  rw [List.append_assoc, List.getElem?_append_left (by rw [lead_length]; simpa using hj)]
theorem supA_num : num supA 40 4 = crc 0 (supA.take 40) := by
  have e : supA = lead [64, 1, 1, 0] ++ (toBE 4 (crc 0 (lead [64, 1, 1, 0])) ++ noughts 4052) := by unfold supA superB headS; rw [List.append_assoc]
  have t : supA.take 40 = lead [64, 1, 1, 0] := by rw [e]; exact List.take_left' (lead_length _)
  rw [t, e]
  exact num_put _ _ 4 _ _ (by rw [lead_length]; rfl) (by have := crc_lt 0 (lead [64, 1, 1, 0]); omega)
theorem supA_take8 : supA.take 8 = [76, 69, 68, 71, 69, 82, 48, 49] := by
  unfold supA superB headS lead
  simp only [List.append_assoc]
  rfl

theorem sup_none : putSuper 63 1 1 0 = none ∧ putSuper 513 1 1 0 = none ∧ putSuper 64 0 1 0 = none ∧ putSuper 64 8388609 1 0 = none ∧ putSuper 64 1 0 0 = none ∧ putSuper 64 1 549755813889 0 = none ∧ putSuper 64 1 1 512 = none ∧ putSuper 64 1 1 (-1) = none := ⟨rfl, rfl, rfl, rfl, rfl, rfl, rfl, rfl⟩
theorem ino_none : putInode 0 0 1 [] 0 = none ∧ putInode 0 1 0 [] 0 = none ∧ putInode 0 0 0 [] 1 = none ∧ putInode 0 0 0 (manyE 1) 0 = none ∧ putInode 3 0 0 [] 0 = none ∧ putInode 1 101 0 [] 0 = none ∧ putInode 1 (-1) 0 [] 0 = none ∧ putInode 1 0 131073 [] 0 = none ∧ putInode 1 0 0 [] 512 = none ∧ putInode 1 0 0 (manyE 4) 0 = none := ⟨rfl, rfl, rfl, rfl, rfl, rfl, rfl, rfl, rfl, rfl⟩

theorem supMax : ∃ T, putSuper 512 8388608 549755813888 511 = some T ∧ T.length = 4096 := ⟨_, rfl, superB_length _ _ _ _⟩
theorem inoZero : putInode 0 0 0 [] 0 = some (noughts 64) := rfl
theorem getInode_63 : getInode (noughts 63) = none := by
  unfold getInode
  rw [noughts_length, if_pos (by omega)]
theorem getSuper_noughts : getSuper (noughts 4096) = none := by
  cases h : getSuper (noughts 4096) with
  | none => rfl
  | some s =>
    obtain ⟨_, h2⟩ := getSuper_some h
    have h3 := congrArg (fun l => l[0]?) h2
    have h4 : (superB s.b.toNat s.e.toNat s.q.toNat s.t.toNat)[0]? = some 76 := by
      unfold superB headS lead
      simp only [List.append_assoc]
      rfl
    simp only [h4] at h3
    have h5 : (noughts 4096)[0]? = some 0 := by unfold noughts; rw [List.getElem?_replicate]; simp
    rw [h5] at h3
    simp at h3
theorem node_none : putNode [] = some (nodeB []) := rfl
theorem node_none_length : (nodeB []).length = 4096 := nodeB_length _ (by decide)
theorem node_none_1 : (nodeB [])[1]? = some 0 := by
  unfold nodeB
  rw [List.append_assoc]
  rfl

theorem many_right : rightFrom 0 (manyE 250) = true := by decide +kernel
theorem many_right256 : rightFrom 0 (manyE 256) = true := by decide +kernel
def nodeA : List UInt8 := nodeB (manyE 250)
theorem nodeA_put : putNode (manyE 250) = some nodeA := by
  unfold putNode
  rw [manyE_length, many_right]
  rfl
theorem nodeA_length : nodeA.length = 4096 := nodeB_length _ (by rw [manyE_length]; omega)
theorem nodeA_get : getNode nodeA = some (manyE 250) := getNode_put _ (by rw [manyE_length]; omega) many_right
theorem nodeA_251 : putNode (manyE 251) = none := by
  unfold putNode
  rw [manyE_length, decide_eq_false (by omega)]
  rfl
theorem nodeA_short : getNode (nodeA.take 4095) = none := by
  unfold getNode
  have : ¬ (nodeA.take 4095).length = 4096 := by rw [List.length_take, nodeA_length]; omega
  rw [decide_eq_false this]
  rfl
theorem nodeA_num : num nodeA 4 4 = crc 0 (nodeA.drop 8) := by
  unfold nodeA
  rw [nodeB_drop]
  unfold nodeB
  exact num_put _ _ 4 _ _ (by rw [List.length_append, toBE_length, noughts_length]; rfl) (by have := crc_lt 0 (bodyN (manyE 250)); omega)
theorem rights : rightFrom 0 [⟨0, 30, 2⟩, ⟨2, 40, 1⟩] = true ∧ rightFrom 0 [⟨0, 30, 2⟩, ⟨1, 40, 1⟩] = false ∧ rightFrom 0 [⟨0, 1, 511⟩] = true ∧ rightFrom 0 [⟨0, 1, 512⟩] = false ∧ rightFrom 0 [⟨0, 0, 1⟩] = false ∧ rightFrom 0 [⟨512, 1, 1⟩] = false ∧ rightFrom 0 [⟨9223372036854775807, 1, 9223372036854775807⟩] = false := ⟨rfl, rfl, rfl, rfl, rfl, rfl, rfl⟩
end Go.Proofs.Ytmhplpiglbamcaa
