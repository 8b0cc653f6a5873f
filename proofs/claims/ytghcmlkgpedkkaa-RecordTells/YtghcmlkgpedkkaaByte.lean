/-
  A byte of one of many blocks is written.
-/
import Derived.Test.YtghcmlkgpedkkaaCopyL
namespace Go.Proofs.Ytghcmlkgpedkkaa
open Go.RowKit

/-- block i with byte j anew -/
def byteP (ps : List GG) (i j : Nat) (v : UInt8) : List GG := ps.modify i fun p => { p with xs := p.xs.set j v }
theorem byteP_h (ps : List GG) (i j : Nat) (v : UInt8) : (byteP ps i j v).map GG.h = ps.map GG.h := by
  unfold byteP
  refine List.ext_getElem? (fun k => ?_)
  simp only [List.getElem?_map, List.getElem?_modify]
  cases ps[k]? with
  | none => simp
  | some p => by_cases e : i = k <;> simp [e]
theorem byteP_c (ps : List GG) (i j : Nat) (v : UInt8) : lstC (byteP ps i j v) = lstC ps := by
  unfold byteP lstC
  refine List.ext_getElem? (fun k => ?_)
  simp only [List.getElem?_map, List.getElem?_modify]
  cases ps[k]? with
  | none => simp
  | some p => by_cases e : i = k <;> simp [e]
theorem byteP_x (ps : List GG) (i j : Nat) (v : UInt8) : (byteP ps i j v).map GG.xs = (ps.map GG.xs).modify i fun x => x.set j v := by
  unfold byteP
  refine List.ext_getElem? (fun k => ?_)
  simp only [List.getElem?_map, List.getElem?_modify]
  cases ps[k]? with
  | none => simp
  | some p => by_cases e : i = k <;> simp [e]
theorem RowB.byte {w : World} {g c : Nat} {ys : List UInt8} (h : RowB w g c ys) (j : Nat) (_hj : j < ys.length) (v : UInt8) : RowB (w.setCell ⟨g, j, none⟩ (.int .u8 (v.toNat : Int))) g c (ys.set j v) := by
  obtain ⟨cur, hb, h1, h2, h3, h4⟩ := h
  refine ⟨_, hb.store j _, by simpa using h1, h2, by simpa using h3, ?_⟩
  have e : bcs (ys.set j v) = (bcs ys).set j (.int .u8 (v.toNat : Int)) := by
    unfold bcs
    rw [List.map_set]
    rfl
  rw [Array.toList_setIfInBounds, List.length_set, e, ← h4, List.take_set]
theorem GetJ.byte {B : Nat} {W : World} {ps : List GG} (h : GetJ B W ps) (i : Nat) (hi : i < ps.length) (j : Nat) (hj : j < 4096) (v : UInt8) : GetJ B (W.setCell ⟨(ps[i]).h, j, none⟩ (.int .u8 (v.toNat : Int))) (byteP ps i j v) := by
  have hnd := h.apart
  refine ⟨fun p hp => ?_, by rw [byteP_h]; exact hnd⟩
  obtain ⟨k, hk, rfl⟩ := List.getElem_of_mem hp
  have hk' : k < ps.length := by simpa [byteP] using hk
  obtain ⟨a1, a2, a3⟩ := h.rows ps[k] (List.getElem_mem hk')
  by_cases e : i = k
  · subst e
    have : (byteP ps i j v)[i] = { ps[i] with xs := (ps[i]).xs.set j v } := by simp [byteP]
    rw [this]
    exact ⟨a1.byte j (by omega) v, a2, by simpa using a3⟩
  · have : (byteP ps i j v)[k] = ps[k] := by simp [byteP, e]
    rw [this]
    refine ⟨a1.same (heap_setCell_other W ⟨(ps[i]).h, j, none⟩ (ps[k]).h _ (fun q => ?_)), a2, a3⟩
    have h1 : (ps.map GG.h)[k]'(by simpa using hk') = (ps.map GG.h)[i]'(by simpa using hi) := by simpa using q
    exact e ((List.getElem_inj hnd).1 h1).symm
end Go.Proofs.Ytghcmlkgpedkkaa
