/-
  slices.Delete at rows of maps; leave.
-/
import Derived.Test.YtafiopjgegmfoaaClone
import Derived.Shelf.SlicesE.Delete
import Derived.Lib.RowBridge
namespace Go.Proofs.Ytafiopjgegmfoaa
open Go.RowKit Go.Maps Go.Shelf Go.Sort
/-- cells from o on, written over -/
def setL : Array Value → Nat → List Value → Array Value
  | cur, _, [] => cur
  | cur, o, v :: r => setL (cur.setIfInBounds o v) (o + 1) r
theorem setL_size : ∀ (vs : List Value) (cur : Array Value) (o : Nat), (setL cur o vs).size = cur.size
  | [], _, _ => rfl
  | v :: r, cur, o => by rw [setL, setL_size r]; simp
theorem setL_out : ∀ (vs : List Value) (cur : Array Value) (o j : Nat), j < o → (setL cur o vs)[j]? = cur[j]?
  | [], _, _, _, _ => rfl
  | v :: r, cur, o, j, h => by rw [setL, setL_out r _ (o + 1) j (by omega), Array.getElem?_setIfInBounds, if_neg (by omega)]
theorem setL_in : ∀ (vs : List Value) (cur : Array Value) (o j : Nat), o + vs.length ≤ cur.size → (h : j < vs.length) → (setL cur o vs)[o + j]? = some vs[j]
  | [], _, _, _, _, h => by simp at h
  | v :: r, cur, o, 0, hs, h => by
    simp only [List.length_cons] at hs
    show (setL cur o (v :: r))[o]? = _
    rw [setL, setL_out r _ (o + 1) o (by omega), Array.getElem?_setIfInBounds, if_pos rfl, if_pos (by omega)]
    rfl
  | v :: r, cur, o, j + 1, hs, h => by
    simp only [List.length_cons] at hs h
    have := setL_in r (cur.setIfInBounds o v) (o + 1) j (by simp; omega) (by omega)
    rw [setL, show o + (j + 1) = o + 1 + j by omega, this]
    rfl
theorem box_setCells {g : Nat} {t : TypeId} : ∀ (vs : List Value) (o : Nat) (w : World) (cur : Array Value), Box w g cur t → Box (w.setCells g o vs) g (setL cur o vs) t
  | [], _, _, _, h => h
  | v :: r, o, _, _, h => box_setCells r (o + 1) _ _ (h.store o v)
theorem grown_setCells {g : Nat} : ∀ (vs : List Value) (o : Nat) (w u : World), w.grownBy u (some g) → w.grownBy (u.setCells g o vs) (some g)
  | [], _, _, _, h => h
  | v :: r, o, w, _, h => grown_setCells r (o + 1) w _ (grown_trans h (grown_store _ g o v))

/-- a row whose cells are written anew, and which is cut -/
theorem row_set {w : World} {tM : TypeId} {B g cap n m q : Nat} {cur : Array Value} (hB : Box w g cur tM) (hb : B ≤ g) (hs : cur.size = cap) (hc : cap ≤ maxLen) (zs : List Value) (hz : zs.length = n) (hn : n ≤ cap) (hm : m ≤ n) :
    ((w.drewN q).setCells g 0 zs).ownsRow B tM 1 (.slice (some ⟨g, 0, none⟩) m cap) m (zs.take m) ∧ w.grownBy ((w.drewN q).setCells g 0 zs) (some g) := by
  have hB1 : Box (w.drewN q) g cur tM := hB
  have hB2 := box_setCells zs 0 _ _ hB1
  refine ⟨⟨by simp; omega, .inr ⟨g, cap, _, rfl, hb, hB2, by omega, hc, by rw [setL_size]; omega, ?_⟩⟩, grown_setCells _ 0 _ _ ⟨rfl, rfl, rfl, Nat.le_refl _, fun _ _ _ => rfl⟩⟩
  refine List.ext_getElem? fun j => ?_
  rw [Nat.mul_one, List.getElem?_take, List.getElem?_take]
  split
  · rename_i hj
    have h1 := setL_in zs cur 0 j (by omega) (by omega)
    rw [Nat.zero_add] at h1
    rw [Array.getElem?_toList, h1, List.getElem?_eq_getElem (by omega)]
  · rfl
def encO : Option Nat → Value
  | none => .map none
  | some g => mp g

theorem zeroM (u : World) : (zeroValue 30).run Try.prog u = .ok (.map none) u := Try.zeroValue30 u
end Go.Proofs.Ytafiopjgegmfoaa
