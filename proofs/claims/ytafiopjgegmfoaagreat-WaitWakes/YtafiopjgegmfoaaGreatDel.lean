/-
  slices.Delete at rows of maps; leave.
-/
import Derived.Test.YtafiopjgegmfoaaGreatClone
import Derived.Shelf.SlicesE.Delete
import Derived.Lib.RowBridge
namespace Go.Proofs.YtafiopjgegmfoaaGreat
open Go.RowKit Go.Maps Go.Shelf Go.Sort
/-- cells from o on, written over -/
def setL : Array Value → Nat → List Value → Array Value
  | cur, _, [] => cur
  | cur, o, v :: r => setL (cur.setIfInBounds o v) (o + 1) r
theorem setL_size : ∀ (vs : List Value) (cur : Array Value) (o : Nat), (setL cur o vs).size = cur.size
  | [], _, _ => rfl
  | v :: r, cur, o => by rw [setL, setL_size r]; simp
theorem setL_out : ∀ (vs : List Value) (cur : Array Value) (o j : Nat), j < o → (setL cur o vs)[j]? = cur[j]?
  | [], _, _, _, _ => rfl
  | v :: r, cur, o, j, h => by rw [setL, setL_out r _ (o + 1) j (by omega), Array.getElem?_setIfInBounds, if_neg (by omega)]
theorem setL_in : ∀ (vs : List Value) (cur : Array Value) (o j : Nat), o + vs.length ≤ cur.size → (h : j < vs.length) → (setL cur o vs)[o + j]? = some vs[j]
  | [], _, _, _, _, h => by simp at h
  | v :: r, cur, o, 0, hs, h => by
    simp only [List.length_cons] at hs
    show (setL cur o (v :: r))[o]? = _
    rw [setL, setL_out r _ (o + 1) o (by omega), Array.getElem?_setIfInBounds, if_pos rfl, if_pos (by omega)]
    rfl
  | v :: r, cur, o, j + 1, hs, h => by
    simp only [List.length_cons] at hs h
    have := setL_in r (cur.setIfInBounds o v) (o + 1) j (by simp; omega) (by omega)
    rw [setL, show o + (j + 1) = o + 1 + j by omega, this]
    rfl
theorem box_setCells {g : Nat} {t : TypeId} : ∀ (vs : List Value) (o : Nat) (w : World) (cur : Array Value), Box w g cur t → Box (w.setCells g o vs) g (setL cur o vs) t
  | [], _, _, _, h => h
  | v :: r, o, _, _, h => box_setCells r (o + 1) _ _ (h.store o v)
theorem grown_setCells {g : Nat} : ∀ (vs : List Value) (o : Nat) (w u : World), w.grownBy u (some g) → w.grownBy (u.setCells g o vs) (some g)
  | [], _, _, _, h => h
  | v :: r, o, w, _, h => grown_setCells r (o + 1) w _ (grown_trans h (grown_store _ g o v))

/-- a row whose cells are written anew, and which is cut -/
theorem row_set {w : World} {tM : TypeId} {B g cap n m q : Nat} {cur : Array Value} (hB : Box w g cur tM) (hb : B ≤ g) (hs : cur.size = cap) (hc : cap ≤ maxLen) (zs : List Value) (hz : zs.length = n) (hn : n ≤ cap) (hm : m ≤ n) :
    ((w.drewN q).setCells g 0 zs).ownsRow B tM 1 (.slice (some ⟨g, 0, none⟩) m cap) m (zs.take m) ∧ w.grownBy ((w.drewN q).setCells g 0 zs) (some g) := by
  have hB1 : Box (w.drewN q) g cur tM := hB
  have hB2 := box_setCells zs 0 _ _ hB1
  refine ⟨⟨by simp; omega, .inr ⟨g, cap, _, rfl, hb, hB2, by omega, hc, by rw [setL_size]; omega, ?_⟩⟩, grown_setCells _ 0 _ _ ⟨rfl, rfl, rfl, Nat.le_refl _, fun _ _ _ => rfl⟩⟩
  refine List.ext_getElem? fun j => ?_
  rw [Nat.mul_one, List.getElem?_take, List.getElem?_take]
  split
  · rename_i hj
    have h1 := setL_in zs cur 0 j (by omega) (by omega)
    rw [Nat.zero_add] at h1
    rw [Array.getElem?_toList, h1, List.getElem?_eq_getElem (by omega)]
  · rfl
def encO : Option Nat → Value
  | none => .map none
  | some g => mp g

def dlRen : Go.Shelf.Ren := ⟨fun | 45 => 114 | n => n, fun | 22 => 86 | 23 => 85 | n => n, fun n => n⟩
theorem dlLay : Go.Proofs.SlLaysE.n45 Tryz.prog dlRen :=
  { mixed := by kernel_rfl
    f45 := ⟨Tryz.f114.name, by decide, Tryz.func114.trans (congrArg some (by kernel_rfl))⟩
    t0 := by kernel_rfl
    a0 := Tryz.isAgg0
    z0 := Tryz.sizeOf0
    v0 := Tryz.zeroValue0
    t3 := by kernel_rfl
    a3 := Tryz.isAgg3
    z3 := Tryz.sizeOf3
    v3 := Tryz.zeroValue3
    t4 := by kernel_rfl
    a4 := Tryz.isAgg4
    z4 := Tryz.sizeOf4
    v4 := Tryz.zeroValue4
    t22 := by kernel_rfl
    a22 := Tryz.isAgg86
    z22 := Tryz.sizeOf86
    v22 := Tryz.zeroValue86
    a23 := Tryz.isAgg85
    z23 := Tryz.sizeOf85 }
theorem zeroM (u : World) : (zeroValue 85).run Tryz.prog u = .ok (.map none) u := Tryz.zeroValue85 u
theorem delete_at {w : World} {B : Nat} {v : Value} {X : List Nat} (h : w.ownsRow B 85 1 v X.length (X.map mp)) (k : Nat) (hk : k < X.length) :
    Calls Tryz.prog 114 #[v, .int .i64 (k : Int), .int .i64 ((k + 1 : Nat) : Int)] w fun r w' => ∃ v', r = .returned v' ∧ w'.ownsRow B 85 1 v' (X.eraseIdx k).length ((X.eraseIdx k).map mp) ∧ v'.ownBlock = v.ownBlock ∧ w.grownBy w' v.ownBlock := by
  rcases h.2 with ⟨_, e0⟩ | ⟨g, cap, cur, rfl, hb, hg, hnc, hcm, hcs, ht⟩
  · omega
  have hB : Box w g cur 85 := hg
  rw [Nat.mul_one] at hcs ht
  obtain ⟨d, hd⟩ : ∃ d : Array (Option Nat), d = (X.map some).toArray := ⟨_, rfl⟩
  have hds : d.size = X.length := by rw [hd]; simp
  have hdl : d.toList = X.map some := by rw [hd]
  have hH : Holds encO w g 0 d := fun j hj => by
    refine ⟨?_, hB.frozen _⟩
    rw [Nat.zero_add, hB.cell j]
    have e : cur[j]? = (X.map mp)[j]? := by
      rw [← ht, List.getElem?_take, if_pos (by omega)]
      simp
    rw [e, getElem!_pos d j hj]
    have hj' : j < X.length := by omega
    simp [hd, hj', encO, mp]
  obtain ⟨i0, hi0, hz0, hz1, hz2⟩ := info_parts infoM
  have c := AnyE.slices_Delete dlLay encO (fun x => by cases x <;> rfl) none zeroM i0 hi0 hz1 g 0 cap k (k + 1) d w hH (by omega) (by unfold maxLen at hcm; omega) (by omega) (by omega)
  have e1 : d.toList.take k ++ d.toList.drop (k + 1) ++ List.replicate (k + 1 - k) none = ((X.eraseIdx k).map some) ++ [none] := by
    rw [hdl, List.eraseIdx_eq_take_drop_succ, List.map_append, List.map_take, List.map_drop, show k + 1 - k = 1 by omega]
    rfl
  have hle : (X.eraseIdx k).length = X.length - 1 := List.length_eraseIdx_of_lt hk
  rw [e1] at c
  have c' : Calls Tryz.prog 114 #[.slice (some ⟨g, 0, none⟩) X.length cap, .int .i64 (k : Int), .int .i64 ((k + 1 : Nat) : Int)] w fun e w' => e = .returned (.slice (some ⟨g, 0, none⟩) (d.size - (k + 1 - k)) cap) ∧ ∃ q, w' = putRow encO (Sort.ahead w q) g 0 ((X.eraseIdx k).map some ++ [none]).toArray := by
    rw [← hds]
    exact c
  refine c'.mono ?_
  rintro r w' ⟨rfl, q, rfl⟩
  rw [Lib.putRow_eq_setCells encO w g 0 d _ q hH (by simp; omega)]
  have key := row_set (m := X.length - 1) (q := q) hB hb hcs hcm (((X.eraseIdx k).map some ++ [none]).map encO) (n := X.length) (by simp; omega) hnc (by omega)
  have e2 : (((X.eraseIdx k).map some ++ [none]).map encO).take (X.length - 1) = (X.eraseIdx k).map mp := by
    rw [List.map_append, List.map_map, List.take_left' (by simp; omega)]
    rfl
  rw [e2] at key
  refine ⟨_, rfl, ?_, rfl, key.2⟩
  rw [hle, hds, show X.length - (k + 1 - k) = X.length - 1 by omega]
  exact key.1

end Go.Proofs.YtafiopjgegmfoaaGreat
