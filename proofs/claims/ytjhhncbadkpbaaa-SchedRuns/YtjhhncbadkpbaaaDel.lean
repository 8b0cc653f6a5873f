/-
  slices.Delete and slices.DeleteFunc at rows of pointers: the library's own contracts, at this program's numbers.
-/
import Derived.Test.YtjhhncbadkpbaaaReady
import Derived.Shelf.SlicesE.Delete
import Derived.Shelf.SlicesE.DeleteFunc
import Derived.Lib.RowBridge
namespace Go.Proofs.Ytjhhncbadkpbaaa
open Go.RowKit Go.Sort Go.Shelf

def dlRen : Go.Shelf.Ren := ⟨fun | 45 => 31 | n => n, fun | 22 => 60 | 23 => 61 | n => n, fun n => n⟩
theorem dlLay : Go.Proofs.SlLaysE.n45 Try.prog dlRen :=
  { mixed := by kernel_rfl
    f45 := ⟨Try.f31.name, by decide, Try.func31.trans (congrArg some (by kernel_rfl))⟩
    t0 := by kernel_rfl
    a0 := Try.isAgg0
    z0 := Try.sizeOf0
    v0 := Try.zeroValue0
    t3 := by kernel_rfl
    a3 := Try.isAgg3
    z3 := Try.sizeOf3
    v3 := Try.zeroValue3
    t4 := by kernel_rfl
    a4 := Try.isAgg4
    z4 := Try.sizeOf4
    v4 := Try.zeroValue4
    t22 := by kernel_rfl
    a22 := Try.isAgg60
    z22 := Try.sizeOf60
    v22 := Try.zeroValue60
    a23 := Try.isAgg61
    z23 := Try.sizeOf61 }
def dfRen : Go.Shelf.Ren := ⟨fun | 6 => 35 | 10 => 33 | n => n, fun | 22 => 60 | 23 => 61 | 25 => 74 | n => n, fun n => n⟩
theorem dfLay : Go.Proofs.SlLaysH.n10 Try.prog dfRen :=
  { mixed := by kernel_rfl
    f6 := ⟨Try.f35.name, by decide, Try.func35.trans (congrArg some (by kernel_rfl))⟩
    f10 := ⟨Try.f33.name, by decide, Try.func33.trans (congrArg some (by kernel_rfl))⟩
    t0 := by kernel_rfl
    a0 := Try.isAgg0
    z0 := Try.sizeOf0
    v0 := Try.zeroValue0
    t3 := by kernel_rfl
    a3 := Try.isAgg3
    z3 := Try.sizeOf3
    v3 := Try.zeroValue3
    t4 := by kernel_rfl
    a4 := Try.isAgg4
    z4 := Try.sizeOf4
    v4 := Try.zeroValue4
    t22 := by kernel_rfl
    a22 := Try.isAgg60
    z22 := Try.sizeOf60
    v22 := Try.zeroValue60
    a23 := Try.isAgg61
    z23 := Try.sizeOf61
    t25 := by kernel_rfl
    a25 := Try.isAgg74
    z25 := Try.sizeOf74
    v25 := Try.zeroValue74 }

/-- cells from o on, written over -/
def setL : Array Value → Nat → List Value → Array Value
  | cur, _, [] => cur
  | cur, o, v :: r => setL (cur.setIfInBounds o v) (o + 1) r
theorem setL_size : ∀ (vs : List Value) (cur : Array Value) (o : Nat), (setL cur o vs).size = cur.size
  | [], _, _ => rfl
  | v :: r, cur, o => by rw [setL, setL_size r]; simp
theorem setL_out : ∀ (vs : List Value) (cur : Array Value) (o j : Nat), j < o → (setL cur o vs)[j]? = cur[j]?
  | [], _, _, _, _ => rfl
  | v :: r, cur, o, j, h => by rw [setL, setL_out r _ (o + 1) j (by omega), Array.getElem?_setIfInBounds, if_neg (by omega)]
theorem setL_in : ∀ (vs : List Value) (cur : Array Value) (o j : Nat), o + vs.length ≤ cur.size → (h : j < vs.length) → (setL cur o vs)[o + j]? = some vs[j]
  | [], _, _, _, _, h => by simp at h
  | v :: r, cur, o, 0, hs, h => by
    simp only [List.length_cons] at hs
    show (setL cur o (v :: r))[o]? = _
    rw [setL, setL_out r _ (o + 1) o (by omega), Array.getElem?_setIfInBounds, if_pos rfl, if_pos (by omega)]
    rfl
  | v :: r, cur, o, j + 1, hs, h => by
    simp only [List.length_cons] at hs h
    have := setL_in r (cur.setIfInBounds o v) (o + 1) j (by simp; omega) (by omega)
    rw [setL, show o + (j + 1) = o + 1 + j by omega, this]
    rfl
theorem box_setCells {g : Nat} {t : TypeId} : ∀ (vs : List Value) (o : Nat) (w : World) (cur : Array Value), Box w g cur t → Box (w.setCells g o vs) g (setL cur o vs) t
  | [], _, _, _, h => h
  | v :: r, o, _, _, h => box_setCells r (o + 1) _ _ (h.store o v)
theorem grown_setCells {g : Nat} : ∀ (vs : List Value) (o : Nat) (w u : World), w.grownBy u (some g) → w.grownBy (u.setCells g o vs) (some g)
  | [], _, _, _, h => h
  | v :: r, o, w, _, h => grown_setCells r (o + 1) w _ (grown_trans h (grown_store _ g o v))
/-- a row whose cells are written anew, and which is cut -/
theorem row_set {w : World} {B g cap n m q : Nat} {cur : Array Value} (hB : Box w g cur 61) (hb : B ≤ g) (hs : cur.size = cap) (hc : cap ≤ maxLen) (zs : List Value) (hz : zs.length = n) (hn : n ≤ cap) (hm : m ≤ n) :
    ((w.drewN q).setCells g 0 zs).ownsRow B 61 1 (.slice (some ⟨g, 0, none⟩) m cap) m (zs.take m) ∧ w.grownBy ((w.drewN q).setCells g 0 zs) (some g) := by
  have hB1 : Box (w.drewN q) g cur 61 := hB
  have hB2 := box_setCells zs 0 _ _ hB1
  refine ⟨⟨by simp; omega, .inr ⟨g, cap, _, rfl, hb, hB2, by omega, hc, by rw [setL_size]; omega, ?_⟩⟩, grown_setCells _ 0 _ _ ⟨rfl, rfl, rfl, Nat.le_refl _, fun _ _ _ => rfl⟩⟩
  refine List.ext_getElem? fun j => ?_
  rw [Nat.mul_one, List.getElem?_take, List.getElem?_take]
  split
  · rename_i hj
    have h1 := setL_in zs cur 0 j (by omega) (by omega)
    rw [Nat.zero_add] at h1
    rw [Array.getElem?_toList, h1, List.getElem?_eq_getElem (by omega)]
  · rfl

def encO : Option Nat → Value
  | none => .pointer none
  | some g => ptr g
theorem zeroP (u : World) : (zeroValue 61).run Try.prog u = .ok (.pointer none) u := Try.zeroValue61 u
theorem delete_at {w : World} {B : Nat} {v : Value} {X : List Nat} (h : w.ownsRow B 61 1 v X.length (X.map ptr)) (k : Nat) (hk : k < X.length) :
    Calls Try.prog 31 #[v, .int .i64 (k : Int), .int .i64 ((k + 1 : Nat) : Int)] w fun r w' => ∃ v', r = .returned v' ∧ w'.ownsRow B 61 1 v' (X.eraseIdx k).length ((X.eraseIdx k).map ptr) ∧ v'.ownBlock = v.ownBlock ∧ w.grownBy w' v.ownBlock := by
  rcases h.2 with ⟨_, e0⟩ | ⟨g, cap, cur, rfl, hb, hg, hnc, hcm, hcs, ht⟩
  · omega
  have hB : Box w g cur 61 := hg
  rw [Nat.mul_one] at hcs ht
  obtain ⟨d, hd⟩ : ∃ d : Array (Option Nat), d = (X.map some).toArray := ⟨_, rfl⟩
  have hds : d.size = X.length := by rw [hd]; simp
  have hdl : d.toList = X.map some := by rw [hd]
  have hH : Holds encO w g 0 d := fun j hj => by
    refine ⟨?_, hB.frozen _⟩
    rw [Nat.zero_add, hB.cell j]
    have e : cur[j]? = (X.map ptr)[j]? := by
      rw [← ht, List.getElem?_take, if_pos (by omega)]
      simp
    rw [e, getElem!_pos d j hj]
    have hj' : j < X.length := by omega
    simp [hd, hj', encO]
  obtain ⟨i0, hi0, hz0, hz1, hz2⟩ := info_parts infoP
  have c := AnyE.slices_Delete dlLay encO (fun x => by cases x <;> rfl) none zeroP i0 hi0 hz1 g 0 cap k (k + 1) d w hH (by omega) (by unfold maxLen at hcm; omega) (by omega) (by omega)
  have e1 : d.toList.take k ++ d.toList.drop (k + 1) ++ List.replicate (k + 1 - k) none = ((X.eraseIdx k).map some) ++ [none] := by
    rw [hdl, List.eraseIdx_eq_take_drop_succ, List.map_append, List.map_take, List.map_drop, show k + 1 - k = 1 by omega]
    rfl
  have hle : (X.eraseIdx k).length = X.length - 1 := List.length_eraseIdx_of_lt hk
  rw [e1] at c
  have c' : Calls Try.prog 31 #[.slice (some ⟨g, 0, none⟩) X.length cap, .int .i64 (k : Int), .int .i64 ((k + 1 : Nat) : Int)] w fun e w' => e = .returned (.slice (some ⟨g, 0, none⟩) (d.size - (k + 1 - k)) cap) ∧ ∃ q, w' = putRow encO (Sort.ahead w q) g 0 ((X.eraseIdx k).map some ++ [none]).toArray := by
    rw [← hds]
    exact c
  refine c'.mono ?_
  rintro r w' ⟨rfl, q, rfl⟩
  rw [Lib.putRow_eq_setCells encO w g 0 d _ q hH (by simp; omega)]
  have key := row_set (m := X.length - 1) (q := q) hB hb hcs hcm (((X.eraseIdx k).map some ++ [none]).map encO) (n := X.length) (by simp; omega) hnc (by omega)
  have e2 : (((X.eraseIdx k).map some ++ [none]).map encO).take (X.length - 1) = (X.eraseIdx k).map ptr := by
    rw [List.map_append, List.map_map, List.take_left' (by simp; omega)]
    rfl
  rw [e2] at key
  refine ⟨_, rfl, ?_, rfl, key.2⟩
  rw [hle, hds, show X.length - (k + 1 - k) = X.length - 1 by omega]
  exact key.1

def encA {A : List Nat} : Option {x // x ∈ A} → Value
  | none => .pointer none
  | some g => ptr g.1
instance instA {A : List Nat} : Inhabited (Option {x // x ∈ A}) := ⟨none⟩
def isG {A : List Nat} (g : Nat) : Option {x // x ∈ A} → Bool
  | none => false
  | some x => x.1 == g
/-- the closure: whether it is that entry -/
theorem isIt {A : List Nat} (g b : Nat) (u : World) (hb : u.cell? ⟨b, 0, none⟩ = some (ptr g)) (hA : ∀ x ∈ A, ∃ cs, Box u x cs 70) (hg : ∃ cs, Box u g cs 70) (x : Option {x // x ∈ A}) :
    FnGives Try.prog 34 #[ptr b] #[encA x] (.bool (isG g x)) u := by
  show Calls Try.prog 34 #[encA x, ptr b] u _
  unfold ptr at *
  cases x with
  | none =>
    have h := eqlE_none g u
    unfold encA isG
    go_enter Try.func34, Try.ntmps34
    go_wp2
    go_ret
    exact ⟨rfl, 0, rfl⟩
  | some x =>
    obtain ⟨x, hx⟩ := x
    by_cases e : x = g
    · subst e
      have h := eqlE x u
      show Calls Try.prog 34 #[.pointer (some ⟨x, 0, none⟩), .pointer (some ⟨b, 0, none⟩)] u fun e w' => e = .returned (.bool (x == x)) ∧ ∃ q, w' = u.drewN q
      go_enter Try.func34, Try.ntmps34
      go_wp2
      go_ret
      exact ⟨by simp, 0, rfl⟩
    · obtain ⟨c1, h1⟩ := hA x hx
      obtain ⟨c2, h2⟩ := hg
      have h := eqlE_other h1 h2 e
      have ef : (x == g) = false := by simpa using e
      show Calls Try.prog 34 #[.pointer (some ⟨x, 0, none⟩), .pointer (some ⟨b, 0, none⟩)] u fun e w' => e = .returned (.bool (x == g)) ∧ ∃ q, w' = u.drewN q
      rw [ef]
      clear h1 h2 hA
      go_enter Try.func34, Try.ntmps34
      go_wp2
      go_ret
      exact ⟨rfl, 0, rfl⟩
theorem heap_putRow_other {α : Type} [Inhabited α] (enc : α → Value) (w : World) (blk off : Nat) (d : Array α) (k : Nat) (h : k ≠ blk) : (putRow enc w blk off d).heap[k]? = w.heap[k]? := by
  unfold putRow mapBlock
  simp [Array.getElem?_modify, Ne.symm h]
theorem deleteFunc_at {w : World} {B : Nat} {v : Value} {A : List Nat} (h : w.ownsRow B 61 1 v A.length (A.map ptr)) (g b : Nat) (hb : Box w b #[ptr g] 61) (hbv : v.ownBlock ≠ some b) (hA : ∀ x ∈ A, ∃ cs, Box w x cs 70) (hg : ∃ cs, Box w g cs 70) (h0 : 0 < A.length) :
    Calls Try.prog 33 #[v, .func (.func 34) #[] #[ptr b]] w fun r w' => ∃ v', r = .returned v' ∧ w'.ownsRow B 61 1 v' (A.filter (· != g)).length ((A.filter (· != g)).map ptr) ∧ v'.ownBlock = v.ownBlock ∧ w.grownBy w' v.ownBlock := by
  rcases h.2 with ⟨_, e0⟩ | ⟨gr, cap, cur, rfl, hbr, hgr, hnc, hcm, hcs, ht⟩
  · omega
  have hB : Box w gr cur 61 := hgr
  rw [Nat.mul_one] at hcs ht
  obtain ⟨d, hd⟩ : ∃ d : Array (Option {x // x ∈ A}), d = (A.attach.map some).toArray := ⟨_, rfl⟩
  have hds : d.size = A.length := by rw [hd]; simp
  have hdl : d.toList = A.attach.map some := by rw [hd]
  have hem : ∀ l : List {x // x ∈ A}, (l.map some).map encA = (l.map (·.1)).map ptr := fun l => by rw [List.map_map, List.map_map]; rfl
  have hH : Holds encA w gr 0 d := fun j hj => by
    refine ⟨?_, hB.frozen _⟩
    rw [Nat.zero_add, hB.cell j]
    have e : cur[j]? = (A.map ptr)[j]? := by
      rw [← ht, List.getElem?_take, if_pos (by omega)]
      simp
    have hj' : j < A.length := by omega
    rw [e, getElem!_pos d j hj]
    simp [hd, hj', encA]
  have hbn : b ≠ gr := fun e => hbv (by rw [e]; rfl)
  have c := AnyE.slices_DeleteFunc dfLay encA (fun x => by cases x <;> rfl) (isG g) 34 #[ptr b] (enters_of Try.func34 (by kernel_rfl) rfl) none zeroP gr 0 cap d w
    (fun W x hW => isIt g b W ((hW.cell (p := ⟨b, 0, none⟩) hb.lt).trans (hb.cell 0)) (fun x hx => by obtain ⟨cs, h1⟩ := hA x hx; exact ⟨cs, h1.below hW h1.lt⟩) (by obtain ⟨cs, h1⟩ := hg; exact ⟨cs, h1.below hW h1.lt⟩) x)
    (fun n os dk x _ => by
      have old : ∀ k cs t, Box w k cs t → k ≠ gr → Box (sortWorld encA w gr 0 n dk os) k cs t := fun k cs t hk hne => by
        unfold sortWorld Box
        rw [heap_grow_old _ _ (by show k < (putRow _ _ _ _ _).heap.size; rw [size_putRow]; exact hk.lt), heap_putRow_other _ _ _ _ _ _ hne]
        exact hk
      exact isIt g b _ ((old b _ _ hb hbn).cell 0) (fun x hx => by obtain ⟨cs, h1⟩ := hA x hx; exact ⟨cs, old _ _ _ h1 (h1.ne hB (by decide))⟩) (by obtain ⟨cs, h1⟩ := hg; exact ⟨cs, old _ _ _ h1 (h1.ne hB (by decide))⟩) x)
    hH (by unfold maxLen at hcm; omega) (by omega)
  have ef : (d.toList.filter fun x => !isG g x) = (A.attach.filter fun x => x.1 != g).map some := by
    rw [hdl, List.filter_map]
    rfl
  have ev : (A.attach.filter fun x => x.1 != g).map (·.1) = A.filter (· != g) := by
    have h1 := List.filter_map (f := fun x : {x // x ∈ A} => x.1) (p := fun x => x != g) (l := A.attach)
    rw [List.attach_map_subtype_val] at h1
    exact h1.symm
  rw [ef] at c
  generalize (A.attach.filter fun x => x.1 != g) = l at *
  have hll : l.length = (A.filter (· != g)).length := by rw [← ev]; simp
  have hlA : (A.filter (· != g)).length ≤ A.length := List.length_filter_le _ _
  have c' : Calls Try.prog 33 #[.slice (some ⟨gr, 0, none⟩) A.length cap, .func (.func 34) #[] #[ptr b]] w fun e w' => e = .returned (.slice (some ⟨gr, 0, none⟩) (l.map some).length cap) ∧ ∃ q, w' = putRow encA (Sort.ahead w q) gr 0 ((l.map some) ++ List.replicate (d.size - (l.map some).length) none).toArray := by
    rw [← hds]
    exact c
  refine c'.mono ?_
  rintro r w' ⟨rfl, q, rfl⟩
  rw [Lib.putRow_eq_setCells encA w gr 0 d _ q hH (by simp; omega)]
  have key := row_set (m := (A.filter (· != g)).length) (q := q) hB hbr hcs hcm (((l.map some) ++ List.replicate (d.size - (l.map some).length) none).map encA) (n := A.length) (by simp; omega) hnc (by omega)
  have e2 : (((l.map some) ++ List.replicate (d.size - (l.map some).length) none).map encA).take (A.filter (· != g)).length = (A.filter (· != g)).map ptr := by
    rw [List.map_append, hem, ev, List.take_left' (by simp)]
  rw [e2] at key
  refine ⟨_, rfl, ?_, rfl, key.2⟩
  rw [List.length_map, hll] at key ⊢
  exact key.1
end Go.Proofs.Ytjhhncbadkpbaaa
