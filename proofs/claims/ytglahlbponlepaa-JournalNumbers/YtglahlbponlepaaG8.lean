/-
  JDel, JRest, JUpTo, JRel, JGrp, DkInts, JCalls, JOpened, JAwake: put together.
-/
import Derived.Test.YtglahlbponlepaaG7
import Derived.Shelf.Slices.Cells
import Derived.Deep.RegionHeld3
/-
  slices.Delete from the front: the library's own contract, at this program's numbers.
-/
namespace Go.Proofs.Ytglahlbponlepaa.J
open Go.RowKit
open Go.Proofs.Ytglahlbponlepaa.Dk (Box)

def dRen : Go.Shelf.Ren := ⟨fun n => if n = 23 then 36 else n, fun t => if t = 22 then 31 else t, fun n => n⟩
theorem dLays : Go.Proofs.Lays2.n23 Try.prog dRen :=
  { mixed := by kernel_rfl
    f23 := Try.func36.trans (congrArg some (by kernel_rfl))
    t0 := by kernel_rfl
    a0 := Try.isAgg0
    z0 := Try.sizeOf0
    v0 := Try.zeroValue0
    t3 := by kernel_rfl
    a3 := Try.isAgg3
    z3 := Try.sizeOf3
    v3 := Try.zeroValue3
    t4 := by kernel_rfl
    a4 := Try.isAgg4
    z4 := Try.sizeOf4
    v4 := Try.zeroValue4
    t22 := by kernel_rfl
    a22 := Try.isAgg31
    z22 := Try.sizeOf31
    v22 := Try.zeroValue31
    i3 := by kernel_rfl }

/-- cells from o on, written over -/
def setL : Array Value → Nat → List Value → Array Value
  | cur, _, [] => cur
  | cur, o, v :: r => setL (cur.setIfInBounds o v) (o + 1) r
theorem setL_size : ∀ (vs : List Value) (cur : Array Value) (o : Nat), (setL cur o vs).size = cur.size
  | [], _, _ => rfl
  | v :: r, cur, o => by rw [setL, setL_size r]; simp
theorem setL_out : ∀ (vs : List Value) (cur : Array Value) (o j : Nat), j < o → (setL cur o vs)[j]? = cur[j]?
  | [], _, _, _, _ => rfl
  | v :: r, cur, o, j, h => by rw [setL, setL_out r _ (o + 1) j (by omega), Array.getElem?_setIfInBounds, if_neg (by omega)]
theorem setL_in : ∀ (vs : List Value) (cur : Array Value) (o j : Nat), o + vs.length ≤ cur.size → (h : j < vs.length) → (setL cur o vs)[o + j]? = some vs[j]
  | [], _, _, _, _, h => by simp at h
  | v :: r, cur, o, 0, hs, h => by
    simp only [List.length_cons] at hs
    show (setL cur o (v :: r))[o]? = _
    rw [setL, setL_out r _ (o + 1) o (by omega), Array.getElem?_setIfInBounds, if_pos rfl, if_pos (by omega)]
    rfl
  | v :: r, cur, o, j + 1, hs, h => by
    simp only [List.length_cons] at hs h
    have := setL_in r (cur.setIfInBounds o v) (o + 1) j (by simp; omega) (by omega)
    rw [setL, show o + (j + 1) = o + 1 + j by omega, this]
    rfl
theorem box_setCells {g : Nat} {t : TypeId} : ∀ (vs : List Value) (o : Nat) (w : World) (cur : Array Value), Box w g cur t → Box (w.setCells g o vs) g (setL cur o vs) t
  | [], _, _, _, h => h
  | v :: r, o, _, _, h => box_setCells r (o + 1) _ _ (h.store o v)
theorem upd_setCells {g : Nat} : ∀ (vs : List Value) (o : Nat) (w u : World), Dk.Upd (fun k => some g = some k) w u → Dk.Upd (fun k => some g = some k) w (u.setCells g o vs)
  | [], _, _, _, h => h
  | v :: r, o, w, _, h => upd_setCells r (o + 1) w _ (upd_set h g o (.inl rfl) v)

theorem delete_at {w : World} {vs : Value} {xs : List Int} (h : w.ownsRow 0 3 1 vs xs.length (ics xs)) (m : Nat) (hm : m ≤ xs.length) (hx : xs.length ≤ 1000) (h0 : 0 < xs.length) :
    Calls Try.prog 36 #[vs, .int .i64 0, .int .i64 (m : Int)] w fun r w' => ∃ v', r = .returned v' ∧ w'.ownsRow 0 3 1 v' (xs.drop m).length (ics (xs.drop m)) ∧ v'.ownBlock = vs.ownBlock ∧ Dk.Upd (fun k => vs.ownBlock = some k) w w' := by
  rcases h.2 with ⟨_, e0⟩ | ⟨g, cap, cur, rfl, hb, hg, hnc, hcm, hcs, ht⟩
  · omega
  have hB : Box w g cur 3 := hg
  rw [Nat.mul_one] at hcs ht
  have c := Any.slices_Delete_int_cells dLays g 0 xs.length cap 0 m xs w (Nat.le_refl _) hnc (by unfold maxLen at hcm; omega) (Nat.zero_le _) hm
    (fun j hj => by
      rw [Nat.zero_add, hB.cell j]
      have e : cur[j]? = (ics xs)[j]? := by
        rw [← ht, List.getElem?_take, if_pos hj]
        simp
      rw [e]
      simp [ics, hj])
    (fun j _ => hB.frozen _)
  refine Calls.mono c ?_
  rintro r w' ⟨rfl, q, rfl⟩
  have hy : ((xs.take xs.length).take 0 ++ (xs.take xs.length).drop m ++ List.replicate (m - 0) 0).length = xs.length := by simp; omega
  have hB1 : Box (w.drewN q) g cur 3 := hB
  generalize hys : ((xs.take xs.length).take 0 ++ (xs.take xs.length).drop m ++ List.replicate (m - 0) (0 : Int)) = ys at hy
  have hB2 := box_setCells (ys.map (Value.int .i64)) 0 _ _ hB1
  have hlen : (xs.drop m).length = xs.length - m := by simp
  have hU : Dk.Upd (fun k => some g = some k) w (w.drewN q) := ⟨rfl, rfl, rfl, Nat.le_refl _, fun _ _ _ => rfl⟩
  refine ⟨_, rfl, ⟨by simp [ics], .inr ⟨g, cap, _, by rw [hlen]; rfl, Nat.zero_le _, hB2, by omega, hcm, by rw [setL_size, Nat.mul_one]; exact hcs, ?_⟩⟩, rfl, upd_setCells _ 0 _ _ hU⟩
  refine List.ext_getElem? fun j => ?_
  rw [Nat.mul_one, List.getElem?_take]
  split
  · rename_i hj
    rw [hlen] at hj
    have h1 := setL_in (ys.map (Value.int .i64)) cur 0 j (by simp; omega) (by simp; omega)
    rw [Nat.zero_add] at h1
    rw [Array.getElem?_toList, h1]
    subst hys
    simp [ics, hj]
  · rename_i hj
    rw [hlen] at hj
    symm
    simp [ics]
    omega
end Go.Proofs.Ytglahlbponlepaa.J

/-
  What is asked ahead: Release's, Reserve's and Cancel's.
-/
namespace Go.Proofs.Ytglahlbponlepaa.J
open Go.RowKit
open Go.Proofs.Ytglahlbponlepaa.Dk (Box)

theorem release1_at {w : World} {g dg a b : Nat} {vs : Value} {J : JS} (h : Box w g (jC g dg vs J) 47) (n : Int) (ha : Box w a #[.int .i64 n] 3) (hb : Box w b #[.pointer (some ⟨g, 0, none⟩)] 23) :
    Calls Try.prog 34 #[.pointer (some ⟨a, 0, none⟩), .pointer (some ⟨b, 0, none⟩)] w fun r w' => r = .returned (.int .i64 (if J.synced < n then 2 else 0)) ∧ ∃ k, w' = w.drewN k := by
  have c5 := (box_cells h).2.2.2.2.2.1
  have ca := ha.cell 0
  have cb := hb.cell 0
  simp at ca cb
  by_cases hn : J.synced < n
  · rw [if_pos hn]
    go_enter Try.func34, Try.ntmps34
    go_wp2_with fail
    go_quiet (fail)
    go_wp2_with fail
    go_ret
    exact ⟨rfl, _, rfl⟩
  · rw [if_neg hn]
    go_enter Try.func34, Try.ntmps34
    go_wp2_with fail
    go_quiet (fail)
    go_wp2_with fail
    go_ret
    exact ⟨rfl, _, rfl⟩
theorem cancel1_at {w : World} {a : Nat} (n : Int) (ha : Box w a #[.int .i64 n] 3) :
    Calls Try.prog 43 #[.pointer (some ⟨a, 0, none⟩)] w fun r w' => r = .returned (.int .i64 (if n = 0 then 2 else 0)) ∧ w = w' := by
  have ca := ha.cell 0
  simp at ca
  by_cases hn : n = 0
  · subst hn
    rw [if_pos rfl]
    go_enter Try.func43, Try.ntmps43
    go_wp2_with fail
    go_ret
    exact ⟨rfl, rfl⟩
  · rw [if_neg hn]
    go_enter Try.func43, Try.ntmps43
    go_wp2_with fail
    go_ret
    exact ⟨rfl, rfl⟩
theorem reserve1_at {w : World} {g dg a b : Nat} {vs : Value} {J : JS} (h : Box w g (jC g dg vs J) 47) (n : Int) (ha : Box w a #[.int .i64 n] 3) (hb : Box w b #[.pointer (some ⟨g, 0, none⟩)] 23) :
    Calls Try.prog 41 #[.pointer (some ⟨a, 0, none⟩), .pointer (some ⟨b, 0, none⟩)] w fun r w' => r = .returned (.int .i64 (if n = 0 then 2 else if J.S < n then 232 else 0)) ∧ w = w' := by
  have ca := ha.cell 0
  have cb := hb.cell 0
  simp at ca cb
  by_cases hn : n = 0
  · subst hn
    rw [if_pos rfl]
    go_enter Try.func41, Try.ntmps41
    go_wp2_with fail
    go_ret
    exact ⟨rfl, rfl⟩
  · rw [if_neg hn]
    go_enter Try.func41, Try.ntmps41
    go_wp2_with fail
    refine (fits_at h n).mono ?_
    rintro r w1 ⟨rfl, rfl⟩
    go_wp2_with fail
    all_goals (go_ret; exact ⟨rfl, rfl⟩)
end Go.Proofs.Ytglahlbponlepaa.J

/-
  upTo: how many groups have numbers of at most seq, and how many blocks these have.
-/
namespace Go.Proofs.Ytglahlbponlepaa.J
open Go.RowKit
open Go.Proofs.Ytglahlbponlepaa.Dk (Box)

/-- of n groups from number f on those that are at most s -/
def cntTo (f s : Int) (n : Nat) : Nat := min n (s - f + 1).toNat
theorem sum_take_succ (xs : List Int) (k : Nat) (h : k < xs.length) : (xs.take (k + 1)).sum = (xs.take k).sum + xs[k] := by
  rw [List.take_succ_eq_append_getElem h, List.sum_append, List.sum_singleton]
theorem sum_take_le (xs : List Int) (hr : ∀ x ∈ xs, 0 ≤ x ∧ x ≤ 33) (k : Nat) (h : k ≤ xs.length) : 0 ≤ (xs.take k).sum ∧ (xs.take k).sum ≤ 33 * (k : Int) := by
  induction k with
  | zero => simp
  | succ k ih =>
    have := ih (by omega)
    have hx := hr xs[k] (List.getElem_mem _)
    rw [sum_take_succ xs k (by omega)]
    push_cast
    omega

theorem upTo_at {w : World} {g dg n c b o : Nat} {J : JS} (xs : List Int) (h : Box w g (jC g dg (.slice (some ⟨b, o, none⟩) n c) J) 47) (hl : xs.length = n)
    (hx : ∀ j (h : j < xs.length), w.cell? ⟨b, o + j, none⟩ = some (.int .i64 xs[j])) (hr : ∀ x ∈ xs, 0 ≤ x ∧ x ≤ 33) (h0 : n ≤ J.next) (h1 : J.next ≤ 549755813889) (hn : n ≤ 1000) (s : Int) :
    Calls Try.prog 35 #[.pointer (some ⟨g, 0, none⟩), .int .i64 s] w fun r w' => r = .returned (.tuple #[.int .i64 (cntTo (J.next - n) s n : Nat), .int .i64 (xs.take (cntTo (J.next - n) s n)).sum]) ∧ ∃ k, w' = w.drewN k := by
  have c10 := (box_cells h).2.2.2.2.2.2.2.2.2.2.1
  have hf : ∀ q, Calls Try.prog 51 #[.pointer (some ⟨g, 0, none⟩)] (w.drewN q) fun r w' => r = .returned (.int .i64 (J.next - n)) ∧ ∃ k', w' = (w.drewN q).drewN k' := fun q => first_at (w := w.drewN q) h h0 h1
  obtain ⟨f, hfe⟩ : ∃ f, f = J.next - n := ⟨_, rfl⟩
  rw [← hfe] at hf ⊢
  have hf0 : 0 ≤ f := by omega
  have hf1 : f ≤ 549755813889 := by omega
  have HX : Hid (∀ j (h : j < xs.length), w.cell? ⟨b, o + j, none⟩ = some (.int .i64 xs[j])) := hx
  have HR : Hid (∀ x ∈ xs, 0 ≤ x ∧ x ≤ 33) := hr
  have HL : Hid (xs.length = n) := hl
  clear h h0 h1 hfe hx hr hl
  go_enter Try.func35, Try.ntmps35
  go_wp2_with fail
  go_loopw [4, 5, 13] (fun u v i wr => ∃ k : Nat, k ≤ n ∧ i = .int .i64 k ∧ u = .int .i64 k ∧ v = .int .i64 (xs.take k).sum ∧ (k : Int) ≤ max 0 (s - f + 1) ∧ ∃ q, wr = w.drewN q) (fun _ _ i _ => n - (intOf i).toNat)
  case atStart => exact ⟨0, Nat.zero_le _, rfl, rfl, by simp, by omega, 0, rfl⟩
  case round =>
    obtain ⟨k, hk, rfl, rfl, rfl, hm, q, rfl⟩ := hrel
    by_cases hlt : k < n
    · have hk' : k < xs.length := by rw [HL.out]; exact hlt
      have cx := HX.out k hk'
      have hs1 := sum_take_le xs HR.out k (by omega)
      have hs2 := HR.out xs[k] (List.getElem_mem _)
      have hsu : Hid ((xs.take (k + 1)).sum = (xs.take k).sum + xs[k]) := sum_take_succ xs k hk'
      generalize xs[k] = x at *
      generalize hS : (xs.take k).sum = S at *
      by_cases hgt : s < f + k
      · go_wp2_with fail
        refine (hf q).mono ?_
        rintro r w1 ⟨rfl, q', rfl⟩
        go_wp2_with fail
        have e : cntTo f s n = k := by unfold cntTo; omega
        rw [e, hS]
        exact bodyPost_ret (v := .tuple #[.int .i64 (k : Int), .int .i64 S]) (by simp [results, Try.results35, go_sem]) rfl ⟨rfl, _, rfl⟩
      · go_wp2_with fail
        refine (hf q).mono ?_
        rintro r w1 ⟨rfl, q', rfl⟩
        go_wp2_with fail
        go_roundw
        case rel => exact ⟨k + 1, by omega, by push_cast; rfl, by push_cast; rfl, by rw [hsu.out], by omega, _, rfl⟩
        case measure => simp [intOf]; omega
    · obtain rfl : k = n := by omega
      go_wp2_with fail
      have e : cntTo f s k = k := by unfold cntTo; omega
      rw [e]
      exact bodyPost_ret (v := .tuple #[.int .i64 (k : Int), .int .i64 (xs.take k).sum]) (by simp [results, Try.results35, go_sem]) rfl ⟨rfl, _, rfl⟩
end Go.Proofs.Ytglahlbponlepaa.J

/-
  Release: groups are let go from the front.
-/
namespace Go.Proofs.Ytglahlbponlepaa.J
open Go.RowKit
open Go.Proofs.Ytglahlbponlepaa.Dk (Box)

/-- the world behind Release's boxes -/
def re2 (w : World) (g : Nat) (s : Int) : World := (w.alloc (.cells #[.pointer (some ⟨g, 0, none⟩)] 23)).alloc (.cells #[.int .i64 s] 3)
theorem re2_a (w : World) (g : Nat) (s : Int) : Box (re2 w g s) w.heap.size #[.pointer (some ⟨g, 0, none⟩)] 23 := (Dk.Box.new w _ 23).alloc _
theorem re2_b (w : World) (g : Nat) (s : Int) : Box (re2 w g s) (w.heap.size + 1) #[.int .i64 s] 3 := Rg.Box.next w _ _ 3
theorem re2_below (w : World) (g : Nat) (s : Int) : Below w.heap.size w (re2 w g s) := ((Below.refl w.heap.size w).alloc (Nat.le_refl _) _).alloc (by simp) _

/-- the journal's own box and its list of sizes were written, all else stands: the journal then -/
theorem JTo.same {w u : World} {g dg : Nat} {vs v' : Value} {J' : JS} {ys : List Int} {D : Dk.DS} {F Fd : Nat → Prop} (hd : Dk.IsDisk w dg D Fd) (hFg : ¬ Fd g) (hFv : ∀ k, vs.ownBlock = some k → ¬ Fd k ∧ F k) (hFd : ∀ i, Fd i → F i) (hFF : F g) (hFlt : ∀ i, F i → i < w.heap.size)
    (hb : Box u g (jC g dg v' J') 47) (hr : u.ownsRow 0 3 1 v' ys.length (ics ys)) (hv : v'.ownBlock = vs.ownBlock) (hu : Dk.Upd (fun k => k = g ∨ vs.ownBlock = some k) w u) : JTo w F g dg J' ys D u :=
  ⟨F, ⟨⟨v', Fd, hb, disk_kept hd (fun i hi => hu.block i (hFlt i (hFd i hi)) (fun h => by
      rcases h with h | h
      · exact hFg (h ▸ hi)
      · exact (hFv i h).1 hi)) hu.size, hFg, hr, fun k hk => hFv k (hv ▸ hk), hFd⟩, hFF, fun i hi => Nat.lt_of_lt_of_le (hFlt i hi) hu.size⟩, fun _ hi => .inl hi,
    ⟨hu.os, hu.tape, hu.output, hu.size, fun k hk hn => hu.block k hk (fun h => by
      rcases h with h | h
      · exact hn (h ▸ hFF)
      · exact hn (hFv k h).2)⟩⟩

theorem release_late {w : World} {g dg : Nat} {vs : Value} {J : JS} (h : Box w g (jC g dg vs J) 47) (hb : J.broken = false) (s : Int) (hs : J.synced < s) :
    Calls Try.prog 10 #[.pointer (some ⟨g, 0, none⟩), .int .i64 s] w fun r w' => r = .returned (.int .i64 2) ∧ Below w.heap.size w w' := by
  have b := re2_below w g s
  have h' : Box (re2 w g s) g (jC g dg vs J) 47 := h.below b
  have ca := ahead_in34 h' hb (fun e w' => e = 2 ∧ ∃ k, w' = (re2 w g s).drewN k) #[.pointer (some ⟨w.heap.size + 1, 0, none⟩), .pointer (some ⟨w.heap.size, 0, none⟩)] ((release1_at h' s (re2_b w g s) (re2_a w g s)).mono (by
    rintro r w' ⟨rfl, k, rfl⟩
    rw [if_pos hs]
    exact ⟨2, rfl, rfl, k, rfl⟩))
  go_enter Try.func10, Try.ntmps10
  go_wp2_with fail
  refine Calls.mono ca ?_
  rintro r w1 ⟨e, rfl, rfl, k, rfl⟩
  go_wp2_with fail
  go_ret
  exact ⟨rfl, below_drewN b k⟩
theorem release_broken {w : World} {g dg : Nat} {vs : Value} {J : JS} (h : Box w g (jC g dg vs J) 47) (hb : J.broken = true) (s : Int) :
    Calls Try.prog 10 #[.pointer (some ⟨g, 0, none⟩), .int .i64 s] w fun r w' => r = .returned (.int .i64 4) ∧ Below w.heap.size w w' := by
  have b := re2_below w g s
  have h' : Box (re2 w g s) g (jC g dg vs J) 47 := h.below b
  have ca := ahead_broken h' hb (.func (.func 34) #[] #[.pointer (some ⟨w.heap.size + 1, 0, none⟩), .pointer (some ⟨w.heap.size, 0, none⟩)])
  go_enter Try.func10, Try.ntmps10
  go_wp2_with fail
  refine Calls.mono ca ?_
  rintro r w1 ⟨rfl, rfl⟩
  go_wp2_with fail
  go_ret
  exact ⟨rfl, b⟩
set_option maxRecDepth 100000 in
set_option maxHeartbeats 4000000 in
theorem release_ok {w : World} {g dg : Nat} {J : JS} {xs : List Int} {D : Dk.DS} {F : Nat → Prop} (hJ : JD w g dg J xs D F) (hb : J.broken = false) (s : Int) (hs : ¬ J.synced < s) (h0 : 0 < xs.length) (hx : xs.length ≤ 1000) (hr : ∀ x ∈ xs, 0 ≤ x ∧ x ≤ 33)
    (hn0 : (xs.length : Int) ≤ J.next) (hn1 : J.next ≤ 549755813889) (hR : Rg.R J.S J.T J.U J.H) (c : Nat) (hc : cntTo (J.next - xs.length) s xs.length = c) (hU : (xs.take c).sum ≤ J.U) :
    Calls Try.prog 10 #[.pointer (some ⟨g, 0, none⟩), .int .i64 s] w fun r w' => r = .returned (.int .i64 0) ∧ JTo w F g dg { J with T := (J.T + (xs.take c).sum) % J.S, U := J.U - (xs.take c).sum } (xs.drop c) D w' := by
  obtain ⟨⟨vs, Fd, h, hd, hFg, hrow, hFv, hFd⟩, hFF, hFlt⟩ := hJ
  have b := re2_below w g s
  have h' : Box (re2 w g s) g (jC g dg vs J) 47 := h.below b
  have ca := ahead_in34 h' hb (fun e w' => e = 0 ∧ ∃ k, w' = (re2 w g s).drewN k) #[.pointer (some ⟨w.heap.size + 1, 0, none⟩), .pointer (some ⟨w.heap.size, 0, none⟩)] ((release1_at h' s (re2_b w g s) (re2_a w g s)).mono (by
    rintro r w' ⟨rfl, k, rfl⟩
    rw [if_neg hs]
    exact ⟨0, rfl, rfl, k, rfl⟩))
  have hcl : c ≤ xs.length := by rw [← hc]; exact Nat.min_le_left _ _
  have hsum := sum_take_le xs hr c hcl
  have cd := fun u => Rg.drop_ok J.S J.T J.U J.H (xs.take c).sum u hR hsum.1 hU
  unfold Rg.ri at cd
  have hv : ∃ q cap, vs = .slice (some ⟨q, 0, none⟩) xs.length cap ∧ ∀ u : World, u.heap[q]? = w.heap[q]? → ∀ j (hj : j < xs.length), u.cell? ⟨q, 0 + j, none⟩ = some (.int .i64 xs[j]) := by
    rcases hrow.2 with ⟨_, e0⟩ | ⟨q, cap, cur, e1, _, hg, hnc, hcm, hcs, ht⟩
    · omega
    refine ⟨q, cap, e1, fun u hu j hj => ?_⟩
    have hB : Box u q cur 3 := hu.trans hg
    rw [Nat.mul_one] at ht
    have e : cur[j]? = (ics xs)[j]? := by
      rw [← ht, List.getElem?_take, if_pos hj]
      simp
    rw [Nat.zero_add, hB.cell j, e]
    simp [ics, hj]
  obtain ⟨q, cap, rfl, hcells⟩ := hv
  have hqlt : q < w.heap.size := (hrow.lt q rfl).2
  have cu := fun k => upTo_at (w := (re2 w g s).drewN k) xs (b := q) (o := 0) (dg := dg) (c := cap) (J := J) h' rfl (hcells _ (b.block q hqlt)) hr hn0 hn1 hx s
  rw [hc] at cu
  have r2 := owns_kept hrow (fun k hk => b.block k (hFlt k (hFv k hk).2))
  have HR : Hid ((re2 w g s).ownsRow 0 3 1 (.slice (some ⟨q, 0, none⟩) xs.length cap) xs.length (ics xs)) := r2
  have HH : Hid (Box (re2 w g s) g (jC g dg (.slice (some ⟨q, 0, none⟩) xs.length cap) J) 47) := h'
  have HA : Hid (Box (re2 w g s) w.heap.size #[.pointer (some ⟨g, 0, none⟩)] 23) := re2_a w g s
  have y1 := (re2_a w g s).cell 0
  have y2 := (re2_b w g s).cell 0
  simp at y1 y2
  have HD : Hid (Dk.IsDisk w dg D Fd ∧ ¬ Fd g ∧ (∀ k, (Value.slice (some ⟨q, 0, none⟩) xs.length cap).ownBlock = some k → ¬ Fd k ∧ F k) ∧ (∀ i, Fd i → F i) ∧ F g ∧ ∀ i, F i → i < w.heap.size) := ⟨hd, hFg, hFv, hFd, hFF, hFlt⟩
  have HB : Hid (Below w.heap.size w (re2 w g s)) := b
  have HL : Hid (c ≤ xs.length ∧ xs.length ≤ 1000 ∧ 0 < xs.length) := ⟨hcl, hx, h0⟩
  obtain ⟨sm, hsm⟩ : ∃ sm, sm = (xs.take c).sum := ⟨_, rfl⟩
  rw [← hsm] at cu cd ⊢
  clear h h' hd hFg hrow hFv hFd hFF hFlt hcells r2 hsm hsum hcl b hU hr hn0 hn1 hR hc hs hb
  go_enter Try.func10, Try.ntmps10
  go_wp2_with fail
  refine Calls.mono ca ?_
  rintro r w1 ⟨e, rfl, rfl, k, rfl⟩
  go_wp2_with fail
  refine Calls.mono (cu k) ?_
  rintro r w2 ⟨rfl, k2, rfl⟩
  clear cu ca
  generalize hw2 : ((re2 w g s).drewN k).drewN k2 = w2
  go_upto_region 5 with fail
  have HH2 : Hid (Box w2 g (jC g dg (.slice (some ⟨q, 0, none⟩) xs.length cap) J) 47) := by rw [← hw2]; exact HH.out
  have HA2 : Hid (Box w2 w.heap.size #[.pointer (some ⟨g, 0, none⟩)] 23) := by rw [← hw2]; exact HA.out
  have HR2 : Hid (w2.ownsRow 0 3 1 (.slice (some ⟨q, 0, none⟩) xs.length cap) xs.length (ics xs)) := by rw [← hw2]; exact HR.out
  have HB2 : Hid (Below w.heap.size w w2) := by rw [← hw2]; exact below_drewN (below_drewN HB.out k) k2
  have hqg : q ≠ g := fun e => by
    rcases HR2.out.2 with ⟨e1, _⟩ | ⟨q', cap', cur, e1, _, e2, _⟩
    · cases e1
    · injection e1 with e1
      injection e1 with e1
      injection e1 with e1
      subst e1
      exact HH2.out.ne (e ▸ e2) (by decide) rfl
  have hqa : q ≠ w.heap.size := by omega
  have hga : g ≠ w.heap.size := HH2.out.ne HA2.out (by decide)
  clear y1 y2 HH HA HR HB hw2
  have cD := delete_at (w := w2.drew) HR2.out c HL.out.1 HL.out.2.1 HL.out.2.2
  have HS : Hid (∀ u : World, u.heap[w.heap.size]? = w2.heap[w.heap.size]? → u.cell? ⟨w.heap.size, 0, none⟩ = some (.pointer (some ⟨g, 0, none⟩))) := fun u hu => by
    have y1 := HA2.out.cell 0
    simp at y1
    exact (World.cell?_of_block (a := ⟨w.heap.size, 0, none⟩) hu).trans y1
  have g10 := (box_cells HH2.out).2.2.2.2.2.2.2.2.2.2.1
  refine wp_region_noPanic ?_
  refine wp_region_held_drew (S := fun u => u.cell? ⟨w.heap.size, 0, none⟩ = some (.pointer (some ⟨g, 0, none⟩))) (by kernel_rfl) (HS.out _ rfl) (fun hHeld => ?_)
  refine wpAnyH_take (i := 0) (v := ?_) rfl (by kernel_rfl) (by kernel_rfl) (by kernel_rfl) (fun _ _ _ h => h) (Or.inl ⟨by rfl, ?_⟩) (by assumption) ?_
  rotate_left
  · intro w hSw
    go_simp
    with_reducible rfl
  simp only [Act.put, List.setIfInBounds_toArray, List.set_cons_zero, List.set_cons_succ, List.getElem_toArray, List.getElem_cons_zero]
  refine wpAnyH_take (i := 1) (v := ?_) rfl (by kernel_rfl) (by kernel_rfl) (by kernel_rfl) (fun _ _ _ h => h) (Or.inl ⟨by rfl, ?_⟩) (by assumption) ?_
  rotate_left
  · intro w hSw
    go_simp
    with_reducible rfl
  simp only [Act.put, List.setIfInBounds_toArray, List.set_cons_zero, List.set_cons_succ, List.getElem_toArray, List.getElem_cons_zero, List.getElem_cons_succ]
  refine wpAnyH_take (i := 2) (v := ?_) rfl (by kernel_rfl) (by kernel_rfl) (by kernel_rfl) (fun _ _ _ h => h) (Or.inl ⟨by rfl, ?_⟩) (by assumption) ?_
  rotate_left
  · intro w hSw
    go_simp
    with_reducible rfl
  simp only [Act.put, List.setIfInBounds_toArray, List.set_cons_zero, List.set_cons_succ, List.getElem_toArray, List.getElem_cons_zero, List.getElem_cons_succ]
  refine wpAnyH_take (i := 3) (v := ?_) rfl (by kernel_rfl) (by kernel_rfl) (by kernel_rfl) (fun _ _ _ h => h) (Or.inl ⟨by rfl, ?_⟩) (by assumption) ?_
  rotate_left
  · intro w hSw
    go_simp
    with_reducible rfl
  simp only [Act.put, List.setIfInBounds_toArray, List.set_cons_zero, List.set_cons_succ, List.getElem_toArray, List.getElem_cons_zero, List.getElem_cons_succ]
  refine wpAnyH_take (i := 5) (v := ?_) rfl (by kernel_rfl) (by kernel_rfl) (by kernel_rfl) (fun _ _ _ h => h) (Or.inl ⟨by rfl, ?_⟩) (by assumption) ?_
  rotate_left
  · intro w hSw
    go_simp
    with_reducible rfl
  simp only [Act.put, List.setIfInBounds_toArray, List.set_cons_zero, List.set_cons_succ, List.getElem_toArray, List.getElem_cons_zero, List.getElem_cons_succ]
  refine wpAnyH_ready (rs := [4]) (by kernel_rfl) (by simp) ?_
  refine AllReadyH.cons rfl (fun K hK => ?_) AllReadyH.nil
  go_simp
  refine hK.out _ _ (HS.out _ rfl) (fun hHeld => ?_)
  clear hK K
  refine wpAnyH_ready (rs := [6]) (by kernel_rfl) (by simp) ?_
  refine AllReadyH.cons rfl (fun K hK => ?_) AllReadyH.nil
  go_simp
  refine Calls.mono cD ?_
  rintro r w3 ⟨v', rfl, hr3, hv3, hu3⟩
  obtain ⟨nd, c3, rfl⟩ : ∃ nd c3, v' = .slice (some ⟨q, 0, none⟩) nd c3 := by
    rcases hr3.2 with ⟨e1, _⟩ | ⟨q', cap', cur, e1, _⟩
    · rw [e1] at hv3; cases hv3
    · rw [e1] at hv3
      injection hv3 with hv3
      have e' : q' = q := hv3
      subst e'
      exact ⟨_, _, e1⟩
  have hu3a : w3.heap[w.heap.size]? = w2.heap[w.heap.size]? := hu3.block _ HA2.out.lt (fun e => hqa (by injection e))
  have HH3 : Hid (Box w3 g (jC g dg (.slice (some ⟨q, 0, none⟩) xs.length cap) J) 47) := (hu3.block _ HH2.out.lt (fun e => hqg (by injection e))).trans HH2.out
  have HR3 : Hid (w3.ownsRow 0 3 1 (.slice (some ⟨q, 0, none⟩) nd c3) (xs.drop c).length (ics (xs.drop c))) := hr3
  have HV3 : Hid ((Value.slice (some ⟨q, 0, none⟩) nd c3).ownBlock = some q) := hv3
  have HU3 : Hid (Dk.Upd (fun k => some q = some k) w2.drew w3) := hu3
  have HA3 : Hid (w3.heap[w.heap.size]? = w2.heap[w.heap.size]?) := hu3a
  have g10' := (box_cells HH3.out).2.2.2.2.2.2.2.2.2.2.1
  have f10' := HH3.out.frozen 10
  refine hK.out _ _ (HS.out _ hu3a) (fun hHeld => ?_)
  clear hK K hr3 hv3 hu3 hu3a g10
  refine wpAnyH_take (i := 7) (v := ?_) rfl (by kernel_rfl) (by kernel_rfl) (by kernel_rfl) (fun _ _ _ h => h) (Or.inl ⟨by rfl, ?_⟩) (by assumption) ?_
  rotate_left
  · intro w hSw
    go_simp
    with_reducible rfl
  simp only [Act.put, List.setIfInBounds_toArray, List.set_cons_zero, List.set_cons_succ, List.getElem_toArray, List.getElem_cons_zero, List.getElem_cons_succ]
  refine wpAnyH_take (i := 8) (v := ?_) rfl (by kernel_rfl) (by kernel_rfl) (by kernel_rfl) (fun _ _ _ h => h) (Or.inl ⟨by rfl, ?_⟩) (by assumption) ?_
  rotate_left
  · intro w hSw
    go_simp
    with_reducible rfl
  simp only [Act.put, List.setIfInBounds_toArray, List.set_cons_zero, List.set_cons_succ, List.getElem_toArray, List.getElem_cons_zero, List.getElem_cons_succ]
  refine wpAnyH_ready (rs := [9]) (by kernel_rfl) (by simp) ?_
  refine AllReadyH.cons rfl (fun K hK => ?_) AllReadyH.nil
  go_simp
  have hset : ∀ k, k ≠ g → (w3.setCell ⟨g, 10, none⟩ (.slice (some ⟨q, 0, none⟩) nd c3)).heap[k]? = w3.heap[k]? := fun k hk => heap_setCell_other w3 ⟨g, 10, none⟩ k _ (by simpa using hk)
  refine hK.out _ _ (HS.out _ ((hset _ (Ne.symm hga)).trans HA3.out)) (fun hHeld => ?_)
  clear hK K
  refine wpAnyH_done (by kernel_rfl) ?_ _
  refine NoPanic.normal ?_
  have HH4 : Hid (Box (w3.setCell ⟨g, 10, none⟩ (.slice (some ⟨q, 0, none⟩) nd c3)) g (jC g dg (.slice (some ⟨q, 0, none⟩) nd c3) J) 47) := box_sizes HH3.out (.slice (some ⟨q, 0, none⟩) nd c3)
  have HR4 : Hid ((w3.setCell ⟨g, 10, none⟩ (.slice (some ⟨q, 0, none⟩) nd c3)).ownsRow 0 3 1 (.slice (some ⟨q, 0, none⟩) nd c3) (xs.drop c).length (ics (xs.drop c))) := owns_kept HR3.out (fun k hk => hset k (fun e => hqg (by rw [HV3.out] at hk; injection hk with hk; rw [hk, e])))
  have HU4 : Hid (Dk.Upd (fun k => k = g ∨ some q = some k) w (w3.setCell ⟨g, 10, none⟩ (.slice (some ⟨q, 0, none⟩) nd c3))) := by
    have b := HB2.out
    have u := HU3.out
    have sz := b.size
    refine upd_set ⟨u.os.trans b.os, u.tape.trans b.tape, u.output.trans b.output, Nat.le_trans sz u.size, fun k hk hn => (u.block k (Nat.lt_of_lt_of_le hk sz) (fun e => hn (.inr e))).trans (b.block k hk)⟩ g 10 (.inl (.inl rfl)) (.slice (some ⟨q, 0, none⟩) nd c3)
  have HA4 : Hid (Box (w3.setCell ⟨g, 10, none⟩ (.slice (some ⟨q, 0, none⟩) nd c3)) w.heap.size #[.pointer (some ⟨g, 0, none⟩)] 23) := ((hset _ (Ne.symm hga)).trans HA3.out).trans HA2.out
  clear hHeld g10' f10' hset HH3 HR3 HU3 HA3 HA2 HH2 HR2 HB2 HS cD
  generalize w3.setCell ⟨g, 10, none⟩ (.slice (some ⟨q, 0, none⟩) nd c3) = w4 at HH4 HR4 HU4 HA4 ⊢
  go_upto_region 6 with fail
  have HS : Hid (∀ u : World, u.heap[w.heap.size]? = w4.heap[w.heap.size]? → u.cell? ⟨w.heap.size, 0, none⟩ = some (.pointer (some ⟨g, 0, none⟩))) := fun u hu => by
    have y1 := HA4.out.cell 0
    simp at y1
    exact (World.cell?_of_block (a := ⟨w.heap.size, 0, none⟩) hu).trans y1
  obtain ⟨_, _, _, _, _, _, g6, g7, g8, g9, _, _⟩ := box_cells HH4.out
  refine wp_region_noPanic ?_
  refine wp_region_held_drew (S := fun u => u.cell? ⟨w.heap.size, 0, none⟩ = some (.pointer (some ⟨g, 0, none⟩))) (by kernel_rfl) (HS.out _ rfl) (fun hHeld => ?_)
  refine wpAnyH_take (i := 0) (v := ?_) rfl (by kernel_rfl) (by kernel_rfl) (by kernel_rfl) (fun _ _ _ h => h) (Or.inl ⟨by rfl, ?_⟩) (by assumption) ?_
  rotate_left
  · intro w hSw
    go_simp
    with_reducible rfl
  simp only [Act.put, List.setIfInBounds_toArray, List.set_cons_zero, List.set_cons_succ, List.getElem_toArray, List.getElem_cons_zero]
  refine wpAnyH_take (i := 1) (v := ?_) rfl (by kernel_rfl) (by kernel_rfl) (by kernel_rfl) (fun _ _ _ h => h) (Or.inl ⟨by rfl, ?_⟩) (by assumption) ?_
  rotate_left
  · intro w hSw
    go_simp
    with_reducible rfl
  simp only [Act.put, List.setIfInBounds_toArray, List.set_cons_zero, List.set_cons_succ, List.getElem_toArray, List.getElem_cons_zero, List.getElem_cons_succ]
  refine wpAnyH_take (i := 2) (v := ?_) rfl (by kernel_rfl) (by kernel_rfl) (by kernel_rfl) (fun _ _ _ h => h) (Or.inl ⟨by rfl, ?_⟩) (by assumption) ?_
  rotate_left
  · intro w hSw
    go_simp
    with_reducible rfl
  simp only [Act.put, List.setIfInBounds_toArray, List.set_cons_zero, List.set_cons_succ, List.getElem_toArray, List.getElem_cons_zero, List.getElem_cons_succ]
  refine wpAnyH_take (i := 3) (v := ?_) rfl (by kernel_rfl) (by kernel_rfl) (by kernel_rfl) (fun _ _ _ h => h) (Or.inl ⟨by rfl, ?_⟩) (by assumption) ?_
  rotate_left
  · intro w hSw
    go_simp
    with_reducible rfl
  simp only [Act.put, List.setIfInBounds_toArray, List.set_cons_zero, List.set_cons_succ, List.getElem_toArray, List.getElem_cons_zero, List.getElem_cons_succ]
  refine wpAnyH_take (i := 5) (v := ?_) rfl (by kernel_rfl) (by kernel_rfl) (by kernel_rfl) (fun _ _ _ h => h) (Or.inl ⟨by rfl, ?_⟩) (by assumption) ?_
  rotate_left
  · intro w hSw
    go_simp
    with_reducible rfl
  simp only [Act.put, List.setIfInBounds_toArray, List.set_cons_zero, List.set_cons_succ, List.getElem_toArray, List.getElem_cons_zero, List.getElem_cons_succ]
  refine wpAnyH_ready (rs := [4]) (by kernel_rfl) (by simp) ?_
  refine AllReadyH.cons rfl (fun K hK => ?_) AllReadyH.nil
  go_simp
  refine hK.out _ _ (HS.out _ rfl) (fun hHeld => ?_)
  clear hK K
  refine wpAnyH_ready (rs := [6]) (by kernel_rfl) (by simp) ?_
  refine AllReadyH.cons rfl (fun K hK => ?_) AllReadyH.nil
  go_simp
  refine Calls.mono (cd w4.drew) ?_
  rintro r w5 ⟨rfl, b5⟩
  have b5a : w5.heap[w.heap.size]? = w4.heap[w.heap.size]? := b5.block _ HA4.out.lt
  have HH5 : Hid (Box w5 g (jC g dg (.slice (some ⟨q, 0, none⟩) nd c3) J) 47) := (b5.block _ HH4.out.lt).trans HH4.out
  have HR5 : Hid (w5.ownsRow 0 3 1 (.slice (some ⟨q, 0, none⟩) nd c3) (xs.drop c).length (ics (xs.drop c))) := owns_kept HR4.out (fun k hk => b5.block k (HR4.out.lt k hk).2)
  have HU5 : Hid (Dk.Upd (fun k => k = g ∨ some q = some k) w w5) := by
    have u := HU4.out
    exact ⟨b5.os.trans u.os, b5.tape.trans u.tape, b5.output.trans u.output, Nat.le_trans u.size b5.size, fun k hk hn => (b5.block k (Nat.lt_of_lt_of_le hk u.size)).trans (u.block k hk hn)⟩
  refine hK.out _ _ (HS.out _ b5a) (fun hHeld => ?_)
  clear hK K g6 g7 g8 g9
  refine wpAnyH_take (i := 7) (v := ?_) rfl (by kernel_rfl) (by kernel_rfl) (by kernel_rfl) (fun _ _ _ h => h) (Or.inl ⟨by rfl, ?_⟩) (by assumption) ?_
  rotate_left
  · intro w hSw
    go_simp
    with_reducible rfl
  simp only [Act.put, List.setIfInBounds_toArray, List.set_cons_zero, List.set_cons_succ, List.getElem_toArray, List.getElem_cons_zero, List.getElem_cons_succ]
  refine wpAnyH_take (i := 8) (v := ?_) rfl (by kernel_rfl) (by kernel_rfl) (by kernel_rfl) (fun _ _ _ h => h) (Or.inl ⟨by rfl, ?_⟩) (by assumption) ?_
  rotate_left
  · intro w hSw
    go_simp
    with_reducible rfl
  simp only [Act.put, List.setIfInBounds_toArray, List.set_cons_zero, List.set_cons_succ, List.getElem_toArray, List.getElem_cons_zero, List.getElem_cons_succ]
  refine wpAnyH_ready (rs := [9]) (by kernel_rfl) (by simp) ?_
  refine AllReadyH.cons rfl (fun K hK => ?_) AllReadyH.nil
  go_simp
  refine Calls.mono (turn_ok HH5.out J.S ((J.T + sm) % J.S) (J.U - sm) J.H) ?_
  rintro r w6 ⟨rfl, rfl⟩
  have al := (Below.refl w5.heap.size w5).alloc (Nat.le_refl _) (.cells #[.int .i64 J.S, .int .i64 ((J.T + sm) % J.S), .int .i64 (J.U - sm), .int .i64 J.H] 37)
  have HH6 := box_ring (HH5.out.alloc (.cells #[.int .i64 J.S, .int .i64 ((J.T + sm) % J.S), .int .i64 (J.U - sm), .int .i64 J.H] 37)) J.S ((J.T + sm) % J.S) (J.U - sm) J.H
  have hset : ∀ k, k ≠ g → k < w5.heap.size → (((((w5.alloc (.cells #[.int .i64 J.S, .int .i64 ((J.T + sm) % J.S), .int .i64 (J.U - sm), .int .i64 J.H] 37)).setCell ⟨g, 6, none⟩ (.int .i64 J.S)).setCell ⟨g, 7, none⟩ (.int .i64 ((J.T + sm) % J.S))).setCell ⟨g, 8, none⟩ (.int .i64 (J.U - sm))).setCell ⟨g, 9, none⟩ (.int .i64 J.H)).heap[k]? = w5.heap[k]? := fun k hk hl => by
    rw [heap_setCell_other _ ⟨g, 9, none⟩ k _ (by simpa using hk), heap_setCell_other _ ⟨g, 8, none⟩ k _ (by simpa using hk), heap_setCell_other _ ⟨g, 7, none⟩ k _ (by simpa using hk), heap_setCell_other _ ⟨g, 6, none⟩ k _ (by simpa using hk)]
    exact al.block k hl
  have HR6 : (((((w5.alloc (.cells #[.int .i64 J.S, .int .i64 ((J.T + sm) % J.S), .int .i64 (J.U - sm), .int .i64 J.H] 37)).setCell ⟨g, 6, none⟩ (.int .i64 J.S)).setCell ⟨g, 7, none⟩ (.int .i64 ((J.T + sm) % J.S))).setCell ⟨g, 8, none⟩ (.int .i64 (J.U - sm))).setCell ⟨g, 9, none⟩ (.int .i64 J.H)).ownsRow 0 3 1 (.slice (some ⟨q, 0, none⟩) nd c3) (xs.drop c).length (ics (xs.drop c)) := owns_kept HR5.out (fun k hk => hset k (fun e => hqg (by rw [HV3.out] at hk; injection hk with hk; rw [hk, e])) (HR5.out.lt k hk).2)
  have HU6 : Dk.Upd (fun k => k = g ∨ some q = some k) w (((((w5.alloc (.cells #[.int .i64 J.S, .int .i64 ((J.T + sm) % J.S), .int .i64 (J.U - sm), .int .i64 J.H] 37)).setCell ⟨g, 6, none⟩ (.int .i64 J.S)).setCell ⟨g, 7, none⟩ (.int .i64 ((J.T + sm) % J.S))).setCell ⟨g, 8, none⟩ (.int .i64 (J.U - sm))).setCell ⟨g, 9, none⟩ (.int .i64 J.H)) := by
    have u := HU5.out
    have ub : Dk.Upd (fun k => k = g ∨ some q = some k) w (w5.alloc (.cells #[.int .i64 J.S, .int .i64 ((J.T + sm) % J.S), .int .i64 (J.U - sm), .int .i64 J.H] 37)) := ⟨al.os.trans u.os, al.tape.trans u.tape, al.output.trans u.output, Nat.le_trans u.size al.size, fun k hk hn => (al.block k (Nat.lt_of_lt_of_le hk u.size)).trans (u.block k hk hn)⟩
    exact upd_set (upd_set (upd_set (upd_set ub g 6 (.inl (.inl rfl)) _) g 7 (.inl (.inl rfl)) _) g 8 (.inl (.inl rfl)) _) g 9 (.inl (.inl rfl)) _
  have hSa : (((((w5.alloc (.cells #[.int .i64 J.S, .int .i64 ((J.T + sm) % J.S), .int .i64 (J.U - sm), .int .i64 J.H] 37)).setCell ⟨g, 6, none⟩ (.int .i64 J.S)).setCell ⟨g, 7, none⟩ (.int .i64 ((J.T + sm) % J.S))).setCell ⟨g, 8, none⟩ (.int .i64 (J.U - sm))).setCell ⟨g, 9, none⟩ (.int .i64 J.H)).heap[w.heap.size]? = w4.heap[w.heap.size]? := (hset _ (Ne.symm hga) (Nat.lt_of_lt_of_le HA4.out.lt b5.size)).trans b5a
  obtain ⟨hd, hFg, hFv, hFd, hFF, hFlt⟩ := HD.out
  have fin := JTo.same hd hFg hFv hFd hFF hFlt HH6 HR6 HV3.out HU6
  refine hK.out _ _ (HS.out _ hSa) (fun hHeld => ?_)
  clear hK K HH6 HR6 HU6 hset hSa al
  generalize ((((w5.alloc (.cells #[.int .i64 J.S, .int .i64 ((J.T + sm) % J.S), .int .i64 (J.U - sm), .int .i64 J.H] 37)).setCell ⟨g, 6, none⟩ (.int .i64 J.S)).setCell ⟨g, 7, none⟩ (.int .i64 ((J.T + sm) % J.S))).setCell ⟨g, 8, none⟩ (.int .i64 (J.U - sm))).setCell ⟨g, 9, none⟩ (.int .i64 J.H) = w7 at fin hHeld ⊢
  refine wpAnyH_ready (rs := [10]) (by kernel_rfl) (by simp) ?_
  refine AllReadyH.cons rfl (fun K hK => ?_) AllReadyH.nil
  go_simp
  refine hK.out _ _ hHeld (fun hHeld => ?_)
  clear hK K
  refine wpAnyH_done (by kernel_rfl) ?_ _
  refine NoPanic.normal ?_
  go_wp2_with fail
  go_ret
  exact ⟨rfl, fin⟩
end Go.Proofs.Ytglahlbponlepaa.J

/-
  The law's groups: images at the blocks from 30 on.
-/
namespace Go.Proofs.Ytglahlbponlepaa.J
open Go.RowKit
open Go.Proofs.Ytglahlbponlepaa.Dk (Box)

/-- so many blocks from 30 on -/
def rowL (n : Nat) : List Int := (List.range n).map fun i : Nat => 30 + (i : Int)
theorem rowL_length (n : Nat) : (rowL n).length = n := by simp [rowL]
theorem row_cells {w : World} {B n : Nat} {v : Value} (h : w.ownsRow B 3 1 v n (upL 30 n)) (h0 : 0 < n) : ∃ b c, v = .slice (some ⟨b, 0, none⟩) n c ∧ ∀ j (h : j < (rowL n).length), w.cell? ⟨b, 0 + j, none⟩ = some (.int .i64 (rowL n)[j]) := by
  obtain ⟨a, c, rfl⟩ := Rc.owns_shape h
  obtain ⟨g, rfl, _, _, hc⟩ := Rc.owns_cells h h0
  refine ⟨g, c, rfl, fun j hj => ?_⟩
  rw [rowL_length] at hj
  rw [Nat.zero_add, hc j (by omega)]
  simp [upL, rowL, hj]
/-- the images of the law's group -/
def grpL (N n : Nat) : List (Int × List UInt8) := imgL (rowL n) N n
theorem grpL_length (N n : Nat) : (grpL N n).length = n := imgL_length _ _ _
theorem grpL_fst (N n : Nat) : (grpL N n).map (·.1) = rowL n := by
  refine List.ext_getElem (by simp [grpL_length, rowL_length]) fun i h1 h2 => ?_
  rw [rowL_length] at h2
  simp [grpL, imgL, rowL, h2]
theorem img_len (bs : List Int) (f : Nat → List UInt8) (hf : ∀ i, (f i).length = 4096) (k : Nat) : ∀ x ∈ (List.range k).map (fun i => (bs.getD i 0, f i)), x.2.length = 4096 := fun x hx => by
  obtain ⟨j, _, e⟩ := List.mem_map.1 hx
  rw [← e]
  exact hf j
theorem grpL_ok (e s : Int) (N n : Nat) (h1 : 1 ≤ n) (h2 : n ≤ 32) (hs : Rc.okStamp e s = true) : Rc.okGroup e s (grpL N n) := by
  refine ⟨⟨hs, ?_, ?_⟩, fun i hi => ?_⟩
  · rw [grpL_fst, rowL_length]
    exact ⟨h1, h2⟩
  · rw [grpL_fst, rowL_length]
    intro j hj _
    rw [rowL_length] at hj
    have e : (rowL n)[j] = 30 + (j : Int) := by simp [rowL]
    rw [e]
    refine ⟨by omega, fun hm => ?_⟩
    obtain ⟨i, hi, hie⟩ := List.getElem_of_mem hm
    have hi2 : i < j := by simp [rowL_length] at hi; omega
    simp [rowL] at hie
    omega
  · exact img_len (rowL n) (fun i => Rc.madeL (nk N i : Int) 4096) (fun i => Rc.madeK_length _ _ _) n i hi
end Go.Proofs.Ytglahlbponlepaa.J

/-
  SameInts.
-/
namespace Go.Proofs.Ytglahlbponlepaa.Dk
open Go.RowKit

/-- These whole numbers lie where a says (of none nothing is asked). -/
def RdI (w : World) (a : Option Addr) (zs : List Int) : Prop :=
  0 < zs.length → ∃ b o, a = some ⟨b, o, none⟩ ∧ ∀ j (h : j < zs.length), w.cell? ⟨b, o + j, none⟩ = some (.int .i64 zs[j])
theorem RdI.below {B : Nat} {w w' : World} {a : Option Addr} {zs : List Int} (h : RdI w a zs) (hb : Below B w w') (hB : w.heap.size ≤ B) : RdI w' a zs := fun hp => by
  obtain ⟨b, o, ha, hc⟩ := h hp
  refine ⟨b, o, ha, fun j hj => ?_⟩
  have hlt : b < w.heap.size := block_lt_of_cell (hc j hj)
  rw [hb.cell (p := ⟨b, o + j, none⟩) (Nat.lt_of_lt_of_le hlt hB)]
  exact hc j hj

set_option maxRecDepth 100000 in
theorem sameInts_self (n ca cb : Nat) (b o b' o' : Nat) (zs : List Int) (w : World) (hl : zs.length = n) (hn : n ≤ 9223372036854775807)
    (h1 : ∀ j (h : j < zs.length), w.cell? ⟨b, o + j, none⟩ = some (.int .i64 zs[j])) (h2 : ∀ j (h : j < zs.length), w.cell? ⟨b', o' + j, none⟩ = some (.int .i64 zs[j])) :
    Calls Try.prog 50 #[.slice (some ⟨b, o, none⟩) n ca, .slice (some ⟨b', o', none⟩) n cb] w fun e w' => e = .returned (.bool true) ∧ Below w.heap.size w w' := by
  have Hl : Hid _ := hl
  have H1 : Hid _ := h1
  have H2 : Hid _ := h2
  clear hl h1 h2
  go_enter Try.func50, Try.ntmps50
  go_wp2_with fail
  go_loopw [5] (fun i wr => ∃ k : Nat, k ≤ n ∧ i = .int .i64 k ∧ ∃ q, wr = w.drewN q) (fun i _ => n - (intOf i).toNat)
  case atStart => exact ⟨0, Nat.zero_le _, rfl, 0, rfl⟩
  case round =>
    obtain ⟨k, hk, rfl, q, rfl⟩ := hrel
    by_cases hlt : k < n
    · have hk' : k < zs.length := by rw [Hl.out]; exact hlt
      have a1 : (w.drewN q).cell? ⟨b, o + k, none⟩ = some (.int .i64 zs[k]) := H1.out k hk'
      have a2 : (w.drewN q).cell? ⟨b', o' + k, none⟩ = some (.int .i64 zs[k]) := H2.out k hk'
      generalize (zs[k]'hk') = z at a1 a2
      have hlt2 : (k : Int) < n := by omega
      obtain ⟨V, hV⟩ : ∃ V, V = w.drewN q := ⟨_, rfl⟩
      rw [← hV] at a1 a2 ⊢
      have HV : Hid _ := hV
      clear hV
      go_wp2_with fail
      go_quiet (fail)
      have hz : ∃ q', V.drewN nq = w.drewN q' := by rw [HV.out]; exact ⟨q + nq, by simp [World.drewN, Nat.add_assoc]⟩
      obtain ⟨q', hq'⟩ := hz
      rw [hq']
      clear hq'
      go_wp2
      go_roundw
      case rel => exact ⟨k + 1, by omega, by go_num, q', rfl⟩
      case measure => simp [intOf]; omega
    · obtain rfl : k = n := by omega
      go_wp2
      go_ret
      exact ⟨rfl, ⟨rfl, rfl, rfl, Nat.le_refl _, fun _ _ => rfl⟩⟩
end Go.Proofs.Ytglahlbponlepaa.Dk

/-
  The journal's calls, said of a journal with its disk.
-/
namespace Go.Proofs.Ytglahlbponlepaa.J
open Go.RowKit
open Go.Proofs.Ytglahlbponlepaa.Dk (Box)

section
variable {w : World} {g dg : Nat} {J : JS} {xs : List Int} {D : Dk.DS} {F : Nat → Prop}
theorem JD.box (h : JD w g dg J xs D F) : ∃ a c, Box w g (jC g dg (.slice a xs.length c) J) 47 := by
  obtain ⟨⟨vs, Fd, h1, _, _, h4, _⟩, _, _⟩ := h
  obtain ⟨a, c, rfl⟩ := Rc.owns_shape h4
  exact ⟨a, c, h1⟩
theorem JD.disk (h : JD w g dg J xs D F) : ∃ Fd, Dk.IsDisk w dg D Fd ∧ ∀ i, Fd i → F i := by
  obtain ⟨⟨vs, Fd, _, h2, _, _, _, h6⟩, _, _⟩ := h
  exact ⟨Fd, h2, h6⟩

theorem flush_to (h : JD w g dg J xs D F) (hb : J.broken = false) (hE : D.operE = 0) (h1 : 1 ≤ J.next) (h2 : J.next ≤ 549755813889) :
    Calls Try.prog 9 #[.pointer (some ⟨g, 0, none⟩)] w fun r w' => r = .returned (.int .i64 0) ∧ JTo w F g dg { J with synced := J.next - 1 } xs D.flush w' := by
  obtain ⟨⟨vs, Fd, b1, b2, b3, b4, b5, b6⟩, b7, b8⟩ := h
  refine (flush_good b1 b2 b3 hb hE h1 h2).mono ?_
  rintro r w' ⟨rfl, u, d1, d2, d3, rfl⟩
  have hs : ∀ k, k ≠ g → (u.setCell ⟨g, 5, none⟩ (.int .i64 (J.next - 1))).heap[k]? = u.heap[k]? := fun k hk => heap_setCell_other u ⟨g, 5, none⟩ k _ (by simpa using hk)
  have s := Dk.grown_store u g 5 (.int .i64 (J.next - 1))
  have row : u.ownsRow 0 3 1 vs xs.length (ics xs) := owns_kept b4 (fun k hk => d2.block k (b8 k (b5 k hk).2) (b5 k hk).1)
  have hne : ∀ k, vs.ownBlock = some k → k ≠ g := fun k hk e => by
    obtain ⟨_, cur, hx⟩ := Rc.owns_block row k hk
    subst e
    exact d3.ne hx (by decide) rfl
  have z1 := d2.size
  have z2 := s.size
  refine ⟨rfl, F, ⟨⟨vs, Fd, box_synced d3 _, disk_kept d1 (fun i hi => hs i (fun e => b3 (e ▸ hi))) s.size, b3, owns_kept row (fun k hk => hs k (hne k hk)), b5, b6⟩, b7, fun i hi => by have := b8 i hi; omega⟩, fun i hi => .inl hi, ?_⟩
  refine upd_set ⟨d2.os, d2.tape, d2.output, d2.size, fun k hk hn => d2.block k hk (fun hf => hn (b6 k hf))⟩ g 5 (.inl b7) _
theorem tail_to (h : JD w g dg J xs D F) (h0 : (xs.length : Int) ≤ J.next) (h1 : J.next ≤ 549755813889) :
    Calls Try.prog 21 #[.pointer (some ⟨g, 0, none⟩)] w fun r w' => r = .returned (.tuple #[.int .i64 J.T, .int .i64 (J.next - xs.length)]) ∧ ∃ k, w' = w.drewN k := by
  obtain ⟨a, c, hb⟩ := h.box
  exact tail_at hb h0 h1
theorem groups_to (h : JD w g dg J xs D F) (h0 : (xs.length : Int) ≤ J.next) (h1 : J.next ≤ 549755813889) (hn : xs.length ≤ 1000) :
    Calls Try.prog 22 #[.pointer (some ⟨g, 0, none⟩)] w fun r w' => ∃ v, r = .returned v ∧ w'.ownsRow w.heap.size 3 1 v xs.length (upL (J.next - xs.length) xs.length) ∧ Below w.heap.size w w' := by
  obtain ⟨a, c, hb⟩ := h.box
  exact groups_at hb h0 h1 hn
theorem pending_to (h : JD w g dg J xs D F) (hl : D.uf.length ≤ 1000000) :
    Calls Try.prog 49 #[.pointer (some ⟨dg, 0, none⟩)] w fun e w' => ∃ v, e = .returned v ∧ w'.ownsRow w.heap.size 3 1 v D.uf.length (Dk.pend D.uf D.uf.length) ∧ Below w.heap.size w w' := by
  obtain ⟨Fd, hd, _⟩ := h.disk
  exact Dk.pending_at hd hl
end
theorem row_law (n : Nat) (w : World) (h0 : 0 < n) (hn : n ≤ 1000) :
    Calls Try.prog 8 #[.int .i64 (n : Int)] w fun r w' => ∃ b c, r = .returned (.slice (some ⟨b, 0, none⟩) n c) ∧ (∀ j (h : j < (rowL n).length), w'.cell? ⟨b, 0 + j, none⟩ = some (.int .i64 (rowL n)[j])) ∧ Below w.heap.size w w' := by
  refine (row_at n w hn).mono ?_
  rintro r w' ⟨v, rfl, ho, hb⟩
  obtain ⟨b, c, rfl, hc⟩ := row_cells ho h0
  exact ⟨b, c, rfl, hc, hb⟩
theorem images_law (n N : Nat) (w : World) (b c : Nat) (hc : ∀ j (h : j < (rowL n).length), w.cell? ⟨b, 0 + j, none⟩ = some (.int .i64 (rowL n)[j])) (hn : n ≤ 40) (hN : N ≤ 2000000) :
    Calls Try.prog 7 #[.slice (some ⟨b, 0, none⟩) n c, .int .i64 (N : Int)] w fun r w' => ∃ a' c', r = .returned (.slice a' n c') ∧ Rc.Imgs w' a' (grpL N n) ∧ Below w.heap.size w w' := by
  refine (images_at w b 0 n c N (rowL n) (rowL_length n) hn hN hc).mono ?_
  rintro r w' ⟨a', c', qs, rfl, ho, hj, hq, hb⟩
  have hlen : qs.length = n := by
    have := congrArg List.length hq
    simpa [imgL_length] using this
  have := Rc.imgs_of ho hj hlen
  rw [hq] at this
  exact ⟨a', c', rfl, this, hb⟩
theorem below_upd {B0 : Nat} {w u v : World} {F : Nat → Prop} (b : Below B0 w u) (h : Dk.Upd F u v) (hF : ∀ i, F i → B0 ≤ i) (hz : B0 ≤ u.heap.size) : Below B0 w v :=
  ⟨h.os.trans b.os, h.tape.trans b.tape, h.output.trans b.output, Nat.le_trans b.size h.size, fun k hk => (h.block k (by omega) (fun hf => by have := hF k hf; omega)).trans (b.block k hk)⟩
end Go.Proofs.Ytglahlbponlepaa.J

/-
  The law's disk of 64 blocks and its journal.
-/
namespace Go.Proofs.Ytglahlbponlepaa.J
open Go.RowKit
open Go.Proofs.Ytglahlbponlepaa.Dk (Box)

theorem opened_at (t : Nat) (w : World) (ht : t ≤ 15) :
    Calls Try.prog 5 #[.int .i64 (t : Int)] w fun r w' => ∃ g j F, r = .returned (.tuple #[.pointer (some ⟨g, 0, none⟩), .pointer (some ⟨j, 0, none⟩), .bool true]) ∧ w.heap.size ≤ j ∧ Dk.IsDisk w' g (Dk.DS.new 64 (Dk.nought (64 * 4096))) F ∧ ¬ F j ∧ (∀ i, F i → w.heap.size ≤ i) ∧ Box w' j (jC j g (.slice none 0 0) (opened 64 1 1 t)) 47 ∧ Below w.heap.size w w' := by
  go_enter Try.func5, Try.ntmps5
  go_wp2_with fail
  refine (Dk.new_at 64 w (by decide) (by decide)).mono ?_
  rintro r w1 ⟨g, rfl, hN⟩
  go_wp2_with fail
  refine (La.ref_good 64 _ (by decide) (by decide)).mono ?_
  rintro r w2 ⟨rfl, b2⟩
  unfold La.layA
  go_wp2_with fail
  obtain ⟨F, ⟨gd, cd, vu, ps, hl⟩, hF, b1⟩ := hN
  have B2 := b1.trans (b2.mono b1.size)
  have B3 := b2.alloc b2.size (.cells #[.int .i64 64, .int .i64 2, .int .i64 (La.lgs 64 : Int), .int .i64 (2 + (La.lgs 64 : Int)), .int .i64 (3 + (La.lgs 64 : Int)), .int .i64 4, .int .i64 (3 + (La.lgs 64 : Int) + 4)] 40)
  have hl' := hl.kept (fun i hi => B3.block i (hl.flt i hi)) B3.size
  have hL : La.lgs 64 = 16 := by decide
  have c := open_good hl' (by show 64 ≤ 64; decide) (by show 64 ≤ 512; decide) 1 1 t (by decide) (by decide) (by show 0 ≤ (t : Int) ∧ (t : Int) ≤ (La.lgs 64 : Int) - 1; rw [hL]; omega)
  refine Calls.mono c ?_
  rintro r w3 ⟨j, hj, rfl, hbx, b3⟩
  have B4 := B2.trans ((((Below.refl w2.heap.size w2).alloc (Nat.le_refl _) _).trans (b3.mono (by simp))).mono B2.size)
  have hlj : Dk.Lies w3 g _ F gd cd vu ps := hl'.kept (fun i hi => b3.block i (hl'.flt i hi)) b3.size
  go_wp2_with fail
  refine bodyPost_ret (v := .tuple #[.pointer (some ⟨g, 0, none⟩), .pointer (some ⟨j, 0, none⟩), .bool true]) (by simp [results, Try.results5, go_sem]) rfl ⟨g, j, F, rfl, ?_, ⟨gd, cd, vu, ps, hlj⟩, ?_, hF, hbx, B4⟩
  · have := B2.size
    have h1 : w2.heap.size + 1 ≤ j := by simpa using hj
    omega
  · intro hf
    have h1 := hl'.flt j hf
    omega
end Go.Proofs.Ytglahlbponlepaa.J

/-
  The law's awake: the chapter's examples.
-/
namespace Go.Proofs.Ytglahlbponlepaa.J
open Go.RowKit
open Go.Proofs.Ytglahlbponlepaa.Dk (Box)

/-- a disk of 64 blocks that nothing stops, with writes to these blocks -/
def DK (D : Dk.DS) (ps : List Nat) : Prop := Calm D ∧ D.nb = 64 ∧ D.uf.map (·.1) = ps ∧ D.n ≤ 1000 + ps.length
theorem DK.len {D : Dk.DS} {ps : List Nat} (h : DK D ps) : D.uf.length = ps.length := by
  have := congrArg List.length h.2.2.1
  simpa using this

theorem opened_law (t : Nat) (T : Int) (w : World) (ht : t ≤ 15) (hT : T = (t : Int)) :
    Calls Try.prog 5 #[.int .i64 T] w fun r w' => ∃ dg g F D, r = .returned (.tuple #[.pointer (some ⟨dg, 0, none⟩), .pointer (some ⟨g, 0, none⟩), .bool true]) ∧ JD w' g dg ⟨2, 1, 1, 0, 16, T, 0, 0, false⟩ [] D F ∧ DK D [] ∧ (∀ i, F i → w.heap.size ≤ i) ∧ Below w.heap.size w w' := by
  subst hT
  refine (opened_at t w ht).mono ?_
  rintro r w' ⟨dg, g, F, rfl, hj, hd, hFg, hF, hb, B⟩
  have e : opened 64 1 1 (t : Int) = ⟨2, 1, 1, 0, 16, (t : Int), 0, 0, false⟩ := by
    have hL : La.lgs 64 = 16 := by decide
    simp [opened, hL]
  rw [e] at hb
  refine ⟨dg, g, fun i => F i ∨ i = g, _, rfl, ⟨⟨.slice none 0 0, F, hb, hd, hFg, World.ownsRow_nil _ _ _ _, fun k hk => (by cases hk), fun i hi => .inl hi⟩, .inr rfl, fun i hi => ?_⟩, ⟨calm_new _ _, rfl, rfl, ?_⟩, fun i hi => ?_, B⟩
  · rcases hi with hi | rfl
    · obtain ⟨gd, cd, vu, ps, hl⟩ := hd
      exact hl.flt i hi
    · exact hb.lt
  · show 0 ≤ 1000 + 0
    omega
  · rcases hi with hi | rfl
    · exact hF i hi
    · exact hj

/-- a group of the law is appended: the journal then -/
theorem append_law {w : World} {g dg cap : Nat} {al : Option Addr} {J J' : JS} {xs xs' : List Int} {D : Dk.DS} {F : Nat → Prop} {ps ps' : List Nat} (N n : Nat) (hJ : JD w g dg J xs D F) (hD : DK D ps) (hI : Rc.Imgs w al (grpL N n)) (h1 : 1 ≤ n) (h2 : n ≤ 32)
    (hJ' : J' = { J with next := J.next + 1, U := J.U + (n + 1 : Nat), H := J.H - 0 }) (hxs : xs' = xs ++ [((n + 1 : Nat) : Int)]) (hps : ps' = ps ++ (List.range (n + 1)).map fun i => 2 + (((J.T + J.U) % J.S).toNat + i) % J.S.toNat)
    (hb : J.broken = false) (hs : Rc.okStamp J.epoch J.next = true) (hR : Rg.R J.S J.T J.U J.H) (hr : ((n + 1 : Nat) : Int) ≤ Rg.fr J.S J.T J.U J.H) (hlog : J.log = 2) (hS : J.S = 16) (hx : xs.length ≤ 1000) (hl : ps.length ≤ 10000) :
    Calls Try.prog 6 #[.pointer (some ⟨g, 0, none⟩), .slice al n cap, .bool false] w fun r w' => r = .returned (.tuple #[.int .i64 J.next, .int .i64 0]) ∧ ∃ D', DK D' ps' ∧ JTo w F g dg J' xs' D' w' := by
  subst hJ' hxs
  have hlen := hD.len
  obtain ⟨d1, d2, d3, d4⟩ := hD
  refine (append_ok (cap := cap) hJ hb (grpL_length N n) hI (grpL_ok _ _ N n h1 h2 hs) hR hr hlog d1 (by omega) (by omega) (by omega) (by omega) hx).mono ?_
  rintro r w' ⟨rfl, h⟩
  refine ⟨rfl, _, ?_, h⟩
  refine ⟨d1, d2, ?_, ?_⟩
  · subst hps
    simp only [grow, List.map_append, d3, wrs, List.map_map]
    rfl
  · subst hps
    show D.n + (n + 1) ≤ _
    simp
    omega

set_option maxRecDepth 100000 in
theorem awake_at (w : World) : Calls Try.prog 20 #[] w fun r w' => r = .returned (.bool true) ∧ Below w.heap.size w w' := by
  go_enter Try.func20, Try.ntmps20
  go_wp2_with fail
  refine (opened_law 14 14 w (by decide) rfl).mono ?_
  rintro r w1 ⟨dg, g, F1, D1, rfl, hJ1, hD1, hF1, B1⟩
  go_wp2_with fail
  refine (row_law 1 w1 (by decide) (by decide)).mono ?_
  rintro r w2 ⟨b2, c2, rfl, hc2, b2b⟩
  go_wp2_with fail
  refine (images_law 1 1 w2 b2 c2 hc2 (by decide) (by decide)).mono ?_
  rintro r w3 ⟨a3, c3, rfl, hI3, b3⟩
  have hJ3 : JD w3 g dg ⟨2, 1, 1, 0, 16, 14, 0, 0, false⟩ [] D1 F1 := (hJ1.below hJ1.flt b2b b2b.size).below (fun i hi => Nat.lt_of_lt_of_le (hJ1.flt i hi) b2b.size) b3 b3.size
  have B3 := B1.trans ((b2b.trans (b3.mono b2b.size)).mono B1.size)
  clear hJ1 B1 b2b b3 hc2
  go_wp2_with fail
  refine (append_law (cap := c3) (J' := ⟨2, 1, 2, 0, 16, 14, 2, 0, false⟩) (xs' := [2]) (ps' := [16, 17]) 1 1 hJ3 hD1 hI3 (by decide) (by decide) rfl rfl rfl rfl rfl (by decide) (by decide) rfl rfl (by decide) (by decide)).mono ?_
  rintro r w4 ⟨rfl, D2, hD2, F2, hJ4, hF2, hU4⟩
  have hF2w : ∀ i, F2 i → w.heap.size ≤ i := fun i hi => (hF2 i hi).elim (hF1 i) (Nat.le_trans B3.size)
  have B4 := below_upd B3 hU4 hF1 B3.size
  clear hJ3 hD1 hI3 B3 hF2 hU4 hF1
  go_wp2_with fail
  refine (row_law 2 w4 (by decide) (by decide)).mono ?_
  rintro r w5 ⟨b5, c5, rfl, hc5, b5b⟩
  go_wp2_with fail
  refine (images_law 2 2 w5 b5 c5 hc5 (by decide) (by decide)).mono ?_
  rintro r w6 ⟨a6, c6, rfl, hI6, b6⟩
  have hJ6 := (hJ4.below hJ4.flt b5b b5b.size).below (fun i hi => Nat.lt_of_lt_of_le (hJ4.flt i hi) b5b.size) b6 b6.size
  have B6 := B4.trans ((b5b.trans (b6.mono b5b.size)).mono B4.size)
  clear hJ4 B4 b5b b6 hc5
  go_wp2_with fail
  refine (append_law (cap := c6) (J' := ⟨2, 1, 3, 0, 16, 14, 5, 0, false⟩) (xs' := [2, 3]) (ps' := [16, 17, 2, 3, 4]) 2 2 hJ6 hD2 hI6 (by decide) (by decide) rfl rfl rfl rfl rfl (by decide) (by decide) rfl rfl (by decide) (by decide)).mono ?_
  rintro r w7 ⟨rfl, D3, hD3, F3, hJ7, hF3, hU7⟩
  have hF3w : ∀ i, F3 i → w.heap.size ≤ i := fun i hi => (hF3 i hi).elim (hF2w i) (Nat.le_trans B6.size)
  have B7 := below_upd B6 hU7 hF2w B6.size
  clear hJ6 hD2 hI6 B6 hF3 hU7 hF2w
  go_wp2_with fail
  refine (pending_to hJ7 (by rw [hD3.len]; decide)).mono ?_
  rintro r w8 ⟨vp, rfl, hp8, b8⟩
  rw [hD3.len] at hp8
  have hpe : Dk.pend D3.uf [16, 17, 2, 3, 4].length = ics [16, 17, 2, 3, 4] := by
    rw [← hD3.len, Dk.pend_all, hD3.2.2.1]
    rfl
  rw [hpe] at hp8
  obtain ⟨ap, cp, rfl⟩ := Rc.owns_shape hp8
  obtain ⟨gp, rfl, hgp, ⟨curp, hbp⟩, hcp⟩ := Rc.owns_cells hp8 (by decide)
  have hgpF : ¬ F3 gp := fun h => by have := hJ7.flt gp h; omega
  have hJ8 := hJ7.below hJ7.flt b8 b8.size
  have B8 := B7.trans (b8.mono B7.size)
  have HBP : Hid (Box w8 gp curp 3) := hbp
  have HCP : Hid (∀ j, j < [16, 17, 2, 3, 4].length * 1 → w8.cell? ⟨gp, j, none⟩ = (ics [16, 17, 2, 3, 4])[j]?) := hcp
  clear hJ7 B7 b8 hp8 hpe hbp hcp
  go_wp2_with fail
  refine (tail_to hJ8 (by decide) (by decide)).mono ?_
  rintro r w9 ⟨rfl, k9, rfl⟩
  have hJ9 : JD (w8.drewN k9) g dg _ _ _ _ := hJ8.kept (fun _ _ => rfl) (Nat.le_refl _)
  clear hJ8
  go_wp2_with fail
  refine (flush_to hJ9 rfl hD3.1.operE (by decide) (by decide)).mono ?_
  rintro r w10 ⟨rfl, F4, hJ10, hF4, hU10⟩
  have B9 : Below w.heap.size w (w8.drewN k9) := below_drewN B8 k9
  have hF4w : ∀ i, F4 i → w.heap.size ≤ i := fun i hi => (hF4 i hi).elim (hF3w i) (Nat.le_trans B9.size)
  have B10 := below_upd B9 hU10 hF3w B9.size
  have e10 : w10.heap[gp]? = w8.heap[gp]? := hU10.block gp HBP.out.lt hgpF
  have hgpF4 : ¬ F4 gp := fun h => (hF4 gp h).elim hgpF (fun h => by have := HBP.out.lt; have e : (w8.drewN k9).heap.size = w8.heap.size := rfl; omega)
  clear hJ9 B8 B9 hU10 hF4 hF3w
  go_wp2_with fail
  refine (release_ok hJ10 rfl 1 (by decide) (by decide) (by decide) (by decide) (by decide) (by decide) (by decide) 1 (by decide) (by decide)).mono ?_
  rintro r w11 ⟨rfl, F5, hJ11, hF5, hU11⟩
  have B11 := below_upd B10 hU11 hF4w B10.size
  have l10 : gp < w10.heap.size := (Array.getElem?_eq_some_iff.1 (e10.trans HBP.out)).1
  have e11 : w11.heap[gp]? = w8.heap[gp]? := (hU11.block gp l10 hgpF4).trans e10
  clear hJ10 B10 hU11 hF5 hF4w hgpF hgpF4
  go_wp2_with fail
  refine (tail_to hJ11 (by decide) (by decide)).mono ?_
  rintro r w12 ⟨rfl, k12, rfl⟩
  have hJ12 : JD (w11.drewN k12) g dg _ _ _ _ := hJ11.kept (fun _ _ => rfl) (Nat.le_refl _)
  have B12 : Below w.heap.size w (w11.drewN k12) := below_drewN B11 k12
  have e12 : (w11.drewN k12).heap[gp]? = w8.heap[gp]? := e11
  clear hJ11 B11 e11 e10 l10
  generalize w11.drewN k12 = w13 at hJ12 B12 e12 ⊢
  go_wp2_with fail
  have l13 : gp < w13.heap.size := (Array.getElem?_eq_some_iff.1 (e12.trans HBP.out)).1
  have cS := Dk.sameInts_self 5 cp 5 gp 0 w13.heap.size 0 [16, 17, 2, 3, 4] (w13.alloc (.cells #[.int .i64 16, .int .i64 17, .int .i64 2, .int .i64 3, .int .i64 4] 3)) rfl (by decide)
    (fun j hj => by
      have h1 := HCP.out j (by simpa using hj)
      rw [Nat.zero_add]
      have h2 : (w13.alloc (.cells #[.int .i64 16, .int .i64 17, .int .i64 2, .int .i64 3, .int .i64 4] 3)).heap[gp]? = w8.heap[gp]? := (heap_alloc_old w13 _ l13).trans e12
      rw [World.cell?_of_block (a := ⟨gp, j, none⟩) h2, h1]
      simp only [List.length_cons, List.length_nil] at hj
      match j, hj with
      | 0, _ => rfl
      | 1, _ => rfl
      | 2, _ => rfl
      | 3, _ => rfl
      | 4, _ => rfl
      | j + 5, hj => omega)
    (fun j hj => by
      have h1 := (Dk.Box.new w13 #[.int .i64 16, .int .i64 17, .int .i64 2, .int .i64 3, .int .i64 4] 3).cell j
      rw [Nat.zero_add, h1]
      simp only [List.length_cons, List.length_nil] at hj
      match j, hj with
      | 0, _ => rfl
      | 1, _ => rfl
      | 2, _ => rfl
      | 3, _ => rfl
      | 4, _ => rfl
      | j + 5, hj => omega)
  refine cS.mono ?_
  rintro r w14 ⟨rfl, b14⟩
  have bb := ((Below.refl w13.heap.size w13).alloc (Nat.le_refl _) (.cells #[.int .i64 16, .int .i64 17, .int .i64 2, .int .i64 3, .int .i64 4] 3)).trans (b14.mono (by simp))
  have hJ14 := hJ12.below hJ12.flt bb bb.size
  have B14 := B12.trans (bb.mono B12.size)
  clear cS b14 bb hJ12 B12 e12 l13 HBP HCP
  go_wp2_with fail
  refine (groups_to hJ14 (by decide) (by decide) (by decide)).mono ?_
  rintro r w15 ⟨v15, rfl, hp15, b15⟩
  obtain ⟨a15, c15, rfl⟩ := Rc.owns_shape hp15
  obtain ⟨g15, rfl, _, ⟨cur15, hb15⟩, hc15⟩ := Rc.owns_cells hp15 (by decide)
  have x15 := hc15 0 (by decide)
  have l15 := hb15.lt
  have B15 := B14.trans (b15.mono B14.size)
  clear hJ14 B14 b15 hp15 hc15
  go_wp2_with fail
  have cT := Dk.sameInts_self 1 c15 1 g15 0 w15.heap.size 0 [2] (w15.alloc (.cells #[.int .i64 2] 3)) rfl (by decide)
    (fun j hj => by
      obtain rfl : j = 0 := by simpa using hj
      exact (World.cell?_of_block (a := ⟨g15, 0, none⟩) (heap_alloc_old w15 _ l15)).trans x15)
    (fun j hj => by
      obtain rfl : j = 0 := by simpa using hj
      exact (Dk.Box.new w15 #[.int .i64 2] 3).cell 0)
  refine cT.mono ?_
  rintro r w16 ⟨rfl, b16⟩
  have B16 := B15.trans ((((Below.refl w15.heap.size w15).alloc (Nat.le_refl _) (.cells #[.int .i64 2] 3)).trans (b16.mono (by simp))).mono B15.size)
  clear cT b16 B15
  go_wp2_with fail
  go_ret
  exact ⟨rfl, B16⟩
end Go.Proofs.Ytglahlbponlepaa.J
