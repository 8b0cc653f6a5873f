/-
  gather; Ready, Blocked.
-/
import Derived.Test.YtjhhncbadkpbaaaWake
import Derived.Shelf.Abstract
namespace Go.Proofs.Ytjhhncbadkpbaaa
open Go.RowKit

/-- an entry, where it lies and which it is -/
structure Ep where
  g : Nat
  i : Nat
  e : En
def ics (l : List Nat) : List Value := l.map fun i : Nat => .int .i64 (i : Int)
def gat (p : En → Bool) (X : List Ep) : List Nat := (X.filter fun x => p x.e).map fun x => x.i + 1
theorem ics_length (l : List Nat) : (ics l).length = l.length := by simp [ics]
theorem gat_le (p : En → Bool) (X : List Ep) : (gat p X).length ≤ X.length := by unfold gat; rw [List.length_map]; exact List.length_filter_le _ _
theorem gat_succ (p : En → Bool) (X : List Ep) (k : Nat) (h : k < X.length) : gat p (X.take (k + 1)) = if p X[k].e then gat p (X.take k) ++ [X[k].i + 1] else gat p (X.take k) := by
  unfold gat
  rw [List.take_succ_eq_append_getElem h, List.filter_append]
  by_cases hp : p X[k].e = true <;> simp [hp]
theorem infoI : (Try.prog.info? 3).map (fun i => (i.zero, i.size, i.bytes)) = some (some (.int .i64 0), 1, 8) := by kernel_rfl
set_option maxHeartbeats 1000000 in
set_option maxRecDepth 20000 in
theorem gather_at {w : World} {B : Nat} {v : Value} (X : List Ep) (hrow : w.ownsRow B 61 1 v X.length (X.map fun x => ptr x.g)) (hX : ∀ x ∈ X, Box w x.g (enC x.i x.e) 70) (hn : X.length < 100000) (hid : ∀ x ∈ X, x.i < 100000)
    (f : Nat) (p : En → Bool) (hf : ∀ (u : World) (x : Ep), Box u x.g (enC x.i x.e) 70 → x ∈ X → Calls Try.prog f #[ptr x.g] u fun r u' => r = .returned (.bool (p x.e)) ∧ u' = u)
    (hin : ∀ args u, (callFunc f args).run Try.prog u = .ok (.enter f args) u) :
    Calls Try.prog 28 #[v, .func (.func f) #[] #[]] w fun r w' => ∃ v', r = .returned v' ∧ w'.ownsRow w.heap.size 3 1 v' (gat p X).length (ics (gat p X)) ∧ Below w.heap.size w w' := by
  obtain ⟨i0, hi0, hz0, hz1, hz2⟩ := info_parts infoI
  obtain ⟨a0, cap0, hv⟩ := ownsRow_slice hrow
  obtain ⟨n, hN⟩ : ∃ n, n = X.length := ⟨_, rfl⟩
  have HN : Hid (n = X.length) := hN
  have HR : Hid (∀ k (h : k < X.length) (u : World), Below w.heap.size w u → ∃ g, a0 = some ⟨g, 0, none⟩ ∧ u.cell? ⟨g, k, none⟩ = some (ptr X[k].g) ∧ Box u X[k].g (enC X[k].i X[k].e) 70) := fun k h u hb => by
    obtain ⟨g, cap, e1, c1⟩ := ownsRow_cell hrow k h
    rw [hv] at e1
    obtain ⟨cs, hbx⟩ := ownsRow_box hrow g (by rw [hv]; injection e1 with e2 _ _; rw [e2]; rfl)
    injection e1 with e2 _ _
    refine ⟨g, e2, ?_, (hX _ (List.getElem_mem h)).below hb (hX _ (List.getElem_mem h)).lt⟩
    rw [hb.cell (p := ⟨g, k, none⟩) hbx.lt, c1]
    simp [h]
  have Hf : Hid (∀ k (h : k < X.length) (u : World), Box u X[k].g (enC X[k].i X[k].e) 70 → Calls Try.prog f #[ptr X[k].g] u fun r u' => r = .returned (.bool (p X[k].e)) ∧ u' = u) := fun k h u hb => hf u _ hb (List.getElem_mem h)
  have Hid' : Hid (∀ k (h : k < X.length), X[k].i < 100000) := fun k h => hid _ (List.getElem_mem h)
  subst hv
  rw [← hN] at hn ⊢
  clear hrow hX hf hid hN
  go_enter Try.func28, Try.ntmps28
  go_wp2_with fail
  go_loopw [5, 10] (fun v i u => ∃ k : Nat, k ≤ n ∧ i = .int .i64 (k : Int) ∧ u.ownsRow w.heap.size 3 1 v (gat p (X.take k)).length (ics (gat p (X.take k))) ∧ Below w.heap.size w u) (fun _ i _ => n - (intOf i).toNat)
  case atStart => exact ⟨0, Nat.zero_le _, rfl, World.ownsRow_nil _ _ _ _, Below.refl _ _⟩
  case round =>
    obtain ⟨k, hk, rfl, hown, hbel⟩ := hrel
    have HO : Hid (wr.ownsRow w.heap.size 3 1 _ (gat p (X.take k)).length (ics (gat p (X.take k)))) := hown
    have HB : Hid (Below w.heap.size w wr) := hbel
    have hgl := gat_le p (X.take k)
    have htl : (X.take k).length ≤ k := List.length_take_le _ _
    by_cases hlt : k < n
    · have hkX : k < X.length := by rw [← HN.out]; exact hlt
      have hki : (k : Int) < (n : Int) := by omega
      have HS : Hid (gat p (X.take (k + 1)) = if p X[k].e then gat p (X.take k) ++ [X[k].i + 1] else gat p (X.take k)) := gat_succ p X k hkX
      obtain ⟨g, rfl, cg, bx⟩ := HR.out k hkX wr hbel
      have cf := Hf.out k hkX wr bx
      have ci : wr.cell? ⟨X[k].g, 0, none⟩ = some (.int .i64 ((X[k].i + 1 : Nat) : Int)) := bx.cell 0
      have hib := Hid'.out k hkX
      generalize X[k] = y at *
      obtain ⟨z, hz⟩ : ∃ z : Int, z = ((y.i + 1 : Nat) : Int) := ⟨_, rfl⟩
      rw [← hz] at ci
      have HZ : Hid (z = ((y.i + 1 : Nat) : Int)) := hz
      have HP : ∀ b, p y.e = b → Hid (p y.e = b) := fun _ h => h
      have hx1 := Box.new wr #[.int .i64 z] 3
      have own1 := hown.alloc (.cells #[.int .i64 z] 3)
      obtain ⟨ys, hys⟩ : ∃ ys, ys = ics (gat p (X.take k)) := ⟨_, rfl⟩
      rw [← hys] at own1
      have Hys : Hid (ys = ics (gat p (X.take k))) := hys
      obtain ⟨m, hm⟩ : ∃ m, m = (gat p (X.take k)).length := ⟨_, rfl⟩
      rw [← hm] at own1
      have Hm : Hid (m = (gat p (X.take k)).length) := hm
      have hmk : m ≤ k := by omega
      have hz3 : w.heap.size ≤ wr.heap.size := hbel.size
      clear hown hbel bx hys hm hz hgl htl HR Hf Hid' hib
      unfold ptr at *
      cases hp : p y.e with
      | true =>
        rw [hp] at cf
        have Hp : Hid (p y.e = true) := hp
        clear hp HP
        go_wp2_with fail
        refine Calls.mono cf ?_
        rintro r wx ⟨rfl, hwx⟩
        subst wx
        go_wp2_with (at_builtin; refine wpList_append_own _ rfl _ _ 39 rfl w.heap.size 3 i0 (.int .i64 0) 1 8 Try.underlying39 hi0 hz0 hz1 hz2 rfl (by decide) _ m _ rfl own1 ⟨wr.heap.size, 0, none⟩ 1 1 [.int .i64 z] rfl rfl (one_cell hx1) ?c2 ?c3 ?c4 ?c5 ?_)
        case c2 => intro u hu; simp at hu; subst hu; rfl
        case c3 => unfold maxLen; omega
        case c4 => omega
        case c5 => simp; omega
        intro v' w4 hown4 hgrow _
        have B4 : Below w.heap.size w w4 := (HB.out.alloc hz3 _).grown hgrow (by simp; omega) (fun k hk => (HO.out.lt k hk).1)
        have HO4 : Hid (w4.ownsRow w.heap.size 3 1 v' (gat p (X.take (k + 1))).length (ics (gat p (X.take (k + 1))))) := by
          rw [HS.out, Hp.out, if_pos rfl, List.length_append, ics, List.map_append]
          rw [Hys.out, Hm.out, HZ.out] at hown4
          exact hown4
        have HB4 : Hid (Below w.heap.size w w4) := B4
        clear B4 hown4 hgrow own1 hx1 cf cg ci
        go_wp2
        go_roundw
        case rel => exact ⟨k + 1, by omega, by go_num, HO4.out, HB4.out⟩
        case measure => simp [intOf]; omega
      | false =>
        rw [hp] at cf
        have Hp : Hid (p y.e = false) := hp
        clear hp HP
        go_wp2_with fail
        refine Calls.mono cf ?_
        rintro r wx ⟨rfl, hwx⟩
        subst wx
        clear cf
        go_wp2
        go_roundw
        case rel => exact ⟨k + 1, by omega, by go_num, by rw [HS.out, Hp.out]; exact HO.out, HB.out⟩
        case measure => simp [intOf]; omega
    · obtain rfl : k = n := by omega
      have HT : Hid (X.take k = X) := by rw [HN.out]; exact List.take_length
      go_wp2
      go_ret
      exact ⟨_, rfl, by rw [← HT.out]; exact HO.out, HB.out⟩

/-- those that are not over, with their places from k on -/
def alX : List En → List Nat → Nat → List Ep
  | e :: E, g :: G, k => if e.st = 3 then alX E G (k + 1) else ⟨g, k, e⟩ :: alX E G (k + 1)
  | _, _, _ => []
theorem alX_map : ∀ (E : List En) (G : List Nat) (k : Nat), (alX E G k).map (·.g) = alv E G
  | [], _, _ => by simp [alX, alv]
  | _ :: _, [], _ => by simp [alX, alv]
  | e :: E, g :: G, k => by
    rw [alX, alv_cons]
    have := alX_map E G (k + 1)
    split
    · exact this
    · rw [List.map_cons, this]
theorem alX_mem : ∀ (E : List En) (G : List Nat) (k : Nat) (x : Ep), x ∈ alX E G k → ∃ j, x.i = k + j ∧ E[j]? = some x.e ∧ G[j]? = some x.g
  | [], _, _, _, h => by simp [alX] at h
  | _ :: _, [], _, _, h => by simp [alX] at h
  | e :: E, g :: G, k, x, h => by
    rw [alX] at h
    have key : x ∈ alX E G (k + 1) → ∃ j, x.i = k + j ∧ (e :: E)[j]? = some x.e ∧ (g :: G)[j]? = some x.g := fun h => by
      obtain ⟨j, h1, h2, h3⟩ := alX_mem E G (k + 1) x h
      exact ⟨j + 1, by omega, by simpa using h2, by simpa using h3⟩
    split at h
    · exact key h
    · rcases List.mem_cons.1 h with rfl | h
      · exact ⟨0, rfl, rfl, rfl⟩
      · exact key h
def SS.blk (S : SS) : List Nat := gat (fun e => e.st == 2) (alX S.E S.G 0)
theorem always (x : Value) (u : World) : Calls Try.prog 29 #[x] u fun r u' => r = .returned (.bool true) ∧ u' = u := by
  go_enter Try.func29, Try.ntmps29
  go_wp2
  go_ret
  simp
theorem blockedQ (u : World) (x : Ep) (hb : Box u x.g (enC x.i x.e) 70) (h : x.e.st < 200) : Calls Try.prog 30 #[ptr x.g] u fun r u' => r = .returned (.bool (x.e.st == 2)) ∧ u' = u := by
  have c2 : u.cell? ⟨x.g, 2, none⟩ = some (.int .u8 (x.e.st : Int)) := hb.cell 2
  have e1 : (x.e.st == 2) = decide ((x.e.st : Int) = 2) := by
    rw [Bool.eq_iff_iff]; simp; omega
  rw [e1]
  have h1 : (x.e.st : Int) < 200 := by omega
  have h0 : (0 : Int) ≤ (x.e.st : Int) := by omega
  generalize (x.e.st : Int) = z at *
  generalize x.g = g at *
  clear hb e1 h
  unfold ptr
  by_cases h2 : z = 2
  · subst h2
    go_enter Try.func30, Try.ntmps30
    go_wp2
    go_ret
    simp
  · go_enter Try.func30, Try.ntmps30
    go_wp2
    go_ret
    simp [h2]
set_option maxHeartbeats 1000000 in
theorem blocked_at {w : World} {B s : Nat} {S : SS} (h : IsS w B s S) (hst : ∀ e ∈ S.E, e.st < 200) (hg : S.G.length < 100000) : Calls Try.prog 19 #[ptr s] w fun r w' => ∃ v', r = .returned v' ∧ w'.ownsRow w.heap.size 3 1 v' S.blk.length (ics S.blk) ∧ Below w.heap.size w w' := by
  obtain ⟨vt, va, vl, h⟩ := h
  have c := isMade_at h.rows.box
  have c3 : w.cell? ⟨s, 2, none⟩ = some va := h.rows.box.cell 2
  have hlen := h.ents.len
  have hm := alX_map S.E S.G 0
  have hle := alv_le S.E S.G
  have cg := gather_at (w := w) (B := B) (v := va) (alX S.E S.G 0) (by
      have h1 := h.rows.ra
      rw [← hm, List.length_map, List.map_map] at h1
      exact h1) (by
      intro x hx
      obtain ⟨j, h1, h2, h3⟩ := alX_mem _ _ _ _ hx
      obtain ⟨hj, h3'⟩ := List.getElem?_eq_some_iff.1 h3
      have := h.ents.en j hj x.e h2
      rw [h3'] at this
      have e1 : x.i = j := by omega
      rw [e1]
      exact this) (by have h1 := congrArg List.length hm; rw [List.length_map] at h1; omega) (by
      intro x hx
      obtain ⟨j, h1, h2, h3⟩ := alX_mem _ _ _ _ hx
      obtain ⟨hj, h3'⟩ := List.getElem?_eq_some_iff.1 h3
      omega) 30 (fun e => e.st == 2) (fun u x hb hx => blockedQ u x hb (by
        obtain ⟨j, h1, h2, h3⟩ := alX_mem _ _ _ _ hx
        exact hst _ (List.mem_of_getElem? h2))) (enters_of Try.func30 (by kernel_rfl) rfl)
  change Calls Try.prog 28 #[va, .func (.func 30) #[] #[]] w fun r w' => ∃ v', r = .returned v' ∧ w'.ownsRow w.heap.size 3 1 v' S.blk.length (ics S.blk) ∧ Below w.heap.size w w' at cg
  obtain ⟨a, cap, rfl⟩ := ownsRow_slice h.rows.ra
  clear h hm hle hlen
  unfold ptr at *
  go_enter Try.func19, Try.ntmps19
  go_wp2_with (first | (go_at_call 23; refine c.mono ?_; rintro e w' ⟨rfl, rfl⟩) | (go_at_call 28; refine cg.mono ?_; rintro e w' ⟨v', rfl, ho, hb⟩))
  go_ret
  exact ⟨v', rfl, ho, hb⟩
end Go.Proofs.Ytjhhncbadkpbaaa
