/-
  The document's own scheduler in memory.
-/
import Derived.Test.YtjhhncbadkpbaaaDos
import Derived.Test.YtjhhncbadkpbaaaArgs
import Derived.Test.YtjhhncbadkpbaaaGather
namespace Go.Proofs.Ytjhhncbadkpbaaa
open Go.RowKit

/-- its numbers -/
structure RS where
  St : List Nat
  Sp : List Nat
  Ln : List Nat
  Td : List Bool
  wk : Bool
  now : Nat
def psC (P : List PV) : List Value := P.map fun p => .slice p.la p.ln p.lc
structure RV where
  vp : Value
  vs : Value
  vn : Value
  vl : Value
  vt : Value
def rC (V : RV) (R : RS) : Array Value := #[V.vp, V.vs, V.vn, V.vl, V.vt, .bool R.wk, .int .i64 (R.now : Int)]
structure RB (w : World) (B g : Nat) (V : RV) (R : RS) (P : List PV) : Prop where
  hg : B ≤ g
  box : Box w g (rC V R) 42
  rp : w.ownsRow B 43 1 V.vp P.length (psC P)
  rs : w.ownsRow B 3 1 V.vs R.St.length (ics R.St)
  rn : w.ownsRow B 3 1 V.vn R.Sp.length (ics R.Sp)
  rl : w.ownsRow B 3 1 V.vl R.Ln.length (ics R.Ln)
  rt : w.ownsRow B 4 1 V.vt R.Td.length (R.Td.map Value.bool)
  sn : ∀ k, V.vs.ownBlock = some k → V.vn.ownBlock ≠ some k
  sl : ∀ k, V.vs.ownBlock = some k → V.vl.ownBlock ≠ some k
  nl : ∀ k, V.vn.ownBlock = some k → V.vl.ownBlock ≠ some k
  pd : ∀ p ∈ P, DoRow w B p.la p.xs ∧ p.xs.length = p.ln
/-- blocks that are its own -/
def RF (g : Nat) (V : RV) (k : Nat) : Prop := k = g ∨ V.vp.ownBlock = some k ∨ V.vs.ownBlock = some k ∨ V.vn.ownBlock = some k ∨ V.vl.ownBlock = some k ∨ V.vt.ownBlock = some k
theorem RB.keep {w w' : World} {B g : Nat} {V : RV} {R : RS} {P : List PV} (h : RB w B g V R P) (hb : Below B w w') (hk : ∀ k cs t, Box w k cs t → RF g V k ∨ t = 45 → Box w' k cs t) : RB w' B g V R P := by
  have row : ∀ {e : TypeId} {v : Value} {n : Nat} {xs : List Value}, w.ownsRow B e 1 v n xs → (∀ k, v.ownBlock = some k → RF g V k) → w'.ownsRow B e 1 v n xs := fun h hv => by
    refine ⟨h.1, ?_⟩
    rcases h.2 with h | ⟨g', cap, cur, rfl, hb, hgb, r⟩
    · exact .inl h
    · exact .inr ⟨g', cap, cur, rfl, hb, hk g' cur _ hgb (.inl (hv g' rfl)), r⟩
  exact ⟨h.hg, hk _ _ _ h.box (.inl (.inl rfl)), row h.rp (fun k hk => .inr (.inl hk)), row h.rs (fun k hk => .inr (.inr (.inl hk))), row h.rn (fun k hk => .inr (.inr (.inr (.inl hk)))), row h.rl (fun k hk => .inr (.inr (.inr (.inr (.inl hk))))), row h.rt (fun k hk => .inr (.inr (.inr (.inr (.inr hk))))), h.sn, h.sl, h.nl, fun p hp => ⟨(h.pd p hp).1.keep hb (fun k cs x => hk k cs 45 x (.inr rfl)), (h.pd p hp).2⟩⟩
theorem RB.below {w w' : World} {B g : Nat} {V : RV} {R : RS} {P : List PV} (h : RB w B g V R P) (hb : Below w.heap.size w w') : RB w' B g V R P := h.keep (hb.mono (Nat.le_trans h.hg (Nat.le_of_lt h.box.lt))) (fun _ _ _ x _ => x.below hb x.lt)
theorem RB.hB {w : World} {B g : Nat} {V : RV} {R : RS} {P : List PV} (h : RB w B g V R P) : B ≤ w.heap.size := Nat.le_trans h.hg (Nat.le_of_lt h.box.lt)
/-- what a call of it leaves -/
structure RTo (w : World) (B g : Nat) (V : RV) (R' : RS) (P : List PV) (w' : World) : Prop where
  is : ∃ V', RB w' B g V' R' P ∧ ∀ k, RF g V' k → RF g V k ∨ w.heap.size ≤ k
  bel : Below B w w'
  kt : KtF (RF g V) (fun _ => True) w w'
theorem RTo.refl {w : World} {B g : Nat} {V : RV} {R : RS} {P : List PV} (h : RB w B g V R P) : RTo w B g V R P w := ⟨⟨V, h, fun _ hk => .inl hk⟩, Below.refl _ _, fun _ _ _ x _ _ => x⟩
theorem ics_at {w : World} {B n : Nat} {v : Value} {l : List Nat} (h : w.ownsRow B 3 1 v n (ics l)) (hl : l.length = n) (j : Nat) (hj : j < n) : ∃ g cap, v = .slice (some ⟨g, 0, none⟩) n cap ∧ w.cell? ⟨g, j, none⟩ = some (.int .i64 ((l[j]'(by omega) : Nat) : Int)) ∧ w.frozen? ⟨g, j, none⟩ = false := by
  obtain ⟨g, cap, e, c⟩ := ownsRow_cell h j hj
  obtain ⟨cs, hb⟩ := ownsRow_box h g (by rw [e]; rfl)
  refine ⟨g, cap, e, ?_, hb.frozen j⟩
  rw [c]
  simp [ics, show j < l.length by omega]
/-- one number of a row is written -/
theorem ics_set {w : World} {B n : Nat} {v : Value} {l : List Nat} (h : w.ownsRow B 3 1 v n (ics l)) {g : Nat} (hg : v.ownBlock = some g) (j x : Nat) : (w.setCell ⟨g, j, none⟩ (.int .i64 (x : Int))).ownsRow B 3 1 v n (ics (l.set j x)) := by
  refine ⟨by have := h.1; simpa [ics] using this, ?_⟩
  rcases h.2 with ⟨rfl, _⟩ | ⟨g', cap, cur, rfl, hb, hgb, hnc, hcm, hcs, ht⟩
  · cases hg
  · cases hg
    refine .inr ⟨_, cap, _, rfl, hb, Box.store hgb j _, hnc, hcm, by simpa using hcs, ?_⟩
    rw [Array.toList_setIfInBounds, List.take_set, ht]
    simp [ics, List.map_set]
def RS.cnt (R : RS) : Nat := (R.St.filter (· != 3)).length
def RS.blk (R : RS) : List Nat := (R.St.zipIdx.filter fun p => p.1 == 2).map fun p => p.2 + 1
set_option maxRecDepth 20000 in
set_option maxHeartbeats 2000000 in
theorem rblocked_at {w : World} {B g : Nat} {V : RV} {R : RS} {P : List PV} (h : RB w B g V R P) (hl : R.St.length < 1000) : Calls Try.prog 20 #[ptr g] w fun r w' => ∃ v', r = .returned v' ∧ w'.ownsRow w.heap.size 3 1 v' R.blk.length (ics R.blk) ∧ Below w.heap.size w w' := by
  obtain ⟨i0, hi0, hz0, hz1, hz2⟩ := info_parts infoI
  obtain ⟨n, hn⟩ : ∃ n, n = R.St.length := ⟨_, rfl⟩
  have HN : Hid (n = R.St.length) := hn
  obtain ⟨a0, c0, hv⟩ := ownsRow_slice h.rs
  rw [← hn] at hv hl
  have HC : Hid (∀ u : World, Below w.heap.size w u → u.cell? ⟨g, 1, none⟩ = some (.slice a0 n c0) ∧ ∀ j (hj : j < R.St.length), ∃ q, a0 = some ⟨q, 0, none⟩ ∧ u.cell? ⟨q, j, none⟩ = some (.int .i64 ((R.St[j] : Nat) : Int))) := fun u hu => by
    have hu' := h.below hu
    refine ⟨by rw [← hv]; exact hu'.box.cell 1, fun j hj => ?_⟩
    obtain ⟨q, cap, e1, c1, _⟩ := ics_at hu'.rs rfl j hj
    rw [hv] at e1
    injection e1 with e1
    exact ⟨q, e1, c1⟩
  obtain ⟨pb, hpb⟩ : ∃ pb : Nat → List Nat, pb = fun k => ((R.St.take k).zipIdx.filter fun p => p.1 == 2).map fun p => p.2 + 1 := ⟨_, rfl⟩
  have Hpb0 : Hid (pb 0 = []) := by rw [hpb]; rfl
  have hpbn : pb n = R.blk := by rw [hpb, HN.out]; unfold RS.blk; simp
  have Hpbn : Hid (pb n = R.blk) := hpbn
  clear hpbn
  have Hps : Hid (∀ k (hk : k < R.St.length), pb (k + 1) = if R.St[k] = 2 then pb k ++ [k + 1] else pb k) := fun k hk => by
    rw [hpb]
    simp only
    rw [List.take_succ_eq_append_getElem hk, List.zipIdx_append, List.filter_append, List.map_append]
    have hlk : (R.St.take k).length = k := by simp; omega
    by_cases h2 : R.St[k] = 2
    · rw [if_pos h2]
      simp [h2, hlk]
    · rw [if_neg h2]
      simp [h2]
  have Hple : Hid (∀ k, (pb k).length ≤ k) := fun k => by
    rw [hpb]
    simp only [List.length_map]
    refine Nat.le_trans (List.length_filter_le _ _) ?_
    simp
    omega
  clear h hv hn hpb
  unfold ptr
  go_enter Try.func20, Try.ntmps20
  go_wp2_with fail
  go_loopw [3, 4] (fun v i u => ∃ k : Nat, k ≤ n ∧ i = .int .i64 (k : Int) ∧ u.ownsRow w.heap.size 3 1 v (pb k).length (ics (pb k)) ∧ Below w.heap.size w u) (fun _ i _ => n - (intOf i).toNat)
  case atStart => exact ⟨0, Nat.zero_le _, rfl, by rw [Hpb0.out]; exact World.ownsRow_nil _ _ _ _, Below.refl _ _⟩
  case round =>
    obtain ⟨k, hk, rfl, hown, hbel⟩ := hrel
    obtain ⟨x1, hx⟩ := HC.out wr hbel
    have HO : Hid (wr.ownsRow w.heap.size 3 1 _ (pb k).length (ics (pb k))) := hown
    have HB : Hid (Below w.heap.size w wr) := hbel
    by_cases hlt : k < n
    · have hkS : k < R.St.length := by rw [← HN.out]; exact hlt
      have hki : (k : Int) < (n : Int) := by omega
      obtain ⟨q, rfl, xk⟩ := hx k hkS
      have hps := Hps.out k hkS
      have hple := Hple.out k
      obtain ⟨y, hy⟩ : ∃ y : Int, y = ((R.St[k] : Nat) : Int) := ⟨_, rfl⟩
      rw [← hy] at xk
      have hx1 := Box.new wr #[.int .i64 ((k : Int) + 1)] 3
      have own1 := hown.alloc (.cells #[.int .i64 ((k : Int) + 1)] 3)
      obtain ⟨ys, hys⟩ : ∃ ys, ys = ics (pb k) := ⟨_, rfl⟩
      rw [← hys] at own1
      have Hys : Hid (ys = ics (pb k)) := hys
      obtain ⟨m, hm⟩ : ∃ m, m = (pb k).length := ⟨_, rfl⟩
      rw [← hm] at own1
      have Hm : Hid (m = (pb k).length) := hm
      have hmk : m ≤ k := by omega
      have hz3 : w.heap.size ≤ wr.heap.size := hbel.size
      by_cases h2 : R.St[k] = 2
      · rw [if_pos h2] at hps
        have HS : Hid (pb (k + 1) = pb k ++ [k + 1]) := hps
        have hy2 : y = 2 := by rw [hy, h2]; rfl
        rw [hy2] at xk
        clear hown hbel hys hm hps hple hx hy hy2 h2
        go_wp2_with (at_builtin; refine wpList_append_own _ rfl _ _ 39 rfl w.heap.size 3 i0 (.int .i64 0) 1 8 Try.underlying39 hi0 hz0 hz1 hz2 rfl (by decide) _ m _ rfl own1 ⟨wr.heap.size, 0, none⟩ 1 1 [.int .i64 ((k : Int) + 1)] rfl rfl (one_cell hx1) ?c2 ?c3 ?c4 ?c5 ?_)
        case c2 => intro u hu; simp at hu; subst hu; rfl
        case c3 => unfold maxLen; omega
        case c4 => omega
        case c5 => simp; omega
        intro v' w4 hown4 hgrow _
        have B4 : Below w.heap.size w w4 := (HB.out.alloc hz3 _).grown hgrow (by simp; omega) (fun k hk => (HO.out.lt k hk).1)
        have HO4 : Hid (w4.ownsRow w.heap.size 3 1 v' (pb (k + 1)).length (ics (pb (k + 1)))) := by
          rw [HS.out, List.length_append, ics, List.map_append]
          rw [Hys.out, Hm.out] at hown4
          exact hown4
        have HB4 : Hid (Below w.heap.size w w4) := B4
        clear B4 hown4 hgrow own1 hx1
        go_wp2
        go_roundw
        case rel => exact ⟨k + 1, by omega, by go_num, HO4.out, HB4.out⟩
        case measure => simp [intOf]; omega
      · rw [if_neg h2] at hps
        have HS : Hid (pb (k + 1) = pb k) := hps
        have hy2 : ¬ y = 2 := by rw [hy]; omega
        clear hown hbel hys hm hps hple hx hy h2 own1 hx1
        go_wp2_with fail
        go_roundw
        case rel => exact ⟨k + 1, by omega, by go_num, by rw [HS.out]; exact HO.out, HB.out⟩
        case measure => simp [intOf]; omega
    · have hkn : k = n := by omega
      subst k
      go_wp2_with fail
      go_ret
      exact ⟨_, rfl, by rw [← Hpbn.out]; exact HO.out, HB.out⟩
end Go.Proofs.Ytjhhncbadkpbaaa
