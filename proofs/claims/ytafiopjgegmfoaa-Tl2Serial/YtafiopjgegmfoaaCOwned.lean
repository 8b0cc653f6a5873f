/-
  Owned, of a memory and of the document's own; SameInts.
-/
import Derived.Test.YtafiopjgegmfoaaCOps
import Derived.Test.YtafiopjgegmfoaaCOps2
import Derived.Shelf.Abstract
namespace Go.Proofs.Ytafiopjgegmfoaa.C
open Go.RowKit
def civ : Value → Int | .int _ q => q | _ => 0
def ics (l : List Nat) : List Value := l.map fun i : Nat => .int .i64 (i : Int)
theorem ics_length (l : List Nat) : (ics l).length = l.length := by simp [ics]
def gat (o : Int) (C : List Cl) (k : Nat) : List Nat := (List.range k).filter fun i => match C[i]? with | some c => c.own == o | none => false
theorem gat_le (o : Int) (C : List Cl) (k : Nat) : (gat o C k).length ≤ k := by unfold gat; exact Nat.le_trans (List.length_filter_le _ _) (by simp)
theorem gat_yes {o : Int} {C : List Cl} {k : Nat} {c : Cl} (h : C[k]? = some c) (ho : c.own = o) : gat o C (k + 1) = gat o C k ++ [k] := by
  unfold gat; rw [List.range_succ, List.filter_append]; simp [h, ho]
theorem gat_no {o : Int} {C : List Cl} {k : Nat} {c : Cl} (h : C[k]? = some c) (ho : c.own ≠ o) : gat o C (k + 1) = gat o C k := by
  unfold gat; rw [List.range_succ, List.filter_append]; simp [h, ho]
def M.owned (S : M) (o : Int) : List Nat := if 1 ≤ o then gat o S.C S.C.length else []
theorem one_cell {w : World} {G : Nat} {v : Value} {t : TypeId} (h : Box w G #[v] t) : ∀ (j : Nat) (u : Value), [v][j]? = some u → w.cell? ((⟨G, 0, none⟩ : Addr).add j) = some u := by
  intro j u hj
  match j, hj with
  | 0, hj => simp at hj; subst hj; rw [Addr.add_lit]; exact h.cell 0
theorem infoI : (Try.prog.info? 3).map (fun i => (i.zero, i.size, i.bytes)) = some (some (.int .i64 0), 1, 8) := by kernel_rfl
set_option maxHeartbeats 1000000 in
set_option maxRecDepth 20000 in
theorem owned_at {w : World} {B m : Nat} {S : M} (h : IsM 65 81 w B m S) (o : Int) : Calls Try.prog 37 #[ptr m, .int .i64 o] w fun r w' => ∃ v', r = .returned v' ∧ w'.ownsRow w.heap.size 3 1 v' (S.owned o).length (ics (S.owned o)) ∧ Below w.heap.size w w' := by
  obtain ⟨i0, hi0, hz0, hz1, hz2⟩ := info_parts infoI
  obtain ⟨g, hg, hb, hr⟩ := h.row
  have cM := isMade_at hb
  have co := isOwner_at w o
  obtain ⟨n, hN⟩ : ∃ n, n = S.C.length := ⟨_, rfl⟩
  have hn : n ≤ 1024 := by rw [hN]; exact h.rt.n2
  have HN : Hid (n = S.C.length) := hN
  have HR : Hid (∀ (u : World), Below w.heap.size w u → u.cell? ⟨m, 1, none⟩ = some (.slice (some ⟨g, 0, none⟩) n n) ∧ ∀ k, k < n → ∃ c, S.C[k]? = some c ∧ u.cell? ⟨g, k * 3 + 2, none⟩ = some (.int .i64 c.own)) := fun u hu => by
    refine ⟨by rw [hN]; exact (hb.below hu hb.lt).cell 1, fun k hk => ?_⟩
    obtain ⟨c, hc⟩ : ∃ c, S.C[k]? = some c := ⟨_, List.getElem?_eq_getElem (by omega)⟩
    exact ⟨c, hc, (Row.get (show Row 81 u g S.C from Box.below hr hu (Box.lt hr)) hc).2.2⟩
  by_cases ho : o < 1
  · have e : S.owned o = [] := by unfold M.owned; rw [if_neg (by omega)]
    rw [e]
    have ho' : decide (1 ≤ o) = false := by simpa using ho
    rw [ho'] at co
    clear h hb hr hN HR HN ho' ho
    unfold ptr at *
    go_enter Try.func37, Try.ntmps37
    go_wp2_with (first | (go_at_call 23; refine cM.mono ?_; rintro e w' ⟨rfl, rfl⟩) | (go_at_call 52; refine co.mono ?_; rintro e w' ⟨rfl, rfl⟩))
    go_ret
    exact ⟨_, rfl, World.ownsRow_nil _ _ _ _, Below.refl _ _⟩
  · have e : S.owned o = gat o S.C n := by unfold M.owned; rw [if_pos (by omega), hN]
    rw [e]
    have ho' : decide (1 ≤ o) = true := by simp; omega
    rw [ho'] at co
    clear ho'
    have ho1 : 1 ≤ o := by omega
    have ho2 : 0 < o := by omega
    have c0 := (HR.out w (Below.refl _ _)).1
    clear h hb hr hN ho e
    unfold ptr at *
    go_enter Try.func37, Try.ntmps37
    go_wp2_with fail
    refine Calls.mono cM ?_
    rintro e wx ⟨rfl, hwx⟩
    subst wx
    clear cM
    go_wp2_with fail
    refine Calls.mono co ?_
    rintro e wx ⟨rfl, hwx⟩
    subst wx
    clear co
    go_wp2_with fail
    go_loopw [5, 20] (fun v i u => ∃ k : Nat, k ≤ n ∧ i = .int .i64 (k : Int) ∧ u.ownsRow w.heap.size 3 1 v (gat o S.C k).length (ics (gat o S.C k)) ∧ Below w.heap.size w u) (fun _ i _ => n - (civ i).toNat)
    case atStart => exact ⟨0, Nat.zero_le _, rfl, World.ownsRow_nil _ _ _ _, Below.refl _ _⟩
    case round =>
      obtain ⟨k, hk, rfl, hown, hbel⟩ := hrel
      have HO : Hid (wr.ownsRow w.heap.size 3 1 _ (gat o S.C k).length (ics (gat o S.C k))) := hown
      have HB : Hid (Below w.heap.size w wr) := hbel
      have hgl := gat_le o S.C k
      by_cases hlt : k < n
      · have hki : (k : Int) < (n : Int) := by omega
        obtain ⟨cw, hR⟩ := HR.out wr hbel
        obtain ⟨c, hc, cy⟩ := hR k hlt
        have hx1 := Box.new wr #[.int .i64 (k : Int)] 3
        have own1 := hown.alloc (.cells #[.int .i64 (k : Int)] 3)
        obtain ⟨ys, hys⟩ : ∃ ys, ys = ics (gat o S.C k) := ⟨_, rfl⟩
        rw [← hys] at own1
        have Hys : Hid (ys = ics (gat o S.C k)) := hys
        obtain ⟨q, hq⟩ : ∃ q, q = (gat o S.C k).length := ⟨_, rfl⟩
        rw [← hq] at own1
        have Hq : Hid (q = (gat o S.C k).length) := hq
        have hqk : q ≤ k := by omega
        have hz3 : w.heap.size ≤ wr.heap.size := hbel.size
        by_cases hoo : c.own = o
        · have HS : Hid (gat o S.C (k + 1) = gat o S.C k ++ [k]) := gat_yes hc hoo
          rw [hoo] at cy
          clear hown hbel hys hq hgl hR hc hoo HR
          go_wp2_with (at_builtin; refine wpList_append_own _ rfl _ _ 88 rfl w.heap.size 3 i0 (.int .i64 0) 1 8 Try.underlying88 hi0 hz0 hz1 hz2 rfl (by decide) _ q _ rfl own1 ⟨wr.heap.size, 0, none⟩ 1 1 [.int .i64 (k : Int)] rfl rfl (one_cell hx1) ?c2 ?c3 ?c4 ?c5 ?_)
          case c2 => intro u hu; simp at hu; subst hu; rfl
          case c3 => unfold maxLen; omega
          case c4 => omega
          case c5 => simp; omega
          intro v' w4 hown4 hgrow _
          have B4 : Below w.heap.size w w4 := (HB.out.alloc hz3 _).grown hgrow (by simp; omega) (fun k hk => (HO.out.lt k hk).1)
          have HO4 : Hid (w4.ownsRow w.heap.size 3 1 v' (gat o S.C (k + 1)).length (ics (gat o S.C (k + 1)))) := by
            rw [HS.out, List.length_append, ics, List.map_append]
            rw [Hys.out, Hq.out] at hown4
            exact hown4
          have HB4 : Hid (Below w.heap.size w w4) := B4
          clear B4 hown4 hgrow own1 hx1
          go_wp2
          go_roundw
          case rel => exact ⟨k + 1, by omega, by go_num, HO4.out, HB4.out⟩
          case measure => simp [civ]; omega
        · have HS : Hid (gat o S.C (k + 1) = gat o S.C k) := gat_no hc hoo
          obtain ⟨oo, hoe⟩ : ∃ oo, oo = c.own := ⟨_, rfl⟩
          rw [← hoe] at cy hoo
          have hob : (oo == o) = false := by simpa using hoo
          clear hown hbel hys hq hgl hR hc hoo HR own1 hx1 hoe
          go_wp2
          go_roundw
          case rel => exact ⟨k + 1, by omega, by go_num, by rw [HS.out]; exact HO.out, HB.out⟩
          case measure => simp [civ]; omega
      · obtain rfl : k = n := by omega
        obtain ⟨cw, hR⟩ := HR.out wr hbel
        clear hown hbel hgl hR HR
        go_wp2
        go_ret
        exact ⟨_, rfl, HO.out, HB.out⟩

end Go.Proofs.Ytafiopjgegmfoaa.C
