/-
  All.
-/
import Derived.Test.YtbpbclmlkdnfbaaNFst
namespace Go.Proofs.Ytbpbclmlkdnfbaa.T
open Go.RowKit Go.Proofs.Ytbpbclmlkdnfbaa.C
section
variable {w0 u : World} {m gm g : Nat} {S : M} {x : TX} {G V : Nat → Prop}
/-- what comes of the k-th of bodies, the ones ahead of which were OK (I): an error (D), or OK -/
def Each (w0 : World) (m gm g : Nat) (P V : Nat → Prop) (b : Nat → Value) (n : Nat) (I : Nat → World → M → TX → Prop) (D : Nat → Int → World → M → TX → Prop) : Prop :=
  ∀ k u' S x G', k < n → Hg w0 u' m gm S [(g, x)] G' → (∀ y, G' y → ¬ P y) → I k u' S x → Calls Try.prog 14 #[ptr g, b k] u' fun r u2 => ∃ e S2 x2, r = .returned (.int .i64 e) ∧ ToG w0 u' m gm S2 [(g, x2)] G' V u2 ∧ (e ≠ 0 → D k e u2 S2 x2) ∧ (e = 0 → I (k + 1) u2 S2 x2)
/-- where the closure of All stands -/
structure AllAt (u' : World) (a : Option Addr) (n cap sb tb nb g : Nat) (b : Nat → Value) (k : Int) : Prop where
  row : ∀ i, i < n → ∃ bb cs, a = some ⟨bb, 0, none⟩ ∧ Box u' bb cs 46 ∧ cs[i]? = some (b i)
  bs : Box u' sb #[.slice a n cap] 59
  bt : Box u' tb #[ptr g] 42
  bn : Box u' nb #[.int .i64 k] 3
theorem AllAt.upd {u' u2 : World} {a : Option Addr} {n cap sb tb nb g : Nat} {b : Nat → Value} {k : Int} {F : Nat → Prop} (h : AllAt u' a n cap sb tb nb g b k) (hu : Upd F u' u2) (h1 : ∀ bb, a = some ⟨bb, 0, none⟩ → ¬ F bb) (h2 : ¬ F sb) (h3 : ¬ F tb) (h4 : ¬ F nb) : AllAt u2 a n cap sb tb nb g b k :=
  ⟨fun i hi => by obtain ⟨bb, cs, e, c, d⟩ := h.row i hi; exact ⟨bb, cs, e, Box.upd c hu (h1 bb e), d⟩, Box.upd h.bs hu h2, Box.upd h.bt hu h3, Box.upd h.bn hu h4⟩
theorem AllAt.next {u' : World} {a : Option Addr} {n cap sb tb nb g : Nat} {b : Nat → Value} {k : Int} (h : AllAt u' a n cap sb tb nb g b k) (k' : Int) : AllAt (u'.setCell ⟨nb, 0, none⟩ (.int .i64 k')) a n cap sb tb nb g b k' :=
  ⟨fun i hi => by obtain ⟨bb, cs, e, c, d⟩ := h.row i hi; exact ⟨bb, cs, e, c.other nb 0 _ (c.ne h.bn (by decide)), d⟩, h.bs.other nb 0 _ (h.bs.ne h.bn (by decide)), h.bt.other nb 0 _ (h.bt.ne h.bn (by decide)), h.bn.store 0 _⟩
set_option maxHeartbeats 2000000 in
set_option maxRecDepth 20000 in
theorem allB_at {a : Option Addr} {n cap sb tb nb : Nat} {b : Nat → Value} (h : Hg w0 u m gm S [(g, x)] G) (hn2 : n ≤ 1000) (hA : AllAt u a n cap sb tb nb g b 0) (P : Nat → Prop) (hP : ∀ y, G y → ¬ P y) (hP2 : ∀ y, P y → y < u.heap.size) (p1 : ∀ bb, a = some ⟨bb, 0, none⟩ → P bb) (p2 : P sb) (p3 : P tb) (p4 : P nb) (v1 : ∀ bb, a = some ⟨bb, 0, none⟩ → ¬ V bb) (v2 : ¬ V sb) (v3 : ¬ V tb) (v4 : ¬ V nb) (hnb : w0.heap.size ≤ nb) (I : Nat → World → M → TX → Prop) (D : Nat → Int → World → M → TX → Prop)
    (stab : ∀ k u' y S x, I k u' S x → I k (u'.setCell ⟨nb, 0, none⟩ y) S x) (hI : I 0 u S x) (hE : Each w0 m gm g P V b n I D) :
    Calls Try.prog 54 #[ptr sb, ptr tb, ptr nb] u fun r u2 => ∃ (k : Nat) (e : Int) (S2 : M) (x2 : TX), r = .returned (.int .i64 e) ∧ ToG w0 u m gm S2 [(g, x2)] G (fun y => V y ∨ y = nb) u2 ∧ Box u2 nb #[.int .i64 (k : Int)] 3 ∧ (k < n ∧ e ≠ 0 ∧ D k e u2 S2 x2 ∨ k = n ∧ e = 0 ∧ I n u2 S2 x2) := by
  have cs0 := hA.bs.cell 0
  simp only [List.getElem?_toArray, List.getElem?_cons_zero] at cs0
  have hsz : Hid (w0.heap.size ≤ u.heap.size) := h.mm.hB
  obtain ⟨J, hJ0⟩ : ∃ J : Nat → World → Prop, J = fun (k : Nat) u' => AllAt u' a n cap sb tb nb g b (k : Int) ∧ ∃ S x, ToG w0 u m gm S [(g, x)] G (fun y => V y ∨ y = nb) u' ∧ (∀ y, grow G u u' y → ¬ P y) ∧ I k u' S x := ⟨_, rfl⟩
  have HJ : Hid (∀ k u', J k u' → AllAt u' a n cap sb tb nb g b (k : Int) ∧ ∃ S x, ToG w0 u m gm S [(g, x)] G (fun y => V y ∨ y = nb) u' ∧ (∀ y, grow G u u' y → ¬ P y) ∧ I k u' S x) := fun k u' h => by rw [hJ0] at h; exact h
  have HJ0 : Hid (J 0 u) := by
    unfold Hid
    rw [hJ0]
    exact ⟨hA, S, x, ToG.refl h, fun y hy => hy.elim (hP y) (fun e => by omega), hI⟩
  have HE : Hid (∀ u', J n u' → ∃ (k : Nat) (e : Int) (S2 : M) (x2 : TX), e = 0 ∧ ToG w0 u m gm S2 [(g, x2)] G (fun y => V y ∨ y = nb) u' ∧ Box u' nb #[.int .i64 (k : Int)] 3 ∧ (k < n ∧ e ≠ 0 ∧ D k e u' S2 x2 ∨ k = n ∧ e = 0 ∧ I n u' S2 x2)) := fun u' hj => by
    obtain ⟨hA', S', x', hT', _, hI'⟩ := HJ.out n u' hj
    exact ⟨n, 0, S', x', rfl, hT', hA'.bn, .inr ⟨rfl, rfl, hI'⟩⟩
  have HC : Hid (∀ k u', k < n → J k u' → Calls Try.prog 14 #[ptr g, b k] u' fun r u2 => ∃ e : Int, r = .returned (.int .i64 e) ∧ u2.cell? ⟨nb, 0, none⟩ = some (.int .i64 (k : Int)) ∧ u2.frozen? ⟨nb, 0, none⟩ = false ∧ (e ≠ 0 → ∃ (k : Nat) (S2 : M) (x2 : TX), ToG w0 u m gm S2 [(g, x2)] G (fun y => V y ∨ y = nb) u2 ∧ Box u2 nb #[.int .i64 (k : Int)] 3 ∧ (k < n ∧ e ≠ 0 ∧ D k e u2 S2 x2 ∨ k = n ∧ e = 0 ∧ I n u2 S2 x2)) ∧ (e = 0 → J (k + 1) (u2.setCell ⟨nb, 0, none⟩ (.int .i64 ((k : Int) + 1))))) := fun k u' hk hj => by
    obtain ⟨hA', S', x', hT', hP', hI'⟩ := HJ.out k u' hj
    refine (hE k u' S' x' _ hk hT'.has hP' hI').mono ?_
    rintro r u2 ⟨e, S2, x2, rfl, t2, d2, i2⟩
    have hnP : ∀ y, P y → ¬ V y → ¬ (grow G u u' y ∨ V y) := fun y hy hv hn => hn.elim (fun hn => hP' y hn hy) hv
    have hA2 : AllAt u2 a n cap sb tb nb g b (k : Int) := hA'.upd t2.upd (fun bb e => hnP bb (p1 bb e) (v1 bb e)) (hnP _ p2 v2) (hnP _ p3 v3) (hnP _ p4 v4)
    have hT2 : ToG w0 u m gm S2 [(g, x2)] G (fun y => V y ∨ y = nb) u2 := hT'.trans (t2.wide (fun _ hy => .inl hy))
    have hs1 := hT'.upd.1
    have hP3 : ∀ y, grow G u u2 y → ¬ P y := fun y hy hp => by
      rcases hy with hy | hy
      · exact hP y hy hp
      · have := hP2 y hp; omega
    refine ⟨e, rfl, hA2.bn.cell 0, hA2.bn.frozen 0, fun he => ⟨k, S2, x2, hT2, hA2.bn, .inl ⟨hk, he, d2 he⟩⟩, fun he => ?_⟩
    rw [hJ0]
    refine ⟨by have := hA2.next ((k : Int) + 1); simpa using this, S2, x2, ⟨?_, ?_⟩, fun y hy => ?_, stab _ _ _ _ _ (i2 he)⟩
    · have q := hT2.has.store (k := nb) (fun hy => hP3 _ hy p4) hnb 0 (.int .i64 ((k : Int) + 1))
      refine q.wide (fun y hy => hy.imp id (fun e => ⟨e.1, by simpa using e.2⟩)) (fun y hy => ?_)
      rcases hy with hy | hy
      · exact q.gB (.inl hy)
      · exact q.gB (.inr ⟨hy.1, by simpa using hy.2⟩)
    · refine ⟨by have := hT2.upd.1; simpa using this, fun y hy hn => ?_⟩
      rw [heap_setCell_other u2 _ y _ (show y ≠ nb from fun e => hn (.inr (.inr e)))]
      exact hT2.upd.2 y hy hn
    · exact hP3 y (hy.imp id (fun e => ⟨e.1, by simpa using e.2⟩))
  have HR : Hid (∀ k u', J k u' → u'.cell? ⟨tb, 0, none⟩ = some (ptr g) ∧ (k < n → ∃ bb, a = some ⟨bb, 0, none⟩ ∧ u'.cell? ⟨bb, k, none⟩ = some (b k))) := fun k u' hj => by
    obtain ⟨hA', _⟩ := HJ.out k u' hj
    refine ⟨hA'.bt.cell 0, fun hk => ?_⟩
    obtain ⟨bb, cs, e, c, d⟩ := hA'.row k hk
    exact ⟨bb, e, by rw [c.cell k]; exact d⟩
  clear h hA hP hP2 p1 p2 p3 p4 v1 v2 v3 v4 stab hI hE hJ0 HJ hsz
  unfold ptr at *
  go_enter Try.func54, Try.ntmps54
  go_wp2_with fail
  go_loopw [9] (fun i u' => ∃ k : Nat, k ≤ n ∧ i = .int .i64 (k : Int) ∧ J k u') (fun i _ => n - (civ i).toNat)
  case atStart => exact ⟨0, Nat.zero_le _, rfl, HJ0.out⟩
  case round =>
    obtain ⟨k, hk, rfl, hJ⟩ := hrel
    have HJk : Hid (J k wr) := hJ
    clear hJ
    by_cases hlt : k < n
    · have hlt' : (k : Int) < (n : Int) := by omega
      obtain ⟨ct, cb⟩ := HR.out k wr HJk.out
      obtain ⟨bb, rfl, cb⟩ := cb hlt
      have cc := HC.out k wr hlt HJk.out
      unfold ptr at cc
      go_wp2_with fail
      refine cc.mono ?_
      rintro r u2 ⟨e, rfl, cn, fn, k1, k2⟩
      have K : Hid ((e ≠ 0 → ∃ (k : Nat) (S2 : M) (x2 : TX), ToG w0 u m gm S2 [(g, x2)] G (fun y => V y ∨ y = nb) u2 ∧ Box u2 nb #[.int .i64 (k : Int)] 3 ∧ (k < n ∧ e ≠ 0 ∧ D k e u2 S2 x2 ∨ k = n ∧ e = 0 ∧ I n u2 S2 x2)) ∧ (e = 0 → J (k + 1) (u2.setCell ⟨nb, 0, none⟩ (.int .i64 ((k : Int) + 1))))) := ⟨k1, k2⟩
      clear k1 k2 cc
      by_cases h0 : e = 0
      · have hj := K.out.2 h0
        have HJ2 : Hid (J (k + 1) (u2.setCell ⟨nb, 0, none⟩ (.int .i64 ((k : Int) + 1)))) := hj
        clear hj K
        subst h0
        go_wp2_with fail
        exact ⟨⟨k + 1, by omega, by simp, HJ2.out⟩, by simp [civ]; omega⟩
      · have h0' : (e == 0) = false := by simpa using h0
        obtain ⟨k3, S2, x2, hf⟩ := K.out.1 h0
        have HF2 : Hid (ToG w0 u m gm S2 [(g, x2)] G (fun y => V y ∨ y = nb) u2 ∧ Box u2 nb #[.int .i64 (k3 : Int)] 3 ∧ (k3 < n ∧ e ≠ 0 ∧ D k3 e u2 S2 x2 ∨ k3 = n ∧ e = 0 ∧ I n u2 S2 x2)) := hf
        clear hf K
        go_wp2_with fail
        go_ret
        exact ⟨k3, e, S2, x2, rfl, HF2.out⟩
    · have hkn : k = n := by omega
      subst k
      go_wp2_with fail
      go_ret
      obtain ⟨k3, e, S2, x2, rfl, hf⟩ := HE.out wr HJk.out
      exact ⟨k3, 0, S2, x2, rfl, hf⟩
end
end Go.Proofs.Ytbpbclmlkdnfbaa.T
