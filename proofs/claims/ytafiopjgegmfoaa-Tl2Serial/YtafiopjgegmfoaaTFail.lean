/-
  A transaction fails; Begin.
-/
import Derived.Test.YtafiopjgegmfoaaTSmall
import Derived.Deep.RegionHeld3
namespace Go.Proofs.Ytafiopjgegmfoaa.T
open Go.RowKit Go.Proofs.Ytafiopjgegmfoaa.C

/-- cells of the transaction's own block were written -/
theorem IsT.own {w w' : World} {B g m s : Nat} {X X' : TX} {F P Q : Nat → Prop} {lv lv' : Value} (h : IsT w B g m X F s lv P Q) (hg : w.grownBy w' (some g)) (hb : Box w' g (cells g m s lv' X') 71) (hS : X'.S = X.S) (hl : LeftAt w Q g lv' X'.left) (ok : X'.Ok) : IsT w' B g m X' F s lv' P Q :=
  { h with
    box := hb
    sets := by
      rw [hS]
      exact h.sets.stay hg.size (fun x hx => hg.block x (h.fB x ((h.fF x).2 (.inl hx))).2 (fun e => h.pq x hx (by injection e with e; rw [e]; exact h.qg)))
    left := hl.stay (fun _ q => q) (fun x cs t _ b ht => (hg.block x b.lt (fun e => (b.ne h.box ht) (by injection e))).trans b)
    ok := ok
    fB := fun x hx => ⟨(h.fB x hx).1, Nat.lt_of_lt_of_le (h.fB x hx).2 hg.size⟩ }
theorem ToX.own {w w' : World} {B g m gm s : Nat} {S : M} {X X' : TX} {F P Q : Nat → Prop} {lv lv' : Value} (hM : MM w B m gm S) (h : IsT w B g m X F s lv P Q) (hm : ¬ F m) (hgm : ¬ F gm) (hg : w.grownBy w' (some g)) (hb : Box w' g (cells g m s lv' X') 71) (hS : X'.S = X.S) (hl : LeftAt w Q g lv' X'.left) (ok : X'.Ok) : ToX w B g m gm S X' F w' := by
  have fg : F g := (h.fF g).2 (.inr h.qg)
  have hx : IsX w' B g m X' F := ⟨_, _, _, _, h.own hg hb hS hl ok⟩
  have st : ∀ k, k < w.heap.size → k ≠ g → w'.heap[k]? = w.heap[k]? := fun k hk hkg => hg.block k hk (fun e => hkg (by injection e))
  refine ⟨hM.stay (st m hM.lt.1.2 (fun e => hm (e ▸ fg))) (st gm hM.lt.2.2 (fun e => hgm (e ▸ fg))), hx.wide (fun _ hx => .inl hx) (grow_lt (fun x hx => h.fB x hx) hM.hB hg.size), ?_, hg.size, fun k hk hn => st k hk (fun e => hn (.inl (e ▸ fg)))⟩
  exact (Below.refl B w).grown hg hM.hB (fun k e => by cases e; exact (h.fB g fg).1)
/-- the memory alone was changed -/
theorem ToX.mem {w w' : World} {B g m gm : Nat} {S S' : M} {X : TX} {F : Nat → Prop} (hM : MM w B m gm S) (h : IsX w B g m X F) (hm : ¬ F m) (hgm : ¬ F gm) (ht : C.To 65 81 w B m S' w') : ToX w B g m gm S' X F w' := by
  obtain ⟨h1, h2⟩ := hM.to ht
  refine ⟨h1, (h.upd h2 (fun x hx e => e.elim (fun e => hm (e ▸ hx)) (fun e => hgm (e ▸ hx)))).wide (fun _ hx => .inl hx) (grow_lt h.fB hM.hB h2.1), ht.bel, h2.1, fun k hk hn => h2.2 k hk (fun e => hn (.inr e))⟩
/-- the sets alone were changed -/
theorem ToX.sets {w w' : World} {B g m gm s : Nat} {S : M} {X : TX} {F P Q : Nat → Prop} {lv : Value} {S' : SS Int} (hM : MM w B m gm S) (h : IsT w B g m X F s lv P Q) (hm : ¬ F m) (hgm : ¬ F gm) (ht : To encI 85 30 w B s S' P w') : ToX w B g m gm S { X with S := S' } F w' := by
  obtain ⟨h1, h2, h3⟩ := ht
  have hP : ∀ x, P x → F x := fun x hx => (h.fF x).2 (.inl hx)
  have hQl : ∀ x, Q x → x < w.heap.size ∧ ¬ P x := fun x hx => ⟨(h.fB x ((h.fF x).2 (.inr hx))).2, fun p => h.pq x p hx⟩
  have gl := grow_lt (fun x hx => h.fB x hx) hM.hB h3.1
  refine ⟨hM.stay (h3.2 m hM.lt.1.2 (fun p => hm (hP m p))) (h3.2 gm hM.lt.2.2 (fun p => hgm (hP gm p))), ⟨s, lv, grow P w w', Q, ?_⟩, h2, h3.1, fun k hk hn => h3.2 k hk (fun p => hn (.inl (hP k p)))⟩
  exact
    { box := (h3.2 g (hQl g h.qg).1 (hQl g h.qg).2).trans h.box
      sets := h1
      left := h.left.stay (fun _ q => q) (fun x cs t q b _ => (h3.2 x (hQl x q).1 (hQl x q).2).trans b)
      ok := ⟨h.ok.own, h.ok.st, h.ok.len, h.ok.bnd⟩
      qg := h.qg
      pq := fun x p q => p.elim (fun p => h.pq x p q) (fun p => by have := (hQl x q).1; omega)
      fF := fun x => ⟨fun f => f.elim (fun f => ((h.fF x).1 f).elim (fun p => .inl (.inl p)) .inr) (fun f => .inl (.inr f)), fun f => f.elim (fun p => p.elim (fun p => .inl (hP x p)) .inr) (fun q => .inl ((h.fF x).2 (.inr q)))⟩
      fB := gl }
theorem TX.Ok.failed {X : TX} (h : X.Ok) : X.fail.Ok := ⟨h.own, .inr (.inr (.inr rfl)), by simp [TX.fail], by simp [TX.fail]⟩
set_option maxRecDepth 100000 in
set_option maxHeartbeats 2000000 in
theorem fail_at {w : World} {B g m gm : Nat} {S : M} {X : TX} {F : Nat → Prop} (hM : MM w B m gm S) (hX : IsX w B g m X F) (hm : ¬ F m) (hgm : ¬ F gm) : Calls Try.prog 27 #[ptr g] w fun r w' => r = .returned (.tuple #[]) ∧ ToX w B g m gm (S.rel X.own) X.fail F w' := by
  obtain ⟨s, lv, P, Q, h⟩ := hX
  obtain ⟨o, ho⟩ : ∃ o, o = X.own := ⟨_, rfl⟩
  have ho1 : 1 ≤ o := by rw [ho]; exact h.ok.own.1
  have hbox := h.box
  have c1 : w.cell? ⟨g, 1, none⟩ = some (ptr m) := hbox.cell 1
  have c2 : w.cell? ⟨g, 2, none⟩ = some (.int .i64 o) := by rw [ho]; exact hbox.cell 2
  have HO := C.owned_at (hM.stay rfl rfl : MM w.drew B m gm S).is o
  obtain ⟨l, hl⟩ : ∃ l, l = S.owned o := ⟨_, rfl⟩
  rw [← hl] at HO
  have hn : l.length ≤ 1024 := by
    rw [hl]; unfold M.owned
    rw [if_pos ho1]
    exact Nat.le_trans (gat_le _ _ _) hM.is.rt.n2
  have HL : Hid (l = S.owned o) := hl
  have HT : Hid (IsT w B g m X F s lv P Q) := h
  have HMM : Hid (MM w B m gm S) := hM
  have HX : Hid (o = X.own) := ho
  have fg : Hid (F g) := (h.fF g).2 (.inr h.qg)
  obtain ⟨n, hnl⟩ : ∃ n, n = l.length := ⟨_, rfl⟩
  rw [← hnl] at HO hn
  have HN : Hid (n = l.length) := hnl
  have HS : Hid (∀ u, Below w.drew.heap.size w.drew u → u.cell? ⟨g, 1, none⟩ = some (.pointer (some ⟨m, 0, none⟩)) ∧ u.cell? ⟨g, 2, none⟩ = some (.int .i64 o)) := fun u hu => by
    have b : Box u g (cells g m s lv X) 71 := Box.below (w := w.drew) hbox hu hbox.lt
    exact ⟨b.cell 1, by rw [ho]; exact b.cell 2⟩
  clear h hM hbox hl ho hnl
  unfold ptr at *
  go_enter Try.func27, Try.ntmps27
  go_wp2_with fail
  go_region_held3 (fun u => u.cell? ⟨g, 1, none⟩ = some (.pointer (some ⟨m, 0, none⟩)) ∧ u.cell? ⟨g, 2, none⟩ = some (.int .i64 o)) (first | with_reducible exact HS.out _ hbel | go_keep) ((go_at_call 37; refine Calls.mono HO ?_; rintro e w1 ⟨v, rfl, hrow, hbel⟩; obtain ⟨a, cc, rfl⟩ := ownsRow_slice hrow))
  have HB : Hid (Below w.heap.size w w1) := ⟨hbel.os, hbel.tape, hbel.output, hbel.size, hbel.block⟩
  have HR : Hid (w1.ownsRow w.heap.size 3 1 (.slice a n cc) n (ics l)) := hrow
  clear hrow hbel HO HS c1 c2
  go_wp2_with fail
  go_loopw [14] (fun v u => ∃ k : Nat, k ≤ n ∧ v = .int .i64 (k : Int) ∧ Hid (MM u B m gm (relL o (l.take k) S) ∧ Upd (fun x => x = m ∨ x = gm) w1 u ∧ Below B w1 u)) (fun v _ => n - (civ v).toNat)
  case atStart =>
    refine ⟨0, Nat.zero_le _, rfl, ?_, Upd.refl _ _, Below.refl _ _⟩
    rw [List.take_zero, relL_nil]
    exact HMM.out.below HB.out
  case round =>
    obtain ⟨k, hk, rfl, hrel⟩ := hrel
    have hHT := HT.out
    have b1 : Box w1 g (cells g m s lv X) 71 := hHT.box.below HB.out hHT.box.lt
    have bu : Box wr g (cells g m s lv X) 71 := (hrel.out.2.1.2 g b1.lt (fun e => e.elim (fun e => hm (e ▸ fg.out)) (fun e => hgm (e ▸ fg.out)))).trans b1
    have c1 : wr.cell? ⟨g, 1, none⟩ = some (.pointer (some ⟨m, 0, none⟩)) := bu.cell 1
    have c2 : wr.cell? ⟨g, 2, none⟩ = some (.int .i64 o) := by rw [HX.out]; exact bu.cell 2
    clear hHT b1
    by_cases hlt : k < n
    · have hki : (k : Int) < (n : Int) := by omega
      have hkl : k < l.length := by rw [← HN.out]; exact hlt
      obtain ⟨g', cap, e1, x1⟩ := ownsRow_cell HR.out k hlt
      have hg' : Hid (w.heap.size ≤ g' ∧ g' < w1.heap.size) := by
        injection e1 with e1
        subst e1
        exact HR.out.lt g' rfl
      have x2 : wr.cell? ⟨g', k, none⟩ = some (.int .i64 (l[k] : Int)) := by
        have hst : wr.heap[g']? = w1.heap[g']? := hrel.out.2.1.2 g' hg'.out.2 (fun e => by
          have := HMM.out.lt
          have := hg'.out
          omega)
        have e2 : wr.cell? ⟨g', k, none⟩ = w1.cell? ⟨g', k, none⟩ := by simp only [World.cell?, hst]
        rw [e2, x1]
        simp [ics, hkl]
      injection e1 with e1 e2 e3
      subst e1
      subst e3
      clear e2
      have CU := C.unlock_at (hrel.out.1.stay rfl rfl : MM wr.drew B m gm (relL o (l.take k) S)).is (l[k] : Int) o
      have hU : Hid (((relL o (l.take k) S).unlock (l[k] : Int) o).1 = relL o (l.take (k + 1)) S) := by
        unfold Hid
        rw [← fold_rel o ho1, ← fold_rel o ho1, List.take_succ_eq_append_getElem hkl, List.foldl_append]
        rfl
      generalize ((relL o (l.take k) S).unlock (l[k] : Int) o) = U at *
      generalize ((l[k] : Nat) : Int) = z at *
      have HS : Hid (∀ u, C.To 65 81 wr.drew B m U.1 u → u.cell? ⟨g, 1, none⟩ = some (.pointer (some ⟨m, 0, none⟩)) ∧ u.cell? ⟨g, 2, none⟩ = some (.int .i64 o)) := fun u hu => by
        have hh := (hrel.out.1.stay rfl rfl : MM wr.drew B m gm (relL o (l.take k) S)).to hu
        have b : Box u g (cells g m s lv X) 71 := (hh.2.2 g bu.lt (fun e => e.elim (fun e => hm (e ▸ fg.out)) (fun e => hgm (e ▸ fg.out)))).trans bu
        exact ⟨b.cell 1, by rw [HX.out]; exact b.cell 2⟩
      clear bu
      unfold ptr at *
      go_wp2_with fail
      go_region_held3 (fun u => u.cell? ⟨g, 1, none⟩ = some (.pointer (some ⟨m, 0, none⟩)) ∧ u.cell? ⟨g, 2, none⟩ = some (.int .i64 o)) (first | with_reducible exact HS.out _ hto | go_keep) ((go_at_call 38; refine Calls.mono CU ?_; rintro e w2 ⟨rfl, hto⟩))
      go_wp2_with fail
      go_roundw
      case rel =>
        have hh := (hrel.out.1.stay rfl rfl : MM wr.drew B m gm (relL o (l.take k) S)).to hto
        refine ⟨k + 1, by omega, by simp, ?_, hrel.out.2.1.trans (F' := fun x => x = m ∨ x = gm) ⟨hh.2.1, hh.2.2⟩ (fun x hx => .inl hx), hrel.out.2.2.trans ⟨hto.bel.os, hto.bel.tape, hto.bel.output, hto.bel.size, hto.bel.block⟩⟩
        rw [← hU.out]; exact hh.1
      case measure => simp only [civ]; omega
    · have hkn : k = n := by omega
      subst k
      have hki : ¬ (n : Int) < (n : Int) := by omega
      obtain ⟨hM2, hU2, hB2⟩ := hrel.out
      have hT2 : IsT wr B g m X F s lv P Q := (HT.out.stay HB.out.size (fun x hx => HB.out.block x (HT.out.fB x hx).2)).stay hU2.1 (fun x hx => hU2.2 x (Nat.lt_of_lt_of_le (HT.out.fB x hx).2 HB.out.size) (fun e => e.elim (fun e => hm (e ▸ hx)) (fun e => hgm (e ▸ hx))))
      have f5 := bu.frozen 5
      have k5 : wr.cell? ⟨g, 5, none⟩ = some (.int .u8 X.st) := bu.cell 5
      have b5 := bu.store 5 (.int .u8 4)
      have k6 : (wr.setCell ⟨g, 5, none⟩ (.int .u8 4)).cell? ⟨g, 6, none⟩ = some lv := b5.cell 6
      have f6 := b5.frozen 6
      have b6 := b5.store 6 (.slice none 0 0)
      have b7 : Box ((wr.setCell ⟨g, 5, none⟩ (.int .u8 4)).setCell ⟨g, 6, none⟩ (.slice none 0 0)) g (cells g m s (.slice none 0 0) X.fail) 71 := b6
      have hS : relL o (l.take n) S = S.rel X.own := by
        rw [HN.out, List.take_length, ← fold_rel o ho1, HL.out, owned_rel S o ho1, HX.out]
      rw [hS] at hM2
      have key : ToX wr B g m gm (S.rel X.own) X.fail F ((wr.setCell ⟨g, 5, none⟩ (.int .u8 4)).setCell ⟨g, 6, none⟩ (.slice none 0 0)) :=
        ToX.own hM2 hT2 hm hgm (grown_trans (grown_store _ _ _ _) (grown_store _ _ _ _)) b7 rfl (LeftAt.nil _ _ _ _ _) (TX.Ok.failed hT2.ok)
      have K : Hid (ToX w B g m gm (S.rel X.own) X.fail F ((wr.setCell ⟨g, 5, none⟩ (.int .u8 4)).setCell ⟨g, 6, none⟩ (.slice none 0 0))) :=
        ⟨key.mm, key.tx.wide (fun x hx => hx.imp id (fun h => ⟨Nat.le_trans HB.out.size (Nat.le_trans hU2.1 h.1), h.2⟩)) (fun x hx => by
          rcases hx with hx | hx
          · exact key.tx.fB x (.inl hx)
          · exact ⟨Nat.le_trans HMM.out.hB hx.1, hx.2⟩), ((HB.out.mono HMM.out.hB).trans hB2).trans key.bel, Nat.le_trans HB.out.size (Nat.le_trans hU2.1 key.upd.1), fun x hx hn => (key.upd.2 x (Nat.lt_of_lt_of_le hx (Nat.le_trans HB.out.size hU2.1)) hn).trans ((hU2.2 x (Nat.lt_of_lt_of_le hx HB.out.size) (fun e => hn (.inr e))).trans (HB.out.block x hx))⟩
      clear hM2 hU2 hB2 hT2 b5 b6 b7 bu key hrel hS HR HN HL HX HT
      go_wp2
      go_end0
      exact ⟨rfl, K.out⟩
end Go.Proofs.Ytafiopjgegmfoaa.T
