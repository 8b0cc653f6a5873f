/-
  The document's own Wake.
-/
import Derived.Test.YtjhhncbadkpbaaaRefRow
namespace Go.Proofs.Ytjhhncbadkpbaaa
open Go.RowKit
def RS.wake (R : RS) (id : Int) : RS × Bool :=
  if id < 1 ∨ (R.St.length : Int) < id then (R, false)
  else if id = (R.now : Int) then ({ R with wk := true }, !R.wk)
  else if R.St[(id - 1).toNat]? = some 2 then ({ R with St := R.St.set (id - 1).toNat 1, Ln := R.Ln ++ [id.toNat] }, true)
  else (R, false)
theorem rwake_out {w : World} {B g : Nat} {V : RV} {R : RS} {P : List PV} (h : RB w B g V R P) (id : Int) (hi : id < 1 ∨ (R.St.length : Int) < id) : Calls Try.prog 15 #[ptr g, .int .i64 id] w fun r w' => r = .returned (.bool false) ∧ w' = w := by
  obtain ⟨a, c, hv⟩ := ownsRow_slice h.rs
  have c1 : w.cell? ⟨g, 1, none⟩ = some (.slice a R.St.length c) := by rw [← hv]; exact h.box.cell 1
  generalize R.St.length = n at *
  clear h hv
  unfold ptr
  by_cases h1 : id < 1
  · go_enter Try.func15, Try.ntmps15
    go_wp2_with fail
    go_ret
    simp
  · have h2 : (n : Int) < id := by omega
    clear hi
    go_enter Try.func15, Try.ntmps15
    go_wp2_with fail
    go_ret
    simp
set_option maxRecDepth 20000 in
set_option maxHeartbeats 2000000 in
theorem rwake_at {w : World} {B g : Nat} {V : RV} {R : RS} {P : List PV} (h : RB w B g V R P) (id : Int) (hl : R.St.length < 1000) (hll : R.Ln.length < 1000000) :
    Calls Try.prog 15 #[ptr g, .int .i64 id] w fun r w' => r = .returned (.bool (R.wake id).2) ∧ RTo w B g V (R.wake id).1 P w' ∧ w'.cell? ⟨g, 4, none⟩ = w.cell? ⟨g, 4, none⟩ := by
  by_cases ho : id < 1 ∨ (R.St.length : Int) < id
  · have ew : R.wake id = (R, false) := by unfold RS.wake; rw [if_pos ho]
    rw [ew]
    refine (rwake_out h id ho).mono ?_
    rintro r w' ⟨rfl, rfl⟩
    exact ⟨rfl, RTo.refl h, rfl⟩
  · obtain ⟨i, rfl⟩ : ∃ i : Nat, id = ((i + 1 : Nat) : Int) := ⟨(id - 1).toNat, by omega⟩
    have hiS : i < R.St.length := by omega
    have e1 : (((i + 1 : Nat) : Int) - 1).toNat = i := by omega
    obtain ⟨q, c, hv, xi, fi⟩ := ics_at h.rs rfl i hiS
    have c1 : w.cell? ⟨g, 1, none⟩ = some (.slice (some ⟨q, 0, none⟩) R.St.length c) := by rw [← hv]; exact h.box.cell 1
    have c6 : w.cell? ⟨g, 6, none⟩ = some (.int .i64 (R.now : Int)) := h.box.cell 6
    obtain ⟨Z, hZ⟩ : ∃ Z : Int, Z = ((i + 1 : Nat) : Int) := ⟨_, rfl⟩
    have hz1 : 1 ≤ Z := by omega
    have hz2 : Z ≤ (R.St.length : Int) := by omega
    have hzi : Z - 1 = (i : Int) := by omega
    have hl' : (R.St.length : Int) < 1000 := by omega
    by_cases hn : ((i + 1 : Nat) : Int) = (R.now : Int)
    · have ew : R.wake ((i + 1 : Nat) : Int) = ({ R with wk := true }, !R.wk) := by unfold RS.wake; rw [if_neg ho, if_pos hn]
      rw [ew]
      have c5 : w.cell? ⟨g, 5, none⟩ = some (.bool R.wk) := h.box.cell 5
      have f5 := h.box.frozen 5
      have T5 : Hid (RTo w B g V { R with wk := true } P (w.setCell ⟨g, 5, none⟩ (.bool true))) := h.flag 5 (.bool true) true R.now rfl
      have T5c : Hid ((w.setCell ⟨g, 5, none⟩ (.bool true)).cell? ⟨g, 4, none⟩ = w.cell? ⟨g, 4, none⟩) := by
        rw [Box.cell (h.box.store 5 (.bool true)) 4, h.box.cell 4]; rfl
      rw [← hZ] at hn ⊢
      rw [← hn] at c6
      clear h hv ho ew hn hZ xi fi hiS
      generalize R.St.length = n at *
      generalize R.wk = b at c5 ⊢
      unfold ptr
      go_enter Try.func15, Try.ntmps15
      go_wp2_with fail
      go_ret
      exact ⟨rfl, T5.out, T5c.out⟩
    · by_cases h2 : R.St[i] = 2
      · have ew : R.wake ((i + 1 : Nat) : Int) = ({ R with St := R.St.set i 1, Ln := R.Ln ++ [i + 1] }, true) := by
          unfold RS.wake
          rw [if_neg ho, if_neg hn, e1, if_pos (by rw [List.getElem?_eq_getElem hiS, h2])]
          rfl
        rw [ew]
        rw [h2] at xi
        obtain ⟨i0, hi0, hz0, hz1', hz2'⟩ := info_parts infoI
        have T1 := h.vsSet (q := q) (by rw [hv]; rfl) i 1
        obtain ⟨V1, h1, hF1⟩ := T1.is
        obtain ⟨w1, hw1⟩ : ∃ w1, w.setCell ⟨q, i, none⟩ (.int .i64 1) = w1 := ⟨_, rfl⟩
        have hw1' : w.setCell ⟨q, i, none⟩ (.int .i64 ((1 : Nat) : Int)) = w1 := hw1
        rw [hw1'] at T1 h1
        have H1 : Hid (RB w1 B g V1 { R with St := R.St.set i 1 } P) := h1
        have HWc : Hid (w1.cell? ⟨g, 4, none⟩ = w.cell? ⟨g, 4, none⟩) := by
          obtain ⟨cq, xq⟩ := ownsRow_box h.rs q (by rw [hv]; rfl)
          show w1.cell? ⟨g, 4, none⟩ = w.cell? ⟨g, 4, none⟩
          rw [← hw1, Box.cell (h.box.other q i _ (h.box.ne xq (by decide))) 4, h.box.cell 4]
        have HT1 : Hid (RTo w B g V { R with St := R.St.set i 1 } P w1) := T1
        have HF1 : Hid (∀ k, RF g V1 k → RF g V k ∨ w.heap.size ≤ k) := hF1
        obtain ⟨al, cl, hvl⟩ := ownsRow_slice h1.rl
        have c3 : w1.cell? ⟨g, 3, none⟩ = some V1.vl := h1.box.cell 3
        have hx := Box.new w1 #[.int .i64 Z] 3
        have own1 := h1.rl.alloc (.cells #[.int .i64 Z] 3)
        have hB1 := h1.hB
        obtain ⟨xs, hxs⟩ : ∃ xs, xs = ics R.Ln := ⟨_, rfl⟩
        obtain ⟨m, hm⟩ : ∃ m, m = R.Ln.length := ⟨_, rfl⟩
        change (w1.alloc (.cells #[.int .i64 Z] 3)).ownsRow B 3 1 V1.vl R.Ln.length (ics R.Ln) at own1
        change V1.vl = .slice al R.Ln.length cl at hvl
        rw [← hxs, ← hm] at own1
        rw [← hm] at hvl hll
        have Hxs : Hid (xs = ics R.Ln) := hxs
        have Hm : Hid (m = R.Ln.length) := hm
        have Hvl : Hid (V1.vl = .slice al m cl) := hvl
        rw [hvl] at own1 c3
        have HZ : Hid (Z = ((i + 1 : Nat) : Int)) := hZ
        have hnn : ¬ Z = (R.now : Int) := by rw [hZ]; exact hn
        rw [← hZ]
        clear h hv ho ew hn hZ h2 T1 h1 hF1 hxs hm hvl hw1' hiS
        generalize R.St.length = n at *
        generalize (R.now : Int) = nw at *
        unfold ptr at *
        go_enter Try.func15, Try.ntmps15
        go_wp2_with (at_builtin; refine wpList_append_own_at _ rfl _ _ 39 rfl B 3 i0 (.int .i64 0) 1 8 Try.underlying39 hi0 hz0 hz1' hz2' rfl (by decide) _ m _ rfl own1 ⟨w1.heap.size, 0, none⟩ 1 1 [.int .i64 Z] rfl rfl (one_cell hx) ?c2 ?c3 ?c4 ?c5 ?_)
        case c2 => intro u hu; simp at hu; subst hu; rfl
        case c3 => unfold maxLen; omega
        case c4 => omega
        case c5 => simp; omega
        intro v' w4 hown4 hgrow _ hwhere
        have bA : Below w1.heap.size w1 (w1.alloc (.cells #[.int .i64 Z] 3)) := (Below.refl _ _).alloc (Nat.le_refl _) _
        have hA := H1.out.below bA
        have ho4 : w4.ownsRow B 3 1 v' (R.Ln ++ [i + 1]).length (ics (R.Ln ++ [i + 1])) := by
          rw [Hxs.out, Hm.out, HZ.out] at hown4
          rw [List.length_append, ics, List.map_append]
          exact hown4
        obtain ⟨hR, hbx, hkt, hbl, hF⟩ := hA.vl (l := R.Ln ++ [i + 1]) (by rw [Hvl.out]; exact hgrow) ho4 (fun k hk => by
          rw [Hvl.out]
          rcases hwhere with h1 | h1
          · exact .inl (h1 ▸ hk)
          · rw [h1] at hk; cases hk; exact .inr (by simp))
        have T4 : RTo w1 B g V1 { R with St := R.St.set i 1, Ln := R.Ln ++ [i + 1] } P (w4.setCell ⟨g, 3, none⟩ v') := by
          have hsz : (w1.alloc (.cells #[.int .i64 Z] 3)).heap.size = w1.heap.size + 1 := by simp
          refine ⟨⟨_, hR, fun k hk => ?_⟩, (bA.mono hB1).trans hbl, KtF.trans' (KtF.of (Kt.below bA)) hkt (fun _ h => .inl h)⟩
          rcases hF k hk with h1 | h1
          · exact .inl h1
          · exact .inr (by omega)
        have HT4 : Hid (RTo w B g V { R with St := R.St.set i 1, Ln := R.Ln ++ [i + 1] } P (w4.setCell ⟨g, 3, none⟩ v')) := RTo.trans HT1.out HF1.out T4
        have d3 : w4.cell? ⟨g, 3, none⟩ = some (.slice al m cl) := by rw [← Hvl.out]; exact hbx.cell 3
        have T4c : Hid ((w4.setCell ⟨g, 3, none⟩ v').cell? ⟨g, 4, none⟩ = w.cell? ⟨g, 4, none⟩) := by
          rw [Box.cell hR.box 4, ← HWc.out, H1.out.box.cell 4]; rfl
        have f3 := hbx.frozen 3
        obtain ⟨a', c', hv'⟩ := ownsRow_slice hown4
        clear T4 hR hbx hkt hbl hF hA bA ho4 hwhere hown4 hgrow own1 hx
        subst hv'
        go_wp2
        go_ret
        exact ⟨rfl, HT4.out, T4c.out⟩
      · have ew : R.wake ((i + 1 : Nat) : Int) = (R, false) := by
          unfold RS.wake
          rw [if_neg ho, if_neg hn, e1, if_neg (by rw [List.getElem?_eq_getElem hiS]; simpa using h2)]
        rw [ew]
        have HR : Hid (RTo w B g V R P w) := RTo.refl h
        obtain ⟨y, hy⟩ : ∃ y : Int, y = ((R.St[i] : Nat) : Int) := ⟨_, rfl⟩
        rw [← hy] at xi
        have hy2 : ¬ y = 2 := by omega
        have hnn : ¬ Z = (R.now : Int) := by rw [hZ]; exact hn
        rw [← hZ]
        clear h hv ho ew hn hZ hy h2 hiS
        generalize R.St.length = n at *
        generalize (R.now : Int) = nw at *
        unfold ptr
        go_enter Try.func15, Try.ntmps15
        go_wp2_with fail
        go_ret
        exact ⟨rfl, HR.out, rfl⟩
end Go.Proofs.Ytjhhncbadkpbaaa
