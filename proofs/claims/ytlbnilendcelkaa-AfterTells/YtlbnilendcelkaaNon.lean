/-
  No queue; Len, Mark.
-/
import Derived.Test.YtlbnilendcelkaaSit
namespace Go.Proofs.Ytlbnilendcelkaa
open Go.RowKit
/-- no queue: none, or one that New did not make -/
def NoQ (u : World) (p : Value) : Prop := p = .pointer none ∨ ∃ z, p = ptr z ∧ Box u z #[.pointer none, .slice none 0 0, .slice none 0 0] 49
theorem NoQ.below {u u' : World} {p : Value} (h : NoQ u p) (hb : Below u.heap.size u u') : NoQ u' p := by
  rcases h with h | ⟨z, h, hx⟩
  · exact .inl h
  · exact .inr ⟨z, h, hx.below hb hx.lt⟩
theorem no_made {u : World} {p : Value} (h : NoQ u p) : Calls Try.prog 24 #[p] u fun r w' => r = .returned (.bool false) ∧ w' = u := by
  rcases h with rfl | ⟨z, rfl, hx⟩
  · go_enter Try.func24, Try.ntmps24
    go_wp2
    go_ret
    simp
  · have c0 : u.cell? ⟨z, 0, none⟩ = some (.pointer none) := hx.cell 0
    have he := I.eqlNone z
    clear hx
    unfold ptr
    go_enter Try.func24, Try.ntmps24
    go_wp2
    go_ret
    simp
theorem NoQ.form {u : World} {p : Value} (h : NoQ u p) : ∃ a, p = .pointer a := by
  rcases h with rfl | ⟨z, rfl, _⟩
  · exact ⟨_, rfl⟩
  · exact ⟨_, rfl⟩
theorem later_no {u : World} {p : Value} (h : NoQ u p) (o a : Int) : Calls Try.prog 8 #[p, .int .i64 o, .int .i64 a] u fun r w' => r = .returned (.int .i64 1) ∧ Below u.heap.size u w' := by
  have cm := no_made h
  have HB := hid (Below.refl u.heap.size u)
  obtain ⟨pa, rfl⟩ := h.form
  clear h
  go_enter Try.func8, Try.ntmps8
  go_wp2_with (go_at_call 24; refine cm.mono ?_; rintro e w' ⟨rfl, rfl⟩)
  go_ret
  exact ⟨rfl, HB.out⟩
theorem commit_no {u : World} {p : Value} (h : NoQ u p) (o v : Int) : Calls Try.prog 9 #[p, .int .i64 o, .int .i64 v] u fun r w' => r = .returned (.tuple #[.int .i64 0, .int .i64 1]) ∧ Below u.heap.size u w' := by
  have hb := (Below.refl u.heap.size u).alloc (Nat.le_refl _) (.cells #[.int .i64 o] 3)
  have cm := no_made (h.below hb)
  have HB := hid hb
  obtain ⟨pa, rfl⟩ := h.form
  clear h hb
  go_enter Try.func9, Try.ntmps9
  go_wp2_with (go_at_call 24; refine cm.mono ?_; rintro e w' ⟨rfl, rfl⟩)
  go_ret2
  exact ⟨rfl, HB.out⟩
theorem take_no {u : World} {p : Value} (h : NoQ u p) (o : Int) : Calls Try.prog 10 #[p, .int .i64 o] u fun r w' => r = .returned (.slice none 0 0) ∧ Below u.heap.size u w' := by
  have hb := (Below.refl u.heap.size u).alloc (Nat.le_refl _) (.cells #[.int .i64 o] 2)
  have cm := no_made (h.below hb)
  have HB := hid hb
  obtain ⟨pa, rfl⟩ := h.form
  clear h hb
  go_enter Try.func10, Try.ntmps10
  go_wp2_with (go_at_call 24; refine cm.mono ?_; rintro e w' ⟨rfl, rfl⟩)
  go_ret
  exact ⟨rfl, HB.out⟩
theorem mark_no {u : World} {p : Value} (h : NoQ u p) (o : Int) : Calls Try.prog 18 #[p, .int .i64 o] u fun r w' => r = .returned (.int .i64 0) ∧ Below u.heap.size u w' := by
  have cm := no_made h
  have HB := hid (Below.refl u.heap.size u)
  obtain ⟨pa, rfl⟩ := h.form
  clear h
  go_enter Try.func18, Try.ntmps18
  go_wp2_with (go_at_call 24; refine cm.mono ?_; rintro e w' ⟨rfl, rfl⟩)
  go_ret
  exact ⟨rfl, HB.out⟩
theorem len_no {u : World} {p : Value} (h : NoQ u p) : Calls Try.prog 11 #[p] u fun r w' => r = .returned (.tuple #[.int .i64 0, .int .i64 0]) ∧ Below u.heap.size u w' := by
  have cm := no_made h
  have HB := hid (Below.refl u.heap.size u)
  obtain ⟨pa, rfl⟩ := h.form
  clear h
  go_enter Try.func11, Try.ntmps11
  go_wp2_with (go_at_call 24; refine cm.mono ?_; rintro e w' ⟨rfl, rfl⟩)
  go_ret2
  exact ⟨rfl, HB.out⟩
theorem back_no {u : World} {p : Value} (h : NoQ u p) (o m : Int) : Calls Try.prog 20 #[p, .int .i64 o, .int .i64 m] u fun r w' => r = .returned (.int .i64 0) ∧ Below u.heap.size u w' := by
  have hb := ((Below.refl u.heap.size u).alloc (Nat.le_refl _) (.cells #[.int .i64 o] 3)).alloc (by simp) (.cells #[.int .i64 m] 3)
  have cm := no_made (h.below hb)
  have HB := hid hb
  obtain ⟨pa, rfl⟩ := h.form
  clear h hb
  go_enter Try.func20, Try.ntmps20
  go_wp2_with (go_at_call 24; refine cm.mono ?_; rintro e w' ⟨rfl, rfl⟩)
  go_ret
  exact ⟨rfl, HB.out⟩
theorem drop_no {u : World} {p : Value} (h : NoQ u p) (o : Int) : Calls Try.prog 15 #[p, .int .i64 o] u fun r w' => r = .returned (.int .i64 0) ∧ Below u.heap.size u w' := by
  have cm := back_no h o 0
  obtain ⟨pa, rfl⟩ := h.form
  clear h
  go_enter Try.func15, Try.ntmps15
  go_wp2_with (go_at_call 20; refine cm.mono ?_; rintro e w' ⟨rfl, hb⟩; have HB := hid hb; clear hb)
  go_ret
  exact ⟨rfl, HB.out⟩
/-! ### how many -/
theorem len_at {w : World} {B q : Nat} {S : QS Int} {F : Nat → Prop} (h0 : HasQ eI 49 33 w B q S F) : Calls Try.prog 11 #[ptr q] w fun r w' => r = .returned (.tuple #[.int .i64 (S.wait.length : Int), .int .i64 (S.due.length : Int)]) ∧ ∃ n, w' = w.drewN n := by
  obtain ⟨vw, vd, h, hri⟩ := h0
  have cm := I.isMade_at h.box
  have c1 : w.cell? ⟨q, 1, none⟩ = some vw := h.box.cell 1
  have c2 : w.cell? ⟨q, 2, none⟩ = some vd := h.box.cell 2
  obtain ⟨aw, cw, hvw⟩ := ownsRow_slice h.rw
  obtain ⟨ad, cd, hvd⟩ := ownsRow_slice h.rd
  subst hvw hvd
  clear h hri
  generalize S.wait.length = nw at *
  generalize S.due.length = nd at *
  unfold ptr at *
  go_enter Try.func11, Try.ntmps11
  go_wp2_with (go_at_call 24; refine cm.mono ?_; rintro e w' ⟨rfl, rfl⟩)
  go_quiet (fail)
  go_wp2
  go_ret2
  exact ⟨rfl, _, rfl⟩
set_option maxRecDepth 100000 in
theorem mark_at {w : World} {B q : Nat} {S : QS Int} {F : Nat → Prop} (h0 : HasQ eI 49 33 w B q S F) (o : Int) : Calls Try.prog 18 #[ptr q, .int .i64 o] w fun r w' => r = .returned (.int .i64 ((S.mine o).length : Int)) ∧ Below w.heap.size w w' := by
  obtain ⟨vw, vd, h, hri⟩ := h0
  have cm := I.isMade_at h.box
  have c1 : w.cell? ⟨q, 1, none⟩ = some vw := h.box.cell 1
  obtain ⟨aw, cw, hvw⟩ := ownsRow_slice h.rw
  have hrm := h.rm
  obtain ⟨l, hl⟩ : ∃ l, l = S.wait := ⟨_, rfl⟩
  have HM : Hid (S.mine o = l.filter (fun e => e.own = o)) := by unfold Hid; rw [hl]; rfl
  have hrow := h.rw
  rw [← hl] at hrow hvw
  obtain ⟨n, hn⟩ : ∃ n, n = l.length := ⟨_, rfl⟩
  have hn2 : n ≤ 1024 := by rw [hn, hl]; omega
  have HN := hid hn
  have HROW : Hid (∀ k (hk : k < l.length) (u : World), Below w.heap.size w u → ∃ g, aw = some ⟨g, 0, none⟩ ∧ u.cell? ⟨g, k * 3, none⟩ = some (.int .i64 l[k].ver) ∧ u.cell? ⟨g, k * 3 + 1, none⟩ = some (.int .i64 l[k].own) ∧ u.cell? ⟨g, k * 3 + 2, none⟩ = some (.int .i64 l[k].act)) := fun k hk u hb => by
    rcases hrow.lay with ⟨_, he⟩ | ⟨g, cap, he, _, hly⟩
    · rw [he] at hk; simp at hk
    · rw [hvw] at he
      injection he with he1 he2 he3
      exact ⟨g, he1, (hly.at' (hb.block g hly.lt)).get (by simp [hk])⟩
  rw [hvw, ← hn] at c1
  clear h hri hrow hvw hl hn hrm
  unfold ptr at *
  go_enter Try.func18, Try.ntmps18
  go_wp2_with (go_at_call 24; refine cm.mono ?_; rintro e w' ⟨rfl, rfl⟩)
  go_loopw [5, 16] (fun c i u => ∃ k : Nat, k ≤ n ∧ i = .int .i64 (k : Int) ∧ c = .int .i64 (((l.take k).filter (fun e => e.own = o)).length : Int) ∧ Hid (Below w'.heap.size w' u)) (fun _ i _ => n - (intOf i).toNat)
  case atStart => exact ⟨0, Nat.zero_le _, rfl, by simp, Below.refl _ _⟩
  case round =>
    obtain ⟨k, hk, rfl, rfl, hrel⟩ := hrel
    by_cases hlt : k < n
    · have hki : (k : Int) < (n : Int) := by omega
      have hkl : k < l.length := by have := HN.out; omega
      obtain ⟨g, rfl, d0, d1, d2⟩ := HROW.out k hkl wr hrel.out
      have hft : (l.take (k + 1)).filter (fun e => decide (e.own = o)) = (l.take k).filter (fun e => decide (e.own = o)) ++ if l[k].own = o then [l[k]] else [] := by
        rw [List.take_succ_eq_append_getElem hkl, List.filter_append]
        by_cases hh : l[k].own = o <;> simp [hh]
      have hle : ((l.take k).filter fun e => decide (e.own = o)).length ≤ 1024 := Nat.le_trans (List.length_filter_le _ _) (by simp; omega)
      obtain ⟨m, hm⟩ : ∃ m, m = ((l.take k).filter fun e => decide (e.own = o)).length := ⟨_, rfl⟩
      rw [← hm] at hle ⊢
      have HFT : Hid (((l.take (k + 1)).filter (fun e => decide (e.own = o))).length = if l[k].own = o then m + 1 else m) := by
        unfold Hid; rw [hft, List.length_append, ← hm]; by_cases hh : l[k].own = o <;> simp [hh]
      have hbe := hrel.out.alloc hrel.out.size (.cells #[.int .i64 l[k].ver, .int .i64 l[k].own, .int .i64 l[k].act] 33)
      have HBE := hid hbe
      clear hft hm hbe hrel
      generalize l[k] = x at *
      obtain ⟨xv, xo, xa⟩ := x
      by_cases hxo : xo = o
      · subst hxo
        have r1 : IntKind.i64.wrap ((m : Int) + 1) = (m : Int) + 1 := by rw [IntKind.wrap_i64]; omega
        go_wp2_with fail
        go_roundw
        case rel => exact ⟨k + 1, by omega, by simp, by rw [HFT.out]; simp, HBE.out⟩
        case measure => simp only [intOf]; omega
      · have hne : (xo == o) = false := by simpa using hxo
        have HXO := hid hxo
        go_wp2_with fail
        go_roundw
        case rel => exact ⟨k + 1, by omega, by simp, by rw [HFT.out, if_neg HXO.out], HBE.out⟩
        case measure => simp only [intOf]; omega
    · have hki : ¬ (k : Int) < (n : Int) := by omega
      have htk : l.take k = l := by rw [show k = l.length by have := HN.out; omega]; exact List.take_length
      rw [htk, ← HM.out]
      obtain ⟨m, hm⟩ : ∃ m, m = (S.mine o).length := ⟨_, rfl⟩
      have HM2 := hid hm
      rw [← hm]
      clear htk hm
      go_wp2_with fail
      go_ret
      exact ⟨by rw [← HM2.out]; rfl, hrel.out⟩
theorem Sit.len {w0 u : World} {q : Nat} {S : QS Int} {R : List (Value × List (En Int))} (h : Sit eI 49 33 w0 q S R u) : Calls Try.prog 11 #[ptr q] u fun r u' => r = .returned (.tuple #[.int .i64 (S.wait.length : Int), .int .i64 (S.due.length : Int)]) ∧ Sit eI 49 33 w0 q S R u' := by
  obtain ⟨⟨F, h1, h2⟩, h3⟩ := h
  refine (len_at h1).mono ?_
  rintro r u' ⟨rfl, n, rfl⟩
  exact ⟨rfl, Sit.drew ⟨⟨F, h1, h2⟩, h3⟩ n⟩
end Go.Proofs.Ytlbnilendcelkaa
