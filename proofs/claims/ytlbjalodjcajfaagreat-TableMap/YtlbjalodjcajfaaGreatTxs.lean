/-
  A transaction's small calls; Abort.
-/
import Derived.Test.YtlbjalodjcajfaaGreatTxm
namespace Go.Proofs.YtlbjalodjcajfaaGreat
open Go.RowKit Go.Maps
theorem infoT : (Tryz.prog.info? 63).map (fun i => (i.zero.isSome, i.size)) = some (true, 9) := by kernel_rfl
theorem poinT : Tryz.prog.underlying 30 = some (.pointer 63) := by kernel_rfl
theorem eqlT (g : Nat) (w : World) : (binOp .eql 30 (.pointer (some ⟨g, 0, none⟩)) (.pointer (some ⟨g, 0, none⟩))).run Tryz.prog w = .ok (.bool true) w := by
  cases h : Tryz.prog.info? 63 with
  | none => have := infoT; rw [h] at this; cases this
  | some i => exact run_eql_ptr_same w ⟨g, 0, none⟩ poinT h
section
variable {O : List (Nat × Obj)}
variable {w0 u u' : World} {x m g s n : Nat} {k b st : Int} {C : List Cl} {S : SS En} {V : List En} {K : List Bx} {Fs : Nat → Prop}
theorem madeT (h : Box u x (tcells x m s b st) 63) : Calls Tryz.prog 30 #[ptr x] u fun r w' => r = .returned (.bool true) ∧ w' = u := by
  have c0 : u.cell? ⟨x, 0, none⟩ = some (ptr x) := h.cell 0
  clear h
  unfold ptr at *
  have he := eqlT x
  go_enter Tryz.func30, Tryz.ntmps30
  go_wp2
  go_ret
  simp
theorem mayGo (h : Box u x (tcells x m s b 1) 63) : Calls Tryz.prog 60 #[ptr x] u fun r w' => r = .returned (.int .i64 0) ∧ w' = u := by
  have c := madeT h
  have c5 : u.cell? ⟨x, 5, none⟩ = some (.int .u8 1) := h.cell 5
  clear h
  unfold ptr at *
  go_enter Tryz.func60, Tryz.ntmps60
  go_wp2_with (go_at_call 30; refine c.mono ?_; rintro e w' ⟨rfl, rfl⟩)
  go_ret
  simp
theorem mayNot (h : Box u x (tcells x m s b 4) 63) : Calls Tryz.prog 60 #[ptr x] u fun r w' => r = .returned (.int .i64 132) ∧ w' = u := by
  have c := madeT h
  have c5 : u.cell? ⟨x, 5, none⟩ = some (.int .u8 4) := h.cell 5
  clear h
  unfold ptr at *
  go_enter Tryz.func60, Tryz.ntmps60
  go_wp2_with (go_at_call 30; refine c.mono ?_; rintro e w' ⟨rfl, rfl⟩)
  go_ret
  simp
theorem status_at (h : Box u x (tcells x m s b 1) 63) : Calls Tryz.prog 13 #[ptr x] u fun r w' => r = .returned (.int .u8 1) ∧ w' = u := by
  have c := madeT h
  have c5 : u.cell? ⟨x, 5, none⟩ = some (.int .u8 1) := h.cell 5
  clear h
  unfold ptr at *
  go_enter Tryz.func13, Tryz.ntmps13
  go_wp2_with (go_at_call 30; refine c.mono ?_; rintro e w' ⟨rfl, rfl⟩)
  go_ret
  simp
theorem status_nil (w : World) : Calls Tryz.prog 13 #[.pointer none] w fun r w' => r = .returned (.int .u8 0) ∧ w' = w := by
  have c : Calls Tryz.prog 30 #[.pointer none] w fun r w' => r = .returned (.bool false) ∧ w' = w := by
    go_enter Tryz.func30, Tryz.ntmps30
    go_wp2
    go_ret
    simp
  go_enter Tryz.func13, Tryz.ntmps13
  go_wp2_with (go_at_call 30; refine c.mono ?_; rintro e w' ⟨rfl, rfl⟩)
  go_ret
  simp
theorem isOpen (h : Box u x (tcells x m s b 1) 63) : Calls Tryz.prog 31 #[ptr x] u fun r w' => r = .returned (.bool false) ∧ w' = u := by
  have c5 : u.cell? ⟨x, 5, none⟩ = some (.int .u8 1) := h.cell 5
  clear h
  unfold ptr at *
  go_enter Tryz.func31, Tryz.ntmps31
  go_wp2
  go_ret
  simp
theorem cells_at (h : Box u x (tcells x m s b st) 63) (hm : Box u m #[ptr m, .slice (some ⟨g, 0, none⟩) n n, .int .i64 k] 56) : Calls Tryz.prog 19 #[ptr x] u fun r w' => r = .returned (.int .i64 (n : Int)) ∧ w' = u := by
  have c := madeT h
  have cs := size_at hm
  have c1 : u.cell? ⟨x, 1, none⟩ = some (ptr m) := h.cell 1
  clear h hm
  unfold ptr at *
  go_enter Tryz.func19, Tryz.ntmps19
  go_wp2_with (first | (go_at_call 30; refine c.mono ?_; rintro e wx ⟨rfl, hwx⟩; subst wx) | (go_at_call 16; refine cs.mono ?_; rintro e wx ⟨rfl, hwx⟩; subst wx))
  go_ret
  simp
theorem agrees_at (h : HT O w0 u x m g s n k b st C S V K Fs) {j : Nat} {c : Cl} (hc : C[j]? = some c) : Calls Tryz.prog 63 #[ptr x, .int .i64 (j : Int), .int .i64 c.ver] u fun r w' => r = .returned (.bool true) ∧ w' = u := by
  have hj : j < n := by rw [← h.hl]; exact (List.getElem?_eq_some_iff.1 hc).1
  have h2 := h.n2
  have hs := seen_at h.hs (j : Int) (cell_wf (by omega))
  have c4 : u.cell? ⟨x, 4, none⟩ = some (ptr s) := h.bx.cell 4
  have hr := h.room hc
  clear h hc
  rcases hr with hr | ⟨hr, _⟩
  · rw [hr] at hs
    simp only [Option.getD_some, Option.isSome_some] at hs
    clear hr
    generalize c.ver = v at *
    unfold ptr at *
    go_enter Tryz.func63, Tryz.ntmps63
    go_wp2_with (go_at_call 77; refine hs.mono ?_; rintro e w' ⟨rfl, rfl⟩)
    go_ret
    simp
  · rw [hr] at hs
    simp only [Option.getD_none, Option.isSome_none] at hs
    clear hr
    generalize c.ver = v at *
    unfold ptr at *
    go_enter Tryz.func63, Tryz.ntmps63
    go_wp2_with (go_at_call 77; refine hs.mono ?_; rintro e w' ⟨rfl, rfl⟩)
    go_ret
    simp
/-- the state is written -/
theorem HT.ended (h : HT O w0 u x m g s n k b 1 C S V K Fs) (q : Nat) : HT O w0 (((u.drewN q).setCell ⟨x, 5, none⟩ (.int .u8 4)).setCell ⟨x, 6, none⟩ (.slice none 0 0)) x m g s n k b 4 C S V K Fs := by
  have h := h.below (u' := u.drewN q) ⟨rfl, rfl, rfl, Nat.le_refl _, fun _ _ => rfl⟩
  have xb : Box (((u.drewN q).setCell ⟨x, 5, none⟩ (.int .u8 4)).setCell ⟨x, 6, none⟩ (.slice none 0 0)) x (tcells x m s b 4) 63 := (h.bx.store 5 (.int .u8 4)).store 6 (.slice none 0 0)
  have hg := grown_trans (grown_store (u.drewN q) x 5 (.int .u8 4)) (grown_store _ x 6 (.slice none 0 0))
  have st : ∀ y cs t, Box (u.drewN q) y cs t → y ≠ x → Box (((u.drewN q).setCell ⟨x, 5, none⟩ (.int .u8 4)).setCell ⟨x, 6, none⟩ (.slice none 0 0)) y cs t := fun y cs t hb hn => (hg.block y hb.lt (fun e => hn (Option.some.inj e))).trans hb
  exact
    { h with
      bx := xb
      bm := st _ _ _ h.bm (h.bm.ne h.bx (by decide))
      bg := st _ _ _ h.bg (h.bg.ne h.bx (by decide))
      hs := h.hs.stay hg.size (fun y hy => hg.block y (h.hs.fB y hy).2 (fun e => h.nx ((Option.some.inj e) ▸ hy)))
      bK := fun y hy => st _ _ _ (h.bK y hy) (h.kn y hy).1
      ko := fun y hy => ⟨(hg.block y.1 (obj_lt (h.ko y hy).1) (fun e => map_ne (h.ko y hy).1 (h.ko y hy).2.1 h.bx (by have := Option.some.inj e; omega))).trans (h.ko y hy).1, (h.ko y hy).2⟩
      bel := (h.bel.setCell (p := ⟨x, 5, none⟩) h.ox _).setCell (p := ⟨x, 6, none⟩) h.ox _ }
set_option maxRecDepth 100000 in
set_option maxHeartbeats 2000000 in
theorem fail_at (h : HT O w0 u x m g s n k b 1 C S V K Fs) : Calls Tryz.prog 33 #[ptr x] u fun r w' => r = .returned (.tuple #[]) ∧ HT O w0 w' x m g s n k b 4 C S V K Fs := by
  have c1 : u.cell? ⟨x, 1, none⟩ = some (ptr m) := h.bx.cell 1
  have c2 : u.cell? ⟨x, 2, none⟩ = some (.int .i64 1) := h.bx.cell 2
  have c5 : u.cell? ⟨x, 5, none⟩ = some (.int .u8 1) := h.bx.cell 5
  have c6 : u.cell? ⟨x, 6, none⟩ = some (.slice none 0 0) := h.bx.cell 6
  have f5 := h.bx.frozen 5
  have f6 := h.bx.frozen 6
  have HO : Hid (∀ q, Calls Tryz.prog 58 #[ptr m, .int .i64 1] (u.drewN q) fun r w' => r = .returned (.slice none 0 0) ∧ w' = u.drewN q) := fun q => owned_none (h.bm.drew q) (h.bg.drew q) h.hl (by have := h.n2; omega) (fun c hc => (h.hC c hc).1)
  have H := hid h
  clear h
  unfold ptr at *
  go_enter Tryz.func33, Tryz.ntmps33
  go_wp2_with fail
  go_quiet ((go_at_call 58; exact Calls.quiet_of_same (HO.out _)))
  go_wp2_with fail
  go_loopw [14] (fun i v => i = .int .i64 0 ∧ v = u.drewN nq) (fun _ _ => 0)
  case atStart => exact ⟨rfl, rfl⟩
  case round =>
    obtain ⟨rfl, hw⟩ := hrel
    subst wr
    have d5 : (u.drewN nq).cell? ⟨x, 5, none⟩ = some (.int .u8 1) := c5
    have d6 : (u.drewN nq).cell? ⟨x, 6, none⟩ = some (.slice none 0 0) := c6
    have e5 : (u.drewN nq).frozen? ⟨x, 5, none⟩ = false := f5
    have e6 : (u.drewN nq).frozen? ⟨x, 6, none⟩ = false := f6
    have d7 : ((u.drewN nq).setCell ⟨x, 5, none⟩ (.int .u8 4)).cell? ⟨x, 6, none⟩ = some (.slice none 0 0) := by
      have := (((H.out.bx.drew nq).store 5 (.int .u8 4)).cell 6)
      simpa [tcells] using this
    have e7 : ((u.drewN nq).setCell ⟨x, 5, none⟩ (.int .u8 4)).frozen? ⟨x, 6, none⟩ = false := ((H.out.bx.drew nq).store 5 (.int .u8 4)).frozen 6
    clear HO c1 c2 c5 c6 f5 f6
    go_wp2_with fail
    go_end0
    exact ⟨rfl, H.out.ended nq⟩
end
end Go.Proofs.YtlbjalodjcajfaaGreat
