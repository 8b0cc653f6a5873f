/-
  OrElse over what stands side by side; the chapter's second example.
-/
import Derived.Test.YtafiopjgegmfoaaGreatWSame
namespace Go.Proofs.YtafiopjgegmfoaaGreat.W
open Go.RowKit Go.Maps Go.Proofs.YtafiopjgegmfoaaGreat Go.Proofs.YtafiopjgegmfoaaGreat.C Go.Proofs.YtafiopjgegmfoaaGreat.T
section
variable {w0 u u' : World} {m gm g wb j k tb : Nat} {S S' S2 : M} {l l' : List (Nat × TX)} {x x' x2 : TX} {G V : Nat → Prop} {P P' : Wts} {v e : Int} {K : Own}
theorem Hw.status (h : Hw w0 u m gm S l wb P K) (hj : l[j]? = some (g, x)) : Calls Tryz.prog 39 #[ptr g] u fun r u' => r = .returned (.int .u8 x.st) ∧ u' = u := by
  obtain ⟨G, H, h⟩ := h
  exact h.hg.status hj
theorem Hw.scope (h : Hw w0 u m gm S [(g, x)] wb P K) (hs : x.st = 1) (hd : x.S.M.length < 8) (f : Nat) (caps : Array Value) (hin : ∀ args w, (callFunc f args).run Tryz.prog w = .ok (.enter f args) w)
    (hb : ∀ u1 G1, Hg w0 u1 m gm S [(g, x.open1)] G1 → (∀ b ∈ K, Box u1 b.1 b.2.1 b.2.2 ∧ ¬ G1 b.1) → Calls Tryz.prog f caps u1 fun r u2 => r = .returned (.int .i64 e) ∧ ToG w0 u1 m gm S2 [(g, x2)] G1 (fun _ => False) u2) :
    Calls Tryz.prog 38 #[ptr g, .func (.func f) #[] caps] u fun r u' => r = .returned (.int .i64 (x2.shutE (x.S.M.length + 1) e)) ∧ Hw w0 u' m gm S2 [(g, x2.shut (x.S.M.length + 1) e)] wb P K := by
  obtain ⟨G, H, h⟩ := h
  have hB : Body w0 u m gm g S x.open1 G (fun _ => False) f caps (fun e' S' y _ => e' = e ∧ S' = S2 ∧ y = x2) := fun u1 G1 hu k1 k2 hg1 => by
    refine (hb u1 G1 hg1 (fun b hk => ⟨Box.upd (h.ow b hk).1 hu (h.ow b hk).2.1, fun hg => (k2 _ hg).elim (h.ow b hk).2.1 (fun hl => by have := (h.ow b hk).1.lt; omega)⟩)).mono ?_
    rintro r u2 ⟨rfl, t⟩
    exact ⟨e, S2, x2, rfl, t, rfl, rfl, rfl⟩
  refine (scope_at h.hg hs hd (fun _ hv => hv.elim) f caps hin _ hB).mono ?_
  rintro r u' ⟨e', S', y, u2, ⟨rfl, rfl, rfl⟩, rfl, t, _⟩
  exact ⟨rfl, Hw.tx' h t⟩
theorem hg_write (h : Hg w0 u m gm S [(g, x)] G) (i y : Int) (he : x.write S i y = (e, x')) : Calls Tryz.prog 24 #[ptr g, .int .i64 i, .int .i64 y] u fun r u' => r = .returned (.int .i64 e) ∧ ToG w0 u m gm S [(g, x')] G V u' := h.write (j := 0) rfl i y he
theorem bk41_at (h : Hg w0 u m gm S [(g, x)] G) (bt : Box u tb #[ptr g] 35) (he : x.write S 0 5 = (e, x')) : Calls Tryz.prog 41 #[ptr tb] u fun r u' => r = .returned (.int .i64 135) ∧ ToG w0 u m gm S [(g, x')] G V u' := by
  have c1 := bt.cell 0
  simp only [List.getElem?_toArray, List.getElem?_cons_zero] at c1
  have cw := hg_write (V := V) h 0 5 he
  clear h bt
  unfold ptr at *
  go_enter Tryz.func41, Tryz.ntmps41
  go_wp2_with (go_at_call 24; refine cw.mono ?_; rintro e' u1 ⟨rfl, k⟩; have K : Hid (ToG w0 u m gm S [(g, x')] G V u1) := k; clear k)
  go_ret
  exact ⟨rfl, K.out⟩
theorem bk42_at (h : Hg w0 u m gm S [(g, x)] G) (bt : Box u tb #[ptr g] 35) (he : x.write S 1 6 = (e, x')) : Calls Tryz.prog 42 #[ptr tb] u fun r u' => r = .returned (.int .i64 0) ∧ ToG w0 u m gm S [(g, x')] G V u' := by
  have c1 := bt.cell 0
  simp only [List.getElem?_toArray, List.getElem?_cons_zero] at c1
  have cw := hg_write (V := V) h 1 6 he
  clear h bt
  unfold ptr at *
  go_enter Tryz.func42, Tryz.ntmps42
  go_wp2_with (go_at_call 24; refine cw.mono ?_; rintro e' u1 ⟨rfl, k⟩; have K : Hid (ToG w0 u m gm S [(g, x')] G V u1) := k; clear k)
  go_ret
  exact ⟨rfl, K.out⟩
theorem enter41 : ∀ args w, (callFunc 41 args).run Tryz.prog w = .ok (.enter 41 args) w := enters_of Tryz.func41 (by kernel_rfl) rfl
theorem enter42 : ∀ args w, (callFunc 42 args).run Tryz.prog w = .ok (.enter 42 args) w := enters_of Tryz.func42 (by kernel_rfl) rfl
/-! ### the example, plainly -/
def cv (v k o : Int) : Cl := ⟨.int .i64 v, k, o⟩
def aS : M := ⟨[cv 0 0 0, cv 9 1 0], 1⟩
def aU (R W : List (Int × Int)) : TX := ⟨2, 1, ⟨R, W, []⟩, 1, [], 0, false⟩
theorem ae1 : (aU [] []).open1.write aS 0 5 = (0, { (aU [] []).open1 with S := ⟨[], [(0, 5)], [[]]⟩ }) := rfl
theorem ae2 : (aU [] []).open1.write aS 1 6 = (0, { (aU [] []).open1 with S := ⟨[], [(1, 6)], [[]]⟩ }) := rfl
theorem ae3 : ({ (aU [] []).open1 with S := ⟨[], [(0, 5)], [[]]⟩ } : TX).shut 1 135 = aU [] [] := rfl
theorem ae4 : ({ (aU [] []).open1 with S := ⟨[], [(1, 6)], [[]]⟩ } : TX).shut 1 0 = aU [] [(1, 6)] := rfl
theorem aw_or (h : Hw w0 u m gm aS [(g, aU [] [])] wb P K) (hk : (tb, #[ptr g], 35) ∈ K) :
    Calls Tryz.prog 15 #[ptr g, .func (.func 41) #[] #[ptr tb], .func (.func 42) #[] #[ptr tb]] u fun r u' => r = .returned (.int .i64 0) ∧ Hw w0 u' m gm aS [(g, aU [] [(1, 6)])] wb P K := by
  have h1 := h.box #[ptr g] 35
  have hx : ∃ F, IsX u w0.heap.size g m (aU [] []) F := by obtain ⟨G, H, h⟩ := h; exact hg_isX (j := 0) h.hg rfl
  obtain ⟨F, hx⟩ := hx
  have c1 := h1.scope (e := 135) rfl (by decide) 41 #[ptr tb] enter41 (fun u1 G1 hg hb => bk41_at hg (hb _ (List.mem_cons_of_mem _ hk)).1 ae1)
  rw [show (aU [] []).S.M.length + 1 = 1 from rfl, ae3] at c1
  have c := orElse_at (A := fun e u' => e = 135 ∧ Hw w0 u' m gm aS [(g, aU [] [])] wb P ((u.heap.size, #[ptr g], 35) :: K)) (Q := fun r u' => r = .returned (.int .i64 0) ∧ Hw w0 u' m gm aS [(g, aU [] [(1, 6)])] wb P K) (f2 := 42) (caps2 := #[ptr tb]) hx
    (c1.mono fun r u' ⟨a, b⟩ => ⟨_, a, b.own (List.mem_cons_self ..), rfl, b⟩) (fun e u' ⟨he, h'⟩ => ⟨1, h'.status (j := 0) rfl, fun _ _ => ?_, fun hn => absurd ⟨he, rfl⟩ hn⟩)
  · exact c.mono fun r u' ⟨_, _, hq⟩ => hq
  · have c2 := h'.scope (e := 0) rfl (by decide) 42 #[ptr tb] enter42 (fun u1 G1 hg hb => bk42_at hg (hb _ (List.mem_cons_of_mem _ hk)).1 ae2)
    rw [show (aU [] []).S.M.length + 1 = 1 from rfl, ae4] at c2
    exact c2.mono fun r u' ⟨a, b⟩ => ⟨_, a, a, b.less (fun b hb => List.mem_cons_of_mem _ hb)⟩
end
end Go.Proofs.YtafiopjgegmfoaaGreat.W
