/-
  The chapter's example: the body that has a scope of its own.
-/
import Derived.Test.YtbpbclmlkdnfbaaNAwB
import Derived.Deep.RegionWith
import Derived.Deep.Cut
namespace Go.Proofs.Ytbpbclmlkdnfbaa.T
open Go.RowKit Go.Proofs.Ytbpbclmlkdnfbaa.C
section
variable {w0 u : World} {m gm g : Nat} {S S2 : M} {x x2 : TX} {G V : Nat → Prop}
theorem awk51_at (tb : Nat) (v e : Int) (u : World) : Calls Try.prog 51 #[.int .i64 v, .int .i64 e, ptr tb] u fun r u' => r = .returned (.func (.func 52) #[] #[ptr tb, ptr u.heap.size, ptr (u.heap.size + 1)]) ∧ u' = (u.alloc (.cells #[.int .i64 v] 3)).alloc (.cells #[.int .i64 e] 39) := by
  have hmf : ∀ (fn : Fn) (first cap : Array Value) (w : World), (Instr.makeFunc fn first cap).run Try.prog w = .ok (.func fn first cap) w := fun _ _ _ _ => rfl
  unfold ptr
  go_enter Try.func51, Try.ntmps51
  go_wp2
  go_ret
  exact ⟨rfl, rfl⟩
theorem enter51 : ∀ args w, (callFunc 51 args).run Try.prog w = .ok (.enter 51 args) w := enters_of Try.func51 (by kernel_rfl) rfl
def wr2 (u : World) (v e : Int) : World := (u.alloc (.cells #[.int .i64 v] 3)).alloc (.cells #[.int .i64 e] 39)
theorem wr2_facts (u : World) (v e : Int) : (Box (wr2 u v e) u.heap.size #[.int .i64 v] 3 ∧ Box (wr2 u v e) (u.heap.size + 1) #[.int .i64 e] 39) ∧ Below u.heap.size u (wr2 u v e) ∧ (wr2 u v e).heap.size = u.heap.size + 2 := by
  have s1 : (u.alloc (.cells #[.int .i64 v] 3)).heap.size = u.heap.size + 1 := by simp
  refine ⟨⟨(Box.new u _ 3).alloc _, ?_⟩, ?_, ?_⟩
  · have := Box.new (u.alloc (.cells #[.int .i64 v] 3)) #[.int .i64 e] 39
    rw [s1] at this
    exact this
  · exact ((Below.refl u.heap.size u).alloc (Nat.le_refl _) _).alloc (by simp) _
  · simp [wr2]
/-- a body was made: what lies in its two blocks -/
structure New2 (u ux : World) (vb eb : Nat) (v e : Int) : Prop where
  bv : Box ux vb #[.int .i64 v] 3
  be : Box ux eb #[.int .i64 e] 39
  hv : u.heap.size ≤ vb
  he : u.heap.size ≤ eb
  bel : Below u.heap.size u ux
theorem New2.drew {u ux : World} {vb eb : Nat} {v e : Int} (h : New2 u.drew ux vb eb v e) : New2 u ux vb eb v e := ⟨h.bv, h.be, h.hv, h.he, h.bel.os, h.bel.tape, h.bel.output, h.bel.size, h.bel.block⟩
theorem make_at (tb : Nat) (v e : Int) (u : World) : Calls Try.prog 51 #[.int .i64 v, .int .i64 e, ptr tb] u fun r u' => ∃ vb eb, r = .returned (.func (.func 52) #[] #[ptr tb, ptr vb, ptr eb]) ∧ New2 u u' vb eb v e := by
  refine (awk51_at tb v e u).mono ?_
  rintro r u' ⟨rfl, rfl⟩
  obtain ⟨⟨b1, b2⟩, hb, s2⟩ := wr2_facts u v e
  exact ⟨_, _, rfl, b1, b2, Nat.le_refl _, by omega, hb⟩
/-- a body that was made is done in a scope -/
theorem wmake_at {ux : World} {tb vb eb q : Nat} {v e e0 : Int} {x' : TX} (h : Hg w0 u m gm S [(g, x)] G) (hs : x.st = 1) (hd : x.S.M.length < 8) (bt : Box u tb #[ptr g] 42) (hGt : ¬ G tb) (hN : New2 u ux vb eb v e) (he : x.open1.write S 0 v = (e0, x')) :
    Calls Try.prog 14 #[ptr g, .func (.func 52) #[] #[ptr tb, ptr vb, ptr eb]] (ux.drewN q) fun r u' => r = .returned (.int .i64 e) ∧ ToG w0 u m gm S [(g, x.left1 x' e)] G V u' := by
  have hb := hN.bel
  have hG : ∀ y, u.heap.size ≤ y → ¬ G y := fun y hy hg => by have := h.lt hg; omega
  have hb' : Below u.heap.size u (ux.drewN q) := ⟨hb.os, hb.tape, hb.output, hb.size, hb.block⟩
  refine (wscope_at (V := V) (h.below hb') hs hd (bt.below hb' bt.lt) (hN.bv.drew q) (hN.be.drew q) hGt (hG _ hN.hv) (hG _ hN.he) he).mono ?_
  rintro r u' ⟨rfl, t⟩
  exact ⟨rfl, t.base ⟨hb'.size, fun k hk _ => hb'.block k hk⟩ h.mm.hB (fun y hy => .inl hy) (fun y hy => hy) (fun y hy => .inl hy)⟩
set_option maxHeartbeats 2000000 in
set_option maxRecDepth 20000 in
theorem awk53_at {tb fb : Nat} {e0 e1 : Int} {x1 x2 : TX} (h : Hg w0 u m gm S [(g, x)] G) (hs : x.st = 1) (hd : x.S.M.length < 8) (bt : Box u tb #[ptr g] 42) (bf : Box u fb #[.func (.func 51) #[] #[ptr tb]] 82) (hGt : ¬ (G tb ∨ V tb)) (hGf : ¬ (G fb ∨ V fb)) (he : x.write S 0 2 = (e0, x1)) (he2 : x1.open1.write S 0 3 = (e1, x2)) :
    Calls Try.prog 53 #[ptr tb, ptr fb] u fun r u' => r = .returned (.int .i64 0) ∧ ToG w0 u m gm S [(g, x1.left1 x2 5)] G V u' := by
  have c1 := bt.cell 0
  simp only [List.getElem?_toArray, List.getElem?_cons_zero] at c1
  have cw := h.write (V := V) (j := 0) rfl 0 2 he
  simp only [List.set_cons_zero] at cw
  obtain ⟨h1, h2⟩ := cell_in_write he
  have HB : Hid (∀ u', ToG w0 u m gm S [(g, x1)] G V u' → u'.cell? ⟨tb, 0, none⟩ = some (ptr g) ∧ u'.cell? ⟨fb, 0, none⟩ = some (.func (.func 51) #[] #[ptr tb])) := fun u' ht => ⟨(Box.upd bt ht.upd hGt).cell 0, (Box.upd bf ht.upd hGf).cell 0⟩
  have HS : Hid (∀ q u' ux vb eb, ToG w0 u m gm S [(g, x1)] G V u' → New2 u' ux vb eb 3 5 → Calls Try.prog 14 #[ptr g, .func (.func 52) #[] #[ptr tb, ptr vb, ptr eb]] (ux.drewN q) fun r u2 => r = .returned (.int .i64 5) ∧ ToG w0 u m gm S [(g, x1.left1 x2 5)] G V u2) := fun q u' ux vb eb ht hN => by
    refine (wmake_at (V := V) ht.has (by rw [h1]; exact hs) (by rw [h2]; exact hd) (Box.upd bt ht.upd hGt) (fun hg => ?_) hN he2).mono ?_
    · rcases hg with hg | hg
      · exact hGt (.inl hg)
      · have := bt.lt; omega
    · rintro r u2 ⟨a, b⟩
      exact ⟨a, ht.trans b⟩
  have HX : Hid (∀ u' ux vb eb, ToG w0 u m gm S [(g, x1)] G V u' → New2 u' ux vb eb 3 5 → ux.cell? ⟨tb, 0, none⟩ = some (ptr g)) := fun u' ux vb eb ht hN => by
    have b := Box.upd bt ht.upd hGt
    exact (b.below hN.bel b.lt).cell 0
  have h51 := enter51
  clear h bt bf
  unfold ptr at *
  go_enter Try.func53, Try.ntmps53
  go_wp2_with (go_at_call 28; refine cw.mono ?_; rintro e' u1 ⟨rfl, k⟩; obtain ⟨ct, cf⟩ := HB.out u1 k; have K : Hid (ToG w0 u m gm S [(g, x1)] G V u1) := k; clear k)
  go_region_with (first | (go_at_call 51; refine (make_at tb 3 5 _).mono ?_; rintro e' ux ⟨vb, eb, rfl, kn⟩; have KN : Hid (New2 u1 ux vb eb 3 5) := (by first | exact kn | exact kn.drew | exact kn.drew.drew | exact kn.drew.drew.drew); have ct3 := HX.out u1 ux vb eb K.out KN.out; clear kn; unfold ptr at *) | (go_at_call 14; (first | refine (HS.out 0 u1 ux vb eb K.out KN.out).mono ?_ | refine (HS.out 1 u1 ux vb eb K.out KN.out).mono ?_ | refine (HS.out 2 u1 ux vb eb K.out KN.out).mono ?_); rintro e' u3 ⟨rfl, k⟩; have K3 : Hid (ToG w0 u m gm S [(g, x1.left1 x2 5)] G V u3) := k; clear k))
  all_goals go_wp2_with fail
  all_goals go_ret
  all_goals exact ⟨rfl, K3.out⟩
end
end Go.Proofs.Ytbpbclmlkdnfbaa.T
