/-
  NestNumbers' walk.
-/
import Derived.Test.YtbpbclmlkdnfbaaNAwk
namespace Go.Proofs.Ytbpbclmlkdnfbaa.T
open Go.RowKit Go.Proofs.Ytbpbclmlkdnfbaa.C
section
variable {w0 u : World} {m gm g tb cb : Nat} {S : M} {x x' : TX} {G V : Nat → Prop}
set_option maxRecDepth 20000 in
theorem bk15_at {e : Int} (h : Hg w0 u m gm S [(g, x)] G) (bt : Box u tb #[ptr g] 42) (he : x.keep = (e, x')) : Calls Try.prog 15 #[ptr tb] u fun r u' => r = .returned (.int .i64 e) ∧ ToG w0 u m gm S [(g, x')] G V u' := by
  have c1 := bt.cell 0
  simp only [List.getElem?_toArray, List.getElem?_cons_zero] at c1
  have cw := h.keep (V := V) (j := 0) rfl he
  simp only [List.set_cons_zero] at cw
  clear h bt
  unfold ptr at *
  go_enter Try.func15, Try.ntmps15
  go_wp2_with (go_at_call 16; refine cw.mono ?_; rintro e' u1 ⟨rfl, k⟩; have K : Hid (ToG w0 u m gm S [(g, x')] G V u1) := k; clear k)
  go_ret
  exact ⟨rfl, K.out⟩
set_option maxRecDepth 20000 in
theorem bk17_at {e : Int} (h : Hg w0 u m gm S [(g, x)] G) (bt : Box u tb #[ptr g] 42) (he : x.keep = (e, x')) : Calls Try.prog 17 #[ptr tb] u fun r u' => r = .returned (.int .i64 5) ∧ ToG w0 u m gm S [(g, x')] G V u' := by
  have c1 := bt.cell 0
  simp only [List.getElem?_toArray, List.getElem?_cons_zero] at c1
  have cw := h.keep (V := V) (j := 0) rfl he
  simp only [List.set_cons_zero] at cw
  clear h bt
  unfold ptr at *
  go_enter Try.func17, Try.ntmps17
  go_wp2_with (go_at_call 16; refine cw.mono ?_; rintro e' u1 ⟨rfl, k⟩; have K : Hid (ToG w0 u m gm S [(g, x')] G V u1) := k; clear k)
  go_ret
  exact ⟨rfl, K.out⟩
set_option maxRecDepth 20000 in
theorem bk20_at {e : Int} {S' : M} (h : Hg w0 u m gm S [(g, x)] G) (bt : Box u tb #[ptr g] 42) (he : x.abort S = (e, S', x')) : Calls Try.prog 20 #[ptr tb] u fun r u' => r = .returned (.int .i64 2) ∧ ToG w0 u m gm S' [(g, x')] G V u' := by
  have c1 := bt.cell 0
  simp only [List.getElem?_toArray, List.getElem?_cons_zero] at c1
  have cw := h.abort (V := V) (j := 0) rfl he
  simp only [List.set_cons_zero] at cw
  clear h bt
  unfold ptr at *
  go_enter Try.func20, Try.ntmps20
  go_wp2_with (go_at_call 21; refine cw.mono ?_; rintro e' u1 ⟨rfl, k⟩; have K : Hid (ToG w0 u m gm S' [(g, x')] G V u1) := k; clear k)
  go_ret
  exact ⟨rfl, K.out⟩
theorem bk19_at (bc : Box u cb #[.int .i64 0] 3) : Calls Try.prog 19 #[ptr cb] u fun r u' => r = .returned (.int .i64 5) ∧ u' = u.setCell ⟨cb, 0, none⟩ (.int .i64 1) := by
  have c1 := bc.cell 0
  have f1 := bc.frozen 0
  simp only [List.getElem?_toArray, List.getElem?_cons_zero] at c1
  clear bc
  unfold ptr at *
  go_enter Try.func19, Try.ntmps19
  go_wp2
  go_ret
  exact ⟨rfl, rfl⟩
/-- a block of one's own is written -/
theorem ToG.put (h : Hg w0 u m gm S [(g, x)] G) {k : Nat} (hk : ¬ G k) (h0 : w0.heap.size ≤ k) (hV : V k) (i : Nat) (y : Value) : ToG w0 u m gm S [(g, x)] G V (u.setCell ⟨k, i, none⟩ y) := by
  have q := h.store hk h0 i y
  refine ⟨q.wide (fun z hz => .inl hz) (fun z hz => hz.elim q.gB (fun e => by have := e.1; have := e.2; simp at this; omega)), by simp, fun z _ hn => heap_setCell_other u _ z y (show z ≠ k from fun e => hn (.inr (by rw [e]; exact hV)))⟩
theorem enter15 : ∀ args w, (callFunc 15 args).run Try.prog w = .ok (.enter 15 args) w := enters_of Try.func15 (by kernel_rfl) rfl
theorem enter17 : ∀ args w, (callFunc 17 args).run Try.prog w = .ok (.enter 17 args) w := enters_of Try.func17 (by kernel_rfl) rfl
theorem enter19 : ∀ args w, (callFunc 19 args).run Try.prog w = .ok (.enter 19 args) w := enters_of Try.func19 (by kernel_rfl) rfl
theorem enter20 : ∀ args w, (callFunc 20 args).run Try.prog w = .ok (.enter 20 args) w := enters_of Try.func20 (by kernel_rfl) rfl
def nS : M := C.M0 2
def nX : TX := X0 1 0
theorem n1 : nX.open1.keep = (0, nX) := rfl
theorem n2 : nX.open1.abort nS = (0, nS, nX.open1.fail) := rfl
def Nm (w0 u : World) (m gm g tb : Nat) (x : TX) : Prop := ∃ G, Hg w0 u m gm nS [(g, x)] G ∧ ¬ G tb ∧ Box u tb #[ptr g] 42
theorem Nm.a (h : Nm w0 u m gm g tb nX) : Calls Try.prog 14 #[ptr g, .func (.func 15) #[] #[ptr tb]] u fun r u' => r = .returned (.int .i64 136) ∧ Nm w0 u' m gm g tb nX := by
  obtain ⟨G, hg, ht, bt⟩ := h
  have hb : Body w0 u m gm g nS nX.open1 G (fun _ => False) 15 #[ptr tb] (fun e' S2 y _ => e' = 0 ∧ S2 = nS ∧ y = nX) := fun u1 G1 hu k1 k2 hg1 => by
    refine (bk15_at (V := fun _ => False) hg1 (Box.upd bt hu ht) n1).mono ?_
    rintro r u2 ⟨rfl, t⟩
    exact ⟨0, nS, nX, rfl, t, rfl, rfl, rfl⟩
  refine (scope_at hg rfl (by decide) (fun _ h => h.elim) 15 _ enter15 _ hb).mono ?_
  rintro r u' ⟨e', S2, y, u2, ⟨rfl, rfl, rfl⟩, rfl, t, _⟩
  exact ⟨rfl, _, t.has, fun h => h.elim ht (fun h => by have := bt.lt; omega), Box.upd bt t.upd (fun h => h.elim ht id)⟩
theorem Nm.b (h : Nm w0 u m gm g tb nX) : Calls Try.prog 14 #[ptr g, .func (.func 17) #[] #[ptr tb]] u fun r u' => r = .returned (.int .i64 5) ∧ Nm w0 u' m gm g tb nX := by
  obtain ⟨G, hg, ht, bt⟩ := h
  have hb : Body w0 u m gm g nS nX.open1 G (fun _ => False) 17 #[ptr tb] (fun e' S2 y _ => e' = 5 ∧ S2 = nS ∧ y = nX) := fun u1 G1 hu k1 k2 hg1 => by
    refine (bk17_at (V := fun _ => False) hg1 (Box.upd bt hu ht) n1).mono ?_
    rintro r u2 ⟨rfl, t⟩
    exact ⟨5, nS, nX, rfl, t, rfl, rfl, rfl⟩
  refine (scope_at hg rfl (by decide) (fun _ h => h.elim) 17 _ enter17 _ hb).mono ?_
  rintro r u' ⟨e', S2, y, u2, ⟨rfl, rfl, rfl⟩, rfl, t, _⟩
  exact ⟨rfl, _, t.has, fun h => h.elim ht (fun h => by have := bt.lt; omega), Box.upd bt t.upd (fun h => h.elim ht id)⟩
def nb3 (tb cb : Nat) (k : Nat) : Value := if k = 0 then .func (.func 19) #[] #[ptr cb] else if k = 1 then .func (.func 20) #[] #[ptr tb] else .func (.func 22) #[] #[ptr cb]
theorem Nm.first {ux : World} {bb cap : Nat} (h : Nm w0 u m gm g tb nX) (hb : Below u.heap.size u ux) (bc : Box ux cb #[.int .i64 0] 3) (hc : u.heap.size ≤ cb) (bx : Box ux bb #[.func (.func 19) #[] #[ptr cb], .func (.func 20) #[] #[ptr tb], .func (.func 22) #[] #[ptr cb]] 46) (hbb : u.heap.size ≤ bb) :
    Calls Try.prog 18 #[ptr g, .slice (some ⟨bb, 0, none⟩) 3 cap] ux fun r u' => r = .returned (.tuple #[.int .i64 1, .int .i64 2]) ∧ Nm w0 u' m gm g tb nX.open1.fail ∧ Box u' cb #[.int .i64 1] 3 := by
  obtain ⟨G, hg, ht, bt⟩ := h
  have hg' := hg.below hb
  have bt' := bt.below hb bt.lt
  have hG : ∀ y, u.heap.size ≤ y → ¬ G y := fun y hy h => by have := hg.lt h; omega
  have hne : tb ≠ cb := by have := bt.lt; omega
  have h0 : w0.heap.size ≤ cb := Nat.le_trans hg.mm.hB hc
  have hT : Tries w0 ux m gm g G (fun y => y = cb) (nb3 tb cb) 3 (fun k u' S z => S = nS ∧ z = nX ∧ (k = 0 ∧ Box u' cb #[.int .i64 0] 3 ∨ k = 1 ∧ Box u' cb #[.int .i64 1] 3)) (fun k e u' S z => k = 1 ∧ e = 2 ∧ S = nS ∧ z = nX.open1.fail ∧ Box u' cb #[.int .i64 1] 3) := fun k u' S z hk hT hz hI => by
    obtain ⟨rfl, rfl, hI⟩ := hI
    have hGt : ¬ grow G ux u' tb := fun h => h.elim ht (fun h => by have := bt'.lt; omega)
    have hGc : ¬ grow G ux u' cb := fun h => h.elim (hG _ hc) (fun h => by have := bc.lt; omega)
    have btu := Box.upd bt' hT.upd (fun h => h.elim ht hne)
    rcases hI with ⟨rfl, bcu⟩ | ⟨rfl, bcu⟩
    · have hB : Body w0 u' m gm g nS nX.open1 (grow G ux u') (fun y => y = cb) 19 #[ptr cb] (fun e' S2 y u2 => e' = 5 ∧ S2 = nS ∧ y = nX.open1 ∧ Box u2 cb #[.int .i64 1] 3) := fun u1 G1 hu k1 k2 hg1 => by
        have bc1 := Box.upd bcu hu hGc
        have hn1 : ¬ G1 cb := fun h => (k2 cb h).elim hGc (fun h => by have := bcu.lt; omega)
        refine (bk19_at bc1).mono ?_
        rintro r u2 ⟨rfl, rfl⟩
        exact ⟨5, nS, _, rfl, ToG.put (V := fun y => y = cb) hg1 hn1 h0 rfl 0 _, rfl, rfl, rfl, bc1.store 0 _⟩
      refine (scope_at hT.has rfl (by decide) (fun y hy => by rw [hy]; exact bcu.lt) 19 _ enter19 _ hB).mono ?_
      rintro r u3 ⟨e', S2, y, u2, ⟨rfl, rfl, rfl, bc2⟩, rfl, t, hk3⟩
      have bc3 : Box u3 cb #[.int .i64 1] 3 := (hk3 cb bcu.lt hGc).trans bc2
      exact ⟨5, nS, _, rfl, hT.trans t, fun h => h.elim (fun h => absurd h (by decide)) (fun h => absurd rfl h), fun _ _ => ⟨rfl, rfl, .inr ⟨rfl, bc3⟩⟩⟩
    · have hB : Body w0 u' m gm g nS nX.open1 (grow G ux u') (fun _ => False) 20 #[ptr tb] (fun e' S2 y _ => e' = 2 ∧ S2 = nS ∧ y = nX.open1.fail) := fun u1 G1 hu k1 k2 hg1 => by
        refine (bk20_at (V := fun _ => False) hg1 (Box.upd btu hu hGt) n2).mono ?_
        rintro r u2 ⟨rfl, t⟩
        exact ⟨2, nS, _, rfl, t, rfl, rfl, rfl⟩
      refine (scope_at hT.has rfl (by decide) (fun y hy => hy.elim) 20 _ enter20 _ hB).mono ?_
      rintro r u3 ⟨e', S2, y, u2, ⟨rfl, rfl, rfl⟩, rfl, t, _⟩
      exact ⟨2, nS, _, rfl, hT.trans (t.wide (fun _ h => h.elim)), fun _ => ⟨rfl, rfl, rfl, rfl, Box.upd bcu t.upd (fun h => h.elim hGc id)⟩, fun _ h => absurd h (by decide)⟩
  refine (first_at (V := fun y => y = cb) hg' rfl (nb3 tb cb) 3 bb cap _ (by omega) (by omega) bx (fun k hk => ?_) (fun h => h.elim (hG _ hbb) (fun e => (bx.ne bc (by decide)) e)) _ _ ⟨rfl, rfl, .inl ⟨rfl, bc⟩⟩ hT).mono ?_
  · have : k = 0 ∨ k = 1 ∨ k = 2 := by omega
    rcases this with rfl | rfl | rfl <;> rfl
  · rintro r u' ⟨k, e, S2, z, rfl, t, hf⟩
    rcases hf with ⟨_, rfl, rfl, rfl, rfl, b⟩ | ⟨rfl, _, _, _, h⟩
    · exact ⟨rfl, ⟨_, t.has, fun h => h.elim ht (fun h => by have := bt'.lt; omega), Box.upd bt' t.upd (fun h => h.elim ht hne)⟩, b⟩
    · rcases h with h | h <;> exact absurd h.1 (by decide)
theorem Nm.cell {x : TX} (h : Nm w0 u m gm g tb x) : u.cell? ⟨tb, 0, none⟩ = some (.pointer (some ⟨g, 0, none⟩)) := by
  obtain ⟨G, hg, ht, bt⟩ := h
  exact bt.cell 0
theorem Nm.bel {x : TX} (h : Nm w0 u m gm g tb x) : Below w0.heap.size w0 u := by
  obtain ⟨G, hg, ht, bt⟩ := h
  exact hg.bel
theorem Nm.lt {x : TX} (h : Nm w0 u m gm g tb x) : tb < u.heap.size := by
  obtain ⟨G, hg, ht, bt⟩ := h
  exact bt.lt
theorem Nm.depth {x : TX} (h : Nm w0 u m gm g tb x) : Calls Try.prog 23 #[ptr g] u fun r u' => r = .returned (.int .i64 (x.S.M.length : Int)) ∧ u' = u := by
  obtain ⟨G, hg, ht, bt⟩ := h
  exact hg.depth (j := 0) rfl
set_option maxHeartbeats 4000000 in
set_option maxRecDepth 100000 in
theorem numbers_at (w : World) : Calls Try.prog 5 #[] w fun r w' => r = .returned (.bool true) ∧ Below w.heap.size w w' := by
  have hmf : ∀ (fn : Fn) (first cap : Array Value) (w : World), (Instr.makeFunc fn first cap).run Try.prog w = .ok (.func fn first cap) w := fun _ _ _ _ => rfl
  have cn := hg_new (n := 2) (Below.refl w.heap.size w) (by omega) (by omega)
  unfold ptr at cn
  go_enter Try.func5, Try.ntmps5
  go_wp2_with fail
  refine Calls.mono cn ?_
  rintro e w1 ⟨m, gm, rfl, h, _⟩
  have c2 := h.begin (V := fun _ => False) 1 (by omega) (by omega)
  unfold ptr at c2
  clear h cn
  go_wp2_with fail
  refine Calls.mono c2 ?_
  rintro e w3 ⟨g, rfl, h⟩
  have A0 : Hid (Nm w (w3.alloc (.cells #[.pointer (some ⟨g, 0, none⟩)] 42)) m gm g w3.heap.size nX) := ⟨_, h.has.alloc _, fun hg => by have := h.has.lt hg; omega, Box.new w3 _ 42⟩
  clear h c2
  obtain ⟨w4, hw4⟩ : ∃ w4, w4 = w3.alloc (.cells #[.pointer (some ⟨g, 0, none⟩)] 42) := ⟨_, rfl⟩
  have HW4 : Hid (w4 = w3.alloc (.cells #[.pointer (some ⟨g, 0, none⟩)] 42)) := hw4
  rw [← hw4] at A0
  clear hw4
  have ct := A0.out.cell
  have ca := A0.out.a
  rw [HW4.out] at ct ca
  unfold ptr at ca
  go_wp2_with fail
  refine Calls.mono ca ?_
  rintro e w5 ⟨rfl, hA⟩
  generalize w3.heap.size = tb at *
  have A1 : Hid (Nm w w5 m gm g tb nX) := hA
  have ct := hA.cell
  have cb := hA.b
  unfold ptr at cb
  clear hA A0 HW4 ca
  go_wp2_with fail
  refine Calls.mono cb ?_
  rintro e w6 ⟨rfl, hA⟩
  have A2 : Hid (Nm w w6 m gm g tb nX) := hA
  have ct := hA.cell
  have ct2 : ∀ o, (w6.alloc o).cell? ⟨tb, 0, none⟩ = some (.pointer (some ⟨g, 0, none⟩)) := fun o => by
    obtain ⟨G, _, _, bt⟩ := hA
    exact (bt.alloc o).cell 0
  have s1 : (w6.alloc (.cells #[.int .i64 0] 3)).heap.size = w6.heap.size + 1 := by simp
  have cf := hA.first (cb := w6.heap.size) (bb := w6.heap.size + 1) (cap := 3) (ux := (w6.alloc (.cells #[.int .i64 0] 3)).alloc (.cells #[.func (.func 19) #[] #[ptr w6.heap.size], .func (.func 20) #[] #[ptr tb], .func (.func 22) #[] #[ptr w6.heap.size]] 46)) (((Below.refl _ _).alloc (Nat.le_refl _) _).alloc (by simp) _) ((Box.new w6 _ 3).alloc _) (Nat.le_refl _) (by have := Box.new (w6.alloc (.cells #[.int .i64 0] 3)) #[.func (.func 19) #[] #[ptr w6.heap.size], .func (.func 20) #[] #[ptr tb], .func (.func 22) #[] #[ptr w6.heap.size]] 46; rw [s1] at this; exact this) (by omega)
  unfold ptr at cf
  clear hA A1 cb s1
  go_wp2_with fail
  refine Calls.mono cf ?_
  rintro e w7 ⟨rfl, hA, bc⟩
  have A3 : Hid (Nm w w7 m gm g tb nX.open1.fail) := hA
  have ct := hA.cell
  have cc := bc.cell 0
  simp only [List.getElem?_toArray, List.getElem?_cons_zero] at cc
  have cd := hA.depth
  have hd : nX.open1.fail.S.M.length = 1 := rfl
  rw [hd] at cd
  have cw := awake17_at w7
  unfold ptr at cd
  clear hA A2 cf bc hd
  go_wp2_with (first | (go_at_call 23; refine cd.mono ?_; rintro e' u1 ⟨rfl, k⟩; subst u1) | (go_at_call 24; refine cw.mono ?_; rintro e' u1 ⟨rfl, k⟩))
  go_ret
  exact ⟨rfl, A3.out.bel.trans (k.mono A3.out.bel.size)⟩
end
end Go.Proofs.Ytbpbclmlkdnfbaa.T
