/-
  NestNone's walk.
-/
import Derived.Test.YtbpbclmlkdnfbaaNNum
namespace Go.Proofs.Ytbpbclmlkdnfbaa.T
open Go.RowKit Go.Proofs.Ytbpbclmlkdnfbaa.C
section
variable {w0 u : World} {m gm g hb : Nat} {S : M} {x x' : TX} {G V : Nat → Prop}
theorem bk25_at {b : Bool} (bc : Box u hb #[.bool b] 4) : Calls Try.prog 25 #[ptr hb] u fun r u' => r = .returned (.int .i64 0) ∧ u' = u.setCell ⟨hb, 0, none⟩ (.bool true) := by
  have c1 := bc.cell 0
  have f1 := bc.frozen 0
  simp only [List.getElem?_toArray, List.getElem?_cons_zero] at c1
  clear bc
  unfold ptr at *
  go_enter Try.func25, Try.ntmps25
  go_wp2
  go_ret
  exact ⟨rfl, rfl⟩
theorem enter25 : ∀ args w, (callFunc 25 args).run Try.prog w = .ok (.enter 25 args) w := enters_of Try.func25 (by kernel_rfl) rfl
set_option maxRecDepth 20000 in
theorem all_no (a : Option Addr) (n c : Nat) (w : World) : Calls Try.prog 26 #[.pointer none, .slice a n c] w fun r w' => r = .returned (.tuple #[.int .i64 0, .int .i64 1]) ∧ Below w.heap.size w w' := by
  have hmf : ∀ (fn : Fn) (first cap : Array Value) (w : World), (Instr.makeFunc fn first cap).run Try.prog w = .ok (.func fn first cap) w := fun _ _ _ _ => rfl
  have cs : ∀ caps u, Calls Try.prog 14 #[.pointer none, .func (.func 54) #[] caps] u fun r w' => r = .returned (.int .i64 1) ∧ w' = u := fun caps u => scope_no (noT_nil u) 54 caps
  have hb : Hid (Below w.heap.size w (((w.alloc (.cells #[.pointer none] 42)).alloc (.cells #[.slice a n c] 59)).alloc (.cells #[.int .i64 0] 3))) := (((Below.refl w.heap.size w).alloc (Nat.le_refl _) _).alloc (by simp) _).alloc (by simp; omega) _
  go_enter Try.func26, Try.ntmps26
  go_wp2_with (go_at_call 14; refine (cs _ _).mono ?_; rintro e wx ⟨rfl, hwx⟩; subst wx)
  go_ret2
  exact ⟨rfl, hb.out⟩
def oS : M := C.M0 1
def Nn (w0 u : World) (m gm g hb : Nat) (x : TX) (b : Bool) : Prop := ∃ G, Hg w0 u m gm oS [(g, x)] G ∧ ¬ G hb ∧ w0.heap.size ≤ hb ∧ Box u hb #[.bool b] 4
theorem Nn.to {ux : World} {b : Bool} (h1 : ¬ G hb) (h2 : w0.heap.size ≤ hb) (h3 : Box ux hb #[.bool b] 4) (hl : hb < u.heap.size) (t : ToG w0 u m gm oS [(g, x')] G V ux) : Nn w0 ux m gm g hb x' b :=
  ⟨_, t.has, fun h => h.elim h1 (fun h => by omega), h2, h3⟩
theorem Nn.all0 {b : Bool} (h : Nn w0 u m gm g hb nX b) : Calls Try.prog 26 #[ptr g, .slice none 0 0] u fun r u' => r = .returned (.tuple #[.int .i64 0, .int .i64 0]) ∧ Nn w0 u' m gm g hb nX b := by
  obtain ⟨G, hg, h1, h2, h3⟩ := h
  refine (all_at (V := fun _ => False) (a := none) (n := 0) (cap := 0) (b := fun _ => .nilFunc) hg rfl (by decide) (by omega) (fun i hi => by omega) (fun bb e => by cases e) (fun _ h => h.elim) (fun _ => False) (fun _ h => h.elim) (fun k _ S z => S = oS ∧ z = nX.open1) (fun _ _ _ _ _ => False) (fun _ _ _ _ _ _ _ h => h) (fun _ _ => ⟨rfl, rfl⟩) (fun _ _ k _ _ _ _ hk => by omega)).mono ?_
  rintro r u' ⟨k, e, S2, z, u2, rfl, t, _, hf⟩
  rcases hf with ⟨hk, _⟩ | ⟨rfl, rfl, rfl, rfl⟩
  · omega
  · exact ⟨rfl, Nn.to h1 h2 (Box.upd h3 t.upd (fun h => h.elim h1 id)) h3.lt t⟩
def nf2 (hb : Nat) (k : Nat) : Value := if k = 0 then .func (.func 25) #[] #[ptr hb] else .nilFunc
theorem Nn.all2 {ux : World} {bb cap : Nat} {b : Bool} (h : Nn w0 u m gm g hb nX b) (hux : Below u.heap.size u ux) (bx : Box ux bb #[.func (.func 25) #[] #[ptr hb], .nilFunc] 46) (hbb : u.heap.size ≤ bb) :
    Calls Try.prog 26 #[ptr g, .slice (some ⟨bb, 0, none⟩) 2 cap] ux fun r u' => r = .returned (.tuple #[.int .i64 1, .int .i64 1]) ∧ Nn w0 u' m gm g hb nX true := by
  obtain ⟨G, hg, h1, h2, h3⟩ := h
  have hg' := hg.below hux
  have h3' := h3.below hux h3.lt
  have hG : ∀ y, u.heap.size ≤ y → ¬ G y := fun y hy h => by have := hg.lt h; omega
  have hne : bb ≠ hb := bx.ne h3' (by decide)
  have hE : ∀ P : Nat → Prop, (∀ y, y = hb → P y) → Each w0 m gm g P (fun y => y = hb) (nf2 hb) 2 (fun k u' S z => S = oS ∧ z = nX.open1 ∧ hb < ux.heap.size ∧ ∃ b', Box u' hb #[.bool b'] 4 ∧ (k = 1 → b' = true) ∧ k ≤ 1) (fun k e u' S z => k = 1 ∧ e = 1 ∧ S = oS ∧ z = nX.open1 ∧ Box u' hb #[.bool true] 4) := fun P hP k u' S z G' hk hgk hGP hI => by
    obtain ⟨rfl, rfl, hl, b', bb', hb1, hk1⟩ := hI
    have hGh : ¬ G' hb := fun h => hGP hb h (hP hb rfl)
    have hk2 : k = 0 ∨ k = 1 := by omega
    rcases hk2 with rfl | rfl
    · have hB : Body w0 u' m gm g oS nX.open1.open1 G' (fun y => y = hb) 25 #[ptr hb] (fun e' S2 y u2 => e' = 0 ∧ S2 = oS ∧ y = nX.open1.open1 ∧ Box u2 hb #[.bool true] 4) := fun u1 G1 hu k1 k2 hg1 => by
        have bc1 := Box.upd bb' hu hGh
        have hn1 : ¬ G1 hb := fun h => (k2 hb h).elim hGh (fun h => by have := bb'.lt; omega)
        refine (bk25_at bc1).mono ?_
        rintro r u2 ⟨rfl, rfl⟩
        exact ⟨0, oS, _, rfl, ToG.put (V := fun y => y = hb) hg1 hn1 h2 rfl 0 _, rfl, rfl, rfl, bc1.store 0 _⟩
      refine (scope_at hgk rfl (by decide) (fun y hy => by rw [hy]; exact bb'.lt) 25 _ enter25 _ hB).mono ?_
      rintro r u3 ⟨e', S2, y, u2, ⟨rfl, rfl, rfl, bc2⟩, rfl, t, hk3⟩
      have bc3 : Box u3 hb #[.bool true] 4 := (hk3 hb bb'.lt hGh).trans bc2
      exact ⟨0, oS, _, rfl, t, fun h => absurd rfl h, fun _ => ⟨rfl, rfl, hl, true, bc3, fun _ => rfl, Nat.le_refl 1⟩⟩
    · have hb2 := hb1 rfl
      subst hb2
      refine (scope_nil (ptr g) u').mono ?_
      rintro r u3 ⟨rfl, rfl⟩
      exact ⟨1, oS, _, rfl, ToG.refl hgk, fun _ => ⟨rfl, rfl, rfl, rfl, bb'⟩, fun h => absurd h (by decide)⟩
  refine (all_at (V := fun y => y = hb) hg' rfl (by decide) (by omega) (fun i hi => ⟨bb, _, rfl, bx, ?_⟩) (fun b1 hb1 => ?_) (fun y hy => by rw [hy]; exact h3'.lt) (fun y => y = hb) (fun y hy => by rw [hy]; exact ⟨h3'.lt, h1⟩) _ _ ?_ ?_ hE).mono ?_
  · have : i = 0 ∨ i = 1 := by omega
    rcases this with rfl | rfl <;> rfl
  · injection hb1 with hb1
    injection hb1 with hb1
    subst hb1
    exact ⟨bx.lt, fun h => h.elim (hG _ hbb) hne⟩
  · rintro k u' nb y' S w hnb ⟨e1, e2, hl, b', bb', hI⟩
    exact ⟨e1, e2, hl, b', bb'.other nb 0 _ (by omega), hI⟩
  · intro u1 hu
    exact ⟨rfl, rfl, h3'.lt, b, Box.upd h3' hu h1, fun h => absurd h (by decide), Nat.zero_le _⟩
  · rintro r u' ⟨k, e, S2, w, u2, rfl, t, hy, hf⟩
    rcases hf with ⟨_, _, rfl, rfl, rfl, rfl, b2⟩ | ⟨rfl, _, _, _, _, _, _, _, h⟩
    · exact ⟨rfl, Nn.to h1 h2 ((hy hb h3'.lt h1).trans b2) h3'.lt t⟩
    · omega
theorem Nn.depth {b : Bool} (h : Nn w0 u m gm g hb x b) : Calls Try.prog 23 #[ptr g] u fun r u' => r = .returned (.int .i64 (x.S.M.length : Int)) ∧ u' = u := by
  obtain ⟨G, hg, _⟩ := h
  exact hg.depth (j := 0) rfl
theorem Nn.first0 {b : Bool} (h : Nn w0 u m gm g hb nX b) : Calls Try.prog 18 #[ptr g, .slice none 0 0] u fun r u' => r = .returned (.tuple #[.int .i64 0, .int .i64 2]) ∧ u' = u := by
  obtain ⟨G, hg, _⟩ := h
  exact first_none hg rfl
theorem Nn.abort {b : Bool} (h : Nn w0 u m gm g hb nX b) : Calls Try.prog 21 #[ptr g] u fun r u' => r = .returned (.int .i64 0) ∧ Nn w0 u' m gm g hb nX.fail b := by
  obtain ⟨G, hg, h1, h2, h3⟩ := h
  have he : nX.abort oS = (0, oS, nX.fail) := rfl
  exact (hg.abort (V := fun _ => False) (j := 0) rfl he).mono fun r u' ⟨a, t⟩ => ⟨a, Nn.to h1 h2 (Box.upd h3 t.upd (fun h => h.elim h1 id)) h3.lt t⟩
theorem Nn.put {b : Bool} (h : Nn w0 u m gm g hb x b) (b' : Bool) : Nn w0 (u.setCell ⟨hb, 0, none⟩ (.bool b')) m gm g hb x b' := by
  obtain ⟨G, hg, h1, h2, h3⟩ := h
  exact ⟨G, hg.store h1 h2 0 _, h1, h2, h3.store 0 _⟩
theorem Nn.over {b : Bool} (h : Nn w0 u m gm g hb nX.fail b) : Calls Try.prog 14 #[ptr g, .func (.func 25) #[] #[ptr hb]] u fun r u' => r = .returned (.int .i64 132) ∧ Nn w0 u' m gm g hb nX.fail b := by
  obtain ⟨G, hg, h1, h2, h3⟩ := h
  exact (scope_over (V := fun _ => False) hg (by decide) 25 _).mono fun r u' ⟨a, t⟩ => ⟨a, Nn.to h1 h2 (Box.upd h3 t.upd (fun h => h.elim h1 id)) h3.lt t⟩
theorem Nn.cell {b : Bool} (h : Nn w0 u m gm g hb x b) : u.cell? ⟨hb, 0, none⟩ = some (.bool b) ∧ u.frozen? ⟨hb, 0, none⟩ = false := by
  obtain ⟨G, hg, h1, h2, h3⟩ := h
  exact ⟨h3.cell 0, h3.frozen 0⟩
theorem Nn.bel {b : Bool} (h : Nn w0 u m gm g hb x b) : Below w0.heap.size w0 u := by
  obtain ⟨G, hg, h1, h2, h3⟩ := h
  exact hg.bel
set_option maxHeartbeats 4000000 in
set_option maxRecDepth 100000 in
theorem none17_at (n : Int) (w : World) : Calls Try.prog 6 #[.int .i64 n] w fun r w' => r = .returned (.bool true) ∧ Below w.heap.size w w' := by
  have hmf : ∀ (fn : Fn) (first cap : Array Value) (w : World), (Instr.makeFunc fn first cap).run Try.prog w = .ok (.func fn first cap) w := fun _ _ _ _ => rfl
  have cs : ∀ u, Calls Try.prog 14 #[.pointer none, .func (.func 25) #[] #[ptr w.heap.size]] u fun r w' => r = .returned (.int .i64 1) ∧ w' = u := fun u => scope_no (noT_nil u) 25 _
  have hx0 : Box (w.alloc (.cells #[.bool false] 4)) w.heap.size #[.bool false] 4 := Box.new w _ 4
  have hb0 : Below w.heap.size w (w.alloc (.cells #[.bool false] 4)) := (Below.refl _ _).alloc (Nat.le_refl _) _
  obtain ⟨v0, hv0⟩ : ∃ v0, v0 = w.alloc (.cells #[.bool false] 4) := ⟨_, rfl⟩
  have HV0 : Hid (v0 = w.alloc (.cells #[.bool false] 4)) := hv0
  rw [← hv0] at hx0 hb0
  have HX0 : Hid (Box v0 w.heap.size #[.bool false] 4 ∧ Below w.heap.size w v0) := ⟨hx0, hb0⟩
  clear hx0 hb0 hv0
  unfold ptr at cs
  go_enter Try.func6, Try.ntmps6
  go_wp2_with fail
  rw [← HV0.out]
  refine (cs v0).mono ?_
  rintro e wx ⟨rfl, hwx⟩
  subst wx
  clear cs
  have ca := all_no (some ⟨v0.heap.size, 0, none⟩) 1 1 (v0.alloc (.cells #[.func (.func 25) #[] #[.pointer (some ⟨w.heap.size, 0, none⟩)]] 46))
  have HB1 : Hid (Below v0.heap.size v0 (v0.alloc (.cells #[.func (.func 25) #[] #[.pointer (some ⟨w.heap.size, 0, none⟩)]] 46))) := (Below.refl _ _).alloc (Nat.le_refl _) _
  clear HV0
  go_wp2_with fail
  refine ca.mono ?_
  rintro e v1 ⟨rfl, hb1⟩
  have HB2 : Hid (Below v0.heap.size v0 v1) := HB1.out.trans (hb1.mono HB1.out.size)
  clear hb1 ca HB1
  have cf := first_no (noT_nil (v1.alloc (.cells #[.func (.func 25) #[] #[.pointer (some ⟨w.heap.size, 0, none⟩)]] 46))) (.slice (some ⟨v1.heap.size, 0, none⟩) 1 1)
  have HB3 : Hid (Below v0.heap.size v0 (v1.alloc (.cells #[.func (.func 25) #[] #[.pointer (some ⟨w.heap.size, 0, none⟩)]] 46))) := HB2.out.alloc HB2.out.size _
  clear HB2
  go_wp2_with fail
  refine cf.mono ?_
  rintro e v2 ⟨rfl, hv2⟩
  rw [← hv2] at HB3
  clear cf hv2
  have HX2 : Hid (Box v2 w.heap.size #[.bool false] 4 ∧ Below w.heap.size w v2) := ⟨HX0.out.1.below HB3.out HX0.out.1.lt, HX0.out.2.trans (HB3.out.mono HX0.out.2.size)⟩
  clear HX0 HB3
  have cn := hg_new (n := 1) (w0 := w) HX2.out.2 (by omega) (by omega)
  unfold ptr at cn
  go_wp2_with fail
  refine Calls.mono cn ?_
  rintro e v3 ⟨m, gm, rfl, h, hb3⟩
  have HX3 : Hid (Box v3 w.heap.size #[.bool false] 4 ∧ w.heap.size < v2.heap.size ∧ Below v2.heap.size v2 v3) := ⟨HX2.out.1.below hb3 HX2.out.1.lt, HX2.out.1.lt, hb3⟩
  have c2 := h.begin (V := fun _ => False) 1 (by omega) (by omega)
  have H3 : Hid (Hg w v3 m gm (C.M0 1) [] (fun y => v2.heap.size ≤ y ∧ y < v3.heap.size)) := h
  unfold ptr at c2
  clear h cn HX2 hb3
  go_wp2_with fail
  refine Calls.mono c2 ?_
  rintro e v4 ⟨g, rfl, t⟩
  have A0 : Hid (Nn w v4 m gm g w.heap.size nX false) := ⟨_, t.has, fun h => by
    have h1 := HX3.out.1.lt
    have h2 := HX3.out.2.1
    rcases h with h | h <;> omega, Nat.le_refl _, Box.upd HX3.out.1 t.upd (fun h => h.elim (fun h => by have := HX3.out.2.1; omega) id)⟩
  clear t c2 HX3 H3
  generalize w.heap.size = hb at A0 ⊢
  have csn := scope_nil (ptr g) v4
  have cf0 := A0.out.first0
  have cd := A0.out.depth
  obtain ⟨ch, _⟩ := A0.out.cell
  have hd : (nX.S.M.length : Int) = 0 := rfl
  rw [hd] at cd
  unfold ptr at csn cf0 cd
  go_wp2_with (first | (go_at_call 14; refine csn.mono ?_; rintro e wx ⟨rfl, hwx⟩; subst wx) | (go_at_call 18; refine cf0.mono ?_; rintro e wx ⟨rfl, hwx⟩; subst wx) | (go_at_call 23; refine cd.mono ?_; rintro e wx ⟨rfl, hwx⟩; subst wx))
  have ca2 := A0.out.all2 (cap := 2) (bb := v4.heap.size) (ux := v4.alloc (.cells #[.func (.func 25) #[] #[ptr hb], .nilFunc] 46)) ((Below.refl _ _).alloc (Nat.le_refl _) _) (Box.new v4 _ 46) (Nat.le_refl _)
  unfold ptr at ca2
  clear csn cf0 cd hd ch
  go_wp2_with fail
  refine ca2.mono ?_
  rintro e v5 ⟨rfl, hA⟩
  have A1 : Hid (Nn w v5 m gm g hb nX true) := hA
  have cd := hA.depth
  have hd : (nX.S.M.length : Int) = 0 := rfl
  rw [hd] at cd
  have ca0 := hA.all0
  unfold ptr at cd ca0
  clear hA ca2 A0
  go_wp2_with (go_at_call 23; refine cd.mono ?_; rintro e wx ⟨rfl, hwx⟩; subst wx)
  refine ca0.mono ?_
  rintro e v6 ⟨rfl, hA⟩
  have A2 : Hid (Nn w v6 m gm g hb nX true) := hA
  have cb := hA.abort
  unfold ptr at cb
  clear hA ca0 A1 cd hd
  go_wp2_with fail
  refine cb.mono ?_
  rintro e v7 ⟨rfl, hA⟩
  have A3 : Hid (Nn w v7 m gm g hb nX.fail true) := hA
  obtain ⟨ch, fh⟩ := hA.cell
  have A4 : Hid (Nn w (v7.setCell ⟨hb, 0, none⟩ (.bool false)) m gm g hb nX.fail false) := hA.put false
  have co := A4.out.over
  unfold ptr at co
  clear hA cb A2 A3
  go_wp2_with fail
  refine co.mono ?_
  rintro e v8 ⟨rfl, hA⟩
  have A5 : Hid (Nn w v8 m gm g hb nX.fail false) := hA
  obtain ⟨ch, fh⟩ := hA.cell
  have cw := awake17_at v8
  clear hA co A4
  go_wp2_with (go_at_call 24; refine cw.mono ?_; rintro e' u1 ⟨rfl, k⟩)
  go_ret
  exact ⟨rfl, A5.out.bel.trans (k.mono A5.out.bel.size)⟩
end
end Go.Proofs.Ytbpbclmlkdnfbaa.T
