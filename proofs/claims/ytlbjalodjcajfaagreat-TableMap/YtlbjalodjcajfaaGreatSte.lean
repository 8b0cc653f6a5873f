/-
  Step of a transaction whose steps all go well.
-/
import Derived.Test.YtlbjalodjcajfaaGreatClo
import Derived.Test.YtlbjalodjcajfaaGreatEnd
namespace Go.Proofs.YtlbjalodjcajfaaGreat
open Go.RowKit Go.Sort Go.Maps
/-- what the steps change -/
structure SP where
  k : Int
  ver : Int
  pub : Bool
  C : List Cl
def Stp.run (b : Int) (S : SS En) (p : SP) : Stp → SP
  | .stay => { p with ver := b }
  | .lock i => match p.C[i.toNat]? with
    | some c => { p with C := p.C.set i.toNat ⟨c.e, c.ver, 1⟩ }
    | none => p
  | .adv => { p with k := p.k + 1, ver := p.k + 1 }
  | .look _ => p
  | .pub i => { p with pub := true, C := p.C.set i.toNat ⟨(gt S.W i).getD E0, p.ver, 0⟩ }
/-- it goes well -/
def Stp.ok (S : SS En) (p : SP) : Stp → Prop
  | .stay => True
  | .lock i => ∃ (j : Nat) (c : Cl), i = (j : Int) ∧ p.C[j]? = some c ∧ c.own = 0
  | .adv => 0 ≤ p.k ∧ p.k < 1099511627776
  | .look i => ∃ (j : Nat) (c : Cl), i = (j : Int) ∧ p.C[j]? = some c ∧ (c.own = 0 ∨ c.own = 1) ∧ (gt S.R i = some c.ver ∨ gt S.R i = none)
  | .pub i => ∃ (j : Nat) (c : Cl) (e : En), i = (j : Int) ∧ p.C[j]? = some c ∧ c.own = 1 ∧ c.ver < p.ver ∧ p.ver ≤ p.k ∧ gt S.W i = some e
/-- one that is ending -/
abbrev HZ (O : List (Nat × Obj)) (w0 u : World) (x m g s n : Nat) (b st : Int) (lv : Value) (L : List Stp) (S : SS En) (K : List Bx) (Fs Q : Nat → Prop) (p : SP) : Prop := HE O w0 u x m g s n p.k b st lv p.ver p.pub L p.C S K Fs Q
theorem LeftAt.tail {w : World} {Q : Nat → Prop} {g lb off n c n' c' : Nat} {s : Stp} {L : List Stp} (h : LeftAt w Q g (.slice (some ⟨lb, off, none⟩) n c) (s :: L)) (hn : n' = L.length) (hc : n' ≤ c') {a : Option Addr} (ha : L ≠ [] → a = some ⟨lb, off + 1, none⟩) : LeftAt w Q g (.slice a n' c') L := by
  obtain ⟨a0, c0, e, _, h⟩ := h
  injection e with e1 e2 e3
  refine ⟨a, c', by rw [hn], by omega, fun j hj => ?_⟩
  obtain ⟨lb', off', cs, v, e, q, b, hv, hp⟩ := h (j + 1) (by simp; omega)
  rw [e] at e1
  injection e1 with e1
  injection e1 with e4 e5
  subst e4
  subst e5
  refine ⟨lb, off + 1, cs, v, ha (by intro h; simp [h] at hj), q, b, ?_, ?_⟩
  · rw [← hv]; congr 1; omega
  · simpa using hp
theorem LeftAt.head {w : World} {Q : Nat → Prop} {g : Nat} {lv : Value} {s : Stp} {L : List Stp} (h : LeftAt w Q g lv (s :: L)) : ∃ lb off c v, lv = .slice (some ⟨lb, off, none⟩) (L.length + 1) c ∧ L.length + 1 ≤ c ∧ w.cell? ⟨lb, off, none⟩ = some v ∧ IsStp w Q g v s := by
  obtain ⟨a, c, e, hc, h⟩ := h
  obtain ⟨lb, off, cs, v, e2, q, b, hv, hp⟩ := h 0 (by simp)
  subst e2
  refine ⟨lb, off, c, v, by simpa using e, by simpa using hc, ?_, hp⟩
  rw [Box.cell b]
  simpa using hv
section
variable {O : List (Nat × Obj)}
variable {w0 u u' : World} {x m g s n : Nat} {k b st : Int} {lv : Value} {ver : Int} {pub : Bool} {L : List Stp} {C : List Cl} {S : SS En} {K : List Bx} {Fs Q : Nat → Prop} {p : SP} {sp : Stp} {V : List En}
theorem HE.setL (h : HE O w0 u x m g s n k b st lv ver pub L C S K Fs Q) {lv' : Value} {L' : List Stp} (hl : LeftAt u Q x lv' L') : HE O w0 (u.setCell ⟨x, 6, none⟩ lv') x m g s n k b st lv' ver pub L' C S K Fs Q := by
  have hc : Chg (fun y => y = x ∨ y = m ∨ y = g) u (u.setCell ⟨x, 6, none⟩ lv') := (Chg.refl _ u).setCell x 6 lv' (fun _ => .inl rfl)
  have n1 : m ≠ x := h.mb.bm.ne h.bx (by decide)
  have n2 : g ≠ x := h.mb.bg.ne h.bx (by decide)
  exact h.turn hc (h.bx.store 6 lv') ⟨h.mb.bm.other x 6 lv' n1, h.mb.bg.other x 6 lv' n2, h.mb.hl⟩ (hl.keep (h.apart hc))
theorem clo_at (h : HZ O w0 u x m g s n b st lv L S K Fs Q p) {v : Value} (hv : IsStp u Q x v sp) (hok : sp.ok S p) : ∃ f caps, v = .func (.func f) #[] caps ∧ (∀ args w, (callFunc f args).run Tryz.prog w = .ok (.enter f args) w) ∧ Calls Tryz.prog f caps u fun r w' => r = .returned (.int .i64 0) ∧ HZ O w0 w' x m g s n b st lv L S K Fs Q (sp.run b S p) := by
  obtain ⟨tb, _, bt, hv⟩ := hv
  cases sp with
  | stay => exact ⟨_, _, hv, enters_of Tryz.func47 (by kernel_rfl) rfl, cStay h bt⟩
  | adv => exact ⟨_, _, hv, enters_of Tryz.func51 (by kernel_rfl) rfl, cAdv h hok.1 hok.2 bt⟩
  | lock i =>
    obtain ⟨ib, _, bi, hv⟩ := hv
    obtain ⟨j, c, rfl, hc, ho⟩ := hok
    refine ⟨_, _, hv, enters_of Tryz.func49 (by kernel_rfl) rfl, ?_⟩
    have e : Stp.run b S p (.lock (j : Int)) = { p with C := p.C.set j ⟨c.e, c.ver, 1⟩ } := by
      simp only [Stp.run, Int.toNat_natCast, hc]
    rw [e]
    exact cLock h hc ho bt bi
  | look i =>
    obtain ⟨ib, _, bi, hv⟩ := hv
    obtain ⟨j, c, rfl, hc, ho, hr⟩ := hok
    exact ⟨_, _, hv, enters_of Tryz.func54 (by kernel_rfl) rfl, cLook h hc ho hr bt bi⟩
  | pub i =>
    obtain ⟨ib, _, bi, hv⟩ := hv
    obtain ⟨j, c, e, rfl, hc, ho, h1, h2, hw⟩ := hok
    refine ⟨_, _, hv, enters_of Tryz.func56 (by kernel_rfl) rfl, ?_⟩
    have e2 : Stp.run b S p (.pub (j : Int)) = { p with pub := true, C := p.C.set j ⟨e, p.ver, 0⟩ } := by
      simp only [Stp.run, Int.toNat_natCast, hw, Option.getD_some]
    rw [e2]
    exact cPub h hc ho h1 h2 hw bt bi
theorem madeE (h : Box u x (tcE x m s b st lv ver pub) 63) : Calls Tryz.prog 30 #[ptr x] u fun r w' => r = .returned (.bool true) ∧ w' = u := by
  have c0 : u.cell? ⟨x, 0, none⟩ = some (ptr x) := h.cell 0
  clear h
  unfold ptr at *
  have he := eqlT x
  go_enter Tryz.func30, Tryz.ntmps30
  go_wp2
  go_ret
  simp
theorem statusE (h : Box u x (tcE x m s b st lv ver pub) 63) : Calls Tryz.prog 13 #[ptr x] u fun r w' => r = .returned (.int .u8 st) ∧ w' = u := by
  have c := madeE h
  have c5 : u.cell? ⟨x, 5, none⟩ = some (.int .u8 st) := h.cell 5
  clear h
  unfold ptr at *
  go_enter Tryz.func13, Tryz.ntmps13
  go_wp2_with (go_at_call 30; refine c.mono ?_; rintro e w' ⟨rfl, hw⟩; subst hw)
  go_ret
  simp
theorem overNo (h : Box u x (tcE x m s b st lv ver pub) 63) (h3 : st = 1 ∨ st = 2) : Calls Tryz.prog 31 #[ptr x] u fun r w' => r = .returned (.bool false) ∧ w' = u := by
  have c5 : u.cell? ⟨x, 5, none⟩ = some (.int .u8 st) := h.cell 5
  clear h
  unfold ptr at *
  rcases h3 with rfl | rfl
  · go_enter Tryz.func31, Tryz.ntmps31
    go_wp2
    go_ret
    simp
  · go_enter Tryz.func31, Tryz.ntmps31
    go_wp2
    go_ret
    simp
theorem HT.he (h : HT O w0 u x m g s n k b 1 C S V K Fs) (Q : Nat → Prop) : HE O w0 u x m g s n k b 1 (.slice none 0 0) 0 false [] C S K Fs Q where
  bx := h.bx
  mb := ⟨h.bm, h.bg, h.hl⟩
  hs := h.hs
  lf := ⟨none, 0, rfl, Nat.le_refl _, fun j hj => by simp at hj⟩
  nx := h.nx
  nm := h.nm
  ng := h.ng
  ox := h.ox
  om := h.om
  og := h.og
  n2 := h.n2
  bK := h.bK
  kn := h.kn
  bel := h.bel
  ko := h.ko
/-- behind a step -/
def StepTo (O : List (Nat × Obj)) (w0 : World) (x m g s n : Nat) (b : Int) (L : List Stp) (S : SS En) (K : List Bx) (Fs Q : Nat → Prop) (p : SP) (r : Ending) (w' : World) : Prop :=
  (L = [] ∧ r = .returned (.tuple #[.int .u8 3, .int .i64 0]) ∧ HZ O w0 w' x m g s n b 3 (.slice none 0 0) [] S K Fs Q p) ∨ (L ≠ [] ∧ r = .returned (.tuple #[.int .u8 2, .int .i64 0]) ∧ ∃ lv, HZ O w0 w' x m g s n b 2 lv L S K Fs Q p)
set_option maxRecDepth 100000 in
set_option maxHeartbeats 8000000 in
theorem step_more (hE : HZ O w0 u x m g s n b 2 lv (sp :: L) S K Fs Q p) (hok : sp.ok S p) : Calls Tryz.prog 14 #[ptr x] u fun r w' => StepTo O w0 x m g s n b L S K Fs Q (sp.run b S p) r w' := by
  have cm := madeE hE.bx
  have co := overNo hE.bx (.inr rfl)
  obtain ⟨lb, off, c, v, rfl, hcL, hvc, hvs⟩ := hE.lf.head
  have c5 : u.cell? ⟨x, 5, none⟩ = some (.int .u8 2) := hE.bx.cell 5
  have c6 : u.cell? ⟨x, 6, none⟩ = some (.slice (some ⟨lb, off, none⟩) (L.length + 1) c) := hE.bx.cell 6
  have f6 := hE.bx.frozen 6
  have HE1 := hid (And.intro hE hvs)
  by_cases hc1 : c = 1
  · have hl0 : L.length = 0 := by omega
    have hL : L = [] := List.length_eq_zero_iff.1 hl0
    obtain ⟨f, caps, rfl, hin, cC⟩ := clo_at (p := p) (hE.setL (hE.lf.tail (a := some ⟨lb, off, none⟩) (n' := 0) (c' := 0) hl0.symm (Nat.le_refl _) (fun h => absurd hL h))) (hvs.keep (hE.apart ((Chg.refl _ u).setCell x 6 _ (fun _ => .inl rfl)))) hok
    subst hL hc1
    generalize sp.run b S p = p' at *
    clear hE hvs HE1 hcL
    unfold ptr at *
    go_enter Tryz.func14, Tryz.ntmps14
    go_wp2_with (first | (go_at_call 30; refine cm.mono ?_; rintro e wx ⟨rfl, hwx⟩; subst wx) | (go_at_call 31; refine co.mono ?_; rintro e wx ⟨rfl, hwx⟩; subst wx) | fail)
    refine cC.mono ?_
    rintro e w3 ⟨rfl, h3⟩
    have d5 : w3.cell? ⟨x, 5, none⟩ = some (.int .u8 2) := h3.bx.cell 5
    have d6 : w3.cell? ⟨x, 6, none⟩ = some (.slice (some ⟨lb, off, none⟩) 0 0) := h3.bx.cell 6
    have g5 := h3.bx.frozen 5
    have h4 := h3.setX 5 (.int .u8 3) (st' := 3) (ver' := p'.ver) (pub' := p'.pub) rfl
    have e6 : (w3.setCell ⟨x, 5, none⟩ (.int .u8 3)).cell? ⟨x, 6, none⟩ = some (.slice (some ⟨lb, off, none⟩) 0 0) := h4.bx.cell 6
    have g6 := h4.bx.frozen 6
    have h5 := h4.setL (lv' := .slice none 0 0) (L' := []) ⟨none, 0, rfl, Nat.le_refl _, fun j hj => by simp at hj⟩
    have e5 : ((w3.setCell ⟨x, 5, none⟩ (.int .u8 3)).setCell ⟨x, 6, none⟩ (.slice none 0 0)).cell? ⟨x, 5, none⟩ = some (.int .u8 3) := h5.bx.cell 5
    have HF := hid h5
    clear cC h3 h4 h5 hin
    go_wp2_with fail
    go_ret2
    exact .inl ⟨rfl, rfl, HF.out⟩
  · obtain ⟨f, caps, rfl, hin, cC⟩ := clo_at (p := p) (hE.setL (hE.lf.tail (a := some ⟨lb, off + 1, none⟩) (n' := L.length) (c' := c - 1) rfl (by omega) (fun _ => rfl))) (hvs.keep (hE.apart ((Chg.refl _ u).setCell x 6 _ (fun _ => .inl rfl)))) hok
    generalize sp.run b S p = p' at *
    obtain ⟨q, hq⟩ : ∃ q, q = L.length := ⟨_, rfl⟩
    rw [← hq] at hcL c6 cC
    have HQ := hid hq
    clear hE hvs HE1 hq
    unfold ptr at *
    go_enter Tryz.func14, Tryz.ntmps14
    go_wp2_with (first | (go_at_call 30; refine cm.mono ?_; rintro e wx ⟨rfl, hwx⟩; subst wx) | (go_at_call 31; refine co.mono ?_; rintro e wx ⟨rfl, hwx⟩; subst wx) | fail)
    refine cC.mono ?_
    rintro e w3 ⟨rfl, h3⟩
    have d5 : w3.cell? ⟨x, 5, none⟩ = some (.int .u8 2) := h3.bx.cell 5
    have d6 : w3.cell? ⟨x, 6, none⟩ = some (.slice (some ⟨lb, off + 1, none⟩) q (c - 1)) := h3.bx.cell 6
    have g5 := h3.bx.frozen 5
    by_cases hq0 : q = 0
    · have hL : L = [] := List.length_eq_zero_iff.1 (HQ.out.symm.trans hq0)
      subst hL hq0
      have h4 := h3.setX 5 (.int .u8 3) (st' := 3) (ver' := p'.ver) (pub' := p'.pub) rfl
      have e6 : (w3.setCell ⟨x, 5, none⟩ (.int .u8 3)).cell? ⟨x, 6, none⟩ = some (.slice (some ⟨lb, off + 1, none⟩) 0 (c - 1)) := h4.bx.cell 6
      have g6 := h4.bx.frozen 6
      have h5 := h4.setL (lv' := .slice none 0 0) (L' := []) ⟨none, 0, rfl, Nat.le_refl _, fun j hj => by simp at hj⟩
      have e5 : ((w3.setCell ⟨x, 5, none⟩ (.int .u8 3)).setCell ⟨x, 6, none⟩ (.slice none 0 0)).cell? ⟨x, 5, none⟩ = some (.int .u8 3) := h5.bx.cell 5
      have HF := hid h5
      clear cC h3 h4 h5 hin
      go_wp2_with fail
      go_ret2
      exact .inl ⟨rfl, rfl, HF.out⟩
    · have hq' : ((q : Int) == 0) = false := by simp; omega
      have hL : Hid (L ≠ []) := fun e => hq0 (by rw [HQ.out, e]; rfl)
      have HF := hid h3
      clear cC h3 hin
      go_wp2_with fail
      go_ret2
      exact .inr ⟨hL.out, rfl, _, HF.out⟩
theorem ends_ne (S : SS En) : ends S ≠ [] := by
  unfold ends
  split <;> simp
set_option maxRecDepth 100000 in
set_option maxHeartbeats 8000000 in
theorem step_first (h : HT O w0 u x m g s n k b 1 C S V K Fs) (he : ends S = sp :: L) (hok : sp.ok S ⟨k, 0, false, C⟩) : Calls Tryz.prog 14 #[ptr x] u fun r w' => ∃ Q, StepTo O w0 x m g s n b L S K Fs Q (sp.run b S ⟨k, 0, false, C⟩) r w' := by
  obtain ⟨p, hp⟩ : ∃ p : SP, p = ⟨k, 0, false, C⟩ := ⟨_, rfl⟩
  rw [← hp] at hok ⊢
  obtain ⟨p', hp'⟩ : ∃ p', p' = sp.run b S p := ⟨_, rfl⟩
  rw [← hp']
  have HPP := hid hp'
  clear hp'
  have cm := madeE (h.he (fun _ => False)).bx
  have co := overNo (h.he (fun _ => False)).bx (.inl rfl)
  have ce := end_at h.bx h.hs
  rw [he] at ce
  have s5 : u.cell? ⟨x, 5, none⟩ = some (.int .u8 1) := h.bx.cell 5
  have HH := hid (And.intro h hp)
  clear h he hp
  unfold ptr at *
  go_enter Tryz.func14, Tryz.ntmps14
  go_wp2_with (first | (go_at_call 30; refine cm.mono ?_; rintro e wx ⟨rfl, hwx⟩; subst wx) | (go_at_call 31; refine co.mono ?_; rintro e wx ⟨rfl, hwx⟩; subst wx) | fail)
  refine ce.mono ?_
  rintro e w1 ⟨lv, rfl, hl, hb⟩
  obtain ⟨al, c, hlv, hl'⟩ := hl
  rw [List.length_cons] at hlv
  subst hlv
  have hl : LeftAt w1 (fun y => u.heap.size ≤ y ∧ y < w1.heap.size) x (.slice al (L.length + 1) c) (sp :: L) := ⟨al, c, rfl, hl'⟩
  clear hl'
  obtain ⟨h, hp⟩ := HH.out
  have h1 : HZ O w0 w1 x m g s n b 1 (.slice none 0 0) [] S K Fs (fun y => u.heap.size ≤ y ∧ y < w1.heap.size) p := by rw [hp]; exact (h.he _).below hb
  generalize (fun y => u.heap.size ≤ y ∧ y < w1.heap.size) = Q at *
  have a5 : w1.cell? ⟨x, 5, none⟩ = some (.int .u8 1) := h1.bx.cell 5
  have b5 := h1.bx.frozen 5
  have h2 := h1.setX 5 (.int .u8 2) (st' := 2) (ver' := p.ver) (pub' := p.pub) rfl
  have a6 : (w1.setCell ⟨x, 5, none⟩ (.int .u8 2)).cell? ⟨x, 6, none⟩ = some (.slice none 0 0) := h2.bx.cell 6
  have b6 := h2.bx.frozen 6
  have hE := h2.setL (hl.keep (h1.apart ((Chg.refl _ w1).setCell x 5 _ (fun _ => .inl rfl))))
  obtain ⟨U, hU⟩ : ∃ U, U = ((w1.setCell ⟨x, 5, none⟩ (.int .u8 2)).setCell ⟨x, 6, none⟩ (.slice al (L.length + 1) c)) := ⟨_, rfl⟩
  rw [← hU] at hE
  have HU := hid hU
  clear cm co ce s5 HH hl hb h hp h1 h2 hU
  go_upto_region 7 with fail
  rw [← HU.out]
  clear a5 b5 a6 b6 HU
  obtain ⟨lb, off, c2, v, hlv, hcL, hvc, hvs⟩ := hE.lf.head
  injection hlv with hlv1 hlv2 hlv3
  subst hlv1 hlv3
  clear hlv2
  have c5 : U.cell? ⟨x, 5, none⟩ = some (.int .u8 2) := hE.bx.cell 5
  have c6 : U.cell? ⟨x, 6, none⟩ = some (.slice (some ⟨lb, off, none⟩) (L.length + 1) c) := hE.bx.cell 6
  have f6 := hE.bx.frozen 6
  have HE1 := hid (And.intro hE hvs)
  by_cases hc1 : c = 1
  · have hl0 : L.length = 0 := by omega
    have hL : L = [] := List.length_eq_zero_iff.1 hl0
    obtain ⟨f, caps, rfl, hin, cC⟩ := clo_at (p := p) (hE.setL (hE.lf.tail (a := some ⟨lb, off, none⟩) (n' := 0) (c' := 0) hl0.symm (Nat.le_refl _) (fun h => absurd hL h))) (hvs.keep (hE.apart ((Chg.refl _ U).setCell x 6 _ (fun _ => .inl rfl)))) hok
    subst hL hc1
    rw [← HPP.out] at cC
    clear hE hvs HE1 hcL
    unfold ptr at *
    go_wp2_with fail
    refine cC.mono ?_
    rintro e w3 ⟨rfl, h3⟩
    have d5 : w3.cell? ⟨x, 5, none⟩ = some (.int .u8 2) := h3.bx.cell 5
    have d6 : w3.cell? ⟨x, 6, none⟩ = some (.slice (some ⟨lb, off, none⟩) 0 0) := h3.bx.cell 6
    have g5 := h3.bx.frozen 5
    have h4 := h3.setX 5 (.int .u8 3) (st' := 3) (ver' := p'.ver) (pub' := p'.pub) rfl
    have e6 : (w3.setCell ⟨x, 5, none⟩ (.int .u8 3)).cell? ⟨x, 6, none⟩ = some (.slice (some ⟨lb, off, none⟩) 0 0) := h4.bx.cell 6
    have g6 := h4.bx.frozen 6
    have h5 := h4.setL (lv' := .slice none 0 0) (L' := []) ⟨none, 0, rfl, Nat.le_refl _, fun j hj => by simp at hj⟩
    have e5 : ((w3.setCell ⟨x, 5, none⟩ (.int .u8 3)).setCell ⟨x, 6, none⟩ (.slice none 0 0)).cell? ⟨x, 5, none⟩ = some (.int .u8 3) := h5.bx.cell 5
    have HF := hid h5
    clear cC h3 h4 h5 hin
    go_wp2_with fail
    go_ret2
    exact ⟨_, .inl ⟨rfl, rfl, HF.out⟩⟩
  · obtain ⟨f, caps, rfl, hin, cC⟩ := clo_at (p := p) (hE.setL (hE.lf.tail (a := some ⟨lb, off + 1, none⟩) (n' := L.length) (c' := c - 1) rfl (by omega) (fun _ => rfl))) (hvs.keep (hE.apart ((Chg.refl _ U).setCell x 6 _ (fun _ => .inl rfl)))) hok
    rw [← HPP.out] at cC
    obtain ⟨q, hq⟩ : ∃ q, q = L.length := ⟨_, rfl⟩
    rw [← hq] at hcL c6 cC
    have HQ := hid hq
    clear hE hvs HE1 hq
    unfold ptr at *
    go_wp2_with fail
    refine cC.mono ?_
    rintro e w3 ⟨rfl, h3⟩
    have d5 : w3.cell? ⟨x, 5, none⟩ = some (.int .u8 2) := h3.bx.cell 5
    have d6 : w3.cell? ⟨x, 6, none⟩ = some (.slice (some ⟨lb, off + 1, none⟩) q (c - 1)) := h3.bx.cell 6
    have g5 := h3.bx.frozen 5
    by_cases hq0 : q = 0
    · have hL : L = [] := List.length_eq_zero_iff.1 (HQ.out.symm.trans hq0)
      subst hL hq0
      have h4 := h3.setX 5 (.int .u8 3) (st' := 3) (ver' := p'.ver) (pub' := p'.pub) rfl
      have e6 : (w3.setCell ⟨x, 5, none⟩ (.int .u8 3)).cell? ⟨x, 6, none⟩ = some (.slice (some ⟨lb, off + 1, none⟩) 0 (c - 1)) := h4.bx.cell 6
      have g6 := h4.bx.frozen 6
      have h5 := h4.setL (lv' := .slice none 0 0) (L' := []) ⟨none, 0, rfl, Nat.le_refl _, fun j hj => by simp at hj⟩
      have e5 : ((w3.setCell ⟨x, 5, none⟩ (.int .u8 3)).setCell ⟨x, 6, none⟩ (.slice none 0 0)).cell? ⟨x, 5, none⟩ = some (.int .u8 3) := h5.bx.cell 5
      have HF := hid h5
      clear cC h3 h4 h5 hin
      go_wp2_with fail
      go_ret2
      exact ⟨_, .inl ⟨rfl, rfl, HF.out⟩⟩
    · have hq' : ((q : Int) == 0) = false := by simp; omega
      have hL : Hid (L ≠ []) := fun e => hq0 (by rw [HQ.out, e]; rfl)
      have HF := hid h3
      clear cC h3 hin
      go_wp2_with fail
      go_ret2
      exact ⟨_, .inr ⟨hL.out, rfl, _, HF.out⟩⟩
end
end Go.Proofs.YtlbjalodjcajfaaGreat
