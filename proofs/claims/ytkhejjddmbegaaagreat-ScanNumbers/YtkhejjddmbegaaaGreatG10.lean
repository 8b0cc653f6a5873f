/-
  SWr2, SWritten, SSame, STell, RcRef, RcRRight, RcRMore, RcCopyI, RcRHead, RcOver, RcRPut, RcRd: put together.
-/
import Derived.Test.YtkhejjddmbegaaaGreatG9
import Derived.Deep.RegionHeld3
import Derived.BigQuiet
import Derived.Deep.QuietTactic
import Derived.Deep.AppendLies
/-
  One group more is appended to the law's disk, or there is no room.
-/
namespace Go.Proofs.YtkhejjddmbegaaaGreat.S
open Go.RowKit
open Go.Proofs.YtkhejjddmbegaaaGreat.Dk (Box)
open Go.Proofs.YtkhejjddmbegaaaGreat.J (JD JTo ics grow owns_kept upd_below pk pk_in pick_eq)

theorem upd_wide {F G : Nat → Prop} {w w' : World} (h : Dk.Upd F w w') (hG : ∀ i, F i → G i) : Dk.Upd G w w' := ⟨h.os, h.tape, h.output, h.size, fun k hk hn => h.block k hk (fun hf => hn (hG k hf))⟩
section
variable {w u u' : World} {g dg e t : Nat} {s s' : W9} {v : Value} {qs : List G9} {q : G9}
/-- the group is appended, its images are not yet listed -/
structure SwA (w : World) (g dg e t : Nat) (s : W9) (v : Value) (qs : List G9) (q : G9) (u : World) : Prop where
  ex : ∃ F, JD u g dg ⟨2, (e : Int), ((s.gs.length + 1 : Nat) : Int), 0, 16, (t : Int), (s.U : Int), 0, false⟩ (sz9 s.gs) s.D F ∧ (∀ q' ∈ qs ++ [q], ImF (fun k => F k ∨ k < w.heap.size) u q'.al q'.n q'.cl (im9 q'.z q'.n)) ∧ (∀ k, v.ownBlock = some k → ¬ F k) ∧ (∀ k, F k → w.heap.size ≤ k)
  row : u.ownsRow w.heap.size 38 1 v qs.length (alC qs)
  same : (qs ++ [q]).map (fun q => (q.n, q.z)) = s.gs
  bel : Below w.heap.size w u

theorem Sw.append_ok (h : SwI w g dg e t s v qs q u) {k : Nat} (ho : Ok9 s k) (hk : k ≤ 12) (he : 1 ≤ e ∧ e ≤ 9) (ht : t < 16) (hq : q.n = n9 q.z) (hr : s.U + (n9 q.z + 1) ≤ 16) :
    Calls Tryz.prog 31 #[.pointer (some ⟨g, 0, none⟩), .slice q.al q.n q.cl, .bool false] u fun r u' => (∃ x : Int, r = .returned (.tuple #[.int .i64 x, .int .i64 0])) ∧ SwA w g dg e t (step9 e t s q.z) v qs q u' := by
  obtain ⟨⟨F, ⟨j, im, hv, hF⟩, iq⟩, r, sm, bl⟩ := h
  obtain ⟨h1, h2, h3, h4, h5, h6, h7⟩ := ho
  have hn := n9_in q.z
  have hst : Rc.okStamp (e : Int) ((s.gs.length + 1 : Nat) : Int) = true := (Rc.okStamp_iff _ _).2 (by omega)
  have hR : Rg.R 16 (t : Int) (s.U : Int) 0 := by unfold Rg.R; omega
  have c := J.append_ok (cap := q.cl) (is := im9 q.z q.n) j rfl (im9_length q.z q.n) iq.imgs (im9_ok _ _ q.z q.n (by omega) (by omega) hst) hR
    (by show ((q.n + 1 : Nat) : Int) ≤ Rg.fr 16 (t : Int) (s.U : Int) 0; rw [Rg.fr, if_pos hR]; omega) rfl h1 (by show (16 : Int) ≤ 64; decide) (by show 2 + (16 : Int) ≤ s.D.nb; rw [h2]; decide) (by omega) (by omega) (by simp [sz9]; omega)
  refine c.mono ?_
  rintro x u' ⟨rfl, F', j', hF', ud⟩
  refine ⟨⟨_, rfl⟩, ?_⟩
  have e1 : (((t : Int) + (s.U : Int)) % 16).toNat = (t + s.U) % 16 := by omega
  have es : step9 e t s q.z = ⟨grow s.D 16 ((t + s.U) % 16) (Rc.putL e (s.gs.length + 1) (im9 q.z q.n)) (q.n + 1), s.U + (q.n + 1), s.gs ++ [(q.n, q.z)]⟩ := by
    unfold step9
    rw [if_pos hr, hq]
  rw [es]
  refine ⟨⟨F', ?_, ?_, ?_, ?_⟩, ?_, ?_, ?_⟩
  · have := j'
    simpa [sz9, e1] using this
  · intro q' hq'
    rcases List.mem_append.1 hq' with hq' | hq'
    · exact (im q' hq').upd (upd_wide ud (fun i hi => .inl hi)) (fun i hi => hi.elim (fun h => (hF' i h).elim (fun h => .inl (.inl h)) .inr) (fun h => .inl (.inr h)))
    · obtain rfl : q' = q := by simpa using hq'
      exact iq.upd (upd_wide ud (fun i hi => .inl hi)) (fun i hi => hi.elim (fun h => (hF' i h).elim (fun h => .inl (.inl h)) .inr) (fun h => .inl (.inr h)))
  · intro k hk hf
    rcases hF' k hf with a | a
    · exact hv k hk a
    · have := (r.lt k hk).2
      omega
  · intro k hf
    rcases hF' k hf with a | a
    · exact hF k a
    · have := bl.size
      omega
  · exact owns_kept r (fun k hk => ud.block k (r.lt k hk).2 (hv k hk))
  · simp [sm]
  · exact bl.trans (ud.below hF bl.size)
theorem Sw.append_full (h : SwI w g dg e t s v qs q u) {k : Nat} (ho : Ok9 s k) (hk : k ≤ 12) (he : 1 ≤ e ∧ e ≤ 9) (ht : t < 16) (hq : q.n = n9 q.z) (hr : ¬ s.U + (n9 q.z + 1) ≤ 16) :
    Calls Tryz.prog 31 #[.pointer (some ⟨g, 0, none⟩), .slice q.al q.n q.cl, .bool false] u fun r u' => (r = .returned (.tuple #[.int .i64 0, .int .i64 5])) ∧ Sw w g dg e t (step9 e t s q.z) v qs u' := by
  have hs := h.sw
  obtain ⟨⟨F, ⟨j, im, hv, hF⟩, iq⟩, r, sm, bl⟩ := h
  obtain ⟨h1, h2, h3, h4, h5, h6, h7⟩ := ho
  have hn := n9_in q.z
  have hst : Rc.okStamp (e : Int) ((s.gs.length + 1 : Nat) : Int) = true := (Rc.okStamp_iff _ _).2 (by omega)
  have hR : Rg.R 16 (t : Int) (s.U : Int) 0 := by unfold Rg.R; omega
  obtain ⟨⟨vs, Fd, hb, _⟩, _⟩ := j
  have c := J.append_full (cap := q.cl) (is := im9 q.z q.n) hb rfl (im9_length q.z q.n) iq.imgs (im9_ok _ _ q.z q.n (by omega) (by omega) hst) (by show ¬ (16 : Int) < _; omega) hR
    (by show ¬ ((q.n + 1 : Nat) : Int) ≤ Rg.fr 16 (t : Int) (s.U : Int) 0; rw [Rg.fr, if_pos hR]; omega)
  refine c.mono ?_
  rintro x u' ⟨rfl, b⟩
  refine ⟨rfl, ?_⟩
  have es : step9 e t s q.z = s := by
    unfold step9
    rw [if_neg hr]
  rw [es]
  exact hs.below b
theorem SwA.below (h : SwA w g dg e t s v qs q u) (b : Below u.heap.size u u') : SwA w g dg e t s v qs q u' := by
  obtain ⟨⟨F, j, im, hv, hF⟩, r, sm, bl⟩ := h
  exact ⟨⟨F, j.below j.flt b b.size, fun q hq => (im q hq).below b, hv, hF⟩, Rc.owns_below r b, sm, bl.trans (b.mono bl.size)⟩
/-- the images are listed -/
theorem SwA.list (h : SwA w g dg e t s v qs q u) {v' : Value} (ho : u'.ownsRow w.heap.size 38 1 v' (qs.length + 1) (alC qs ++ [.slice q.al q.n q.cl])) (hg : u.grownBy u' v.ownBlock) (hv' : ∀ k, v'.ownBlock = some k → v.ownBlock = some k ∨ u.heap.size ≤ k) : Sw w g dg e t s v' (qs ++ [q]) u' := by
  obtain ⟨⟨F, j, im, hv, hF⟩, r, sm, bl⟩ := h
  refine ⟨⟨F, j.kept (fun i hi => hg.block i (j.flt i hi) (fun e => hv i e.symm hi)) hg.size, fun q hq => (im q hq).kept (fun k hk hb => hg.block k hk (fun e => ?_)), fun k hk hf => ?_, hF⟩, ?_, sm, bl.grown hg bl.size (fun k e => (r.lt k e).1)⟩
  · obtain ⟨_, cur, b⟩ := Rc.owns_block r k e.symm
    exact hb cur b
  · rcases hv' k hk with a | a
    · exact hv k a hf
    · have := j.flt k hf
      omega
  · have e : alC (qs ++ [q]) = alC qs ++ [.slice q.al q.n q.cl] := by simp [alC]
    rw [e, List.length_append]
    exact ho
/-- a new disk and its journal -/
theorem Sw.start {F : Nat → Prop} (hd : Dk.IsDisk u dg (Dk.DS.new 64 (Dk.nought (64 * 4096))) F) (hF : ∀ i, F i → w.heap.size ≤ i) (hg : Box u g (J.jC g dg (.slice none 0 0) ⟨2, (e : Int), 1, 0, 16, (t : Int), 0, 0, false⟩) 105) (hgF : ¬ F g) (hgw : w.heap.size ≤ g) (b : Below w.heap.size w u) (hf : ∀ i, F i → i < u.heap.size) :
    Sw w g dg e t ⟨Dk.DS.new 64 (Dk.nought (64 * 4096)), 0, []⟩ (.slice none 0 0) [] u := by
  refine ⟨⟨fun i => F i ∨ i = g, ⟨⟨.slice none 0 0, F, hg, hd, hgF, World.ownsRow_nil _ _ _ _, fun k hk => (by cases hk), fun i hi => .inl hi⟩, .inr rfl, fun i hi => ?_⟩, fun q hq => (by cases hq), fun k hk => (by cases hk), fun k hk => ?_⟩, World.ownsRow_nil _ _ _ _, rfl, b⟩
  · rcases hi with hi | rfl
    · exact hf i hi
    · exact hg.lt
  · rcases hk with hk | rfl
    · exact hF k hk
    · exact hgw
end
end Go.Proofs.YtkhejjddmbegaaaGreat.S

/-
  The law's written: a disk of 64 blocks, groups appended as many as there is room for.
-/
namespace Go.Proofs.YtkhejjddmbegaaaGreat.S
open Go.RowKit
open Go.Proofs.YtkhejjddmbegaaaGreat.Dk (Box RdI)
open Go.Proofs.YtkhejjddmbegaaaGreat.J (JD JTo ics grow owns_kept upd_below pk pk_in pick_eq)

theorem info50 : (Tryz.prog.info? 38).map (fun i => (i.zero, i.size, i.bytes)) = some (some (.slice none 0 0), 1, 24) := by kernel_rfl

set_option maxRecDepth 100000 in
theorem written_at (w : World) (e t : Nat) (a : Option Addr) (n cap : Nat) (zs : List Int) (hl : zs.length = n) (hz : RdI w a zs) (he : 1 ≤ e ∧ e ≤ 9) (ht : t < 16) :
    Calls Tryz.prog 8 #[.int .i64 (e : Int), .int .i64 (t : Int), .slice a n cap] w fun r u => ∃ g dg v qs, r = .returned (.tuple #[.pointer (some ⟨dg, 0, none⟩), v, .bool true]) ∧ Sw w g dg e t (st9 e t zs (min n 12)) v qs u := by
  obtain ⟨i0, hi, hz0, hz1, hz2⟩ := info_parts info50
  have HZ : Hid (RdI w a zs) := hz
  have HL : Hid (zs.length = n) := hl
  clear hz hl
  go_enter Tryz.func8, Tryz.ntmps8
  go_wp2_with fail
  refine (Dk.new_at 64 w (by decide) (by decide)).mono ?_
  rintro r w1 ⟨dg, rfl, hN⟩
  go_wp2_with fail
  refine (La.ref_good 64 _ (by decide) (by decide)).mono ?_
  rintro r w2 ⟨rfl, b2⟩
  unfold La.layA
  go_wp2_with fail
  obtain ⟨F, ⟨gd, cd, vu, ps, hl⟩, hF, b1⟩ := hN
  have B2 := b1.trans (b2.mono b1.size)
  have B3 := b2.alloc b2.size (.cells #[.int .i64 64, .int .i64 2, .int .i64 (La.lgs 64 : Int), .int .i64 (2 + (La.lgs 64 : Int)), .int .i64 (3 + (La.lgs 64 : Int)), .int .i64 4, .int .i64 (3 + (La.lgs 64 : Int) + 4)] 30)
  have hl' := hl.kept (fun i hi => B3.block i (hl.flt i hi)) B3.size
  have hL : La.lgs 64 = 16 := by decide
  have c := J.open_good hl' (by show 64 ≤ 64; decide) (by show 64 ≤ 512; decide) (e : Int) 1 (t : Int) (by omega) (by decide) (by show 0 ≤ (t : Int) ∧ (t : Int) ≤ (La.lgs 64 : Int) - 1; rw [hL]; omega)
  refine Calls.mono c ?_
  rintro r w3 ⟨g, hj, rfl, hbx, b3⟩
  have B4 := B2.trans ((((Below.refl w2.heap.size w2).alloc (Nat.le_refl _) _).trans (b3.mono (by simp))).mono B2.size)
  have hlj : Dk.Lies w3 dg _ F gd cd vu ps := hl'.kept (fun i hi => b3.block i (hl'.flt i hi)) b3.size
  have HS : Hid (Sw w g dg e t (st9 e t zs 0) (.slice none 0 0) [] w3) := by
    refine Sw.start ⟨gd, cd, vu, ps, hlj⟩ hF hbx (fun hf => ?_) ?_ B4 hlj.flt
    · have h1 := hl'.flt g hf
      omega
    · have := B2.size
      have h1 : w2.heap.size + 1 ≤ g := by simpa using hj
      omega
  clear hj hbx b3 hlj c hl' B3 B2 b1 b2 hl hF B4 hL
  go_wp2_with fail
  go_loopw [15, 16] (fun v i u => ∃ (k : Nat) (qs : List G9), k ≤ n ∧ k ≤ 12 ∧ i = .int .i64 (k : Int) ∧ Sw w g dg e t (st9 e t zs k) v qs u) (fun _ i _ => 12 - (intOf i).toNat)
  case atStart => exact ⟨0, [], Nat.zero_le _, by decide, rfl, HS.out⟩
  case round =>
    obtain ⟨k, qs, hk, hk12, rfl, hS⟩ := hrel
    obtain ⟨av, cv, rfl⟩ := Rc.owns_shape hS.row
    have S0 : Hid (Sw w g dg e t (st9 e t zs k) (.slice av qs.length cv) qs wr) := hS
    clear hS
    by_cases hlt : k < n ∧ k < 12
    · obtain ⟨hkn, hk2⟩ := hlt
      have hkl : k < zs.length := by rw [HL.out]; exact hkn
      obtain ⟨b, o, rfl, hc⟩ := HZ.out (by omega)
      have hck := hc k hkl
      have hb : b < w.heap.size := block_lt_of_cell hck
      have B : Below w.heap.size w wr := S0.out.bel
      have hst : Hid (st9 e t zs (k + 1) = step9 e t (st9 e t zs k) zs[k]) := st9_succ e t zs k hkl
      have hok : Hid (Ok9 (st9 e t zs k) k) := ok9 e t zs k (by omega)
      generalize (zs[k]'hkl) = z at hck hst
      have HC : Hid (∀ u, Below w.heap.size w u → u.cell? ⟨b, o + k, none⟩ = some (.int .i64 z)) := fun u bu => (bu.cell (p := ⟨b, o + k, none⟩) hb).trans hck
      have cP := fun u => pick_eq z 5 5 u rfl (by decide) (by decide)
      have hp := pk_in z 5 (by decide)
      have hN : Hid (((n9 z : Nat) : Int) = 1 + pk z 5) := by
        have : ((n9 z : Nat) : Int) = 1 + pk z 5 := by unfold n9; omega
        exact this
      have hn9 := n9_in z
      obtain ⟨N, hNe⟩ : ∃ N, N = n9 z := ⟨_, rfl⟩
      have cI := fun u => images9_imf u N z (by omega)
      rw [hNe, hN.out, ← hNe] at cI
      have HNe : Hid (N = n9 z) := hNe
      generalize pk z 5 = p at cP hp cI hN
      clear hc hck hkl hNe hN hn9
      have hp1 : 0 ≤ p := hp.1
      have hp2 : p < 5 := hp.2
      clear hp
      have hwr : IntKind.i64.wrap (1 + p) = 1 + p := by rw [IntKind.wrap_i64]; omega
      rw [← hwr] at cI
      clear hwr
      go_upto_region 10 with fail
      go_region_held3 (fun u => u.cell? ⟨b, o + k, none⟩ = some (.int .i64 z))
        (first | with_reducible exact HC.out _ B.drew | with_reducible exact HC.out _ BW)
        (first
          | (go_at_call 16; refine Calls.mono (cP _) ?_; rintro r W0 ⟨rfl, rfl⟩)
          | (go_at_call 30; refine Calls.mono (cI wr.drew) ?_; rintro r W ⟨a', c', rfl, hIm, bW⟩; have BW : Below w.heap.size w W := B.drew.trans (bW.mono B.drew.size)))
      have hIq : SwI w g dg e t (st9 e t zs k) (.slice av qs.length cv) qs ⟨N, z, a', c'⟩ W := (S0.out.below (Below.refl wr.heap.size wr).drew).img hIm bW
      have hql : qs.length ≤ 12 := by
        have h1 := congrArg List.length S0.out.same
        have h2 := hok.out.2.2.2.2.2.1
        simp at h1
        omega
      clear hIm bW BW HC cP cI B hp1 hp2
      by_cases hr : (st9 e t zs k).U + (n9 z + 1) ≤ 16
      · have cA := Sw.append_ok hIq hok.out hk12 he ht HNe.out hr
        have HI : Hid (N = n9 z) := HNe.out
        clear hIq hr
        go_wp2_with fail
        refine Calls.mono cA ?_
        rintro r u2 ⟨⟨x, rfl⟩, hA⟩
        have al := (Below.refl u2.heap.size u2).alloc (Nat.le_refl _) (.cells #[.slice a' N c'] 38)
        have hA2 : Hid (SwA w g dg e t (step9 e t (st9 e t zs k) z) (.slice av qs.length cv) qs ⟨N, z, a', c'⟩ (u2.alloc (.cells #[.slice a' N c'] 38))) := hA.below al
        have own1 := hA2.out.row
        have hz4 := hA2.out.bel.size
        have bN := Dk.Box.new u2 #[.slice a' N c'] 38
        have hcN : ∀ j u, ([.slice a' N c'] : List Value)[j]? = some u → (u2.alloc (.cells #[.slice a' N c'] 38)).cell? ((⟨u2.heap.size, 0, none⟩ : Addr).add j) = some u := fun j u hj => by
          rw [Addr.add_lit, Nat.zero_add, bN.cell j]
          simpa using hj
        clear hA al cA bN
        go_wp2_with (at_builtin; refine wpList_append_lies _ rfl _ _ 34 rfl w.heap.size 38 i0 (.slice none 0 0) 1 24 Tryz.underlying34 hi hz0 hz1 hz2 rfl (by decide) _ qs.length _ rfl own1 ⟨u2.heap.size, 0, none⟩ 1 1 [.slice a' N c'] rfl rfl hcN ?c2 (by decide) ?c3 ?c4 hz4 (u2.heap.size + 1) (by simp) ?_)
        case c2 => intro u hu; simp at hu; subst hu; rfl
        case c3 => unfold maxLen; omega
        case c4 => omega
        intro g4 cap4 w4 own4 hg4 hw4 _
        have hS4 : Sw w g dg e t (st9 e t zs (k + 1)) (.slice (some ⟨g4, 0, none⟩) (qs.length + 1) cap4) (qs ++ [⟨N, z, a', c'⟩]) w4 := by
          rw [hst.out]
          refine hA2.out.list own4 hg4 (fun k hk => ?_)
          rcases hw4 with h | h
          · left
            rw [h]
            simpa [Value.ownBlock] using hk
          · right
            have : g4 = k := by simpa [Value.ownBlock] using hk
            simp
            omega
        clear own1 hcN hg4 own4 hw4 hA2
        go_wp2_with fail
        go_roundw
        case rel => exact ⟨k + 1, _, by omega, by omega, by push_cast; rfl, hS4⟩
        case measure => simp [intOf]; omega
      · have cA := Sw.append_full hIq hok.out hk12 he ht HNe.out hr
        clear hIq hr
        go_wp2_with fail
        refine Calls.mono cA ?_
        rintro r u2 ⟨rfl, hA⟩
        have hS4 : Sw w g dg e t (st9 e t zs (k + 1)) (.slice av qs.length cv) qs u2 := by
          rw [hst.out]
          exact hA
        clear hA cA
        go_wp2_with fail
        go_roundw
        case rel => exact ⟨k + 1, _, by omega, by omega, by push_cast; rfl, hS4⟩
        case measure => simp [intOf]; omega
    · have HK : Hid (k = min n 12) := (by omega : k = min n 12)
      by_cases hkn : k < n
      · have hk2 : ¬ k < 12 := by omega
        go_wp2_with fail
        exact bodyPost_ret (v := .tuple #[.pointer (some ⟨dg, 0, none⟩), .slice av qs.length cv, .bool true]) (by simp [results, Tryz.results8, go_sem]) rfl ⟨g, dg, _, qs, rfl, by rw [← HK.out]; exact S0.out⟩
      · go_wp2_with fail
        exact bodyPost_ret (v := .tuple #[.pointer (some ⟨dg, 0, none⟩), .slice av qs.length cv, .bool true]) (by simp [results, Tryz.results8, go_sem]) rfl ⟨g, dg, _, qs, rfl, by rw [← HK.out]; exact S0.out⟩
end Go.Proofs.YtkhejjddmbegaaaGreat.S

/-
  The law's same: groups are these images', from number 1 on.
-/
namespace Go.Proofs.YtkhejjddmbegaaaGreat.S
open Go.RowKit
open Go.Proofs.YtkhejjddmbegaaaGreat.Dk (Box)

/-- groups of an epoch, from number 1 on -/
def GsI (w : World) (a : Option Addr) (E : Int) (ls : List (List (Int × List UInt8))) : Prop :=
  0 < ls.length → ∃ b o, a = some ⟨b, o, none⟩ ∧ ∀ j (h : j < ls.length), ∃ al cl, w.cell? ⟨b, o + j * 3, none⟩ = some (.int .i64 E) ∧ w.cell? ⟨b, o + j * 3 + 1, none⟩ = some (.int .i64 (j + 1 : Nat)) ∧ w.cell? ⟨b, o + j * 3 + 2, none⟩ = some (.slice al ls[j].length cl) ∧ Rc.Imgs w al ls[j]
/-- lists of images -/
def AllI (w : World) (a : Option Addr) (ls : List (List (Int × List UInt8))) : Prop :=
  0 < ls.length → ∃ b o, a = some ⟨b, o, none⟩ ∧ ∀ j (h : j < ls.length), ∃ al cl, w.cell? ⟨b, o + j, none⟩ = some (.slice al ls[j].length cl) ∧ Rc.Imgs w al ls[j]

set_option maxRecDepth 100000 in
theorem same_at (w : World) (a1 a2 : Option Addr) (n c1 c2 : Nat) (E : Int) (ls : List (List (Int × List UInt8))) (hl : ls.length = n) (hn : n ≤ 1000) (hm : ∀ l ∈ ls, l.length ≤ 32) (h1 : GsI w a1 E ls) (h2 : AllI w a2 ls) :
    Calls Tryz.prog 11 #[.slice a1 n c1, .slice a2 n c2, .int .i64 E] w fun r w' => r = .returned (.bool true) ∧ Below w.heap.size w w' := by
  have HL : Hid (ls.length = n) := hl
  have H1 : Hid (GsI w a1 E ls) := h1
  have H2 : Hid (AllI w a2 ls) := h2
  have HM : Hid (∀ l ∈ ls, l.length ≤ 32) := hm
  clear hl h1 h2 hm
  go_enter Tryz.func11, Tryz.ntmps11
  go_wp2_with fail
  go_loopw [7] (fun i u => ∃ (k : Nat), k ≤ n ∧ i = .int .i64 (k : Int) ∧ Below w.heap.size w u) (fun i _ => n - (intOf i).toNat)
  case atStart => exact ⟨0, Nat.zero_le _, rfl, Below.refl _ _⟩
  case round =>
    obtain ⟨k, hk, rfl, B⟩ := hrel
    by_cases hkn : k < n
    · have hkl : k < ls.length := by rw [HL.out]; exact hkn
      obtain ⟨b1, o1, rfl, g1⟩ := H1.out (by omega)
      obtain ⟨b2, o2, rfl, g2⟩ := H2.out (by omega)
      obtain ⟨al, cl, x0, x1, x2, i1⟩ := g1 k hkl
      obtain ⟨am, cm, y0, i2⟩ := g2 k hkl
      have hm := HM.out _ (List.getElem_mem hkl)
      generalize (ls[k]'hkl) = IM at x2 i1 y0 i2 hm
      have l1 : b1 < w.heap.size := block_lt_of_cell x0
      have l2 : b2 < w.heap.size := block_lt_of_cell y0
      obtain ⟨m, hme⟩ : ∃ m, m = IM.length := ⟨_, rfl⟩
      rw [← hme] at x2 y0 hm
      push_cast at x1
      have HS : Hid (∀ u, Below w.heap.size w u → u.cell? ⟨b1, o1 + k * 3, none⟩ = some (.int .i64 E) ∧ u.cell? ⟨b1, o1 + k * 3 + 1, none⟩ = some (.int .i64 ((k : Int) + 1)) ∧ u.cell? ⟨b1, o1 + k * 3 + 2, none⟩ = some (.slice al m cl) ∧ u.cell? ⟨b2, o2 + k, none⟩ = some (.slice am m cm)) := fun u bu =>
        ⟨(bu.cell (p := ⟨b1, o1 + k * 3, none⟩) l1).trans x0, (bu.cell (p := ⟨b1, o1 + k * 3 + 1, none⟩) l1).trans x1, (bu.cell (p := ⟨b1, o1 + k * 3 + 2, none⟩) l1).trans x2, (bu.cell (p := ⟨b2, o2 + k, none⟩) l2).trans y0⟩
      have cS := Rc.sameImages_at al am m cl m cm IM IM wr.drew hme.symm hme.symm (by omega) (i1.below B.drew) (i2.below B.drew)
      rw [decide_eq_true rfl] at cS
      clear x0 x1 x2 y0 i1 i2 l1 l2 g1 g2 hme hm hkl
      go_upto_region 6 with fail
      have hwk : IntKind.i64.wrap ((k : Int) + 1) = (k : Int) + 1 := by rw [IntKind.wrap_i64]; omega
      go_region_held3 (fun u => u.cell? ⟨b1, o1 + k * 3, none⟩ = some (.int .i64 E) ∧ u.cell? ⟨b1, o1 + k * 3 + 1, none⟩ = some (.int .i64 ((k : Int) + 1)) ∧ u.cell? ⟨b1, o1 + k * 3 + 2, none⟩ = some (.slice al m cl) ∧ u.cell? ⟨b2, o2 + k, none⟩ = some (.slice am m cm))
        (first | with_reducible exact HS.out _ B.drew | with_reducible exact HS.out _ B7)
        (first
          | (go_at_call 37; refine Calls.mono cS ?_; rintro r u7 ⟨rfl, hw7⟩; have B7 : Below w.heap.size w u7 := B.drew.trans (hw7.mono B.drew.size)))
      clear cS HS hw7 hwk
      go_wp2_with fail
      go_roundw
      case rel => exact ⟨k + 1, by omega, by push_cast; rfl, B7⟩
      case measure => simp [intOf]; omega
    · have hke : k = n := by omega
      subst hke
      go_wp2_with fail
      go_ret
      exact ⟨rfl, B⟩
end Go.Proofs.YtkhejjddmbegaaaGreat.S

/-
  Groups that are told, as the law's same takes them; what the law's disk tells.
-/
namespace Go.Proofs.YtkhejjddmbegaaaGreat.S
open Go.RowKit
open Go.Proofs.YtkhejjddmbegaaaGreat.Dk (Box)

theorem gsC_at (E : Nat) (xs : List Gx) (i : Nat) (h : i < xs.length) : (gsC E xs)[i * 3]? = some (.int .i64 (E : Int)) ∧ (gsC E xs)[i * 3 + 1]? = some (.int .i64 (xs[i].s : Int)) ∧ (gsC E xs)[i * 3 + 2]? = some (.slice xs[i].a xs[i].m xs[i].c) := by
  induction xs generalizing i with
  | nil => simp at h
  | cons p ps ih =>
    cases i with
    | zero => exact ⟨rfl, rfl, rfl⟩
    | succ i =>
      obtain ⟨u, v, z⟩ := ih i (by simpa using h)
      have e1 : (i + 1) * 3 = i * 3 + 1 + 1 + 1 := by omega
      simp only [gsC, List.flatMap_cons, e1, List.cons_append, List.nil_append, List.getElem?_cons_succ, List.getElem_cons_succ]
      exact ⟨u, v, z⟩
/-- groups as they are told -/
theorem gsI_of {D : Dk.DS} {t E B c : Nat} {a : Option Addr} {xs : List Gx} {w : World} (hr : Run D t E 0 1 xs) (ho : w.ownsRow B 40 3 (.slice a xs.length c) xs.length (gsC E xs)) (hg : ∀ x ∈ xs, GA D t E x w) : GsI w a (E : Int) (xs.map fun x => gimgs D t x.b) := fun h0 => by
  have hl : 0 < xs.length := by simpa using h0
  obtain ⟨g, rfl, _, _, hc⟩ := Rc.owns_cells ho hl
  refine ⟨g, 0, rfl, fun j hj => ?_⟩
  have hjx : j < xs.length := by simpa using hj
  obtain ⟨k0, k1, k2⟩ := gsC_at E xs j hjx
  have hm := List.getElem_mem hjx
  obtain ⟨_, g2, g3, g4, g5⟩ := hg _ hm
  have hs := hr.seq j hjx
  have hn := (hr.cnt _ hm).1
  have hps : (xs[j]).ps.length = (xs[j]).m := by
    have := congrArg List.length g5
    rw [List.length_map] at this
    rw [this, hn]
  have hi := Rc.imgs_of g3 g4 hps
  rw [g5] at hi
  rw [List.getElem_map]
  refine ⟨(xs[j]).a, (xs[j]).c, ?_, ?_, ?_, hi⟩
  · rw [Nat.zero_add, hc _ (by omega), k0]
  · rw [Nat.zero_add, hc _ (by omega), k1, hs, Nat.add_comm 1 j]
  · rw [Nat.zero_add, hc _ (by omega), k2, ← hn]
theorem tot_imgs {D : Dk.DS} {t E : Nat} {xs : List Gx} {b s : Nat} (hr : Run D t E b s xs) : tot xs = ((xs.map fun x => gimgs D t x.b).map fun is => is.length + 1).sum := by
  unfold tot
  rw [List.map_map]
  congr 1
  refine List.map_congr_left fun x hx => ?_
  show x.m + 1 = (gimgs D t x.b).length + 1
  rw [(hr.cnt x hx).1]
section
variable {w u u' : World} {g dg e t : Nat} {s : W9} {v : Value} {qs : List G9}
theorem Sw.iss (h : Sw w g dg e t s v qs u) : iss9 s.gs = qs.map fun q => im9 q.z q.n := by rw [← h.same, iss9, List.map_map]; rfl
theorem Sw.allI {a : Option Addr} {n c : Nat} (h : Sw w g dg e t s (.slice a n c) qs u) : AllI u a (iss9 s.gs) := fun h0 => by
  obtain ⟨F, _, im, _, _⟩ := h.ex
  have hi := h.iss
  have hl : 0 < qs.length := by rw [hi] at h0; simpa using h0
  obtain ⟨b, rfl, _, _, hc⟩ := Rc.owns_cells h.row hl
  refine ⟨b, 0, rfl, fun j hj => ?_⟩
  have hjq : j < qs.length := by rw [hi] at hj; simpa using hj
  have e : (iss9 s.gs)[j] = im9 (qs[j]).z (qs[j]).n := by simp only [hi, List.getElem_map]
  rw [e, im9_length]
  refine ⟨(qs[j]).al, (qs[j]).cl, ?_, (im _ (List.getElem_mem hjq)).imgs⟩
  rw [Nat.zero_add, hc _ (by omega)]
  simp [alC, hjq]
theorem Sw.disk (h : Sw w g dg e t s v qs u) : ∃ F, Dk.IsDisk u dg s.D F ∧ ∀ i, F i → w.heap.size ≤ i := by
  obtain ⟨F, ⟨⟨vs, Fd, _, hd, _, _, _, h6⟩, _⟩, _, _, hF⟩ := h.ex
  exact ⟨Fd, hd, fun i hi => hF i (h6 i hi)⟩
theorem Sw.len (h : Sw w g dg e t s v qs u) : qs.length = s.gs.length := by rw [← h.same, List.length_map]
end
theorem AllI.take {w : World} {a : Option Addr} {ls : List (List (Int × List UInt8))} (h : AllI w a ls) (k : Nat) : AllI w a (ls.take k) := fun h0 => by
  have hl : 0 < ls.length := by simp at h0; omega
  obtain ⟨b, o, rfl, hc⟩ := h hl
  refine ⟨b, o, rfl, fun j hj => ?_⟩
  have hj2 : j < ls.length := by simp at hj; omega
  rw [List.getElem_take]
  exact hc j hj2
theorem im9_all (gs : List (Nat × Int)) (h : ∀ q ∈ gs, 1 ≤ q.1 ∧ q.1 ≤ 5) : ∀ l ∈ iss9 gs, l.length ≤ 32 := fun l hl => by
  obtain ⟨q, hq, rfl⟩ := List.mem_map.1 hl
  have := h q hq
  rw [im9_length]
  omega
/-- what the law's own disk tells -/
theorem st9_tells {e t : Nat} {zs : List Int} {k : Nat} (hk : k ≤ zs.length) (hk12 : k ≤ 12) (he : 1 ≤ e ∧ e ≤ 9) (ht : t < 16) {xs : List Gx} (hr : Run (st9 e t zs k).D t e 0 1 xs) :
    xs.map (fun x => gimgs (st9 e t zs k).D t x.b) = iss9 (st9 e t zs k).gs ∧ xs.length = (st9 e t zs k).gs.length ∧ tot xs = (st9 e t zs k).U := by
  obtain ⟨h1, h2, h3⟩ := st9_uf e t ht zs k hk
  have hok := st9_ok e t he zs k hk hk12
  have h9 := ok9 e t zs k hk
  generalize st9 e t zs k = s at h1 h2 h3 hok h9 hr ⊢
  have hL : (blks e 1 (iss9 s.gs)).length ≤ 16 := by rw [← h2]; exact h9.2.2.2.2.1
  rw [h2] at h3
  have hm := mixd_stand h3 hL (noE_new (t := t) (E := e) h1 (by omega) (by omega))
  obtain ⟨q1, q2⟩ := run_mixd hok hm hr
  have q3 := run_whole hok (b := 0) (fun i h => by rw [Nat.zero_add]; exact rg_in h3 hL i h) (by omega) hr
  have el : (iss9 s.gs).length = s.gs.length := by simp [iss9]
  have q4 : xs.map (fun x => gimgs s.D t x.b) = iss9 s.gs := by rw [q2, List.take_of_length_le (by omega)]
  refine ⟨q4, by omega, ?_⟩
  rw [tot_imgs hr, q4, h2, blks_length]

theorem st14 : (st9 1 14 [0, 1] 2).gs = [(1, 0), (2, 1)] ∧ (st9 1 14 [0, 1] 2).U = 5 := by
  have h0 : n9 0 = 1 := by decide
  have h1 : n9 1 = 2 := by decide
  simp [st9, step9, h0, h1]

/-- a row of numbers that was laid just now -/
theorem rdI_new (w : World) (zs : List Int) : Dk.RdI (w.alloc (.cells (zs.map fun z => Value.int .i64 z).toArray 3)) (some ⟨w.heap.size, 0, none⟩) zs := fun _ => by
  refine ⟨w.heap.size, 0, rfl, fun j hj => ?_⟩
  rw [Nat.zero_add, (Dk.Box.new w (zs.map fun z => Value.int .i64 z).toArray 3).cell j]
  simp [hj]
/-- what Groups answers, of the law's own disk -/
def Tld (w : World) (E : Nat) (iss : List (List (Int × List UInt8))) (at_ : Nat) (r : Ending) (w' : World) : Prop :=
  ∃ a c, r = .returned (.tuple #[.slice a iss.length c, .int .i64 (at_ : Int), .int .i64 0]) ∧ GsI w' a (E : Int) iss ∧ Below w.heap.size w w'
theorem Sw.tells {w0 w : World} {g dg e t : Nat} {zs : List Int} {k : Nat} {v : Value} {qs : List G9} (h : Sw w0 g dg e t (st9 e t zs k) v qs w) (hk : k ≤ zs.length) (hk12 : k ≤ 12) (he : 1 ≤ e ∧ e ≤ 9) (ht : t < 16) :
    Calls Tryz.prog 6 #[.pointer (some ⟨dg, 0, none⟩), .agg lay, .agg #[.int .i64 64, .int .i64 (e : Int), .int .i64 1, .int .i64 (t : Int)]] w (Tld w e (iss9 (st9 e t zs k).gs) ((t + (st9 e t zs k).U) % 16)) := by
  obtain ⟨F, hd, _⟩ := h.disk
  obtain ⟨h1, h2, h3, _⟩ := ok9 e t zs k hk
  refine (groups_at hd h2 h1.1 (by omega) t e 1 ht (by omega) (by decide)).mono ?_
  rintro r w' ⟨xs, a, c, rfl, hr, ho, hg, b⟩
  obtain ⟨t1, t2, t3⟩ := st9_tells hk hk12 he ht hr
  have hG := gsI_of hr ho hg
  rw [t1] at hG
  have el : (iss9 (st9 e t zs k).gs).length = xs.length := by rw [t2]; simp [iss9]
  refine ⟨a, c, ?_, hG, b⟩
  rw [el, t3]

set_option maxRecDepth 100000 in
theorem awake_at (w : World) : Calls Tryz.prog 15 #[] w fun r w' => r = .returned (.bool true) ∧ Below w.heap.size w w' := by
  have al := (Below.refl w.heap.size w).alloc (Nat.le_refl _) (.cells #[.int .i64 0, .int .i64 1] 3)
  have cW := written_at (w.alloc (.cells #[.int .i64 0, .int .i64 1] 3)) 1 14 (some ⟨w.heap.size, 0, none⟩) 2 2 [0, 1] rfl (rdI_new w [0, 1]) (by decide) (by decide)
  go_enter Tryz.func15, Tryz.ntmps15
  go_wp2_with fail
  refine Calls.mono cW ?_
  rintro r u ⟨g, dg, v, qs, rfl, hS⟩
  rw [show min 2 12 = 2 from rfl] at hS
  obtain ⟨av, cv, rfl⟩ := Rc.owns_shape hS.row
  have hq : qs.length = 2 := by rw [hS.len, st14.1]; rfl
  rw [hq] at hS ⊢
  have B1 := al.trans (hS.bel.mono al.size)
  have HS : Hid (Sw (w.alloc (.cells #[.int .i64 0, .int .i64 1] 3)) g dg 1 14 (st9 1 14 [0, 1] 2) (.slice av 2 cv) qs u) := hS
  clear hS al hq cW
  have cL := layout64_at u
  unfold lay at cL
  go_wp2_with fail
  refine Calls.mono cL ?_
  rintro r u1 ⟨rfl, b1⟩
  have hS1 := HS.out.below b1
  have cG := hS1.tells (by decide) (by decide) (by decide) (by decide)
  unfold lay at cG
  have B2 := B1.trans (b1.mono B1.size)
  rw [st14.1, st14.2] at cG
  clear cL
  go_wp2_with fail
  refine Calls.mono cG ?_
  rintro r u2 ⟨a, c, rfl, hG, b2⟩
  have hA := (hS1.below b2).allI
  rw [st14.1] at hA
  have cS := same_at u2 a av 2 c cv 1 (iss9 [(1, 0), (2, 1)]) rfl (by decide) (im9_all _ (by decide)) hG hA
  have B3 := B2.trans (b2.mono B2.size)
  clear hG hA hS1 cG b1 b2 B1 B2
  rw [show (iss9 [(1, 0), (2, 1)]).length = 2 from rfl]
  go_wp2_with fail
  refine Calls.mono cS ?_
  rintro r u3 ⟨rfl, b3⟩
  go_wp2_with fail
  go_ret
  exact ⟨rfl, B3.trans (b3.mono B3.size)⟩
end Go.Proofs.YtkhejjddmbegaaaGreat.S

/-
  The document's own numbers in bytes, and its own sum.
-/
namespace Go.Proofs.YtkhejjddmbegaaaGreat.Rc
open Go.RowKit

theorem refNumber_out (a : Option Addr) (n cap : Nat) (i : Int) (size : Nat) (w : World) (hs : size ≤ 8) (hn : n ≤ 9223372036854775807) (h : i < 0 ∨ (n : Int) - size < i) :
    Calls Tryz.prog 89 #[.slice a n cap, .int .i64 i, .int .i64 size] w fun e w' => e = .returned (.tuple #[.int .u64 0, .bool false]) ∧ w = w' := by
  by_cases h1 : i < 0
  · go_enter Tryz.func89, Tryz.ntmps89
    go_wp2
    go_ret2
    exact ⟨rfl, rfl⟩
  · have h2 : (n : Int) - size < i := by omega
    by_cases h3 : (n : Int) < size
    · go_enter Tryz.func89, Tryz.ntmps89
      go_wp2
      go_ret2
      exact ⟨rfl, rfl⟩
    · go_enter Tryz.func89, Tryz.ntmps89
      go_wp2
      go_ret2
      exact ⟨rfl, rfl⟩

theorem refNumber_in (b off cap : Nat) (xs : List UInt8) (k size : Nat) (w : World) (hs : size ≤ 8) (hn : xs.length ≤ 9223372036854775807)
    (hc : ∀ j (h : j < xs.length), w.cell? ⟨b, off + j, none⟩ = some (.int .u8 (xs[j].toNat : Int))) (h : k + size ≤ xs.length) :
    Calls Tryz.prog 89 #[.slice (some ⟨b, off, none⟩) xs.length cap, .int .i64 k, .int .i64 size] w fun e w' => e = .returned (.tuple #[.int .u64 (beNat ((xs.drop k).take size)), .bool true]) ∧ w = w' := by
  go_enter Tryz.func89, Tryz.ntmps89
  go_wp2
  go_loop [8, 9] (fun v i => ∃ j : Nat, j ≤ size ∧ i = .int .i64 j ∧ v = .int .u64 (beNat ((xs.drop k).take j))) (fun _ i => size - (intOf i).toNat)
  case atStart => exact ⟨0, Nat.zero_le _, rfl, rfl⟩
  case round =>
    obtain ⟨j, hj, rfl, rfl⟩ := hrel
    by_cases hlt : j < size
    · have hcc := hc (k + j) (by omega)
      have hb7 := beNat_take_lt7 (xs.drop k) j (by omega)
      have hb1 := u8_lt xs[k + j]
      have hst : Hid (beNat ((xs.drop k).take (j + 1)) = beNat ((xs.drop k).take j) * 256 + xs[k + j].toNat) := be_window_succ xs k j (by omega)
      go_wp2
      go_round
      case rel => exact ⟨j + 1, by omega, by go_num, by rw [hst.out]; go_num⟩
      case measure => simp [intOf]; omega
    · obtain rfl : j = size := by omega
      go_wp2
      go_ret2
      exact ⟨rfl, rfl⟩

theorem refNumber_at (cap n : Nat) (a : Option Addr) (xs : List UInt8) (i : Int) (size : Nat) (S : Int) (w : World) (hS : S = (size : Int)) (hl : xs.length = n) (hs0 : 0 < size) (hs : size ≤ 8) (hn : n ≤ 9223372036854775807) (hr : Rd w a xs) :
    Calls Tryz.prog 89 #[.slice a n cap, .int .i64 i, .int .i64 S] w fun e w' => e = .returned (.tuple #[.int .u64 ((numAt xs i size).getD 0 : Nat), .bool (numAt xs i size).isSome]) ∧ w = w' := by
  subst hl hS
  by_cases h : 0 ≤ i ∧ i + size ≤ xs.length
  · obtain ⟨k, rfl⟩ := Int.eq_ofNat_of_zero_le h.1
    have hk : k + size ≤ xs.length := by omega
    obtain ⟨b, o, rfl, hc⟩ := hr (by omega)
    rw [numAt_some hk]
    exact refNumber_in b o cap xs k size w hs hn hc hk
  · rw [numAt_none h]
    exact refNumber_out a xs.length cap i size w hs hn (by omega)

/-- the lowest j bytes, the lowest first -/
def leB (j v : Nat) : List UInt8 := (toBE j v).reverse
theorem leB_length (j v : Nat) : (leB j v).length = j := by simp [leB, toBE_length]
theorem leB_succ (j v : Nat) : leB (j + 1) v = leB j v ++ [UInt8.ofNat (v / 256 ^ j)] := by simp [leB, toBE_cons]
theorem leB_at (n v k : Nat) (h : k < n) : (leB n v)[n - 1 - k]'(by rw [leB_length]; omega) = (toBE n v)[k]'(by rw [toBE_length]; omega) := by
  simp only [leB, List.getElem_reverse, toBE_length]
  congr 1
  omega

theorem step_byte (q : Nat) : (q : Int) % 256 = ((UInt8.ofNat q).toNat : Int) := by
  rw [ofNat_toNat]; omega
theorem step_div (v j q : Nat) (h : q = v / 256 ^ j) : q / 256 = v / 256 ^ (j + 1) := by
  rw [h, Nat.pow_succ, ← Nat.div_div_eq_div_mul]

theorem take_succ_at (l : List UInt8) (k : Nat) (h : k < l.length) : l.take (k + 1) = l.take k ++ [l[k]] := List.take_succ_eq_append_getElem h

set_option maxRecDepth 100000 in
set_option maxHeartbeats 800000 in
theorem refAdd_at (cap n N : Nat) (a : Option Addr) (xs : List UInt8) (v : Nat) (V S : Int) (w : World) (hV : V = (v : Int)) (hS : S = (N : Int)) (hl : xs.length = n) (hv : v < 18446744073709551616) (hN0 : 0 < N) (hN : N ≤ 8) (hn : n ≤ 140737488355300) (hr : Rd w a xs) (hnil : a = none → cap = 0) :
    Calls Tryz.prog 87 #[.slice a n cap, .int .u64 V, .int .i64 S] w fun e w' => ∃ v', e = .returned v' ∧ w'.ownsRow w.heap.size 5 1 v' (n + N) (bcs (xs ++ toBE N v)) ∧ Below w.heap.size w w' := by
  subst hV hS
  obtain ⟨i0, hi, hz0, hz1, hz2⟩ := info_parts info5
  have Hl : Hid (xs.length = n) := hl
  clear hl
  go_enter Tryz.func87, Tryz.ntmps87
  go_wp2
  go_loopw [1, 7, 8] (fun q l i wr => ∃ j p : Nat, j ≤ N ∧ i = .int .i64 j ∧ q = .int .u64 (p : Int) ∧ p < 18446744073709551616 ∧ Hid (p = v / 256 ^ j) ∧ wr.ownsRow w.heap.size 5 1 l j (bcs (leB j v)) ∧ Below w.heap.size w wr) (fun _ _ i _ => N - (intOf i).toNat)
  case atStart => exact ⟨0, v, Nat.zero_le _, rfl, rfl, hv, by show _ = _; simp, World.ownsRow_nil _ _ _ _, Below.refl _ _⟩
  case round =>
    obtain ⟨j, p, hj, rfl, rfl, hp, hq, ho, hb⟩ := hrel
    by_cases hlt : j < N
    · go_wp2_with (at_builtin; refine wpList_append_own _ rfl _ _ 41 rfl w.heap.size 5 i0 (.int .u8 0) 1 1 Tryz.underlying41 hi hz0 hz1 hz2 rfl (by decide) _ j (bcs (leB j v)) rfl (ho.alloc _) ⟨wr.heap.size, 0, none⟩ 1 1 [.int .u8 ((p : Int) % 256)] rfl rfl ?c1 ?c2 ?c3 ?c4 ?c5 ?_)
      case c1 =>
        intro i u hi'
        match i, hi' with
        | 0, hi' => simp at hi'; subst hi'; simp [Addr.add]
      case c2 => intro u hu; simp at hu; subst hu; rfl
      case c3 => unfold maxLen; omega
      case c4 => omega
      case c5 => have := hb.size; simp; omega
      · intro v' w1 hown hgrow _
        have hown1 : w1.ownsRow w.heap.size 5 1 v' (j + 1) (bcs (leB (j + 1) v)) := by
          rw [leB_succ, ← append_bcs, ← hq.out, ← step_byte]; exact hown
        have hb1 : Below w.heap.size w w1 := (hb.alloc hb.size _).grown hgrow (by have := hb.size; simp; omega) (fun k hk => (ho.lt k hk).1)
        have hq1 : Hid (p / 256 = v / 256 ^ (j + 1)) := step_div v j p hq.out
        clear hown hgrow ho hb hq
        go_wp2
        go_roundw
        case rel => exact ⟨j + 1, p / 256, by omega, by go_num, by go_num, by omega, hq1, hown1, hb1⟩
        case measure => simp [intOf]; omega
    · obtain rfl : j = N := by omega
      obtain ⟨wA, rfl⟩ : ∃ x, x = wr := ⟨wr, rfl⟩
      have hrB : Rd wA a xs := hr.below hb (Nat.le_refl _)
      obtain ⟨al, cl, hval, hll, hlc, hlm, hrl, hpos⟩ := owns_rd ho
      obtain ⟨g, rfl, hg0, hg1⟩ := hpos hN0
      subst hval
      unfold maxLen at hlm
      obtain ⟨gb, go, heq, hcl⟩ := hrl (by omega)
      simp only [Option.some.injEq, Addr.mk.injEq, and_true] at heq
      obtain ⟨rfl, rfl⟩ := heq
      have HC : Hid (∀ k (hk : k < (leB j v).length), wA.cell? ⟨g, 0 + k, none⟩ = some (.int .u8 ((leB j v)[k].toNat : Int))) := hcl
      have Hll : Hid ((leB j v).length = j) := hll
      clear hq hp hj hlt ho hrl hcl hpos hr hll
      go_wp2_with (at_builtin; refine wpList_append_bytes rfl _ _ rfl wA.heap.size (.slice none 0 0) 0 [] rfl (World.ownsRow_nil _ _ _ _) a n cap xs rfl Hl.out hrB hnil (by omega) (Nat.le_refl _) ?_)
      intro v2 w2 ho2 hg2
      have ho2' : w2.ownsRow wA.heap.size 5 1 v2 n (bcs xs) := by simpa using ho2
      have hb2 : Below wA.heap.size wA w2 := (Below.refl _ _).grown hg2 (Nat.le_refl _) (fun k hk => by simp [Value.ownBlock] at hk)
      clear ho2 hg2 hrB hnil
      go_wp2_with fail
      go_loopw [9, 10] (fun l i wr => ∃ k : Nat, k ≤ j ∧ i = .int .i64 ((j : Int) - 1 - k) ∧ wr.ownsRow wA.heap.size 5 1 l (n + k) (bcs (xs ++ (toBE j v).take k)) ∧ Below wA.heap.size wA wr) (fun _ i _ => (intOf i + 1).toNat)
      case atStart => exact ⟨0, Nat.zero_le _, by go_num, by simpa using ho2', hb2⟩
      case round =>
        obtain ⟨k, hk, rfl, ho, hbq⟩ := hrel
        by_cases hlt : k < j
        · have hcell : wr.cell? ⟨g, j - 1 - k, none⟩ = some (.int .u8 (((toBE j v)[k]'(by rw [toBE_length]; omega)).toNat : Int)) := by
            rw [hbq.cell (p := ⟨g, j - 1 - k, none⟩) hg1, ← leB_at j v k hlt]
            have := HC.out (j - 1 - k) (by rw [Hll.out]; omega)
            rw [Nat.zero_add] at this
            exact this
          have htl : Hid (k < (toBE j v).length) := by show _ < _; rw [toBE_length]; exact hlt
          obtain ⟨c, hc⟩ : ∃ c, c = (toBE j v)[k]'htl.out := ⟨_, rfl⟩
          rw [← hc] at hcell
          have Hc : Hid (c = (toBE j v)[k]'htl.out) := hc
          clear hc
          go_wp2_with (at_builtin; refine wpList_append_own _ rfl _ _ 41 rfl wA.heap.size 5 i0 (.int .u8 0) 1 1 Tryz.underlying41 hi hz0 hz1 hz2 rfl (by decide) _ (n + k) (bcs (xs ++ (toBE j v).take k)) rfl (ho.alloc _) ⟨wr.heap.size, 0, none⟩ 1 1 [.int .u8 (c.toNat : Int)] rfl rfl ?c1 ?c2 ?c3 ?c4 ?c5 ?_)
          case c1 =>
            intro i u hi'
            match i, hi' with
            | 0, hi' => simp at hi'; subst hi'; simp [Addr.add]
          case c2 => intro u hu; simp at hu; subst hu; rfl
          case c3 => unfold maxLen; omega
          case c4 => omega
          case c5 => have := hbq.size; simp; omega
          · intro v' w1 hown hgrow _
            have hown1 : w1.ownsRow wA.heap.size 5 1 v' (n + (k + 1)) (bcs (xs ++ (toBE j v).take (k + 1))) := by
              rw [take_succ_at _ _ htl.out, ← Hc.out, ← List.append_assoc, ← append_bcs, ← Nat.add_assoc]; exact hown
            have hb1 : Below wA.heap.size wA w1 := (hbq.alloc hbq.size _).grown hgrow (by have := hbq.size; simp; omega) (fun k hk => (ho.lt k hk).1)
            clear hown hgrow ho hbq hcell Hc
            go_wp2
            go_roundw
            case rel => exact ⟨k + 1, by omega, by go_num, hown1, hb1⟩
            case measure => simp [intOf]; omega
        · obtain rfl : k = j := by omega
          rw [List.take_of_length_le (by rw [toBE_length]; exact Nat.le_refl _)] at ho
          have hB : Below w.heap.size w wr := hb.trans (hbq.mono hb.size)
          have ho' : wr.ownsRow w.heap.size 5 1 u9 (n + k) (bcs (xs ++ toBE k v)) := ⟨ho.1, by
            rcases ho.2 with h | ⟨g', cap', cur, h1, h2, h3⟩
            · exact .inl h
            · exact .inr ⟨g', cap', cur, h1, Nat.le_trans hb.size h2, h3⟩⟩
          clear ho hb hbq
          go_wp2
          go_ret
          exact ⟨_, rfl, ho', hB⟩


theorem ref_bit (c : UInt8) (j : Nat) : ((c.toNat : Int) % 4294967296 / 2 ^ j).tmod 2 = ((c.toNat / 2 ^ j % 2 : Nat) : Int) := by
  have e : (c.toNat : Int) % 4294967296 = c.toNat := by have := u8_lt c; omega
  have e2 : ((c.toNat : Int) / 2 ^ j) = ((c.toNat / 2 ^ j : Nat) : Int) := by simp
  rw [e, e2, Int.tmod_eq_emod_of_nonneg (Int.natCast_nonneg _)]
  simp

theorem ref_unlike (X b : Nat) (B : Int) (hB : B = (b : Int)) (hX : X < 4294967296) (h : (B != (X : Int) % 2) = true) : bits .xor .u32 ((X : Int) / 2) 2197175160 = ((step X b : Nat) : Int) := by
  subst hB
  have hne : X % 2 ≠ b := by
    intro e
    simp at h
    omega
  unfold step
  rw [if_neg hne]
  exact xor_u32 (X / 2) taps (by omega) (by decide)

theorem ref_like (X b : Nat) (B : Int) (hB : B = (b : Int)) (h : (B != (X : Int) % 2) = false) : (X : Int) / 2 = ((step X b : Nat) : Int) := by
  subst hB
  have he : X % 2 = b := by
    have := of_not_bne h
    omega
  unfold step
  rw [if_pos he]
  omega

theorem ref_in (b o cap n : Nat) (xs : List UInt8) (s : Nat) (w : World) (hl : xs.length = n) (hn : n ≤ 9223372036854775807) (hs : s < 4294967296)
    (hc : ∀ j, j < n → w.cell? ⟨b, o + j, none⟩ = some (.int .u8 ((xs.getD j 0).toNat : Int))) :
    Calls Tryz.prog 88 #[.int .u32 s, .slice (some ⟨b, o, none⟩) n cap] w fun e w' => e = .returned (.int .u32 (crc s xs : Nat)) ∧ w = w' := by
  have Hl : Hid (xs.length = n) := hl
  clear hl
  go_enter Tryz.func88, Tryz.ntmps88
  go_wp2_with fail
  go_loop [5, 6] (fun r i => ∃ k : Nat, k ≤ n ∧ i = .int .i64 k ∧ r = .int .u32 (reg (4294967295 - s) (xs.take k) : Nat)) (fun _ i => n - (intOf i).toNat)
  case atStart => exact ⟨0, Nat.zero_le _, rfl, by simp [reg_nil]; omega⟩
  case round =>
    obtain ⟨k, hk, rfl, rfl⟩ := hrel
    obtain ⟨R, hR⟩ : ∃ R, reg (4294967295 - s) (xs.take k) = R := ⟨_, rfl⟩
    rw [hR]
    have HR : Hid _ := hR
    clear hR
    have hRl : R < 4294967296 := by rw [← HR.out]; exact reg_lt _ (by omega)
    by_cases hlt : k < n
    · obtain ⟨c, hcc⟩ : ∃ c, xs.getD k 0 = c := ⟨_, rfl⟩
      have hcx : w.cell? ⟨b, o + k, none⟩ = some (.int .u8 (c.toNat : Int)) := by rw [← hcc]; exact hc k hlt
      have Hcc : Hid _ := hcc
      clear hcc hc
      go_wp2_with fail
      go_loop [5, 7] (fun r i => ∃ j : Nat, j ≤ 8 ∧ i = .int .i64 j ∧ r = .int .u32 (steps R c.toNat j : Nat)) (fun _ i => 8 - (intOf i).toNat)
      case atStart => exact ⟨0, Nat.zero_le _, rfl, rfl⟩
      case round =>
        obtain ⟨j, hj, rfl, rfl⟩ := hrel
        by_cases hlt2 : j < 8
        · have hXl := steps_lt c.toNat hRl j
          go_wp2
          · rename_i ht
            rw [ref_unlike _ _ _ (ref_bit c j) hXl ht]
            go_round
            case rel => exact ⟨j + 1, by omega, by go_num, rfl⟩
            case measure => simp [intOf]; omega
          · rename_i ht
            rw [ref_like _ _ _ (ref_bit c j) ht]
            go_round
            case rel => exact ⟨j + 1, by omega, by go_num, rfl⟩
            case measure => simp [intOf]; omega
        · obtain rfl : j = 8 := by omega
          go_wp2
          go_round
          case rel =>
            refine ⟨k + 1, by omega, by go_num, ?_⟩
            have hk' : k < xs.length := by rw [Hl.out]; exact hlt
            have hcc := Hcc.out
            rw [reg_succ _ _ _ hk', HR.out]
            simp only [List.getD, List.getElem?_eq_getElem hk', Option.getD_some] at hcc
            rw [hcc]
          case measure => simp [intOf]; omega
    · obtain rfl : k = n := by omega
      go_wp2
      go_ret
      have hR := HR.out
      rw [List.take_of_length_le (by rw [Hl.out]; exact Nat.le_refl _)] at hR
      refine ⟨?_, rfl⟩
      unfold crc
      rw [hR]
      show Ending.returned (.int .u32 (4294967295 - (R : Int))) = _
      congr 2
      omega

theorem ref_none (a : Option Addr) (cap : Nat) (s : Nat) (w : World) (hs : s < 4294967296) :
    Calls Tryz.prog 88 #[.int .u32 s, .slice a 0 cap] w fun e w' => e = .returned (.int .u32 (crc s [] : Nat)) ∧ w = w' := by
  go_enter Tryz.func88, Tryz.ntmps88
  go_wp2_with fail
  refine wp_loop_rounds 1 ?_
  rw [rounds_succ]
  go_wp2
  go_ret
  refine ⟨?_, rfl⟩
  rw [crc_nil hs]
  show Ending.returned (.int .u32 (4294967295 - (4294967295 - (s : Int)))) = _
  congr 2
  omega

/-- The document's sum. -/
theorem ref_at (cap n : Nat) (a : Option Addr) (xs : List UInt8) (s : Nat) (S : Int) (w : World) (hS : S = (s : Int)) (hl : xs.length = n) (hn : n ≤ 9223372036854775807) (hs : s < 4294967296) (hr : Rd w a xs) :
    Calls Tryz.prog 88 #[.int .u32 S, .slice a n cap] w fun e w' => e = .returned (.int .u32 (crc s xs : Nat)) ∧ w = w' := by
  subst hS
  by_cases h0 : 0 < n
  · obtain ⟨b, o, rfl, hc⟩ := hr (by omega)
    refine ref_in b o cap n xs s w hl hn hs (fun j hj => ?_)
    rw [hc j (by omega)]
    simp [List.getD, List.getElem?_eq_getElem (show j < xs.length by omega)]
  · obtain rfl : n = 0 := by omega
    obtain rfl : xs = [] := List.eq_nil_of_length_eq_zero hl
    exact ref_none a cap s w hs

end Go.Proofs.YtkhejjddmbegaaaGreat.Rc

/-
  The document's own Right, of any group.
-/
namespace Go.Proofs.YtkhejjddmbegaaaGreat.Rc
open Go.RowKit

/-- the first k images are right -/
def okPre (is : List (Int × List UInt8)) (k : Nat) : Prop := okTo (is.map (·.1)) k ∧ ∀ j (h : j < is.length), j < k → (is[j]).2.length = 4096
theorem is_length' {e s : Int} {is : List (Int × List UInt8)} (hok : okGroup e s is) : 1 ≤ is.length ∧ is.length ≤ 32 := by have := hok.1.2.1; simpa using this
theorem okPre_zero (is : List (Int × List UInt8)) : okPre is 0 := ⟨fun _ _ h => by omega, fun _ _ h => by omega⟩
theorem okPre_succ {is : List (Int × List UInt8)} {k : Nat} (hk : k < is.length) (h : okPre is k) (h1 : 0 ≤ (is[k]).1 ∧ (is[k]).1 ≤ 511) (h2 : ∀ i (hi : i < is.length), i < k → (is[i]).1 ≠ (is[k]).1) (h3 : (is[k]).2.length = 4096) : okPre is (k + 1) := by
  refine ⟨okTo_succ (by simpa using hk) h.1 (by simpa using h1) (fun hm => ?_), fun j hj hlt => ?_⟩
  · obtain ⟨i, hi, e⟩ := List.getElem_of_mem hm
    have hi' : i < k := by rw [List.length_take] at hi; omega
    rw [List.getElem_take] at e
    simp at e
    exact h2 i (by omega) hi' e
  · by_cases e : j = k
    · subst e
      exact h3
    · exact h.2 j hj (by omega)
theorem okPre_all {is : List (Int × List UInt8)} (h : okPre is is.length) {e s : Int} (hs : okStamp e s = true) (h1 : 1 ≤ is.length) (h2 : is.length ≤ 32) : okGroup e s is :=
  ⟨⟨hs, by rw [List.length_map]; exact ⟨h1, h2⟩, by have := h.1; rwa [List.length_map]⟩, fun i hi => by
    obtain ⟨j, hj, rfl⟩ := List.getElem_of_mem hi
    exact h.2 j hj hj⟩
theorem ok_at {e s : Int} {is : List (Int × List UInt8)} (h : okGroup e s is) (k : Nat) (hk : k < is.length) : (0 ≤ (is[k]).1 ∧ (is[k]).1 ≤ 511) ∧ (∀ i (hi : i < is.length), i < k → (is[i]).1 ≠ (is[k]).1) ∧ (is[k]).2.length = 4096 := by
  obtain ⟨q1, q2⟩ := h.1.2.2 k (by simpa using hk) (by simpa using hk)
  refine ⟨by simpa using q1, fun i hi hik e => q2 ?_, h.2 _ (List.getElem_mem hk)⟩
  rw [List.getElem_map, ← e]
  have : (is.map (·.1))[i]'(by simpa using hi) ∈ (is.map (·.1)).take k := by
    rw [List.mem_take_iff_getElem]
    exact ⟨i, by simp; omega, rfl⟩
  simpa using this

/-- what Right tells -/
def RightR (w : World) (e s : Int) (is : List (Int × List UInt8)) (r : Ending) (w' : World) : Prop := ∃ q : Bool, r = .returned (.bool q) ∧ (q = true ↔ okGroup e s is) ∧ Below w.heap.size w w'

set_option maxRecDepth 100000 in
set_option maxHeartbeats 4000000 in
theorem rright_at (e s : Int) (a : Option Addr) (n cap : Nat) (is : List (Int × List UInt8)) (w : World) (hl : is.length = n) (hI : Imgs w a is) :
    Calls Tryz.prog 63 #[.agg #[.int .i64 e, .int .i64 s, .slice a n cap]] w (RightR w e s is) := by
  have x1 := Box.new w #[.int .i64 e, .int .i64 s, .slice a n cap] 40
  have B1 := (Below.refl w.heap.size w).alloc (Nat.le_refl _) (.cells #[.int .i64 e, .int .i64 s, .slice a n cap] 40)
  have HL : Hid (is.length = n) := hl
  have HI : Hid (Imgs w a is) := hI
  clear hl hI
  by_cases hall : (1 ≤ e ∧ e ≤ 8388608) ∧ (1 ≤ s ∧ s ≤ 549755813888) ∧ 1 ≤ n ∧ n ≤ 32
  · obtain ⟨⟨h1, h2⟩, ⟨h3, h4⟩, h5, h6⟩ := hall
    have HST : Hid (okStamp e s = true) := (okStamp_iff _ _).2 ⟨⟨h1, h2⟩, h3, h4⟩
    have i5 : ¬ (n : Int) < 1 := by omega
    have i6 : ¬ (32 : Int) < (n : Int) := by omega
    have j1 : ¬ e < 1 := by omega
    have j2 : ¬ 8388608 < e := by omega
    have j3 : ¬ s < 1 := by omega
    have j4 : ¬ 549755813888 < s := by omega
    go_enter Tryz.func63, Tryz.ntmps63
    go_wp2_with fail
    clear i5 i6 j1 j2 j3 j4
    go_loopw [3] (fun v u => ∃ k : Nat, k ≤ n ∧ v = .int .i64 (k : Int) ∧ okPre is k ∧ Box u w.heap.size #[.int .i64 e, .int .i64 s, .slice a n cap] 40 ∧ Below w.heap.size w u) (fun v _ => n - (intOf v).toNat)
    case atStart => exact ⟨0, Nat.zero_le _, rfl, okPre_zero is, x1, B1⟩
    case round =>
      clear x1 B1
      obtain ⟨k, hk, rfl, hp, x1, B1⟩ := hrel
      have HP : Hid (okPre is k) := hp
      clear hp
      have c2 := x1.cell 2
      by_cases hlt : k < n
      · have k1 : k < is.length := by rw [HL.out]; exact hlt
        obtain ⟨b, o, rfl, hc⟩ := HI.out (by omega)
        obtain ⟨g0, x, cx, g1, g2, g3, g4, g5⟩ := hc k k1
        have lb : b < w.heap.size := block_lt_of_cell g1
        have HC : Hid (∀ j (h : j < is.length), ∀ u : World, Below w.heap.size w u → u.cell? ⟨b, o + j * 2, none⟩ = some (.int .i64 (is[j]).1)) := fun j h u hu => (hu.cell (p := ⟨b, o + j * 2, none⟩) lb).trans (hc j h).1
        rw [← B1.cell (p := ⟨b, o + k * 2, none⟩) lb] at g0
        rw [← B1.cell (p := ⟨b, o + k * 2 + 1, none⟩) lb] at g1
        have Hok : Hid (okGroup e s is → (0 ≤ (is[k]'k1).1 ∧ (is[k]'k1).1 ≤ 511) ∧ (∀ i (hi : i < is.length), i < k → (is[i]).1 ≠ (is[k]'k1).1) ∧ (is[k]'k1).2.length = 4096) := fun h => ok_at h k k1
        have Hsuc : Hid ((0 ≤ (is[k]'k1).1 ∧ (is[k]'k1).1 ≤ 511) → (∀ i (hi : i < is.length), i < k → (is[i]).1 ≠ (is[k]'k1).1) → (is[k]'k1).2.length = 4096 → okPre is (k + 1)) := fun q1 q2 q3 => okPre_succ k1 HP.out q1 q2 q3
        have HCk := HC.out k k1
        have HCK : Hid (∀ u : World, Below w.heap.size w u → u.cell? ⟨b, o + k * 2, none⟩ = some (.int .i64 (is[k]'k1).1)) := HCk
        clear HCk
        generalize (is[k]'k1) = X at g0 g1 g2 g5 Hok Hsuc HCK
        obtain ⟨bx, xs⟩ := X
        dsimp only at g0 g1 Hok Hsuc HCK
        obtain ⟨m, hm⟩ : ∃ m, m = xs.length := ⟨_, rfl⟩
        rw [← hm] at g1 Hok Hsuc
        clear hc g2 g3 g4 g5 hm
        by_cases hgood : (0 ≤ bx ∧ bx ≤ 511) ∧ m = 4096
        · obtain ⟨⟨q1, q2⟩, rfl⟩ := hgood
          have r1 : ¬ bx < 0 := by omega
          have r2 : ¬ 511 < bx := by omega
          go_wp2_with fail
          go_loopw [4] (fun v u => ∃ j : Nat, j ≤ k ∧ v = .int .i64 (j : Int) ∧ (∀ i (hi : i < is.length), i < j → (is[i]).1 ≠ bx) ∧ Box u w.heap.size #[.int .i64 e, .int .i64 s, .slice (some ⟨b, o, none⟩) n cap] 40 ∧ Below w.heap.size w u) (fun v _ => k - (intOf v).toNat)
          case atStart => exact ⟨0, Nat.zero_le _, rfl, fun _ _ h => by omega, x1, B1⟩
          case round =>
            clear g0 g1 c2 x1 B1
            obtain ⟨j, hj, rfl, hd, x1, B1⟩ := hrel
            have HD : Hid (∀ i (hi : i < is.length), i < j → (is[i]).1 ≠ bx) := hd
            clear hd
            have c2 := x1.cell 2
            by_cases hjk : j < k
            · have j1 : j < is.length := by omega
              have cj := HC.out j j1 wr B1
              have ck := HCK.out wr B1
              have Hne : Hid ((is[j]'j1).1 ≠ bx → ∀ i (hi : i < is.length), i < j + 1 → (is[i]).1 ≠ bx) := fun h i hi hlt => by
                by_cases q : i = j
                · subst q
                  exact h
                · exact HD.out i hi (by omega)
              have Heq : Hid ((is[j]'j1).1 = bx → ¬ okGroup e s is) := fun h ho => (Hok.out ho).2.1 j j1 hjk h
              generalize (is[j]'j1).1 = by2 at cj Hne Heq
              have a1 : (j : Int) < (n : Int) := by omega
              have a2 : (k : Int) < (n : Int) := by omega
              have a3 : (0 : Int) ≤ (j : Int) := by omega
              have a4 : (0 : Int) ≤ (k : Int) := by omega
              by_cases hq : by2 = bx
              · have hno : Hid (¬ okGroup e s is) := Heq.out hq
                subst hq
                clear Heq Hne
                go_wp2_with fail
                go_quiet (fail)
                have B2 := below_drewN B1 nq
                go_wp2_with fail
                go_ret
                exact ⟨false, rfl, ⟨fun h => (by cases h), fun h => absurd h hno.out⟩, B2⟩
              · have hqb : (by2 == bx) = false := by simp [hq]
                have HNE : Hid (∀ i (hi : i < is.length), i < j + 1 → (is[i]).1 ≠ bx) := Hne.out hq
                clear hq Heq Hne
                go_wp2_with fail
                go_quiet (fail)
                have B2 := below_drewN B1 nq
                have x2 : Box (wr.drewN nq) w.heap.size #[.int .i64 e, .int .i64 s, .slice (some ⟨b, o, none⟩) n cap] 40 := x1
                generalize wr.drewN nq = wq at B2 x2 ⊢
                clear x1 B1 c2 cj ck
                go_wp2_with fail
                go_roundw
                case rel => exact ⟨j + 1, by omega, by push_cast; rfl, HNE.out, x2, B2⟩
                case measure => simp [intOf]; omega
            · have hjk2 : j = k := by omega
              have HNE : Hid (∀ i (hi : i < is.length), i < k → (is[i]).1 ≠ bx) := by
                rw [← hjk2]
                exact HD.out
              clear hjk2
              go_wp2_with fail
              go_roundw
              case rel => exact ⟨k + 1, by omega, by push_cast; rfl, Hsuc.out ⟨q1, q2⟩ HNE.out (by first | rfl | trivial), x1, B1⟩
              case measure => simp [intOf]; omega
        · have HN : Hid (¬ ((0 ≤ bx ∧ bx ≤ 511) ∧ m = 4096)) := hgood
          have hno : Hid (¬ okGroup e s is) := fun h => HN.out ⟨(Hok.out h).1, (Hok.out h).2.2⟩
          clear hgood
          by_cases hm4 : m = 4096
          · have hr : bx < 0 ∨ (¬ bx < 0 ∧ 511 < bx) := by have := HN.out; omega
            subst hm4
            clear HN
            rcases hr with hr | ⟨hr, hr2⟩
            all_goals
              go_wp2_with fail
              go_ret
              exact ⟨false, rfl, ⟨fun h => (by cases h), fun h => absurd h hno.out⟩, B1⟩
          · have hmb : ((m : Int) == 4096) = false := by simp; omega
            have hmn : ((m : Int) != 4096) = true := by simp; omega
            clear hm4
            go_wp2_with fail
            all_goals
              go_ret
              exact ⟨false, rfl, ⟨fun h => (by cases h), fun h => absurd h hno.out⟩, B1⟩
      · have hke : k = n := by omega
        have hyes : Hid (okGroup e s is) := by
          have hp := HP.out
          rw [hke, ← HL.out] at hp
          exact okPre_all hp HST.out (by rw [HL.out]; exact h5) (by rw [HL.out]; exact h6)
        go_wp2_with fail
        go_ret
        exact ⟨true, rfl, ⟨fun _ => hyes.out, fun _ => rfl⟩, B1⟩
  · have HN : Hid (¬ ((1 ≤ e ∧ e ≤ 8388608) ∧ (1 ≤ s ∧ s ≤ 549755813888) ∧ 1 ≤ n ∧ n ≤ 32)) := hall
    have hno : Hid (¬ okGroup e s is) := fun h => HN.out (by
      have h1 := (okStamp_iff _ _).1 h.1.1
      have h2 := is_length' h
      rw [HL.out] at h2
      exact ⟨h1.1, h1.2, h2⟩)
    clear hall
    go_enter Tryz.func63, Tryz.ntmps63
    go_wp2_with fail
    all_goals first
      | (go_ret; exact ⟨false, rfl, ⟨fun h => (by cases h), fun h => absurd h hno.out⟩, B1⟩)
      | (exfalso; have := HN.out; omega)
end Go.Proofs.YtkhejjddmbegaaaGreat.Rc

/-
  The document's own sum, and the walk of SumsTells.
-/
namespace Go.Proofs.YtkhejjddmbegaaaGreat.Rc
open Go.RowKit

theorem rmore_bit (c : UInt8) (j : Nat) : ((c.toNat : Int) % 4294967296 / 2 ^ j).tmod 2 = ((c.toNat / 2 ^ j % 2 : Nat) : Int) := by
  have e : (c.toNat : Int) % 4294967296 = c.toNat := by have := u8_lt c; omega
  have e2 : ((c.toNat : Int) / 2 ^ j) = ((c.toNat / 2 ^ j : Nat) : Int) := by simp
  rw [e, e2, Int.tmod_eq_emod_of_nonneg (Int.natCast_nonneg _)]
  simp

theorem rmore_unlike (X b : Nat) (B : Int) (hB : B = (b : Int)) (hX : X < 4294967296) (h : (B != (X : Int) % 2) = true) : bits .xor .u32 ((X : Int) / 2) 2197175160 = ((step X b : Nat) : Int) := by
  subst hB
  have hne : X % 2 ≠ b := by
    intro e
    simp at h
    omega
  unfold step
  rw [if_neg hne]
  exact xor_u32 (X / 2) taps (by omega) (by decide)

theorem rmore_like (X b : Nat) (B : Int) (hB : B = (b : Int)) (h : (B != (X : Int) % 2) = false) : (X : Int) / 2 = ((step X b : Nat) : Int) := by
  subst hB
  have he : X % 2 = b := by
    have := of_not_bne h
    omega
  unfold step
  rw [if_pos he]
  omega

theorem rmore_in (b o cap n : Nat) (xs : List UInt8) (s : Nat) (w : World) (hl : xs.length = n) (hn : n ≤ 9223372036854775807) (hs : s < 4294967296)
    (hc : ∀ j, j < n → w.cell? ⟨b, o + j, none⟩ = some (.int .u8 ((xs.getD j 0).toNat : Int))) :
    Calls Tryz.prog 88 #[.int .u32 s, .slice (some ⟨b, o, none⟩) n cap] w fun e w' => e = .returned (.int .u32 (crc s xs : Nat)) ∧ w = w' := by
  have Hl : Hid (xs.length = n) := hl
  clear hl
  go_enter Tryz.func88, Tryz.ntmps88
  go_wp2_with fail
  go_loop [5, 6] (fun r i => ∃ k : Nat, k ≤ n ∧ i = .int .i64 k ∧ r = .int .u32 (reg (4294967295 - s) (xs.take k) : Nat)) (fun _ i => n - (intOf i).toNat)
  case atStart => exact ⟨0, Nat.zero_le _, rfl, by simp [reg_nil]; omega⟩
  case round =>
    obtain ⟨k, hk, rfl, rfl⟩ := hrel
    obtain ⟨R, hR⟩ : ∃ R, reg (4294967295 - s) (xs.take k) = R := ⟨_, rfl⟩
    rw [hR]
    have HR : Hid _ := hR
    clear hR
    have hRl : R < 4294967296 := by rw [← HR.out]; exact reg_lt _ (by omega)
    by_cases hlt : k < n
    · obtain ⟨c, hcc⟩ : ∃ c, xs.getD k 0 = c := ⟨_, rfl⟩
      have hcx : w.cell? ⟨b, o + k, none⟩ = some (.int .u8 (c.toNat : Int)) := by rw [← hcc]; exact hc k hlt
      have Hcc : Hid _ := hcc
      clear hcc hc
      go_wp2_with fail
      go_loop [5, 7] (fun r i => ∃ j : Nat, j ≤ 8 ∧ i = .int .i64 j ∧ r = .int .u32 (steps R c.toNat j : Nat)) (fun _ i => 8 - (intOf i).toNat)
      case atStart => exact ⟨0, Nat.zero_le _, rfl, rfl⟩
      case round =>
        obtain ⟨j, hj, rfl, rfl⟩ := hrel
        by_cases hlt2 : j < 8
        · have hXl := steps_lt c.toNat hRl j
          go_wp2
          · rename_i ht
            rw [rmore_unlike _ _ _ (rmore_bit c j) hXl ht]
            go_round
            case rel => exact ⟨j + 1, by omega, by go_num, rfl⟩
            case measure => simp [intOf]; omega
          · rename_i ht
            rw [rmore_like _ _ _ (rmore_bit c j) ht]
            go_round
            case rel => exact ⟨j + 1, by omega, by go_num, rfl⟩
            case measure => simp [intOf]; omega
        · obtain rfl : j = 8 := by omega
          go_wp2
          go_round
          case rel =>
            refine ⟨k + 1, by omega, by go_num, ?_⟩
            have hk' : k < xs.length := by rw [Hl.out]; exact hlt
            have hcc := Hcc.out
            rw [reg_succ _ _ _ hk', HR.out]
            simp only [List.getD, List.getElem?_eq_getElem hk', Option.getD_some] at hcc
            rw [hcc]
          case measure => simp [intOf]; omega
    · obtain rfl : k = n := by omega
      go_wp2
      go_ret
      have hR := HR.out
      rw [List.take_of_length_le (by rw [Hl.out]; exact Nat.le_refl _)] at hR
      refine ⟨?_, rfl⟩
      unfold crc
      rw [hR]
      show Ending.returned (.int .u32 (4294967295 - (R : Int))) = _
      congr 2
      omega

theorem rmore_none (a : Option Addr) (cap : Nat) (s : Nat) (w : World) (hs : s < 4294967296) :
    Calls Tryz.prog 88 #[.int .u32 s, .slice a 0 cap] w fun e w' => e = .returned (.int .u32 (crc s [] : Nat)) ∧ w = w' := by
  go_enter Tryz.func88, Tryz.ntmps88
  go_wp2_with fail
  refine wp_loop_rounds 1 ?_
  rw [rounds_succ]
  go_wp2
  go_ret
  refine ⟨?_, rfl⟩
  rw [crc_nil hs]
  show Ending.returned (.int .u32 (4294967295 - (4294967295 - (s : Int)))) = _
  congr 2
  omega

/-- The document's sum. -/
theorem rmore_at (cap n : Nat) (a : Option Addr) (xs : List UInt8) (s : Nat) (S : Int) (w : World) (hS : S = (s : Int)) (hl : xs.length = n) (hn : n ≤ 9223372036854775807) (hs : s < 4294967296) (hr : Rd w a xs) :
    Calls Tryz.prog 88 #[.int .u32 S, .slice a n cap] w fun e w' => e = .returned (.int .u32 (crc s xs : Nat)) ∧ w = w' := by
  subst hS
  by_cases h0 : 0 < n
  · obtain ⟨b, o, rfl, hc⟩ := hr (by omega)
    refine rmore_in b o cap n xs s w hl hn hs (fun j hj => ?_)
    rw [hc j (by omega)]
    simp [List.getD, List.getElem?_eq_getElem (show j < xs.length by omega)]
  · obtain rfl : n = 0 := by omega
    obtain rfl : xs = [] := List.eq_nil_of_length_eq_zero hl
    exact rmore_none a cap s w hs

end Go.Proofs.YtkhejjddmbegaaaGreat.Rc

/-
  CopyImages: images in memory of their own, whatever their lengths.
-/
namespace Go.Proofs.YtkhejjddmbegaaaGreat.Rc
open Go.RowKit

/-- an image that was copied: its data are v -/
structure CP where
  b : Int
  xs : List UInt8
  v : Value
def cpC (ps : List CP) : List Value := ps.flatMap fun p => [.int .i64 p.b, p.v]
theorem cpC_length (ps : List CP) : (cpC ps).length = ps.length * 2 := by
  unfold cpC
  induction ps with
  | nil => rfl
  | cons p ps ih => simp [ih]; omega
theorem cpC_at (ps : List CP) (i : Nat) (h : i < ps.length) : (cpC ps)[i * 2]? = some (.int .i64 ps[i].b) ∧ (cpC ps)[i * 2 + 1]? = some ps[i].v := by
  induction ps generalizing i with
  | nil => simp at h
  | cons p ps ih =>
    cases i with
    | zero => exact ⟨rfl, rfl⟩
    | succ i =>
      obtain ⟨h1, h2⟩ := ih i (by simpa using h)
      have e : (cpC (p :: ps)) = .int .i64 p.b :: p.v :: cpC ps := rfl
      rw [e, show (i + 1) * 2 = i * 2 + 1 + 1 by omega]
      simp only [List.getElem?_cons_succ]
      exact ⟨h1, h2⟩
structure CpJ (B : Nat) (W : World) (ps : List CP) : Prop where
  rows : ∀ p ∈ ps, W.ownsRow B 5 1 p.v p.xs.length (bcs p.xs)
  apart : ps.Pairwise fun p q => ∀ g, p.v.ownBlock = some g → q.v.ownBlock ≠ some g
theorem CpJ.below {B : Nat} {W W' : World} {ps : List CP} (h : CpJ B W ps) (hb : Below W.heap.size W W') : CpJ B W' ps := ⟨fun p hp => owns_below (h.rows p hp) hb, h.apart⟩
theorem CpJ.grown {B base e size n : Nat} {W W' : World} {ps : List CP} {v : Value} {xs : List Value} (h : CpJ B W ps) (ho : W.ownsRow base e size v n xs) (he : (5 : TypeId) ≠ e) (hg : W.grownBy W' v.ownBlock) : CpJ B W' ps :=
  ⟨fun p hp => owns_grown (h.rows p hp) hg (fun g h1 h2 => by
    obtain ⟨_, c1, b1⟩ := owns_block (h.rows p hp) g h1
    obtain ⟨_, c2, b2⟩ := owns_block ho g h2
    exact Box.ne b1 b2 he rfl), h.apart⟩
theorem CpJ.snoc {B : Nat} {W W' : World} {ps : List CP} (h : CpJ B W ps) (hb : Below W.heap.size W W') (p : CP) (hp : W'.ownsRow W.heap.size 5 1 p.v p.xs.length (bcs p.xs)) (hB : B ≤ W.heap.size) : CpJ B W' (ps ++ [p]) := by
  refine ⟨fun q hq => ?_, ?_⟩
  · rcases List.mem_append.1 hq with hq | hq
    · exact owns_below (h.rows q hq) hb
    · rw [List.mem_singleton.1 hq]
      exact owns_base hp hB
  · rw [List.pairwise_append]
    refine ⟨h.apart, List.pairwise_singleton _ _, fun q hq r hr g h1 h2 => ?_⟩
    rw [List.mem_singleton.1 hr] at h2
    obtain ⟨_, c1, b1⟩ := owns_block (h.rows q hq) g h1
    obtain ⟨k1, _⟩ := owns_block hp g h2
    have := b1.lt
    omega
theorem owns_nil {w : World} {B n : Nat} {v : Value} {xs : List Value} {a : Option Addr} {m c : Nat} (h : w.ownsRow B 5 1 v n xs) (hv : v = .slice a m c) : a = none → c = 0 := by
  intro ha
  rcases h.2 with ⟨h1, _⟩ | ⟨g, cap, cur, h1, _⟩
  · rw [hv] at h1
    simp at h1
    exact h1.2.2
  · rw [hv, ha] at h1
    simp at h1
theorem imgs_cp {w : World} {B m : Nat} {a : Option Addr} {n c : Nat} {ps : List CP} (ho : w.ownsRow B 108 2 (.slice a n c) m (cpC ps)) (hj : CpJ B w ps) (hm : ps.length = m) : Imgs w a (ps.map fun p => (p.b, p.xs)) := fun h0 => by
  have hq : 0 < ps.length := by simpa using h0
  obtain ⟨g, rfl, _, _, hc⟩ := owns_cells ho (by omega)
  refine ⟨g, 0, rfl, fun j hjl => ?_⟩
  have hjq : j < ps.length := by simpa using hjl
  obtain ⟨ax, cx, hv, _, h2, h3, h4, h5⟩ := owns_rd (hj.rows ps[j] (List.getElem_mem hjq))
  have hn := owns_nil (hj.rows ps[j] (List.getElem_mem hjq)) hv
  obtain ⟨k0, k1⟩ := cpC_at ps j hjq
  rw [List.getElem_map]
  refine ⟨?_, ax, cx, ?_, h2, cap_le h3, hn, h4⟩
  · show w.cell? ⟨g, 0 + j * 2, none⟩ = _
    rw [Nat.zero_add, hc _ (by omega), k0]
  · show w.cell? ⟨g, 0 + j * 2 + 1, none⟩ = _
    rw [Nat.zero_add, hc _ (by omega), k1, hv]

end Go.Proofs.YtkhejjddmbegaaaGreat.Rc

/-
  The document's own stamp and head, of right groups.
-/
namespace Go.Proofs.YtkhejjddmbegaaaGreat.Rc
open Go.RowKit

set_option maxRecDepth 100000 in
theorem rstamp_at (E S : Nat) (v2 : Value) (w : World) (he : E ≤ 8388608) (hs : S ≤ 549755813888) :
    Calls Tryz.prog 65 #[.agg #[.int .i64 (E : Int), .int .i64 (S : Int), v2]] w fun r w' => ∃ g c, r = .returned (.slice (some ⟨g, 0, none⟩) 8 c) ∧ w.heap.size ≤ g ∧ RowB w' g c (mark E S) ∧ Below w.heap.size w w' := by
  have B1 := (Below.refl w.heap.size w).alloc (Nat.le_refl _) (.cells #[.int .i64 (E : Int), .int .i64 (S : Int), v2] 40)
  have cA := refAdd_at 0 0 8 none [] (stampN E S) ((E : Int) * 1099511627776 + (S : Int)) 8 (w.alloc (.cells #[.int .i64 (E : Int), .int .i64 (S : Int), v2] 40)) (by unfold stampN; omega) rfl rfl (by unfold stampN; omega) (by omega) (by omega) (by omega) (Rd.nil _ _) (fun _ => rfl)
  have w1 : IntKind.u64.wrap (E : Int) = (E : Int) := by rw [IntKind.wrap_u64]; omega
  have w2 : IntKind.u64.wrap (S : Int) = (S : Int) := by rw [IntKind.wrap_u64]; omega
  go_enter Tryz.func65, Tryz.ntmps65
  go_wp2_with fail
  refine cA.mono ?_
  rintro r w3 ⟨v, rfl, hv3, b3⟩
  obtain ⟨g, c, rfl, hg, hrow⟩ := RowB.owns hv3 (by omega)
  go_wp2_with fail
  go_ret
  exact ⟨g, c, rfl, Nat.le_trans B1.size hg, hrow, B1.trans (b3.mono B1.size)⟩
def lenOf : Value → Nat
  | .slice _ n _ => n
  | _ => 0
/-- the images' first k, as the head says them -/
theorem entL_take_succ (M : List UInt8) (is : List (Int × List UInt8)) (k : Nat) (h : k < is.length) : entsB (entL M (is.take (k + 1))) = entsB (entL M (is.take k)) ++ (toBE 2 (is[k]).1.toNat ++ hdB M (is[k]).2) := by
  unfold entL entsB
  rw [List.take_succ_eq_append_getElem h, List.map_append, List.flatMap_append]
  simp
theorem take8_part (d : List UInt8) (t : Nat) : (d.drop (t * 512)).take 8 = (sec d t).take 8 := by
  unfold sec
  rw [List.take_take]
  rfl

set_option maxRecDepth 100000 in
set_option maxHeartbeats 4000000 in
theorem rhead_at (E S : Nat) (a : Option Addr) (n cap : Nat) (is : List (Int × List UInt8)) (w : World) (hl : is.length = n) (hI : Imgs w a is) (hok : okGroup E S is) :
    Calls Tryz.prog 64 #[.agg #[.int .i64 (E : Int), .int .i64 (S : Int), .slice a n cap]] w fun r w' => ∃ v, r = .returned v ∧ w'.ownsRow w.heap.size 5 1 v 4096 (bcs (headB E S (entL (mark E S) is))) ∧ Below w.heap.size w w' := by
  obtain ⟨i0, hi, hz0, hz1, hz2⟩ := info_parts info5
  have x1 := Box.new w #[.int .i64 (E : Int), .int .i64 (S : Int), .slice a n cap] 40
  have B1 := (Below.refl w.heap.size w).alloc (Nat.le_refl _) (.cells #[.int .i64 (E : Int), .int .i64 (S : Int), .slice a n cap] 40)
  have HL : Hid (is.length = n) := hl
  have HI : Hid (Imgs w a is) := hI
  have HOK : Hid (okGroup E S is) := hok
  obtain ⟨h1, h32⟩ := is_length hok
  rw [hl] at h1 h32
  have hst := (okStamp_iff _ _).1 hok.1.1
  have hE : E ≤ 8388608 := by omega
  have hS : S ≤ 549755813888 := by omega
  clear hl hI hok hst
  go_enter Tryz.func64, Tryz.ntmps64
  go_wp2_with fail
  go_loopw [3, 4] (fun v i u => ∃ k : Nat, k ≤ n ∧ i = .int .i64 (k : Int) ∧ u.ownsRow w.heap.size 5 1 v (k * 66) (bcs (entsB (entL (mark E S) (is.take k)))) ∧ Box u w.heap.size #[.int .i64 (E : Int), .int .i64 (S : Int), .slice a n cap] 40 ∧ Below w.heap.size w u) (fun _ i _ => n - (intOf i).toNat)
  case atStart => exact ⟨0, Nat.zero_le _, rfl, World.ownsRow_nil _ _ _ _, x1, B1⟩
  case round =>
    clear x1 B1
    obtain ⟨k, hk, rfl, own, x1, B1⟩ := hrel
    have c2 := x1.cell 2
    by_cases hlt : k < n
    · have k1 : k < is.length := by rw [HL.out]; exact hlt
      obtain ⟨b, o, rfl, hc⟩ := HI.out (by omega)
      obtain ⟨g0, x, cx, g1, g2, g3, g4, g5⟩ := hc k k1
      have lb : b < w.heap.size := block_lt_of_cell g1
      obtain ⟨q1, _, q4⟩ := ok_at HOK.out k k1
      have hstep : Hid (entsB (entL (mark E S) (is.take (k + 1))) = entsB (entL (mark E S) (is.take k)) ++ (toBE 2 (is[k]'k1).1.toNat ++ hdB (mark E S) (is[k]'k1).2)) := entL_take_succ _ is k k1
      generalize (is[k]'k1) = X at g0 g1 g2 g5 q1 q4 hstep
      obtain ⟨bx, xs⟩ := X
      dsimp only at g0 g1 g2 g5 q1 q4 hstep
      have hhd : hdB (mark E S) xs = cat (fun y => (sec xs y.val).take 8) 8 := hdB_cat _ xs q4 (mark_length _ _)
      rw [hhd] at hstep
      obtain ⟨bn, rfl⟩ : ∃ bn : Nat, bx = (bn : Int) := ⟨bx.toNat, by omega⟩
      rw [Int.toNat_natCast] at hstep
      rw [q4] at g1 g2
      obtain ⟨gd, od, rfl, hcd⟩ := g5 (by omega)
      have HRD : Hid (Rd w (some ⟨gd, od, none⟩) xs) := g5
      have HG : Hid (∀ u : World, Below w.heap.size w u → u.cell? ⟨b, o + k * 2 + 1, none⟩ = some (.slice (some ⟨gd, od, none⟩) 4096 cx)) := fun u hu => (hu.cell (p := ⟨b, o + k * 2 + 1, none⟩) lb).trans g1
      rw [← B1.cell (p := ⟨b, o + k * 2, none⟩) lb] at g0
      have HX4 : Hid (xs.length = 4096) := q4
      have wbn : IntKind.u64.wrap (bn : Int) = (bn : Int) := by rw [IntKind.wrap_u64]; omega
      obtain ⟨av, cv, hv, hyl, _, _, hrd, _⟩ := owns_rd own
      subst hv
      have cA := refAdd_at cv (k * 66) 2 av (entsB (entL (mark E S) (is.take k))) bn (bn : Int) 2 wr rfl rfl hyl (by omega) (by omega) (by omega) (by omega) hrd (fun h => owns_nil own rfl h)
      have hkn : (k : Int) < (n : Int) := by omega
      clear hc g1 g3 g4 g5 hcd hhd q4
      go_wp2_with fail
      refine cA.mono ?_
      rintro r w3 ⟨v3, rfl, own3, b3⟩
      clear cA own hrd hyl g0 c2
      replace own3 := owns_base own3 B1.size
      replace x1 := x1.below b3
      replace B1 := B1.trans (b3.mono B1.size)
      clear b3
      go_wp2_with fail
      go_loopw [3, 5] (fun v i u => ∃ t : Nat, t ≤ 8 ∧ i = .int .i64 (t : Int) ∧ u.ownsRow w.heap.size 5 1 v (k * 66 + 2 + t * 8) (bcs (entsB (entL (mark E S) (is.take k)) ++ toBE 2 bn ++ cat (fun y => (sec xs y.val).take 8) t)) ∧ Box u w.heap.size #[.int .i64 (E : Int), .int .i64 (S : Int), .slice (some ⟨b, o, none⟩) n cap] 40 ∧ Below w.heap.size w u) (fun _ i _ => 8 - (intOf i).toNat)
      case atStart => exact ⟨0, by omega, rfl, by simpa [cat, firsts] using own3, x1, B1⟩
      case round =>
        clear own3 x1 B1
        obtain ⟨t, ht, rfl, own, x1, B1⟩ := hrel
        obtain ⟨av2, cv2, rfl⟩ := owns_shape own
        by_cases htl : t < 8
        · have c2 := x1.cell 2
          have g1 := HG.out wr B1
          have hp := (HRD.out.below B1 (Nat.le_refl _)).part (t * 512) 8
          rw [take8_part] at hp
          have hlen : ((sec xs t).take 8).length = t * 512 + 8 - t * 512 := by
            rw [List.length_take, sec_length xs t HX4.out htl]
            omega
          have hcs : Hid (cat (fun y => (sec xs y.val).take 8) (t + 1) = cat (fun y => (sec xs y.val).take 8) t ++ (sec xs t).take 8) := cat_succ _ t htl
          generalize (sec xs t).take 8 = ys at hp hlen hcs
          have hti : (t : Int) < 8 := by omega
          have e2 : (t : Int) * 512 + 8 ≤ (4096 : Int) := by omega
          have e3 : (t : Int) * 512 + 8 ≤ (cx : Int) := by omega
          go_wp2_with (at_builtin; refine wpList_append_bytes rfl _ _ rfl w.heap.size _ (k * 66 + 2 + t * 8) _ rfl own (some ⟨gd, od + t * 512, none⟩) _ _ ys rfl hlen hp (fun h => by cases h) (by omega) B1.size ?_)
          intro v' w' own' gr'
          have B' := B1.grown gr' B1.size (fun j e => (owns_block own j e).1)
          have x1' : Box w' w.heap.size #[.int .i64 (E : Int), .int .i64 (S : Int), .slice (some ⟨b, o, none⟩) n cap] 40 := (gr'.block _ x1.lt (fun e => by
            obtain ⟨_, cur, hb⟩ := owns_block own _ e.symm
            exact Box.ne hb x1 (by decide) rfl)).trans x1
          have own'' : Hid (w'.ownsRow w.heap.size 5 1 v' (k * 66 + 2 + (t + 1) * 8) (bcs (entsB (entL (mark E S) (is.take k)) ++ toBE 2 bn ++ cat (fun y => (sec xs y.val).take 8) (t + 1)))) := by
            show w'.ownsRow w.heap.size 5 1 v' _ _
            rw [hcs.out, show k * 66 + 2 + (t + 1) * 8 = k * 66 + 2 + t * 8 + 8 by omega]
            have e8 : t * 512 + 8 - t * 512 = 8 := by omega
            simpa [bcs_append, List.append_assoc, e8] using own'
          clear own own' gr' hp hlen B1 x1 c2 g1 hcs
          go_wp2_with fail
          go_roundw
          case rel => exact ⟨t + 1, by omega, by push_cast; rfl, own''.out, x1', B'⟩
          case measure => simp [intOf]; omega
        · have ht8 : t = 8 := by omega
          subst ht8
          have own4 : wr.ownsRow w.heap.size 5 1 (.slice av2 (k * 66 + 2 + 8 * 8) cv2) ((k + 1) * 66) (bcs (entsB (entL (mark E S) (is.take (k + 1))))) := by
            rw [hstep.out, ← List.append_assoc, show (k + 1) * 66 = k * 66 + 2 + 8 * 8 by omega]
            exact own
          clear own htl ht
          go_wp2_with fail
          go_roundw
          case rel => exact ⟨k + 1, by omega, by push_cast; rfl, own4, x1, B1⟩
          case measure => simp [intOf]; omega
    · have hke : k = n := by omega
      subst hke
      rw [List.take_of_length_le (by rw [HL.out]; exact Nat.le_refl _)] at own
      clear hlt hk
      obtain ⟨av, cv, rfl⟩ := owns_shape own
      obtain ⟨es, hes⟩ : ∃ es, es = entL (mark E S) is := ⟨_, rfl⟩
      have HES : Hid (es = entL (mark E S) is) := hes
      have hel : Hid (es.length = k) := by show _ = _; rw [hes, entL_length, HL.out]
      have he64 : Hid (∀ y ∈ es, y.2.length = 64) := by rw [hes]; exact entL_len HOK.out
      rw [← hes] at own
      clear hes
      go_wp2_with fail
      go_loopw [3] (fun v u => ∃ t : Nat, k * 66 + t ≤ 4026 ∧ u.ownsRow w.heap.size 5 1 v (k * 66 + t) (bcs (entsB es ++ nought t)) ∧ Box u w.heap.size #[.int .i64 (E : Int), .int .i64 (S : Int), .slice a k cap] 40 ∧ Below w.heap.size w u) (fun v _ => 4026 - lenOf v)
      case atStart => exact ⟨0, by omega, by simpa [nought] using own, x1, B1⟩
      case round =>
        clear own x1 B1
        obtain ⟨t, ht, own, x1, B1⟩ := hrel
        obtain ⟨av2, cv2, rfl⟩ := owns_shape own
        by_cases htl : k * 66 + t < 4026
        · have hti : (k : Int) * 66 + (t : Int) < 4026 := by omega
          have al := (Below.refl wr.heap.size wr).alloc (Nat.le_refl _) (.cells #[.int .u8 0] 5)
          have own1 := owns_below own al
          have hn : Rd (wr.alloc (.cells #[.int .u8 0] 5)) (some ⟨wr.heap.size, 0, none⟩) [0] := (own_lit wr [0]).rd
          have B2 := B1.alloc B1.size (.cells #[.int .u8 0] 5)
          have x2 := x1.below al
          clear own x1 B1 al
          go_wp2_with (at_builtin; refine wpList_append_bytes rfl _ _ rfl w.heap.size _ (k * 66 + t) _ rfl own1 (some ⟨wr.heap.size, 0, none⟩) _ _ [0] rfl rfl hn (fun h => by cases h) (by omega) B2.size ?_)
          intro v' w' own' gr'
          have B' := B2.grown gr' B2.size (fun j e => (owns_block own1 j e).1)
          have x1' : Box w' w.heap.size #[.int .i64 (E : Int), .int .i64 (S : Int), .slice a k cap] 40 := (gr'.block _ x2.lt (fun e => by
            obtain ⟨_, cur, hb⟩ := owns_block own1 _ e.symm
            exact Box.ne hb x2 (by decide) rfl)).trans x2
          have own'' : Hid (w'.ownsRow w.heap.size 5 1 v' (k * 66 + (t + 1)) (bcs (entsB es ++ nought (t + 1)))) := by
            have e1 : nought (t + 1) = nought t ++ [0] := by unfold nought; rw [List.replicate_succ']
            show w'.ownsRow w.heap.size 5 1 v' _ _
            rw [e1, ← List.append_assoc, bcs_append]
            exact own'
          obtain ⟨av3, cv3, rfl⟩ := owns_shape own'
          clear own1 own' gr' hn B2 x2
          go_wp2_with fail
          go_roundw
          case rel => exact ⟨t + 1, by omega, own''.out, x1', B'⟩
          case measure => simp [lenOf]; omega
        · have htl2 : ¬ (k : Int) * 66 + (t : Int) < 4026 := by omega
          have hsum : k * 66 + t = 4026 := by omega
          have hrs : restB es = entsB es ++ nought t := by
            unfold restB
            rw [hel.out, show 4026 - k * 66 = t by omega]
          rw [← hrs, hsum] at own
          rw [hsum]
          obtain ⟨rs, hrs2⟩ : ∃ rs, rs = restB es := ⟨_, rfl⟩
          have HRS : Hid (rs = restB es) := hrs2
          rw [← hrs2] at own
          clear hrs hrs2 hsum htl htl2 ht
          obtain ⟨av3, cv3, hv3, hrl, hc3, hm3, hrd3, hg3⟩ := owns_rd own
          injection hv3 with e1 _ e3
          subst e1 e3
          obtain ⟨gr, hgr, lgr, lgr2⟩ := hg3 (by omega)
          subst hgr
          have ORS : Hid (wr.ownsRow w.heap.size 5 1 (.slice (some ⟨gr, 0, none⟩) 4026 cv2) 4026 (bcs rs)) := own
          have c2 := x1.cell 2
          have wk : IntKind.u64.wrap (k : Int) = (k : Int) := by rw [IntKind.wrap_u64]; omega
          have cA := refAdd_at 0 0 2 none [] k (k : Int) 2 wr rfl rfl rfl (by omega) (by omega) (by omega) (by omega) (Rd.nil _ _) (fun _ => rfl)
          have hcv : (4026 : Int) ≤ (cv2 : Int) := by omega
          clear own hg3
          go_wp2_with fail
          refine cA.mono ?_
          rintro r w5 ⟨v5, rfl, own5, b5⟩
          clear cA c2
          obtain ⟨av5, cv5, hv5, hl5, _, _, hrd5, _⟩ := owns_rd own5
          subst hv5
          have hnil5 := owns_nil own5 rfl
          have r5 := hrd3.below b5 (Nat.le_refl _)
          have cM := rmore_at cv2 4026 (some ⟨gr, 0, none⟩) rs 0 0 w5 rfl hrl (by omega) (by omega) r5
          go_wp2_with fail
          refine cM.mono ?_
          rintro r w6 ⟨rfl, rfl⟩
          clear cM
          have hcl : crc 0 rs < 4294967296 := crc_lt 0 rs
          obtain ⟨C, hC⟩ : ∃ C, C = crc 0 rs := ⟨_, rfl⟩
          have HC : Hid (C = crc 0 rs) := hC
          rw [← hC] at hcl ⊢
          clear hC
          have wC : IntKind.u64.wrap (C : Int) = (C : Int) := by rw [IntKind.wrap_u64]; omega
          have cA := refAdd_at cv5 (0 + 2) 4 av5 ([] ++ toBE 2 k) C (C : Int) 4 w5 rfl rfl hl5 (by omega) (by omega) (by omega) (by omega) hrd5 hnil5
          go_wp2_with fail
          refine cA.mono ?_
          rintro r w7 ⟨v7, rfl, own7, b7⟩
          clear cA
          have B7 := (B1.trans (b5.mono B1.size)).trans (b7.mono (Nat.le_trans B1.size b5.size))
          have x7 := (x1.below b5).below b7
          have r7 := r5.below b7 (Nat.le_refl _)
          have base7 : w.heap.size ≤ w5.heap.size := Nat.le_trans B1.size b5.size
          replace own7 := owns_base own7 base7
          obtain ⟨av7, cv7, rfl⟩ := owns_shape own7
          clear x1 B1 b5 b7 own5 hrd5 hl5 hnil5 hrd3 r5
          go_wp2_with (at_builtin; refine wpList_append_bytes rfl _ _ rfl w.heap.size _ (0 + 2 + 4) _ rfl own7 (some ⟨gr, 0, none⟩) _ _ rs rfl hrl r7 (fun h => by cases h) (by omega) B7.size ?_)
          intro v8 w8 own8 gr8
          have B8 := B7.grown gr8 B7.size (fun j e => (owns_block own7 j e).1)
          have x8 : Box w8 w.heap.size #[.int .i64 (E : Int), .int .i64 (S : Int), .slice a k cap] 40 := (gr8.block _ x7.lt (fun e => by
            obtain ⟨_, cur, hb⟩ := owns_block own7 _ e.symm
            exact Box.ne hb x7 (by decide) rfl)).trans x7
          have own9 : w8.ownsRow w.heap.size 5 1 v8 4032 (bcs (bodyB es)) := by
            have e1 : bodyB es = [] ++ toBE 2 k ++ toBE 4 C ++ rs := by
              unfold bodyB
              rw [hel.out, ← HRS.out, ← HC.out, List.nil_append]
            rw [e1, bcs_append _ rs]
            exact own8
          obtain ⟨BB, hBB⟩ : ∃ BB, BB = bodyB es := ⟨_, rfl⟩
          have HBB : Hid (BB = bodyB es) := hBB
          rw [← hBB] at own9
          clear hBB own8 gr8 own7 x7 B7 r7 ORS
          obtain ⟨av9, cv9, hv9, hl9, hc9, _, hrd9, hg9⟩ := owns_rd own9
          subst hv9
          obtain ⟨g9, hg99, lg9, lg92⟩ := hg9 (by omega)
          subst hg99
          have HR9 : Hid (Rd w8 (some ⟨g9, 0, none⟩) BB) := hrd9
          have HL9 : Hid (BB.length = 4032) := hl9
          clear hg9 hrd9 hl9
          have ci : (4032 : Int) ≤ (cv9 : Int) := by omega
          go_wp2_with fail
          go_loopw [7, 8] (fun v i u => ∃ t : Nat, t ≤ 8 ∧ i = .int .i64 (t : Int) ∧ u.ownsRow w8.heap.size 5 1 v (t * 512) (bcs (cat (fun y => mark E S ++ (BB.drop (y.val * 504)).take 504) t)) ∧ Below w8.heap.size w8 u) (fun _ i _ => 8 - (intOf i).toNat)
          case atStart => exact ⟨0, by omega, rfl, World.ownsRow_nil _ _ _ _, Below.refl _ _⟩
          case round =>
            obtain ⟨t, ht, rfl, own, B⟩ := hrel
            obtain ⟨av, cv, rfl⟩ := owns_shape own
            have x9 := x8.below B
            by_cases htl : t < 8
            · have z0 := x9.cell 0
              have z1 := x9.cell 1
              have z2 := x9.cell 2
              have hti : (t : Int) < 8 := by omega
              have cS := rstamp_at E S (.slice a k cap) wr hE hS
              go_wp2_with fail
              refine cS.mono ?_
              rintro r w10 ⟨gs, cs, rfl, lgs, rows, b10⟩
              clear cS z0 z1 z2
              have own1 := owns_below own b10
              have B10 := B.trans (b10.mono B.size)
              have hml := mark_length E S
              go_wp2_with (at_builtin; refine wpList_append_bytes rfl _ _ rfl w8.heap.size _ (t * 512) _ rfl own1 (some ⟨gs, 0, none⟩) _ _ (mark E S) rfl hml rows.rd (fun h => by cases h) (by omega) B10.size ?_)
              intro v11 w11 own11 gr11
              have B11 := B10.grown gr11 B10.size (fun j e => (owns_block own1 j e).1)
              obtain ⟨av11, cv11, rfl⟩ := owns_shape own11
              have hp := (HR9.out.below B11 (Nat.le_refl _)).part (t * 504) 504
              rw [Nat.zero_add] at hp
              have hlen : ((BB.drop (t * 504)).take 504).length = (t + 1) * 504 - t * 504 := by
                rw [List.length_take, List.length_drop, HL9.out]
                omega
              have hcs : Hid (cat (fun y => mark E S ++ (BB.drop (y.val * 504)).take 504) (t + 1) = cat (fun y => mark E S ++ (BB.drop (y.val * 504)).take 504) t ++ (mark E S ++ (BB.drop (t * 504)).take 504)) := cat_succ _ t htl
              generalize (BB.drop (t * 504)).take 504 = ys at hp hlen hcs
              clear own own1 gr11 rows b10 B10 B lgs
              go_wp2_with (at_builtin; refine wpList_append_bytes rfl _ _ rfl w8.heap.size _ (t * 512 + 8) _ rfl own11 (some ⟨g9, t * 504, none⟩) _ _ ys rfl hlen hp (fun h => by cases h) (by omega) B11.size ?_)
              intro v12 w12 own12 gr12
              have B12 := B11.grown gr12 B11.size (fun j e => (owns_block own11 j e).1)
              have own13 : Hid (w12.ownsRow w8.heap.size 5 1 v12 ((t + 1) * 512) (bcs (cat (fun y => mark E S ++ (BB.drop (y.val * 504)).take 504) (t + 1)))) := by
                show w12.ownsRow w8.heap.size 5 1 v12 _ _
                have e8 : (t + 1) * 504 - t * 504 = 504 := by omega
                rw [hcs.out, show (t + 1) * 512 = t * 512 + 8 + 504 by omega]
                simpa [bcs_append, List.append_assoc, e8] using own12
              clear own11 own12 gr12 hp hlen hcs B11 x9
              go_wp2_with fail
              go_roundw
              case rel => exact ⟨t + 1, by omega, by push_cast; rfl, own13.out, B12⟩
              case measure => simp [intOf]; omega
            · have ht8 : t = 8 := by omega
              subst ht8
              have hfin : cat (fun y : Fin 8 => mark E S ++ (BB.drop (y.val * 504)).take 504) 8 = headB E S (entL (mark E S) is) := by
                have hb : (bodyB es).length = 4032 := by rw [← HBB.out]; exact HL9.out
                rw [HBB.out, ← headB_cat E S es hb, HES.out]
              rw [hfin] at own
              have BF := B8.trans (B.mono B8.size)
              have ownF := owns_base own B8.size
              clear own B x9 hfin
              go_wp2_with fail
              go_ret
              exact ⟨_, rfl, ownF, BF⟩
end Go.Proofs.YtkhejjddmbegaaaGreat.Rc

/-
  A sector written over, byte by byte: no walk here.
-/
namespace Go.Proofs.YtkhejjddmbegaaaGreat.Rc

theorem over_none (x : List UInt8) (o : Nat) : over x o [] = x := by simp [over]
theorem over_step (x t : List UInt8) (o k : Nat) (h : o + 512 ≤ x.length) (ht : t.length = 512) (hk : k < 512) : (over x o (t.take k)).set (o + k) (t[k]'(by omega)) = over x o (t.take (k + 1)) := by
  have l1 : (t.take k).length = k := by simp; omega
  have l2 : (t.take (k + 1)).length = k + 1 := by simp; omega
  refine List.ext_getElem? (fun i => ?_)
  rw [List.getElem?_set, over_get _ _ _ (by omega), over_get _ _ _ (by omega), over_length _ _ _ (by omega), l1, l2]
  by_cases e : o + k = i
  · subst e
    rw [if_pos rfl, if_pos (by omega), if_pos (by omega)]
    rw [show o + k - o = k by omega, List.getElem?_take, if_pos (by omega), List.getElem?_eq_getElem (by omega)]
  · rw [if_neg e]
    by_cases q : o ≤ i ∧ i < o + k
    · rw [if_pos q, if_pos (by omega), List.getElem?_take, List.getElem?_take, if_pos (by omega), if_pos (by omega)]
    · rw [if_neg q, if_neg (by omega)]
theorem sec_get (x : List UInt8) (s i : Nat) : (sec x s)[i]? = if i < 512 then x[s * 512 + i]? else none := by
  unfold sec
  rw [List.getElem?_take, List.getElem?_drop]
theorem sec_over (x t : List UInt8) (s s' : Nat) (hx : x.length = 4096) (ht : t.length = 512) (hs : s < 8) : sec (over x (s * 512) t) s' = if s' = s then t else sec x s' := by
  refine List.ext_getElem? (fun i => ?_)
  rw [sec_get, over_get _ _ _ (by omega), ht]
  by_cases e : s' = s
  · subst e
    rw [if_pos rfl]
    by_cases hi : i < 512
    · rw [if_pos hi, if_pos (by omega), show s' * 512 + i - s' * 512 = i by omega]
    · rw [if_neg hi, List.getElem?_eq_none (by omega)]
  · rw [if_neg e, sec_get]
    by_cases hi : i < 512
    · rw [if_pos hi, if_pos hi, if_neg (by omega)]
    · rw [if_neg hi, if_neg hi]
/-- the same of one block of many -/
theorem modify_step (X : List (List UInt8)) (t : List UInt8) (b o k : Nat) (h : ∀ x ∈ X, o + 512 ≤ x.length) (ht : t.length = 512) (hk : k < 512) :
    (X.modify b (fun x => over x o (t.take k))).modify b (fun x => x.set (o + k) (t[k]'(by omega))) = X.modify b (fun x => over x o (t.take (k + 1))) := by
  refine List.ext_getElem? (fun i => ?_)
  simp only [List.getElem?_modify]
  cases hx : X[i]? with
  | none => simp
  | some x =>
    by_cases e : b = i
    · simp [e]
      exact over_step x t o k (h x (List.mem_of_getElem? hx)) ht hk
    · simp [e]
end Go.Proofs.YtkhejjddmbegaaaGreat.Rc

/-
  The document's own Put, of any group.
-/
namespace Go.Proofs.YtkhejjddmbegaaaGreat.Rc
open Go.RowKit

/-- the first k bytes have the stamp where it belongs -/
structure StK (M xs : List UInt8) (k : Nat) (Y : List UInt8) : Prop where
  len : Y.length = 4096
  at_ : ∀ i, i < 4096 → Y[i]? = if i < k ∧ i % 512 < 8 then M[i % 512]? else xs[i]?
theorem StK.start {M xs : List UInt8} (h : xs.length = 4096) : StK M xs 0 xs := ⟨h, fun i _ => by rw [if_neg (by omega)]⟩
theorem StK.skip {M xs Y : List UInt8} {k : Nat} (h : StK M xs k Y) (hk : ¬ k % 512 < 8) : StK M xs (k + 1) Y := ⟨h.len, fun i hi => by
  rw [h.at_ i hi]
  by_cases e : i = k
  · subst e
    rw [if_neg (by omega), if_neg (by omega)]
  · by_cases q : i < k ∧ i % 512 < 8
    · rw [if_pos q, if_pos (by omega)]
    · rw [if_neg q, if_neg (by omega)]⟩
theorem StK.put {M xs Y : List UInt8} {k : Nat} (h : StK M xs k Y) (hk : k < 4096) (h8 : k % 512 < 8) (v : UInt8) (hv : M[k % 512]? = some v) : StK M xs (k + 1) (Y.set k v) := ⟨by simpa using h.len, fun i hi => by
  rw [List.getElem?_set]
  by_cases e : k = i
  · subst e
    rw [if_pos rfl, if_pos (by rw [h.len]; exact hk), if_pos ⟨by omega, h8⟩, hv]
  · rw [if_neg e, h.at_ i hi]
    by_cases q : i < k ∧ i % 512 < 8
    · rw [if_pos q, if_pos (by omega)]
    · rw [if_neg q, if_neg (by omega)]⟩
theorem StK.done {M xs Y : List UInt8} (h : StK M xs 4096 Y) (hx : xs.length = 4096) (hM : M.length = 8) : Y = stB M xs := by
  refine List.ext_getElem? (fun i => ?_)
  by_cases hi : i < 4096
  · rw [h.at_ i hi]
    have hs := sec_st M xs hx hM ⟨i / 512, by omega⟩
    have g1 : (sec (stB M xs) (i / 512))[i % 512]? = (stB M xs)[i]? := by
      rw [sec_get, if_pos (by omega), show i / 512 * 512 + i % 512 = i by omega]
    have hs' : sec (stB M xs) (i / 512) = M ++ (sec xs (i / 512)).drop 8 := hs
    rw [← g1, hs']
    by_cases q : i % 512 < 8
    · rw [if_pos ⟨hi, q⟩, List.getElem?_append_left (by omega)]
    · rw [if_neg (by omega), List.getElem?_append_right (by omega), hM, List.getElem?_drop, sec_get, if_pos (by omega), show i / 512 * 512 + (8 + (i % 512 - 8)) = i by omega]
  · rw [List.getElem?_eq_none (by rw [h.len]; omega), List.getElem?_eq_none (by rw [stB_length M xs hx hM]; omega)]

theorem owns_one {w : World} {B g : Nat} {v : Value} (hb : Box w g #[v] 41) (hB : B ≤ g) : w.ownsRow B 41 1 (.slice (some ⟨g, 0, none⟩) 1 1) 1 [v] :=
  ⟨rfl, .inr ⟨g, 1, #[v], rfl, hB, hb, Nat.le_refl _, by unfold maxLen; decide, rfl, rfl⟩⟩
theorem putL_take (e s : Nat) (is : List (Int × List UInt8)) (k : Nat) (h : k < is.length) : (putL e s is).take (k + 1 + 1) = (putL e s is).take (k + 1) ++ [stB (mark e s) (is[k]).2] := by
  rw [List.take_succ_eq_append_getElem (by rw [putL_length]; omega)]
  simp [putL]

set_option maxRecDepth 100000 in
set_option maxHeartbeats 4000000 in
theorem rputG_any (e s : Int) (a : Option Addr) (n cap : Nat) (is : List (Int × List UInt8)) (w : World) (hl : is.length = n) (hI : Imgs w a is) :
    Calls Tryz.prog 40 #[.agg #[.int .i64 e, .int .i64 s, .slice a n cap]] w (PutR w e s is n) := by
  obtain ⟨j0, ji, jz0, jz1, jz2⟩ := info_parts info31
  have x1 := Box.new w #[.int .i64 e, .int .i64 s, .slice a n cap] 40
  have B1 := (Below.refl w.heap.size w).alloc (Nat.le_refl _) (.cells #[.int .i64 e, .int .i64 s, .slice a n cap] 40)
  have cR := rright_at e s a n cap is _ hl (hI.below B1)
  have HL : Hid (is.length = n) := hl
  have HI : Hid (Imgs w a is) := hI
  clear hl hI
  go_enter Tryz.func40, Tryz.ntmps40
  go_wp2_with fail
  refine cR.mono ?_
  rintro r w1 ⟨q, rfl, hq, b1⟩
  clear cR
  replace x1 := x1.below b1
  replace B1 := B1.trans (b1.mono B1.size)
  clear b1
  cases q with
  | false =>
    have hno : Hid (¬ okGroup e s is) := fun h => (by have := hq.2 h; cases this)
    clear hq
    go_wp2_with fail
    go_ret2
    exact .inr ⟨hno.out, rfl, B1⟩
  | true =>
    have hok := hq.1 rfl
    clear hq
    have hst := (okStamp_iff _ _).1 hok.1.1
    obtain ⟨E, rfl⟩ : ∃ E : Nat, e = (E : Int) := ⟨e.toNat, by omega⟩
    obtain ⟨S, rfl⟩ : ∃ S : Nat, s = (S : Int) := ⟨s.toNat, by omega⟩
    have hE : E ≤ 8388608 := by omega
    have hS : S ≤ 549755813888 := by omega
    obtain ⟨h1, h32⟩ := is_length hok
    rw [HL.out] at h1 h32
    have HOK : Hid (okGroup E S is) := hok
    clear hst hok
    have z0 := x1.cell 0
    have z1 := x1.cell 1
    have z2 := x1.cell 2
    have cH := rhead_at E S a n cap is w1 HL.out (HI.out.below B1) HOK.out
    go_wp2_with fail
    refine cH.mono ?_
    rintro r w2 ⟨v2, rfl, own2, b2⟩
    clear cH z0 z1 z2
    obtain ⟨gh, ch, rfl, lgh, rowh⟩ := RowB.owns own2 (by omega)
    have x2 := x1.below b2
    have B2 := B1.trans (b2.mono B1.size)
    have ba := (Below.refl w2.heap.size w2).alloc (Nat.le_refl _) (.cells #[.slice (some ⟨gh, 0, none⟩) 4096 ch] 41)
    have xo := Box.new w2 #[.slice (some ⟨gh, 0, none⟩) 4096 ch] 41
    have x3 := x2.below ba
    have B3 := B2.trans (ba.mono B2.size)
    have own3 : Hid ((w2.alloc (.cells #[.slice (some ⟨gh, 0, none⟩) 4096 ch] 41)).ownsRow w.heap.size 41 1 (.slice (some ⟨w2.heap.size, 0, none⟩) 1 1) (0 + 1) (lstC [⟨0, headB E S (entL (mark E S) is), gh, ch⟩])) := owns_one xo B2.size
    have hd4 : (headB E S (entL (mark E S) is)).length = 4096 := headB_length (bodyB_length _ (entL_len HOK.out) (by rw [entL_length]; exact (is_length HOK.out).2))
    have J3 : Hid (GetJ w.heap.size (w2.alloc (.cells #[.slice (some ⟨gh, 0, none⟩) 4096 ch] 41)) [⟨0, headB E S (entL (mark E S) is), gh, ch⟩]) := ⟨fun p hp => by
      rw [List.mem_singleton.1 hp]
      exact ⟨rowh.same (ba.block _ rowh.lt), Nat.le_trans B1.size lgh, hd4⟩, List.nodup_cons.2 ⟨List.not_mem_nil, List.nodup_nil⟩⟩
    clear x1 x2 B1 B2 own2 xo ba rowh lgh b2 hd4
    go_wp2_with fail
    go_loopw [4, 5] (fun v i u => ∃ (k : Nat) (qs : List GG), k ≤ n ∧ i = .int .i64 (k : Int) ∧ u.ownsRow w.heap.size 41 1 v (k + 1) (lstC qs) ∧ GetJ w.heap.size u qs ∧ qs.map GG.xs = (putL E S is).take (k + 1) ∧ Box u w.heap.size #[.int .i64 (E : Int), .int .i64 (S : Int), .slice a n cap] 40 ∧ Below w.heap.size w u) (fun _ i _ => n - (intOf i).toNat)
    case atStart => exact ⟨0, _, Nat.zero_le _, rfl, own3.out, J3.out, rfl, x3, B3⟩
    case round =>
      clear own3 J3 x3 B3
      obtain ⟨W, rfl⟩ : ∃ W, W = wr := ⟨_, rfl⟩
      obtain ⟨k, qs, hk, rfl, own, hJ, hqs, x1, B1⟩ := hrel
      obtain ⟨av, cv, rfl⟩ := owns_shape own
      have HQ : Hid (qs.map GG.xs = (putL E S is).take (k + 1)) := hqs
      have HJ : Hid (GetJ w.heap.size W qs) := hJ
      have HO : Hid (W.ownsRow w.heap.size 41 1 (.slice av (k + 1) cv) (k + 1) (lstC qs)) := own
      have HX : Hid (Box W w.heap.size #[.int .i64 (E : Int), .int .i64 (S : Int), .slice a n cap] 40) := x1
      clear hqs hJ own
      have c2 := x1.cell 2
      by_cases hlt : k < n
      · have k1 : k < is.length := by rw [HL.out]; exact hlt
        obtain ⟨b, o, rfl, hc⟩ := HI.out (by omega)
        obtain ⟨g0, x, cx, g1, g2, g3, g4, g5⟩ := hc k k1
        have lb : b < w.heap.size := block_lt_of_cell g1
        obtain ⟨_, _, q4⟩ := ok_at HOK.out k k1
        have hstep : Hid ((putL E S is).take (k + 1 + 1) = (putL E S is).take (k + 1) ++ [stB (mark E S) (is[k]'k1).2]) := putL_take E S is k k1
        generalize (is[k]'k1) = X at g0 g1 g2 g5 q4 hstep
        obtain ⟨bx, xs⟩ := X
        dsimp only at g1 g2 g5 q4 hstep
        rw [q4] at g1 g2
        rw [← B1.cell (p := ⟨b, o + k * 2 + 1, none⟩) lb] at g1
        have cC := copyBytes_at cx 4096 x xs W q4 (by omega) (g5.below B1 (Nat.le_refl _)) g4
        have HX4 : Hid (xs.length = 4096) := q4
        clear hc g0 g2 g3 g4 g5 q4
        go_wp2_with fail
        refine cC.mono ?_
        rintro r w5 ⟨v5, rfl, own5, b5⟩
        clear cC g1 c2
        obtain ⟨gx, cp, rfl, lgx, hrow⟩ := RowB.owns own5 (by omega)
        go_wp2_with fail
        go_loopw [7] (fun i u => ∃ (t : Nat) (Y : List UInt8), t ≤ 4096 ∧ i = .int .i64 (t : Int) ∧ StK (mark E S) xs t Y ∧ RowB u gx cp Y ∧ Below W.heap.size W u) (fun i _ => 4096 - (intOf i).toNat)
        case atStart => exact ⟨0, xs, by omega, rfl, StK.start HX4.out, hrow, b5⟩
        case round =>
          clear hrow b5 own5
          obtain ⟨t, Y, ht, rfl, hY, hrow, bB⟩ := hrel
          by_cases htl : t < 4096
          · have hti : (t : Int) < 4096 := by omega
            by_cases h8 : t % 512 < 8
            · obtain ⟨j, hj⟩ : ∃ j : Nat, (t : Int) % 512 = (j : Int) := ⟨t % 512, by omega⟩
              have hjt : Hid (j = t % 512) := by show j = t % 512; omega
              have hj8 : (j : Int) < 8 := by omega
              have x2 := HX.out.below bB
              have z0 := x2.cell 0
              have z1 := x2.cell 1
              have z2 := x2.cell 2
              have cS := rstamp_at E S (.slice (some ⟨b, o, none⟩) n cap) wr hE hS
              clear h8
              go_wp2_with fail
              refine cS.mono ?_
              rintro r w6 ⟨gs, cs, rfl, lgs, rows, b6⟩
              clear cS z0 z1 z2
              have hm8 := mark_length E S
              obtain ⟨cj, _⟩ := rows.cellAt (j := j) (by omega)
              have row6 := hrow.same (b6.block _ hrow.lt)
              obtain ⟨ct, ft⟩ := row6.cellAt (j := t) (by rw [hY.len]; exact htl)
              have B6 := bB.trans (b6.mono bB.size)
              have hv : Hid ((mark E S)[t % 512]? = some ((mark E S)[j]'(by omega))) := by
                show _ = _
                rw [← hjt.out]
                exact List.getElem?_eq_getElem (by omega)
              generalize ((mark E S)[j]'(by omega)) = mv at cj hv
              have hcs : 8 ≤ cs := by
                obtain ⟨cur, _, h1, _⟩ := rows
                rw [hm8] at h1
                exact h1
              have row7 : Hid (RowB (w6.setCell ⟨gx, t, none⟩ (.int .u8 (mv.toNat : Int))) gx cp (Y.set t mv)) := row6.byte t (by rw [hY.len]; exact htl) mv
              have HY : Hid (StK (mark E S) xs (t + 1) (Y.set t mv)) := hY.put htl (by have := hjt.out; omega) mv hv.out
              have B7 : Hid (Below W.heap.size W (w6.setCell ⟨gx, t, none⟩ (.int .u8 (mv.toNat : Int)))) := B6.setCell (p := ⟨gx, t, none⟩) lgx _
              generalize ((Y[t]'(by rw [hY.len]; exact htl)).toNat : Int) = cz at ct
              have hj0 : (0 : Int) ≤ (j : Int) := by omega
              clear hrow row6 hY bB b6 B6 rows x2 lgs hm8
              go_wp2_with fail
              go_roundw
              case rel => exact ⟨t + 1, _, by omega, by push_cast; rfl, HY.out, row7.out, B7.out⟩
              case measure => simp [intOf]; omega
            · have hi8 : ¬ (t : Int) % 512 < 8 := by omega
              have HY : Hid (StK (mark E S) xs (t + 1) Y) := hY.skip h8
              clear h8 hY
              go_wp2_with fail
              go_roundw
              case rel => exact ⟨t + 1, Y, by omega, by push_cast; rfl, HY.out, hrow, bB⟩
              case measure => simp [intOf]; omega
          · have ht2 : t = 4096 := by omega
            rw [ht2] at hY ⊢
            clear ht2 htl ht
            have hYe := hY.done HX4.out (mark_length _ _)
            have hY4 := hY.len
            rw [hYe] at hrow hY4
            clear hYe hY
            obtain ⟨st, hst⟩ : ∃ st, st = stB (mark E S) xs := ⟨_, rfl⟩
            rw [← hst] at hrow hY4 hstep
            clear hst
            have J2 : GetJ w.heap.size wr (qs ++ [⟨0, st, gx, cp⟩]) := HJ.out.snoc bB ⟨0, st, gx, cp⟩ hrow lgx hY4 B1.size
            have own1 := owns_below HO.out bB
            have x2 := HX.out.below bB
            have B2 := B1.trans (bB.mono B1.size)
            have al := (Below.refl wr.heap.size wr).alloc (Nat.le_refl _) (.cells #[.slice (some ⟨gx, 0, none⟩) 4096 cp] 41)
            have bN := Box.new wr #[.slice (some ⟨gx, 0, none⟩) 4096 cp] 41
            replace own1 := owns_below own1 al
            replace J2 := J2.below al
            replace x2 := x2.below al
            replace B2 := B2.trans (al.mono B2.size)
            have hcN : ∀ j u, ([.slice (some ⟨gx, 0, none⟩) 4096 cp] : List Value)[j]? = some u → (wr.alloc (.cells #[.slice (some ⟨gx, 0, none⟩) 4096 cp] 41)).cell? ((⟨wr.heap.size, 0, none⟩ : Addr).add j) = some u := fun j u hj => by
              rw [Addr.add_lit, Nat.zero_add, bN.cell j]
              simpa using hj
            clear hrow bB HJ HO HX
            go_wp2_with (at_builtin; refine wpList_append_own _ rfl _ _ 52 rfl w.heap.size 41 j0 (.slice none 0 0) 1 24 Tryz.underlying52 ji jz0 jz1 jz2 rfl (by decide) _ (k + 1) _ rfl own1 ⟨wr.heap.size, 0, none⟩ 1 1 [.slice (some ⟨gx, 0, none⟩) 4096 cp] rfl rfl hcN ?c2 ?c3 ?c4 B2.size ?_)
            case c2 => intro u hu; simp at hu; subst hu; rfl
            case c3 => unfold maxLen; omega
            case c4 => omega
            intro v' w4 own4 hg4 _
            have J4 := J2.grown own1 (by decide) hg4
            have B4 := B2.grown hg4 B2.size (fun j e => (owns_block own1 j e).1)
            have x4 : Box w4 w.heap.size #[.int .i64 (E : Int), .int .i64 (S : Int), .slice (some ⟨b, o, none⟩) n cap] 40 := (hg4.block _ x2.lt (fun e => by
              obtain ⟨_, cur, hb⟩ := owns_block own1 _ e.symm
              exact Box.ne hb x2 (by decide) rfl)).trans x2
            have own5 : w4.ownsRow w.heap.size 41 1 v' (k + 1 + 1) (lstC (qs ++ [⟨0, st, gx, cp⟩])) := by
              have e : lstC (qs ++ [⟨0, st, gx, cp⟩]) = lstC qs ++ [.slice (some ⟨gx, 0, none⟩) 4096 cp] := by simp [lstC]
              rw [e]
              exact own4
            clear own1 J2 B2 bN al hcN hg4 own4 x2
            go_wp2_with fail
            go_roundw
            case rel => exact ⟨k + 1, _, by omega, by push_cast; rfl, own5, J4, by rw [List.map_append, HQ.out, hstep.out]; rfl, x4, B4⟩
            case measure => simp [intOf]; omega
      · have hke : k = n := by omega
        have hql : qs.length = k + 1 := by
          have := congrArg List.length HQ.out
          rw [List.length_map, List.length_take, putL_length, HL.out] at this
          omega
        have hL := lsts_of HO.out HJ.out hql
        rw [HQ.out, List.take_of_length_le (by rw [putL_length, HL.out]; omega)] at hL
        obtain ⟨gv, hgv, _⟩ := owns_cells HO.out (by omega)
        subst hgv
        rw [hke]
        clear hke hlt hk
        go_wp2_with fail
        go_ret2
        exact .inl ⟨E, S, rfl, rfl, HOK.out, gv, cv, rfl, hL, B1⟩
end Go.Proofs.YtkhejjddmbegaaaGreat.Rc

/-
  What a head says, byte by byte: no walk here.
-/
namespace Go.Proofs.YtkhejjddmbegaaaGreat.Rc

/-- where the k-th hidden byte belongs -/
def hpos (k : Nat) : Nat := k / 8 * 512 + k % 8
/-- noughts, but for the first k hidden bytes -/
structure DtK (H : List UInt8) (k : Nat) (Y : List UInt8) : Prop where
  len : Y.length = 4096
  at_ : ∀ i, i < 4096 → Y[i]? = if i % 512 < 8 ∧ i / 512 * 8 + i % 512 < k then H[i / 512 * 8 + i % 512]? else some 0
theorem DtK.start (H : List UInt8) : DtK H 0 (nought 4096) := ⟨nought_length _, fun i hi => by
  rw [if_neg (by omega)]
  unfold nought
  rw [List.getElem?_replicate, if_pos hi]⟩
theorem DtK.put {H Y : List UInt8} {k : Nat} (h : DtK H k Y) (_hk : k < 64) (v : UInt8) (hv : H[k]? = some v) : DtK H (k + 1) (Y.set (hpos k) v) := ⟨by simpa using h.len, fun i hi => by
  unfold hpos
  rw [List.getElem?_set]
  by_cases e : k / 8 * 512 + k % 8 = i
  · rw [if_pos e, if_pos (by rw [h.len]; omega), if_pos (by omega)]
    rw [show i / 512 * 8 + i % 512 = k by omega, hv]
  · rw [if_neg e, h.at_ i hi]
    by_cases q : i % 512 < 8 ∧ i / 512 * 8 + i % 512 < k
    · rw [if_pos q, if_pos (by omega)]
    · rw [if_neg q, if_neg (by omega)]⟩
theorem cat_eight (H : List UInt8) (hl : H.length = 64) : cat (fun x : Fin 8 => (H.drop (x.val * 8)).take 8) 8 = H := by
  have h : ∀ k, k ≤ 8 → cat (fun x : Fin 8 => (H.drop (x.val * 8)).take 8) k = H.take (k * 8) := by
    intro k
    induction k with
    | zero => intro _; simp [cat, firsts]
    | succ k ih =>
      intro hk
      rw [cat_succ _ k (by omega), ih (by omega), show (k + 1) * 8 = k * 8 + 8 by omega, List.take_add]
  rw [h 8 (by omega)]
  exact List.take_of_length_le (by omega)
/-- its hidden bytes are those -/
theorem DtK.hidden {H Y : List UInt8} (h : DtK H 64 Y) (hl : H.length = 64) (M : List UInt8) (hM : M.length = 8) : hdB M Y = H := by
  rw [hdB_cat M Y h.len hM]
  refine Eq.trans ?_ (cat_eight H hl)
  congr 1
  funext x
  refine List.ext_getElem? (fun i => ?_)
  rw [List.getElem?_take, List.getElem?_take]
  by_cases hi : i < 8
  · have hx := x.isLt
    rw [if_pos hi, if_pos hi, sec_get, if_pos (by omega), h.at_ _ (by omega), if_pos (by omega), List.getElem?_drop]
    rw [show (x.val * 512 + i) / 512 * 8 + (x.val * 512 + i) % 512 = x.val * 8 + i by omega]
  · rw [if_neg hi, if_neg hi]
/-- the bytes behind the stamps, gathered one by one -/
def gath (xs : List UInt8) (k : Nat) : List UInt8 := ((List.range k).filter fun i => decide (8 ≤ i % 512)).map fun i => xs.getD i 0
theorem gath_succ (xs : List UInt8) (k : Nat) : gath xs (k + 1) = if 8 ≤ k % 512 then gath xs k ++ [xs.getD k 0] else gath xs k := by
  unfold gath
  rw [List.range_succ, List.filter_append, List.map_append]
  by_cases h : 8 ≤ k % 512
  · simp [h]
  · simp [h]
theorem gath_bound (xs : List UInt8) (k : Nat) : (gath xs k).length ≤ k := by
  unfold gath
  rw [List.length_map]
  refine Nat.le_trans (List.length_filter_le _ _) ?_
  simp
theorem gath_sector (xs : List UInt8) (hl : xs.length = 4096) (s : Nat) (hs : s < 8) : ∀ r, r ≤ 512 → gath xs (s * 512 + r) = gath xs (s * 512) ++ ((sec xs s).take r).drop 8
  | 0, _ => by simp
  | r + 1, h => by
    have ih := gath_sector xs hl s hs r (by omega)
    rw [show s * 512 + (r + 1) = s * 512 + r + 1 by omega, gath_succ, ih]
    have hsl := sec_length xs s hl hs
    have hg : (sec xs s)[r]'(by omega) = xs.getD (s * 512 + r) 0 := by
      have := sec_get xs s r
      rw [if_pos (by omega), List.getElem?_eq_getElem (by omega)] at this
      rw [List.getD_eq_getElem?_getD, ← this]
      rfl
    rw [List.take_succ_eq_append_getElem (show r < (sec xs s).length by omega)]
    by_cases h8 : 8 ≤ (s * 512 + r) % 512
    · rw [if_pos h8, List.drop_append_of_le_length (by rw [List.length_take]; omega), ← List.append_assoc, hg]
    · rw [if_neg h8]
      have l1 : ((sec xs s).take r).drop 8 = [] := List.drop_eq_nil_of_le (by rw [List.length_take]; omega)
      have l2 : ((sec xs s).take r ++ [(sec xs s)[r]'(by omega)]).drop 8 = [] := List.drop_eq_nil_of_le (by rw [List.length_append, List.length_take]; simp; omega)
      rw [l1, l2]
theorem gath_all (xs : List UInt8) (hl : xs.length = 4096) : gath xs 4096 = bodyX xs := by
  have h : ∀ k, k ≤ 8 → gath xs (k * 512) = cat (fun x => (sec xs x.val).drop 8) k := by
    intro k
    induction k with
    | zero => intro _; simp [cat, firsts, gath]
    | succ k ih =>
      intro hk
      have := gath_sector xs hl k (by omega) 512 (Nat.le_refl _)
      rw [cat_succ _ k (by omega), ← ih (by omega), show (k + 1) * 512 = k * 512 + 512 by omega, this, List.take_of_length_le (by rw [sec_length xs k hl (by omega)]; exact Nat.le_refl _)]
  rw [bodyX_cat]
  exact h 8 (by omega)
theorem beNat_append (l r : List UInt8) : beNat (l ++ r) = beNat l * 256 ^ r.length + beNat r := by
  have h : ∀ (n : Nat) (r : List UInt8), r.length = n → beNat (l ++ r) = beNat l * 256 ^ n + beNat r := by
    intro n
    induction n with
    | zero =>
      intro r hr
      obtain rfl := List.eq_nil_of_length_eq_zero hr
      simp [beNat_nil]
    | succ n ih =>
      intro r hr
      obtain ⟨r', c, rfl⟩ : ∃ r' c, r = r' ++ [c] := by
        have hne : r ≠ [] := fun e => by rw [e] at hr; simp at hr
        exact ⟨r.dropLast, r.getLast hne, (List.dropLast_concat_getLast hne).symm⟩
      have hr' : r'.length = n := by simpa using hr
      rw [← List.append_assoc, beNat_snoc, beNat_snoc, ih r' hr', Nat.pow_succ, Nat.add_mul, Nat.mul_assoc]
      omega
  exact h _ r rfl
theorem said_nums (xs : List UInt8) (hl : xs.length = 4096) : beNat (xs.take 3) = saidE xs ∧ beNat ((xs.drop 3).take 5) = saidS xs := by
  have e : xs.take 8 = xs.take 3 ++ (xs.drop 3).take 5 := by
    rw [show 8 = 3 + 5 by omega, List.take_add]
  have l5 : ((xs.drop 3).take 5).length = 5 := by rw [List.length_take, List.length_drop, hl]; omega
  have h5 := beNat_lt ((xs.drop 3).take 5)
  unfold saidE saidS
  rw [e, beNat_append, l5]
  rw [l5] at h5
  have p5 : 256 ^ 5 = 1099511627776 := by decide
  rw [p5] at h5 ⊢
  omega
/-- the group that a block may be the head of -/
structure SaidG (xs : List UInt8) (is : List (Int × List UInt8)) : Prop where
  len : is.length = (saidEs xs).length
  blk : ∀ i (h : i < is.length) (h' : i < (saidEs xs).length), (is[i]).1 = (((saidEs xs)[i]).1 : Int)
  dat : ∀ i (h : i < is.length) (h' : i < (saidEs xs).length), DtK ((saidEs xs)[i]).2 64 (is[i]).2
theorem SaidG.map {xs : List UInt8} {is : List (Int × List UInt8)} (h : SaidG xs is) : is.map (·.1) = (saidEs xs).map fun e => (e.1 : Int) := by
  refine List.ext_getElem (by simp [h.len]) (fun i h1 h2 => ?_)
  simp only [List.getElem_map]
  exact h.blk i (by simpa using h1) (by simpa using h2)
theorem saidEs_len (xs : List UInt8) (hl : xs.length = 4096) : ∀ y ∈ saidEs xs, y.2.length = 64 := by
  intro y hy
  unfold saidEs at hy
  split at hy
  · unfold entsOf at hy
    obtain ⟨i, hi, rfl⟩ := List.mem_map.1 hy
    have hi' : i < cntOf (bodyX xs) := by simpa using hi
    have hbl := bodyX_length _ hl
    unfold entOf
    show ((List.drop (8 + i * 66) _).take 64).length = 64
    rw [List.length_take, List.length_drop, hbl]
    omega
  · cases hy
theorem SaidG.ents {xs : List UInt8} {is : List (Int × List UInt8)} (h : SaidG xs is) (hl : xs.length = 4096) (M : List UInt8) (hM : M.length = 8) : entL M is = saidEs xs := by
  unfold entL
  refine List.ext_getElem (by simp [h.len]) (fun i h1 h2 => ?_)
  have hi : i < is.length := by simpa using h1
  rw [List.getElem_map]
  have hb := h.blk i hi h2
  have hd := (h.dat i hi h2).hidden (saidEs_len xs hl _ (List.getElem_mem h2)) M hM
  rw [hb, hd, Int.toNat_natCast]
theorem SaidG.ok {xs : List UInt8} {is : List (Int × List UInt8)} (h : SaidG xs is) : okGroup (saidE xs) (saidS xs) is ↔ okHead (saidE xs) (saidS xs) ((saidEs xs).map fun e => (e.1 : Int)) := by
  unfold okGroup
  rw [h.map]
  refine ⟨fun q => q.1, fun q => ⟨q, fun i hi => ?_⟩⟩
  obtain ⟨j, hj, rfl⟩ := List.getElem_of_mem hi
  exact (h.dat j hj (by rw [← h.len]; exact hj)).len
theorem SaidG.head {xs : List UInt8} {is : List (Int × List UInt8)} (h : SaidG xs is) (hl : xs.length = 4096) : isHead xs ↔ okGroup (saidE xs) (saidS xs) is ∧ headB (saidE xs) (saidS xs) (entL (mark (saidE xs) (saidS xs)) is) = xs := by
  rw [h.ents hl _ (mark_length _ _), h.ok]
  exact ⟨fun q => ⟨q.2.1, q.2.2.symm⟩, fun q => ⟨hl, q.1, q.2.symm⟩⟩
end Go.Proofs.YtkhejjddmbegaaaGreat.Rc
