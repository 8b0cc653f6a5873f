/-
  TableTells, walked.
-/
import Derived.Test.YtlbjalodjcajfaaTlb
import Derived.Deep.LoopGhost
namespace Go.Proofs.Ytlbjalodjcajfaa
open Go.RowKit Go.Maps
/-- behind the switch -/
def TL (w u : World) (x t base n : Nat) (K : List Bx) (v11 : Value) : Prop := ∃ P vv, v11 = vv ∧ TT w u x t base n P P vv K
theorem RdO.at {u u' : World} {a : Option Addr} {l : List Oq} (h : RdO u a l) (hb : Below u.heap.size u u') (k : Nat) (hk : k < l.length) : ∃ (b o : Nat) (e : Oq), a = some ⟨b, o, none⟩ ∧ b < u'.heap.size ∧ u'.cell? ⟨b, o + k * 3, none⟩ = some (.int .i64 e.kind) ∧ u'.cell? ⟨b, o + k * 3 + 1, none⟩ = some (.string e.k) ∧ u'.cell? ⟨b, o + k * 3 + 2, none⟩ = some (.string e.v) := by
  obtain ⟨b, o, h1, h2, h3⟩ := (h.below hb) k _ (List.getElem?_eq_getElem hk)
  exact ⟨b, o, _, h1, h2, h3⟩
theorem TT.adopt {w0 u u' : World} {x t base n : Nat} {P Q : List Pr} {v : Value} {B : List Bx} (h : TT w0 u x t base n P Q v B) {g : Nat} {cs : Array Value} {ty : TypeId} (hb : Below u.heap.size u u') (hx : Box u' g cs ty) (hg : u.heap.size ≤ g) : TT w0 u' x t base n P Q v ((g, cs, ty) :: B) := by
  obtain ⟨V, K, h1, h2, h3, h4, h5, h6⟩ := h
  refine ⟨V, _, h1.keep (h1.h.adopt hb hx hg) (List.mem_cons_of_mem _ h1.tk), h2.more (fun y hy => List.mem_cons_of_mem _ hy), h3, h4, h5, fun y hy => ?_⟩
  rcases List.mem_cons.1 hy with rfl | hy
  · exact List.mem_cons_self ..
  · exact List.mem_cons_of_mem _ (h6 y hy)
set_option maxRecDepth 100000 in
set_option maxHeartbeats 40000000 in
theorem tells_good {w : World} (base n : Nat) (n1 : 1 ≤ n) (n2 : n ≤ 200) (hbn : base + n ≤ 250) {a0 : Option Addr} {n0 c0 : Nat} {os : List Oq} (hl : os.length = n0) (hr : RdO w a0 os) (hn : n0 ≤ 9223372036854775807) :
    Calls Try.prog 4 #[.int .i64 (base : Int), .int .i64 (n : Int), .slice a0 n0 c0] w fun e w' => e = .returned (.bool true) ∧ Below w.heap.size w w' := by
  have HRD := hid hr
  have HL := hid hl
  have cb := begun_at w 250 base n (by decide) n1 n2 hbn
  rw [show ((250 : Nat) : Int) = 250 from rfl] at cb
  have h1' : 1 ≤ (n : Int) := by omega
  have h2' : (n : Int) ≤ 200 := by omega
  have h3' : 0 ≤ (base : Int) := by omega
  have h5' : IntKind.i64.wrap (250 - (n : Int)) = 250 - (n : Int) := by rw [IntKind.wrap_i64]; omega
  have h6 : decide ((base : Int) ≤ 250 - (n : Int)) = true := decide_eq_true (by omega)
  clear hr hl
  unfold ptr at *
  go_enter Try.func4, Try.ntmps4
  go_wp2_with fail
  refine cb.mono ?_
  rintro e u1 ⟨x, t, V1, rfl, h1⟩
  have HO : Hid (TT w u1 x t base n [] [] (.slice none 0 0) []) := ⟨V1, _, h1, .inl ⟨rfl, rfl⟩, List.Pairwise.nil, by simp, n2, fun y hy => by cases hy⟩
  clear cb h1
  unfold ptr at *
  go_wp2_with fail
  go_loopw [11, 12] (fun vl i u => ∃ (k : Nat) (vv : Value) (P : List Pr), vl = vv ∧ k ≤ 120 ∧ k ≤ n0 ∧ i = .int .i64 (k : Int) ∧ Hid (TT w u x t base n P P vv [])) (fun _ i _ => 120 - (iof i).toNat)
  case atStart => exact ⟨0, _, [], rfl, by omega, by omega, by simp, HO.out⟩
  case round =>
    clear HO
    obtain ⟨k, vv, P, hvv, hk2, hkn, rfl, hrel⟩ := hrel
    obtain ⟨va, hva⟩ : ∃ va, va = vv := ⟨_, rfl⟩
    subst hvv
    obtain ⟨wa, hwa⟩ : ∃ wa, wa = wr := ⟨_, rfl⟩
    subst hwa
    obtain ⟨al, cl, hsl, _⟩ := hrel.out.doc.open
    obtain ⟨ml, hml⟩ : ∃ ml, ml = P.length := ⟨_, rfl⟩
    rw [← hml] at hsl
    have HML := hid hml
    subst hsl
    clear hml hva
    have hS := hrel.out
    by_cases hgo : k < n0 ∧ k < 120
    · obtain ⟨hg1, hg2⟩ := hgo
      have hi1 : (k : Int) < (n0 : Int) := by omega
      have hi2 : (k : Int) < 120 := by omega
      go_upto_block 1 with fail
      go_cut [11, 13, 14, 15, 16, 17, 18, 19, 20, 21, 22, 23, 24, 25, 26, 27, 28, 29, 30, 31, 32] from 89 to 256 (fun v11 _ _ _ _ _ _ _ _ _ _ _ _ _ _ _ _ _ _ _ _ u => TL w u x t base n [] v11)
      case first =>
        obtain ⟨b0, o0, ⟨xk, xa, xv⟩, rfl, hbl, c0', c1', c2'⟩ := HRD.out.at hS.bel k (by rw [HL.out]; exact hg1)
        simp only at c0' c1' c2'
        have hM := hS.box #[.int .i64 xk, .string xa, .string xv] 46
        obtain ⟨b, hob⟩ : ∃ b, b = wa.heap.size := ⟨_, rfl⟩
        obtain ⟨wb, hwb⟩ : ∃ wb, wb = wa.alloc (.cells #[.int .i64 xk, .string xa, .string xv] 46) := ⟨_, rfl⟩
        rw [← hwb, ← hob] at hM
        have HWB := hid (And.intro hwb hob)
        have HM := hid hM
        have hbx : Box wb b #[.int .i64 xk, .string xa, .string xv] 46 := hM.bx _ (List.mem_singleton_self _)
        have d0 : wb.cell? ⟨b, 0, none⟩ = some (.int .i64 xk) := hbx.cell 0
        have d1 : wb.cell? ⟨b, 1, none⟩ = some (.string xa) := hbx.cell 1
        have d2 : wb.cell? ⟨b, 2, none⟩ = some (.string xv) := hbx.cell 2
        clear hS hM hob hwb hrel hbx
        go_upto_region 12 with fail
        rw [← HWB.out.1, ← HWB.out.2]
        clear c0' c1' c2' HWB hbl
        by_cases k0 : xk = 0
        · as_aux_lemma =>
          subst k0
          obtain ⟨D, hD⟩ : ∃ D, D = putP n P xa xv := ⟨_, rfl⟩
          have C1 := HM.out.rput xa xv
          rw [← hD] at C1
          have HD := hid hD
          clear hD
          go_wp2_with fail
          refine C1.mono ?_
          rintro e v1 ⟨ax, mx, cx, rfl, m1⟩
          have C2 := m1.put xa xv
          rw [← HD.out] at C2
          have hb : Box v1 b #[.int .i64 0, .string xa, .string xv] 46 := m1.bx _ (List.mem_singleton_self _)
          have e1 : v1.cell? ⟨b, 1, none⟩ = some (.string xa) := hb.cell 1
          have e2 : v1.cell? ⟨b, 2, none⟩ = some (.string xv) := hb.cell 2
          clear hb
          unfold ptr at C2
          clear C1 m1 d0 d1 d2 HD
          go_wp2_with fail
          refine C2.mono ?_
          rintro e v2 ⟨rfl, m2⟩
          have HF : Hid (TL w v2 x t base n [] (.slice ax mx cx)) := ⟨_, _, rfl, m2.less (fun y hy => by cases hy)⟩
          clear C2 m2
          go_wp2_with fail
          go_meet
          case rel => exact HF.out
        by_cases k1 : xk = 1
        · as_aux_lemma =>
          subst k1
          obtain ⟨D, hD⟩ : ∃ D, D = putP n P xa xv := ⟨_, rfl⟩
          have C1 := HM.out.rput xa xv
          rw [← hD] at C1
          have HD := hid hD
          clear hD
          go_wp2_with fail
          refine C1.mono ?_
          rintro e v1 ⟨ax, mx, cx, rfl, m1⟩
          have C2 := m1.put xa xv
          rw [← HD.out] at C2
          have hb : Box v1 b #[.int .i64 1, .string xa, .string xv] 46 := m1.bx _ (List.mem_singleton_self _)
          have e1 : v1.cell? ⟨b, 1, none⟩ = some (.string xa) := hb.cell 1
          have e2 : v1.cell? ⟨b, 2, none⟩ = some (.string xv) := hb.cell 2
          clear hb
          unfold ptr at C2
          clear C1 m1 d0 d1 d2 HD
          go_wp2_with fail
          refine C2.mono ?_
          rintro e v2 ⟨rfl, m2⟩
          have HF : Hid (TL w v2 x t base n [] (.slice ax mx cx)) := ⟨_, _, rfl, m2.less (fun y hy => by cases hy)⟩
          clear C2 m2
          go_wp2_with fail
          go_meet
          case rel => exact HF.out
        by_cases k2 : xk = 2
        · as_aux_lemma =>
          subst k2
          obtain ⟨D, hD⟩ : ∃ D, D = putP n P xa xv := ⟨_, rfl⟩
          have C1 := HM.out.rput xa xv
          rw [← hD] at C1
          have HD := hid hD
          clear hD
          go_wp2_with fail
          refine C1.mono ?_
          rintro e v1 ⟨ax, mx, cx, rfl, m1⟩
          have C2 := m1.put xa xv
          rw [← HD.out] at C2
          have hb : Box v1 b #[.int .i64 2, .string xa, .string xv] 46 := m1.bx _ (List.mem_singleton_self _)
          have e1 : v1.cell? ⟨b, 1, none⟩ = some (.string xa) := hb.cell 1
          have e2 : v1.cell? ⟨b, 2, none⟩ = some (.string xv) := hb.cell 2
          clear hb
          unfold ptr at C2
          clear C1 m1 d0 d1 d2 HD
          go_wp2_with fail
          refine C2.mono ?_
          rintro e v2 ⟨rfl, m2⟩
          have HF : Hid (TL w v2 x t base n [] (.slice ax mx cx)) := ⟨_, _, rfl, m2.less (fun y hy => by cases hy)⟩
          clear C2 m2
          go_wp2_with fail
          go_meet
          case rel => exact HF.out
        by_cases k3 : xk = 3
        · as_aux_lemma =>
          subst k3
          obtain ⟨z, hz⟩ : ∃ z, z = (getP P xa).isSome := ⟨_, rfl⟩
          obtain ⟨s, hs⟩ : ∃ s, s = (getP P xa).getD ⟨#[]⟩ := ⟨_, rfl⟩
          have C1 := HM.out.get xa
          rw [← hz, ← hs] at C1
          have HD := hid (And.intro hz hs)
          clear hz hs
          unfold ptr at C1
          go_wp2_with fail
          refine C1.mono ?_
          rintro e v1 ⟨rfl, m1⟩
          have C2 := m1.rget xa
          rw [← HD.out.1, ← HD.out.2] at C2
          have hb : Box v1 b #[.int .i64 3, .string xa, .string xv] 46 := m1.bx _ (List.mem_singleton_self _)
          have e1 : v1.cell? ⟨b, 1, none⟩ = some (.string xa) := hb.cell 1
          have e2 : v1.cell? ⟨b, 2, none⟩ = some (.string xv) := hb.cell 2
          clear hb
          clear C1 m1 d0 d1 d2 HD
          go_wp2_with fail
          refine C2.mono ?_
          rintro e v2 ⟨rfl, m2⟩
          have HF : Hid (TL w v2 x t base n [] (.slice al ml cl)) := ⟨_, _, rfl, m2.less (fun y hy => by cases hy)⟩
          clear C2 m2
          go_wp2_with fail
          go_meet
          case rel => exact HF.out
        by_cases k4 : xk = 4
        · as_aux_lemma =>
          subst k4
          obtain ⟨z, hz⟩ : ∃ z, z = (getP P xa).isSome := ⟨_, rfl⟩
          have C1 := HM.out.rremove xa
          rw [← hz] at C1
          have HD := hid hz
          clear hz
          go_wp2_with fail
          refine C1.mono ?_
          rintro e v1 ⟨ax, mx, cx, rfl, m1⟩
          have C2 := m1.remove xa
          rw [← HD.out] at C2
          have hb : Box v1 b #[.int .i64 4, .string xa, .string xv] 46 := m1.bx _ (List.mem_singleton_self _)
          have e1 : v1.cell? ⟨b, 1, none⟩ = some (.string xa) := hb.cell 1
          have e2 : v1.cell? ⟨b, 2, none⟩ = some (.string xv) := hb.cell 2
          clear hb
          unfold ptr at C2
          clear C1 m1 d0 d1 d2 HD
          go_wp2_with fail
          refine C2.mono ?_
          rintro e v2 ⟨rfl, m2⟩
          have HF : Hid (TL w v2 x t base n [] (.slice ax mx cx)) := ⟨_, _, rfl, m2.less (fun y hy => by cases hy)⟩
          clear C2 m2
          go_wp2_with fail
          go_meet
          case rel => exact HF.out
        by_cases k5 : xk = 5
        · as_aux_lemma =>
          subst k5
          obtain ⟨z, s1, s2, hz1, hz2, hz3⟩ : ∃ z s1 s2, ag (((nxtP P xa).map us).getD E0) = .agg #[.bool z, .string s1, .string s2] ∧ ag2 ((nxtP P xa).getD (⟨#[]⟩, ⟨#[]⟩)) = .agg #[.string s1, .string s2] ∧ (nxtP P xa).isSome = z := by
            cases nxtP P xa with
            | none => exact ⟨_, _, _, rfl, rfl, rfl⟩
            | some p => exact ⟨_, _, _, rfl, rfl, rfl⟩
          have C1 := HM.out.next xa
          rw [hz1, hz3] at C1
          have HD := hid (And.intro hz2 hz3)
          clear hz1 hz2 hz3
          unfold ptr at C1
          go_wp2_with fail
          refine C1.mono ?_
          rintro e v1 ⟨rfl, m1⟩
          have m3 := m1.box #[.bool z, .string s1, .string s2] 27
          have C2 := m3.rnext xa
          rw [HD.out.1, HD.out.2] at C2
          have hb' : Box (v1.alloc (.cells #[.bool z, .string s1, .string s2] 27)) b #[.int .i64 5, .string xa, .string xv] 46 := m3.bx _ (List.mem_cons_of_mem _ (List.mem_singleton_self _))
          have e1 : (v1.alloc (.cells #[.bool z, .string s1, .string s2] 27)).cell? ⟨b, 1, none⟩ = some (.string xa) := hb'.cell 1
          have f1 : v1.cell? ⟨b, 1, none⟩ = some (.string xa) := (m1.bx _ (List.mem_singleton_self _)).cell 1
          clear hb' C1 m1 m3 d0 d1 d2 HD
          go_wp2_with fail
          refine C2.mono ?_
          rintro e v2 ⟨rfl, m2⟩
          have m4 := m2.box #[.string s1, .string s2] 58
          obtain ⟨q1, hq1⟩ : ∃ q1, q1 = v1.heap.size := ⟨_, rfl⟩
          rw [← hq1] at m2 m4 ⊢
          clear hq1
          have k1 := m4.bx _ (List.mem_cons_self ..)
          have k2 := m4.bx _ (List.mem_cons_of_mem _ (List.mem_cons_self ..))
          have HF : Hid (TL w (v2.alloc (.cells #[.string s1, .string s2] 58)) x t base n [] (.slice al ml cl)) := ⟨_, _, rfl, m4.less (fun y hy => by cases hy)⟩
          have a0' := k1.cell 0
          have a1' := k1.cell 1
          have b0' := k2.cell 0
          have b1' := k2.cell 1
          have b2' := k2.cell 2
          simp at a0' a1' b0' b1' b2'
          clear C2 m2 m4 k1 k2 e1 f1
          go_upto_region 34 with fail
          go_wp2_with fail
          go_meet
          case rel => exact HF.out
        by_cases k6 : xk = 6
        · as_aux_lemma =>
          subst k6
          have C1 := HM.out.tq
          rw [← HML.out] at C1
          unfold ptr at C1
          go_wp2_with fail
          refine C1.mono ?_
          rintro e v1 ⟨q, rfl, m1⟩
          have HQ : Hid (∃ cs, TQ w v1 x t base n P P (.slice al ml cl) q cs [(b, #[.int .i64 6, .string xa, .string xv], 46)] ∧ Sp cs P 0) := ⟨_, m1, Sp.start n P⟩
          clear C1 m1 d0 d1 d2
          go_wp2_with fail
          go_loopw [233] (fun i u => ∃ j : Nat, j ≤ ml ∧ i = .int .i64 (j : Int) ∧ Hid (∃ cs, TQ w u x t base n P P (.slice al ml cl) q cs [(b, #[.int .i64 6, .string xa, .string xv], 46)] ∧ Sp cs P j)) (fun i _ => ml - (iof i).toNat)
          case atStart => exact ⟨0, Nat.zero_le _, by simp, HQ.out⟩
          case round =>
            clear HQ
            obtain ⟨j, hj, rfl, hrel2⟩ := hrel
            by_cases hlt : j < ml
            · have hki : (j : Int) < (ml : Int) := by omega
              have hjP : j < P.length := by rw [← HML.out]; exact hlt
              have hx := List.getElem?_eq_getElem hjP
              obtain ⟨p, hp⟩ : ∃ p, p = P[j]'hjP := ⟨_, rfl⟩
              rw [← hp] at hx
              obtain ⟨cs, hq, hsp⟩ := hrel2.out
              obtain ⟨s0, s1, s2⟩ := hsp j p (Nat.le_refl _) hx
              have hnx := hsp.next (.string ⟨#[115, 112, 111, 105, 108, 116]⟩)
              obtain ⟨a2, c2, hv2, hrd⟩ := hq.doc.open
              injection hv2 with ev1 ev2 ev3
              subst ev1 ev3
              obtain ⟨g, rfl, g1, g2⟩ := hrd wr (Below.refl _ _) j p hx
              have bq := hq.bq
              have s0' : wr.cell? ⟨q, j * 3, none⟩ = some (.bool true) := (bq.cell _).trans s0
              have s1' : wr.cell? ⟨q, j * 3 + 1, none⟩ = some (.string p.1) := (bq.cell _).trans s1
              have s2' : wr.cell? ⟨q, j * 3 + 2, none⟩ = some (.string p.2) := (bq.cell _).trans s2
              have fz : ∀ m : Nat, wr.frozen? ⟨q, m, none⟩ = false := fun m => bq.frozen m
              have hne := fun u => neq27 u ⟨true, p.1, p.2⟩ ⟨true, p.1, p.2⟩
              have hgd := guardN27 .neq
              have HN : Hid (∀ m, ∃ cs, TQ w ((wr.drewN m).setCell ⟨q, j * 3 + 1, none⟩ (.string ⟨#[115, 112, 111, 105, 108, 116]⟩)) x t base n P P (.slice (some ⟨g, 0, none⟩) ml cl) q cs [(b, #[.int .i64 6, .string xa, .string xv], 46)] ∧ Sp cs P (j + 1)) := fun m => ⟨_, (hq.below (u' := wr.drewN m) ⟨rfl, rfl, rfl, Nat.le_refl _, fun _ _ => rfl⟩).put _ _, hnx⟩
              have hjn : (j : Int) < (n : Int) := by have := hq.tt.le; omega
              obtain ⟨pk, pv⟩ := p
              simp only at g1 g2 s1' s2' hne
              unfold ag at *
              clear hx hp hq hsp hnx hrd bq s0 s1 s2 hrel2
              go_upto_region 43 with fail
              go_quiet (fail)
              clear s0' s2' g1 g2 hne hgd
              go_wp2_with fail
              go_roundw
              case rel => exact ⟨j + 1, by omega, by simp, HN.out _⟩
              case measure => simp only [iof]; omega
            · have hki : ¬ (j : Int) < (ml : Int) := by omega
              have HF : Hid (TL w wr x t base n [] (.slice al ml cl)) := by
                obtain ⟨cs, hq, _⟩ := hrel2.out
                exact ⟨_, _, rfl, hq.tt.less (fun y hy => by cases hy)⟩
              clear hrel2
              go_wp2_with fail
              go_meet
              case rel => exact HF.out
        have HF : Hid (TL w wb x t base n [] (.slice al ml cl)) := ⟨_, _, rfl, HM.out.less (fun y hy => by cases hy)⟩
        go_wp2_with fail
        go_meet
        case rel => exact HF.out
      case rest =>
        obtain ⟨P2, vv2, hv2, hT⟩ := hcut
        have HT := hid (And.intro hv2 hT)
        clear hv2 hT
        go_wp2_with fail
        go_roundw
        case rel => exact ⟨k + 1, vv2, P2, HT.out.1, by omega, by omega, by simp, HT.out.2⟩
        case measure => simp only [iof]; omega
    · have HS := hid hS
      clear hS hrel HRD
      by_cases hg1 : (k : Int) < (n0 : Int)
      · have hk3 : ¬ (k : Int) < 120 := by omega
        go_upto_region 47 with fail
        go_wp2_with fail
        go_loopw [33] (fun i u => ∃ j : Nat, j ≤ n ∧ i = .int .i64 (j : Int) ∧ Hid (TT w u x t base n P P (.slice al ml cl) [])) (fun i _ => n - (iof i).toNat)
        case atStart => exact ⟨0, Nat.zero_le _, by simp, HS.out⟩
        case round =>
          clear HS
          obtain ⟨j, hj, rfl, hrel⟩ := hrel
          obtain ⟨wz, hwz⟩ : ∃ wz, wz = wr := ⟨_, rfl⟩
          subst hwz
          by_cases hlt : j < n
          · have hki : (j : Int) < (n : Int) := by omega
            have hT := hrel.out
            have hsum : IntKind.i64.wrap ((base : Int) + (j : Int)) = ((base + j : Nat) : Int) := by rw [IntKind.wrap_i64]; omega
            by_cases hlm : j < ml
            · as_aux_lemma =>
              have hkm : (j : Int) < (ml : Int) := by omega
              have hjP : j < P.length := by rw [← HML.out]; exact hlm
              have hx := List.getElem?_eq_getElem hjP
              obtain ⟨p, hp⟩ : ∃ p, p = P[j]'hjP := ⟨_, rfl⟩
              rw [← hp] at hx
              have m0 := hT.box #[.bool false, .string ⟨#[]⟩, .string ⟨#[]⟩] 27
              obtain ⟨a2, c2, hv2, hrd⟩ := hT.doc.open
              injection hv2 with ev1 ev2 ev3
              subst ev1 ev3
              clear ev2
              obtain ⟨g, rfl, g1, g2⟩ := hrd (wz.alloc (.cells #[.bool false, .string ⟨#[]⟩, .string ⟨#[]⟩] 27)) ((Below.refl _ wz).alloc (Nat.le_refl _) _) j p hx
              have fz := fun m => (Box.new wz #[.bool false, .string ⟨#[]⟩, .string ⟨#[]⟩] 27).frozen m
              have HP := hid (And.intro hx hT)
              obtain ⟨pk, pv⟩ := p
              simp only at g1 g2
              clear hx hp hrd hT hrel m0
              go_upto_region 52 with fail
              go_region
              obtain ⟨hx, hT⟩ := HP.out
              have m0 := (hT.box #[.bool true, .string pk, .string pv] 27).drew
              have C1 := m0.read (tbl_lo hx)
              unfold ptr ag us at C1
              simp only at C1
              have hne := fun u => neq27 u ⟨true, pk, pv⟩ ⟨true, pk, pv⟩
              have hgd := guardN27 .neq
              unfold ag at hne
              simp only at hne
              clear hx hT m0 HP g1 g2 fz
              go_wp2_with fail
              refine C1.mono ?_
              rintro e v1 ⟨rfl, m1⟩
              have m4 := m1.box #[.bool true, .string pk, .string pv] 27
              have k1 := m4.bx _ (List.mem_cons_self ..)
              have k2 := m4.bx _ (List.mem_cons_of_mem _ (List.mem_cons_self ..))
              have HF : Hid (TT w (v1.alloc (.cells #[.bool true, .string pk, .string pv] 27)) x t base n P P (.slice (some ⟨g, 0, none⟩) ml cl) []) := m4.less (fun y hy => by cases hy)
              have a0' := k1.cell 0
              have a1' := k1.cell 1
              have a2' := k1.cell 2
              have b0' := k2.cell 0
              have b1' := k2.cell 1
              have b2' := k2.cell 2
              simp at a0' a1' a2' b0' b1' b2'
              clear C1 m1 m4 k1 k2
              go_wp2_with fail
              go_roundw
              case rel => exact ⟨j + 1, by omega, by simp, HF.out⟩
              case measure => simp only [iof]; omega
            · as_aux_lemma =>
              have hkm : ¬ (j : Int) < (ml : Int) := by omega
              have m0 := hT.box #[.bool false, .string ⟨#[]⟩, .string ⟨#[]⟩] 27
              have k0 := m0.bx _ (List.mem_cons_self ..)
              have a0 := k0.cell 0
              have a1 := k0.cell 1
              have a2 := k0.cell 2
              simp at a0 a1 a2
              have C1 := m0.read (tbl_hi (by rw [← HML.out]; omega) hlt)
              unfold ptr ag at C1
              simp only [E0] at C1
              have hne := fun u => neq27 u E0 E0
              have hgd := guardN27 .neq
              unfold ag at hne
              simp only [E0] at hne
              clear hrel hT m0 k0
              go_wp2_with fail
              refine C1.mono ?_
              rintro e v1 ⟨rfl, m1⟩
              have m4 := m1.box #[.bool false, .string ⟨#[]⟩, .string ⟨#[]⟩] 27
              have k1 := m4.bx _ (List.mem_cons_self ..)
              have k2 := m4.bx _ (List.mem_cons_of_mem _ (List.mem_cons_self ..))
              have HF : Hid (TT w (v1.alloc (.cells #[.bool false, .string ⟨#[]⟩, .string ⟨#[]⟩] 27)) x t base n P P (.slice al ml cl) []) := m4.less (fun y hy => by cases hy)
              have a0' := k1.cell 0
              have a1' := k1.cell 1
              have a2' := k1.cell 2
              have b0' := k2.cell 0
              have b1' := k2.cell 1
              have b2' := k2.cell 2
              simp at a0' a1' a2' b0' b1' b2'
              clear C1 m1 m4 k1 k2 a0 a1 a2
              go_wp2_with fail
              go_roundw
              case rel => exact ⟨j + 1, by omega, by simp, HF.out⟩
              case measure => simp only [iof]; omega
          · as_aux_lemma =>
            have hki : ¬ (j : Int) < (n : Int) := by omega
            have C7 := awake_at wz
            have HB : Hid (Below w.heap.size w wz) := hrel.out.bel
            clear hrel
            go_wp2_with fail
            refine Calls.mono C7 ?_
            rintro e v7 ⟨rfl, b7⟩
            have B7 : Hid (Below w.heap.size w v7) := HB.out.trans (b7.mono HB.out.size)
            clear C7 b7
            go_wp2_with fail
            go_ret
            exact ⟨rfl, B7.out⟩
      · go_upto_region 47 with fail
        go_wp2_with fail
        go_loopw [33] (fun i u => ∃ j : Nat, j ≤ n ∧ i = .int .i64 (j : Int) ∧ Hid (TT w u x t base n P P (.slice al ml cl) [])) (fun i _ => n - (iof i).toNat)
        case atStart => exact ⟨0, Nat.zero_le _, by simp, HS.out⟩
        case round =>
          clear HS
          obtain ⟨j, hj, rfl, hrel⟩ := hrel
          obtain ⟨wz, hwz⟩ : ∃ wz, wz = wr := ⟨_, rfl⟩
          subst hwz
          by_cases hlt : j < n
          · have hki : (j : Int) < (n : Int) := by omega
            have hT := hrel.out
            have hsum : IntKind.i64.wrap ((base : Int) + (j : Int)) = ((base + j : Nat) : Int) := by rw [IntKind.wrap_i64]; omega
            by_cases hlm : j < ml
            · as_aux_lemma =>
              have hkm : (j : Int) < (ml : Int) := by omega
              have hjP : j < P.length := by rw [← HML.out]; exact hlm
              have hx := List.getElem?_eq_getElem hjP
              obtain ⟨p, hp⟩ : ∃ p, p = P[j]'hjP := ⟨_, rfl⟩
              rw [← hp] at hx
              have m0 := hT.box #[.bool false, .string ⟨#[]⟩, .string ⟨#[]⟩] 27
              obtain ⟨a2, c2, hv2, hrd⟩ := hT.doc.open
              injection hv2 with ev1 ev2 ev3
              subst ev1 ev3
              clear ev2
              obtain ⟨g, rfl, g1, g2⟩ := hrd (wz.alloc (.cells #[.bool false, .string ⟨#[]⟩, .string ⟨#[]⟩] 27)) ((Below.refl _ wz).alloc (Nat.le_refl _) _) j p hx
              have fz := fun m => (Box.new wz #[.bool false, .string ⟨#[]⟩, .string ⟨#[]⟩] 27).frozen m
              have HP := hid (And.intro hx hT)
              obtain ⟨pk, pv⟩ := p
              simp only at g1 g2
              clear hx hp hrd hT hrel m0
              go_upto_region 52 with fail
              go_region
              obtain ⟨hx, hT⟩ := HP.out
              have m0 := (hT.box #[.bool true, .string pk, .string pv] 27).drew
              have C1 := m0.read (tbl_lo hx)
              unfold ptr ag us at C1
              simp only at C1
              have hne := fun u => neq27 u ⟨true, pk, pv⟩ ⟨true, pk, pv⟩
              have hgd := guardN27 .neq
              unfold ag at hne
              simp only at hne
              clear hx hT m0 HP g1 g2 fz
              go_wp2_with fail
              refine C1.mono ?_
              rintro e v1 ⟨rfl, m1⟩
              have m4 := m1.box #[.bool true, .string pk, .string pv] 27
              have k1 := m4.bx _ (List.mem_cons_self ..)
              have k2 := m4.bx _ (List.mem_cons_of_mem _ (List.mem_cons_self ..))
              have HF : Hid (TT w (v1.alloc (.cells #[.bool true, .string pk, .string pv] 27)) x t base n P P (.slice (some ⟨g, 0, none⟩) ml cl) []) := m4.less (fun y hy => by cases hy)
              have a0' := k1.cell 0
              have a1' := k1.cell 1
              have a2' := k1.cell 2
              have b0' := k2.cell 0
              have b1' := k2.cell 1
              have b2' := k2.cell 2
              simp at a0' a1' a2' b0' b1' b2'
              clear C1 m1 m4 k1 k2
              go_wp2_with fail
              go_roundw
              case rel => exact ⟨j + 1, by omega, by simp, HF.out⟩
              case measure => simp only [iof]; omega
            · as_aux_lemma =>
              have hkm : ¬ (j : Int) < (ml : Int) := by omega
              have m0 := hT.box #[.bool false, .string ⟨#[]⟩, .string ⟨#[]⟩] 27
              have k0 := m0.bx _ (List.mem_cons_self ..)
              have a0 := k0.cell 0
              have a1 := k0.cell 1
              have a2 := k0.cell 2
              simp at a0 a1 a2
              have C1 := m0.read (tbl_hi (by rw [← HML.out]; omega) hlt)
              unfold ptr ag at C1
              simp only [E0] at C1
              have hne := fun u => neq27 u E0 E0
              have hgd := guardN27 .neq
              unfold ag at hne
              simp only [E0] at hne
              clear hrel hT m0 k0
              go_wp2_with fail
              refine C1.mono ?_
              rintro e v1 ⟨rfl, m1⟩
              have m4 := m1.box #[.bool false, .string ⟨#[]⟩, .string ⟨#[]⟩] 27
              have k1 := m4.bx _ (List.mem_cons_self ..)
              have k2 := m4.bx _ (List.mem_cons_of_mem _ (List.mem_cons_self ..))
              have HF : Hid (TT w (v1.alloc (.cells #[.bool false, .string ⟨#[]⟩, .string ⟨#[]⟩] 27)) x t base n P P (.slice al ml cl) []) := m4.less (fun y hy => by cases hy)
              have a0' := k1.cell 0
              have a1' := k1.cell 1
              have a2' := k1.cell 2
              have b0' := k2.cell 0
              have b1' := k2.cell 1
              have b2' := k2.cell 2
              simp at a0' a1' a2' b0' b1' b2'
              clear C1 m1 m4 k1 k2 a0 a1 a2
              go_wp2_with fail
              go_roundw
              case rel => exact ⟨j + 1, by omega, by simp, HF.out⟩
              case measure => simp only [iof]; omega
          · as_aux_lemma =>
            have hki : ¬ (j : Int) < (n : Int) := by omega
            have C7 := awake_at wz
            have HB : Hid (Below w.heap.size w wz) := hrel.out.bel
            clear hrel
            go_wp2_with fail
            refine Calls.mono C7 ?_
            rintro e v7 ⟨rfl, b7⟩
            have B7 : Hid (Below w.heap.size w v7) := HB.out.trans (b7.mono HB.out.size)
            clear C7 b7
            go_wp2_with fail
            go_ret
            exact ⟨rfl, B7.out⟩
end Go.Proofs.Ytlbjalodjcajfaa
