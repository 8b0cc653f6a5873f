/-
  Merging in place: the general case.
-/
import Derived.Test.YtlbnilendcelkaaSy1
import Derived.Test.YtlbnilendcelkaaSy2
import Derived.Deep.Cut
import Derived.Deep.CutBlock
import Derived.Deep.CutRange
namespace Go.Proofs.Ytlbnilendcelkaa
open Go.RowKit
namespace I
set_option maxRecDepth 100000 in
set_option maxHeartbeats 16000000 in
theorem symGen_at {w0 w : World} {g cap N c : Nat} (P U V S : List (En Int)) (h : Srt eI 33 w0 w g cap (P ++ U ++ V ++ S)) (hN : N = (P ++ U ++ V ++ S).length) (hn : N ≤ 2000) (a m b : Nat) (hT : Two En.ver P U V S a m b) (hn1 : m ≠ a + 1) (hn2 : b ≠ m + 1)
    (ih : ∀ (P U V S : List (En Int)) (a' m' b' : Nat) (u : World), b' - a' < b - a → Srt eI 33 w0 u g cap (P ++ U ++ V ++ S) → N = (P ++ U ++ V ++ S).length → Two En.ver P U V S a' m' b' → Calls Try.prog 47 #[.slice (some ⟨g, 0, none⟩) N c, .int .i64 (a' : Int), .int .i64 (m' : Int), .int .i64 (b' : Int), .func (.func 28) #[] #[]] u fun r w' => r = .returned (.tuple #[]) ∧ Srt eI 33 w0 w' g cap (P ++ mrg En.ver U V ++ S)) :
    Calls Try.prog 47 #[.slice (some ⟨g, 0, none⟩) N c, .int .i64 (a : Int), .int .i64 (m : Int), .int .i64 (b : Int), .func (.func 28) #[] #[]] w fun r w' => r = .returned (.tuple #[]) ∧ Srt eI 33 w0 w' g cap (P ++ mrg En.ver U V ++ S) := by
  have IH := hid ih
  obtain ⟨ham, hmb⟩ := hT.up
  have hbN : b ≤ N := hN ▸ hT.len
  have HT : Hid (Two En.ver P U V S a m b) := hT
  obtain ⟨mid, hmid⟩ : ∃ mid, mid = (a + b) / 2 := ⟨_, rfl⟩
  obtain ⟨n, hnn⟩ : ∃ n, n = mid + m := ⟨_, rfl⟩
  have a1 : IntKind.i64.wrap ((a : Int) + (b : Int)) = (a : Int) + (b : Int) := by rw [IntKind.wrap_i64]; omega
  have a2 : ((a : Int) + (b : Int)) / 2 = (mid : Int) := by omega
  have a3 : ((a : Int) + (b : Int)) >>> 1 = (mid : Int) := by rw [Int.shiftRight_eq_div_pow]; omega
  have a4 : IntKind.i64.wrap ((mid : Int) + (m : Int)) = (n : Int) := by rw [IntKind.wrap_i64]; omega
  have a5 : (mid : Int) + (m : Int) = (n : Int) := by omega
  obtain ⟨s, r, hC⟩ : ∃ s r, Ctr a m b mid n s r := by
    by_cases hc : mid < m
    · exact ⟨n - b, mid, hmid, hnn, .inl ⟨hc, by omega, rfl⟩⟩
    · exact ⟨a, m, hmid, hnn, .inr ⟨by omega, rfl, rfl⟩⟩
  have HC := hid hC
  have hle := hC.le ham hmb
  have HSR : Hid (s ≤ r ∧ r ≤ 2000) := ⟨hle.2.1, by omega⟩
  have HIN : Hid (∀ h, s ≤ h → h < r → a ≤ h ∧ h < m ∧ m ≤ n - 1 - h ∧ n - 1 - h < b ∧ h + 1 ≤ n) := fun h h1 h2 => hC.in ham hmb h1 h2
  have HF := hid (hT.fal3 (k := En.ver) hC)
  obtain ⟨L, hL⟩ : ∃ L, L = P ++ U ++ V ++ S := ⟨_, rfl⟩
  have HL : Hid (L = P ++ U ++ V ++ S) := hL
  rw [← hL] at h hN HF
  have HS := hid h
  have HN : Hid (N = L.length) := hN
  have r0 : IntKind.i64.wrap ((m : Int) - (a : Int)) = ((m - a : Nat) : Int) := by rw [IntKind.wrap_i64]; omega
  have r00 : IntKind.i64.wrap ((b : Int) - (m : Int)) = ((b - m : Nat) : Int) := by rw [IntKind.wrap_i64]; omega
  have hma : m - a ≠ 1 := by omega
  have hbm : b - m ≠ 1 := by omega
  have hmidm : mid ≤ 2000 := by omega
  have hnle : n ≤ 4000 := by omega
  obtain ⟨h1, h2, h3⟩ := hC
  clear h1 h2
  have a6 : IntKind.i64.wrap ((n : Int) - 1) = (n : Int) - 1 := by rw [IntKind.wrap_i64]; omega
  generalize m - a = ma at *
  generalize b - m = mb at *
  have r01 : ((ma : Int) == 1) = false := by simp; omega
  have r03 : ((mb : Int) == 1) = false := by simp; omega
  clear hT h hL hN ih hn1 hn2 hma hbm hmid hnn hle
  rcases h3 with ⟨h3, h4, h5⟩ | ⟨h3, h4, h5⟩
  · have a7 : IntKind.i64.wrap ((n : Int) - (b : Int)) = (s : Int) := by rw [IntKind.wrap_i64]; omega
    have a8 : (n : Int) - (b : Int) = (s : Int) := by omega
    subst h5
    clear h4
    have hmid2 : r ≤ 2000 := hmidm
    have hgt : (r : Int) < (m : Int) := by omega
    go_enter Try.func47, Try.ntmps47
    go_wp2_with fail
    go_loopw [20, 21] (fun v v' u => ∃ i j : Nat, i ≤ j ∧ j ≤ r ∧ s ≤ i ∧ v = .int .i64 (i : Int) ∧ v' = .int .i64 (j : Int) ∧ Hid (Fnd (Sym En.ver L n) s r i j ∧ Srt eI 33 w0 u g cap L)) (fun v v' _ => (intOf v').toNat - (intOf v).toNat)
    case atStart => exact ⟨s, r, HSR.out.1, Nat.le_refl _, Nat.le_refl _, by simp, by simp, Fnd.start HSR.out.1, HS.out⟩
    case round =>
      obtain ⟨i, j, hij, hjb, hmi, rfl, rfl, hrel⟩ := hrel
      by_cases hlt : i < j
      · have hki : (i : Int) < (j : Int) := by omega
        have hj2 : j ≤ 2000 := by have := HSR.out.2; omega
        have r1 : IntKind.i64.wrap ((i : Int) + (j : Int)) = (i : Int) + (j : Int) := by rw [IntKind.wrap_i64]; omega
        obtain ⟨h, hh⟩ : ∃ h, h = (i + j) / 2 := ⟨_, rfl⟩
        have hih : i ≤ h := by omega
        have hhj : h < j := by omega
        have r2 : ((i : Int) + (j : Int)) / 2 = (h : Int) := by omega
        have r3 : ((i : Int) + (j : Int)) >>> 1 = (h : Int) := by rw [Int.shiftRight_eq_div_pow]; omega
        obtain ⟨hF, hSr⟩ := hrel.out
        have hin := HIN.out h (by omega) (by omega)
        have hw1 : IntKind.i64.wrap ((n : Int) - 1) = (n : Int) - 1 := by rw [IntKind.wrap_i64]; omega
        have hw2 : IntKind.i64.wrap ((n : Int) - 1 - (h : Int)) = ((n - 1 - h : Nat) : Int) := by rw [IntKind.wrap_i64]; omega
        obtain ⟨q, hq⟩ : ∃ q, q = n - 1 - h := ⟨_, rfl⟩
        rw [← hq] at hw2
        have hqN : q < N := by omega
        have hhN : h < N := by omega
        obtain ⟨⟨uv, uo, ua⟩, hL2⟩ := get_ex (l := L) (c := h) (by have := HN.out; omega)
        obtain ⟨⟨hv, ho, ha⟩, hL1⟩ := get_ex (l := L) (c := q) (by have := HN.out; omega)
        have HU : Hid (¬ hv < uv → Fnd (Sym En.ver L n) s r (h + 1) j) := fun hlt => hF.hi HF.out hih hhj (fun x y hx hy => by rw [hL2] at hx; rw [← hq, hL1] at hy; cases hx; cases hy; show uv ≤ hv; omega)
        have HD : Hid (hv < uv → Fnd (Sym En.ver L n) s r i h) := fun hlt => hF.lo HF.out hih hhj (fun hp => by have := hp _ _ hL2 (by rw [← hq]; exact hL1); simp only at this; omega)
        clear hrel hF hh hin hq
        have c0 : ∀ u, Calls Try.prog 28 #[.agg #[.int .i64 hv, .int .i64 ho, .int .i64 ha], .agg #[.int .i64 uv, .int .i64 uo, .int .i64 ua]] u fun r w' => r = .returned (.int .i64 (cmpI hv uv)) ∧ Below u.heap.size u w' := fun u => I.cmp_at u ⟨hv, ho, ha⟩ ⟨uv, uo, ua⟩
        by_cases hc : hv < uv
        · have HD' := hid (HD.out hc)
          have hcc := (cmpI_neg hv uv).2 hc
          generalize cmpI hv uv = cc at c0 hcc
          clear HU HD hc
          go_wp2_with fail
          obtain ⟨C, hC⟩ : ∃ C : World → Prop, C = fun u => Srt eI 33 w0 u g cap L := ⟨_, rfl⟩
          have keepC : ∀ x : Of C, ∀ w', Below x.u.heap.size x.u w' → C w' := fun x w' hb => by have := x.ok; subst hC; exact this.below hb
          have hfacts : ∀ x : Of C, Srt eI 33 w0 x.u g cap L := fun x => by have := x.ok; subst hC; exact this
          have a0 : ∀ x : Of C, x.u.cell? ⟨g, q * 3, none⟩ = some (.int .i64 hv) := fun x => ((hfacts x).lay.get hL1).1
          have a1 : ∀ x : Of C, x.u.cell? ⟨g, q * 3 + 1, none⟩ = some (.int .i64 ho) := fun x => ((hfacts x).lay.get hL1).2.1
          have a2 : ∀ x : Of C, x.u.cell? ⟨g, q * 3 + 2, none⟩ = some (.int .i64 ha) := fun x => ((hfacts x).lay.get hL1).2.2
          have b0 : ∀ x : Of C, x.u.cell? ⟨g, h * 3, none⟩ = some (.int .i64 uv) := fun x => ((hfacts x).lay.get hL2).1
          have b1 : ∀ x : Of C, x.u.cell? ⟨g, h * 3 + 1, none⟩ = some (.int .i64 uo) := fun x => ((hfacts x).lay.get hL2).2.1
          have b2 : ∀ x : Of C, x.u.cell? ⟨g, h * 3 + 2, none⟩ = some (.int .i64 ua) := fun x => ((hfacts x).lay.get hL2).2.2
          have HK : Hid (∀ x : Of C, Srt eI 33 w0 x.u g cap L) := hfacts
          haveI hne : Nonempty (Of C) := Of.some (w := wr) (by subst hC; exact hSr)
          have hC0 : C wr.drew := by subst hC; exact hSr.drew 1
          clear hC hfacts hSr hL1 hL2
          refine wp_region_class C (by kernel_rfl) (by kernel_rfl) hC0 ?_
          clear hC0
          repeat (go_big_quiet_step (first | (go_at_call 28; exact Of.call _ (c0 _) (keepC _))))
          refine wpQuiet_nil ?_
          rintro _ ⟨x, rfl⟩
          obtain ⟨wy, hwy⟩ : ∃ wy, wy = x.u := ⟨_, rfl⟩
          have hSy : Srt eI 33 w0 wy g cap L := hwy ▸ HK.out x
          rw [← hwy]
          clear hwy HK a0 a1 a2 b0 b1 b2 keepC x hne C
          have hSy := hid hSy
          go_wp2_with fail
          go_roundw
          case rel => exact ⟨i, h, by omega, by omega, by omega, rfl, rfl, HD'.out, hSy.out⟩
          case measure => simp only [intOf]; omega
        · have HU' := hid (HU.out hc)
          have hcc : ¬ cmpI hv uv < 0 := fun e => hc ((cmpI_neg hv uv).1 e)
          generalize cmpI hv uv = cc at c0 hcc
          have hnd : (!decide (cc < 0)) = true := by simpa using hcc
          clear HU HD hc
          go_wp2_with fail
          obtain ⟨C, hC⟩ : ∃ C : World → Prop, C = fun u => Srt eI 33 w0 u g cap L := ⟨_, rfl⟩
          have keepC : ∀ x : Of C, ∀ w', Below x.u.heap.size x.u w' → C w' := fun x w' hb => by have := x.ok; subst hC; exact this.below hb
          have hfacts : ∀ x : Of C, Srt eI 33 w0 x.u g cap L := fun x => by have := x.ok; subst hC; exact this
          have a0 : ∀ x : Of C, x.u.cell? ⟨g, q * 3, none⟩ = some (.int .i64 hv) := fun x => ((hfacts x).lay.get hL1).1
          have a1 : ∀ x : Of C, x.u.cell? ⟨g, q * 3 + 1, none⟩ = some (.int .i64 ho) := fun x => ((hfacts x).lay.get hL1).2.1
          have a2 : ∀ x : Of C, x.u.cell? ⟨g, q * 3 + 2, none⟩ = some (.int .i64 ha) := fun x => ((hfacts x).lay.get hL1).2.2
          have b0 : ∀ x : Of C, x.u.cell? ⟨g, h * 3, none⟩ = some (.int .i64 uv) := fun x => ((hfacts x).lay.get hL2).1
          have b1 : ∀ x : Of C, x.u.cell? ⟨g, h * 3 + 1, none⟩ = some (.int .i64 uo) := fun x => ((hfacts x).lay.get hL2).2.1
          have b2 : ∀ x : Of C, x.u.cell? ⟨g, h * 3 + 2, none⟩ = some (.int .i64 ua) := fun x => ((hfacts x).lay.get hL2).2.2
          have HK : Hid (∀ x : Of C, Srt eI 33 w0 x.u g cap L) := hfacts
          haveI hne : Nonempty (Of C) := Of.some (w := wr) (by subst hC; exact hSr)
          have hC0 : C wr.drew := by subst hC; exact hSr.drew 1
          clear hC hfacts hSr hL1 hL2
          refine wp_region_class C (by kernel_rfl) (by kernel_rfl) hC0 ?_
          clear hC0
          repeat (go_big_quiet_step (first | (go_at_call 28; exact Of.call _ (c0 _) (keepC _))))
          refine wpQuiet_nil ?_
          rintro _ ⟨x, rfl⟩
          obtain ⟨wy, hwy⟩ : ∃ wy, wy = x.u := ⟨_, rfl⟩
          have hSy : Srt eI 33 w0 wy g cap L := hwy ▸ HK.out x
          rw [← hwy]
          clear hwy HK a0 a1 a2 b0 b1 b2 keepC x hne C
          have hSy := hid hSy
          go_wp2_with fail
          go_roundw
          case rel => exact ⟨h + 1, j, by omega, hjb, by omega, by simp, rfl, HU'.out, hSy.out⟩
          case measure => simp only [intOf]; omega
      · have hki : ¬ (i : Int) < (j : Int) := by omega
        obtain ⟨hF, hSr⟩ := hrel.out
        obtain rfl : i = j := by omega
        rw [HL.out] at hF hSr
        obtain ⟨U1, U2, V1, V2, hU, hV, hi, hn2, hr, hmrg⟩ := HT.out.cut _ HC.out hF
        have ha' := HT.out.ha
        have hm' := HT.out.hm
        have hb' := HT.out.hb
        have hw3 : IntKind.i64.wrap ((n : Int) - (i : Int)) = ((n - i : Nat) : Int) := by rw [IntKind.wrap_i64]; omega
        obtain ⟨e, he⟩ : ∃ e, e = n - i := ⟨_, rfl⟩
        rw [← he] at hw3
        have HEQ : Hid (a = P.length ∧ i = a + U1.length ∧ m = i + U2.length ∧ e = m + V1.length ∧ b = e + V2.length ∧ r = i + V1.length) := by
          have l1 : U.length = U1.length + U2.length := by rw [hU]; simp
          have l2 : V.length = V1.length + V2.length := by rw [hV]; simp
          unfold Hid; omega
        have HR1 : Hid (Rise En.ver U1 ∧ Rise En.ver U2 ∧ Rise En.ver V1 ∧ Rise En.ver V2) := by
          have r1 := HT.out.ru
          have r2 := HT.out.rv
          rw [hU] at r1
          rw [hV] at r2
          exact ⟨(List.pairwise_append.1 r1).1, (List.pairwise_append.1 r1).2.1, (List.pairwise_append.1 r2).1, (List.pairwise_append.1 r2).2.1⟩
        have HFIN : Hid (P ++ mrg En.ver U V ++ S = P ++ mrg En.ver U1 V1 ++ mrg En.ver U2 V2 ++ S) := by unfold Hid; rw [hmrg]; simp
        rw [hU, hV] at hSr
        have hs1 : Srt eI 33 w0 wr g cap (P ++ U1 ++ U2 ++ V1 ++ V2 ++ S) := by simpa using hSr
        have HS1 := hid hs1
        clear hs1
        have HNL : Hid (N = (P ++ U1 ++ U2 ++ V1 ++ V2 ++ S).length) := by have := HN.out; unfold Hid; rw [this, HL.out, hU, hV]; simp <;> omega
        clear hF hrel hSr hU hV hi hn2 hr hmrg ha' hm' hb' he HS
        have HS := HS1
        clear HS1 HF HL HC HIN HSR HN HT
        go_upto_region 39 with fail
        go_cut [185] from 178 (fun v u => v = .bool (decide (i < m ∧ m < e)) ∧ Srt eI 33 w0 u g cap (P ++ U1 ++ U2 ++ V1 ++ V2 ++ S))
        case first =>
          by_cases g1 : i < m
          · have g1' : (i : Int) < (m : Int) := by omega
            by_cases g2 : m < e
            · have g2' : (m : Int) < (e : Int) := by omega
              go_wp2_with fail
              go_meet
              case rel => exact ⟨by simp [g1, g2], HS.out⟩
            · have g2' : ¬ (m : Int) < (e : Int) := by omega
              go_wp2_with fail
              go_meet
              case rel => exact ⟨by simp [g2], HS.out⟩
          · have g1' : ¬ (i : Int) < (m : Int) := by omega
            go_wp2_with fail
            go_meet
            case rel => exact ⟨by simp [g1], HS.out⟩
        case rest =>
        obtain ⟨hv0, hS0⟩ := hcut
        subst hv0
        clear HS
        have HS := hid hS0
        clear hS0
        go_upto_if 185 with fail
        go_cut [] from 178 (fun u => Srt eI 33 w0 u g cap (P ++ U1 ++ V1 ++ U2 ++ V2 ++ S))
        case first =>
          by_cases gg : i < m ∧ m < e
          · have gd : decide (i < m ∧ m < e) = true := decide_eq_true gg
            rw [gd]
            have c0 : ∀ u, Srt eI 33 w0 u g cap (P ++ U1 ++ U2 ++ V1 ++ V2 ++ S) → Calls Try.prog 50 #[.slice (some ⟨g, 0, none⟩) N c, .int .i64 (i : Int), .int .i64 (m : Int), .int .i64 (e : Int), .func (.func 28) #[] #[]] u fun r w' => r = .returned (.tuple #[]) ∧ Srt eI 33 w0 w' g cap (P ++ U1 ++ V1 ++ U2 ++ V2 ++ S) := fun u hu => by
              have hq := HEQ.out
              have := I.rotate_at (c := c) (P ++ U1) U2 V1 (V2 ++ S) (by simpa using hu) (by have := HNL.out; simpa using this) hn (List.length_pos_iff.1 (by omega)) (List.length_pos_iff.1 (by omega)) i m e (by simp; omega) (by omega) (by omega) (.func (.func 28) #[] #[])
              simpa using this
            have c0 := c0 _ HS.out
            clear gd gg
            go_wp2_with (go_at_call 50; refine c0.mono ?_; rintro _ w' ⟨rfl, hS'⟩; have HS' := hid hS'; clear c0 hS')
            go_meet
            case rel => exact HS'.out
          · have gd : decide (i < m ∧ m < e) = false := decide_eq_false gg
            rw [gd]
            have HS' : Hid (Srt eI 33 w0 wc g cap (P ++ U1 ++ V1 ++ U2 ++ V2 ++ S)) := by
              have hs := HS.out
              have he : (P ++ U1 ++ U2 ++ V1 ++ V2 ++ S) = (P ++ U1 ++ V1 ++ U2 ++ V2 ++ S) := by
                have hq := HEQ.out
                by_cases g1 : i < m
                · have : V1 = [] := List.length_eq_zero_iff.1 (by omega)
                  subst this; simp
                · have : U2 = [] := List.length_eq_zero_iff.1 (by omega)
                  subst this; simp
              rw [he] at hs; exact hs
            clear gd gg
            go_wp2_with fail
            go_meet
            case rel => exact HS'.out
        case rest =>
        clear HS
        have HS := hid hcut
        clear hcut
        go_upto_region 41 with fail
        go_cut [199] from 192 (fun v u => v = .bool (decide (a < i ∧ i < r)) ∧ Srt eI 33 w0 u g cap (P ++ U1 ++ V1 ++ U2 ++ V2 ++ S))
        case first =>
          by_cases g1 : a < i
          · have g1' : (a : Int) < (i : Int) := by omega
            by_cases g2 : i < r
            · have g2' : (i : Int) < (r : Int) := by omega
              go_wp2_with fail
              go_meet
              case rel => exact ⟨by simp [g1, g2], HS.out⟩
            · have g2' : ¬ (i : Int) < (r : Int) := by omega
              go_wp2_with fail
              go_meet
              case rel => exact ⟨by simp [g2], HS.out⟩
          · have g1' : ¬ (a : Int) < (i : Int) := by omega
            go_wp2_with fail
            go_meet
            case rel => exact ⟨by simp [g1], HS.out⟩
        case rest =>
        obtain ⟨hv0, hS0⟩ := hcut
        subst hv0
        clear HS
        have HS := hid hS0
        clear hS0
        go_upto_if 199 with fail
        go_cut [] from 192 (fun u => Srt eI 33 w0 u g cap (P ++ mrg En.ver U1 V1 ++ U2 ++ V2 ++ S))
        case first =>
          by_cases gg : a < i ∧ i < r
          · have gd : decide (a < i ∧ i < r) = true := decide_eq_true gg
            rw [gd]
            have c0 : ∀ u, Srt eI 33 w0 u g cap (P ++ U1 ++ V1 ++ U2 ++ V2 ++ S) → Calls Try.prog 47 #[.slice (some ⟨g, 0, none⟩) N c, .int .i64 (a : Int), .int .i64 (i : Int), .int .i64 (r : Int), .func (.func 28) #[] #[]] u fun r w' => r = .returned (.tuple #[]) ∧ Srt eI 33 w0 w' g cap (P ++ mrg En.ver U1 V1 ++ U2 ++ V2 ++ S) := fun u hu => by
              have hq := HEQ.out
              have hr := HR1.out
              have := IH.out P U1 V1 (U2 ++ V2 ++ S) a i r u (by omega) (by simpa using hu) (by have := HNL.out; simp at this ⊢; omega) ⟨hq.1, hq.2.1, hq.2.2.2.2.2, List.length_pos_iff.1 (by omega), List.length_pos_iff.1 (by omega), hr.1, hr.2.2.1⟩
              simpa using this
            have c0 := c0 _ HS.out
            clear gd gg
            go_wp2_with (go_at_call 47; refine c0.mono ?_; rintro _ w' ⟨rfl, hS'⟩; have HS' := hid hS'; clear c0 hS')
            go_meet
            case rel => exact HS'.out
          · have gd : decide (a < i ∧ i < r) = false := decide_eq_false gg
            rw [gd]
            have HS' : Hid (Srt eI 33 w0 wc g cap (P ++ mrg En.ver U1 V1 ++ U2 ++ V2 ++ S)) := by
              have hs := HS.out
              have he : (P ++ U1 ++ V1 ++ U2 ++ V2 ++ S) = (P ++ mrg En.ver U1 V1 ++ U2 ++ V2 ++ S) := by
                have hq := HEQ.out
                by_cases g1 : a < i
                · have : V1 = [] := List.length_eq_zero_iff.1 (by omega)
                  subst this; simp [mrg_nil]
                · have : U1 = [] := List.length_eq_zero_iff.1 (by omega)
                  subst this; simp [nil_mrg]
              rw [he] at hs; exact hs
            clear gd gg
            go_wp2_with fail
            go_meet
            case rel => exact HS'.out
        case rest =>
        clear HS
        have HS := hid hcut
        clear hcut
        go_upto_region 43 with fail
        go_cut [213] from 206 (fun v u => v = .bool (decide (r < e ∧ e < b)) ∧ Srt eI 33 w0 u g cap (P ++ mrg En.ver U1 V1 ++ U2 ++ V2 ++ S))
        case first =>
          by_cases g1 : r < e
          · have g1' : (r : Int) < (e : Int) := by omega
            by_cases g2 : e < b
            · have g2' : (e : Int) < (b : Int) := by omega
              go_wp2_with fail
              go_meet
              case rel => exact ⟨by simp [g1, g2], HS.out⟩
            · have g2' : ¬ (e : Int) < (b : Int) := by omega
              go_wp2_with fail
              go_meet
              case rel => exact ⟨by simp [g2], HS.out⟩
          · have g1' : ¬ (r : Int) < (e : Int) := by omega
            go_wp2_with fail
            go_meet
            case rel => exact ⟨by simp [g1], HS.out⟩
        case rest =>
        obtain ⟨hv0, hS0⟩ := hcut
        subst hv0
        clear HS
        have HS := hid hS0
        clear hS0
        by_cases gg : r < e ∧ e < b
        · have gd : decide (r < e ∧ e < b) = true := decide_eq_true gg
          rw [gd]
          have c0 : ∀ u, Srt eI 33 w0 u g cap (P ++ mrg En.ver U1 V1 ++ U2 ++ V2 ++ S) → Calls Try.prog 47 #[.slice (some ⟨g, 0, none⟩) N c, .int .i64 (r : Int), .int .i64 (e : Int), .int .i64 (b : Int), .func (.func 28) #[] #[]] u fun r w' => r = .returned (.tuple #[]) ∧ Srt eI 33 w0 w' g cap (P ++ mrg En.ver U1 V1 ++ mrg En.ver U2 V2 ++ S) := fun u hu => by
            have hq := HEQ.out
            have hr := HR1.out
            have := IH.out (P ++ mrg En.ver U1 V1) U2 V2 S r e b u (by omega) (by simpa using hu) (by have := HNL.out; simp [mrg_len] at this ⊢; omega) ⟨by simp [mrg_len]; omega, by omega, by omega, List.length_pos_iff.1 (by omega), List.length_pos_iff.1 (by omega), hr.2.1, hr.2.2.2⟩
            simpa using this
          have c0 := c0 _ HS.out
          clear gd gg
          go_wp2_with (go_at_call 47; refine c0.mono ?_; rintro _ w' ⟨rfl, hS'⟩; have HS' := hid hS'; clear c0 hS')
          go_end0
          refine ⟨rfl, ?_⟩
          have hf := HS'.out
          rw [← HFIN.out] at hf
          simp only [List.append_assoc] at hf ⊢
          exact hf
        · have gd : decide (r < e ∧ e < b) = false := decide_eq_false gg
          rw [gd]
          have HS' : Hid (Srt eI 33 w0 wc g cap (P ++ mrg En.ver U1 V1 ++ mrg En.ver U2 V2 ++ S)) := by
            have hs := HS.out
            have he : (P ++ mrg En.ver U1 V1 ++ U2 ++ V2 ++ S) = (P ++ mrg En.ver U1 V1 ++ mrg En.ver U2 V2 ++ S) := by
              have hq := HEQ.out
              by_cases g1 : r < e
              · have : V2 = [] := List.length_eq_zero_iff.1 (by omega)
                subst this; simp [mrg_nil]
              · have : U2 = [] := List.length_eq_zero_iff.1 (by omega)
                subst this; simp [nil_mrg]
            rw [he] at hs; exact hs
          clear gd gg
          go_wp2_with fail
          go_end0
          refine ⟨rfl, ?_⟩
          have hf := HS'.out
          rw [← HFIN.out] at hf
          simp only [List.append_assoc] at hf ⊢
          exact hf
  · have h4' := h4.symm
    have h5' := h5.symm
    subst h4' h5'
    clear h4 h5 a4
    have hgt : ¬ (mid : Int) < (m : Int) := by omega
    go_enter Try.func47, Try.ntmps47
    go_wp2_with fail
    go_loopw [20, 21] (fun v v' u => ∃ i j : Nat, i ≤ j ∧ j ≤ m ∧ a ≤ i ∧ v = .int .i64 (i : Int) ∧ v' = .int .i64 (j : Int) ∧ Hid (Fnd (Sym En.ver L n) a m i j ∧ Srt eI 33 w0 u g cap L)) (fun v v' _ => (intOf v').toNat - (intOf v).toNat)
    case atStart => exact ⟨a, m, HSR.out.1, Nat.le_refl _, Nat.le_refl _, by simp, by simp, Fnd.start HSR.out.1, HS.out⟩
    case round =>
      obtain ⟨i, j, hij, hjb, hmi, rfl, rfl, hrel⟩ := hrel
      by_cases hlt : i < j
      · have hki : (i : Int) < (j : Int) := by omega
        have hj2 : j ≤ 2000 := by have := HSR.out.2; omega
        have r1 : IntKind.i64.wrap ((i : Int) + (j : Int)) = (i : Int) + (j : Int) := by rw [IntKind.wrap_i64]; omega
        obtain ⟨h, hh⟩ : ∃ h, h = (i + j) / 2 := ⟨_, rfl⟩
        have hih : i ≤ h := by omega
        have hhj : h < j := by omega
        have r2 : ((i : Int) + (j : Int)) / 2 = (h : Int) := by omega
        have r3 : ((i : Int) + (j : Int)) >>> 1 = (h : Int) := by rw [Int.shiftRight_eq_div_pow]; omega
        obtain ⟨hF, hSr⟩ := hrel.out
        have hin := HIN.out h (by omega) (by omega)
        have hw1 : IntKind.i64.wrap ((n : Int) - 1) = (n : Int) - 1 := by rw [IntKind.wrap_i64]; omega
        have hw2 : IntKind.i64.wrap ((n : Int) - 1 - (h : Int)) = ((n - 1 - h : Nat) : Int) := by rw [IntKind.wrap_i64]; omega
        obtain ⟨q, hq⟩ : ∃ q, q = n - 1 - h := ⟨_, rfl⟩
        rw [← hq] at hw2
        have hqN : q < N := by omega
        have hhN : h < N := by omega
        obtain ⟨⟨uv, uo, ua⟩, hL2⟩ := get_ex (l := L) (c := h) (by have := HN.out; omega)
        obtain ⟨⟨hv, ho, ha⟩, hL1⟩ := get_ex (l := L) (c := q) (by have := HN.out; omega)
        have HU : Hid (¬ hv < uv → Fnd (Sym En.ver L n) a m (h + 1) j) := fun hlt => hF.hi HF.out hih hhj (fun x y hx hy => by rw [hL2] at hx; rw [← hq, hL1] at hy; cases hx; cases hy; show uv ≤ hv; omega)
        have HD : Hid (hv < uv → Fnd (Sym En.ver L n) a m i h) := fun hlt => hF.lo HF.out hih hhj (fun hp => by have := hp _ _ hL2 (by rw [← hq]; exact hL1); simp only at this; omega)
        clear hrel hF hh hin hq
        have c0 : ∀ u, Calls Try.prog 28 #[.agg #[.int .i64 hv, .int .i64 ho, .int .i64 ha], .agg #[.int .i64 uv, .int .i64 uo, .int .i64 ua]] u fun r w' => r = .returned (.int .i64 (cmpI hv uv)) ∧ Below u.heap.size u w' := fun u => I.cmp_at u ⟨hv, ho, ha⟩ ⟨uv, uo, ua⟩
        by_cases hc : hv < uv
        · have HD' := hid (HD.out hc)
          have hcc := (cmpI_neg hv uv).2 hc
          generalize cmpI hv uv = cc at c0 hcc
          clear HU HD hc
          go_wp2_with fail
          obtain ⟨C, hC⟩ : ∃ C : World → Prop, C = fun u => Srt eI 33 w0 u g cap L := ⟨_, rfl⟩
          have keepC : ∀ x : Of C, ∀ w', Below x.u.heap.size x.u w' → C w' := fun x w' hb => by have := x.ok; subst hC; exact this.below hb
          have hfacts : ∀ x : Of C, Srt eI 33 w0 x.u g cap L := fun x => by have := x.ok; subst hC; exact this
          have a0 : ∀ x : Of C, x.u.cell? ⟨g, q * 3, none⟩ = some (.int .i64 hv) := fun x => ((hfacts x).lay.get hL1).1
          have a1 : ∀ x : Of C, x.u.cell? ⟨g, q * 3 + 1, none⟩ = some (.int .i64 ho) := fun x => ((hfacts x).lay.get hL1).2.1
          have a2 : ∀ x : Of C, x.u.cell? ⟨g, q * 3 + 2, none⟩ = some (.int .i64 ha) := fun x => ((hfacts x).lay.get hL1).2.2
          have b0 : ∀ x : Of C, x.u.cell? ⟨g, h * 3, none⟩ = some (.int .i64 uv) := fun x => ((hfacts x).lay.get hL2).1
          have b1 : ∀ x : Of C, x.u.cell? ⟨g, h * 3 + 1, none⟩ = some (.int .i64 uo) := fun x => ((hfacts x).lay.get hL2).2.1
          have b2 : ∀ x : Of C, x.u.cell? ⟨g, h * 3 + 2, none⟩ = some (.int .i64 ua) := fun x => ((hfacts x).lay.get hL2).2.2
          have HK : Hid (∀ x : Of C, Srt eI 33 w0 x.u g cap L) := hfacts
          haveI hne : Nonempty (Of C) := Of.some (w := wr) (by subst hC; exact hSr)
          have hC0 : C wr.drew := by subst hC; exact hSr.drew 1
          clear hC hfacts hSr hL1 hL2
          refine wp_region_class C (by kernel_rfl) (by kernel_rfl) hC0 ?_
          clear hC0
          repeat (go_big_quiet_step (first | (go_at_call 28; exact Of.call _ (c0 _) (keepC _))))
          refine wpQuiet_nil ?_
          rintro _ ⟨x, rfl⟩
          obtain ⟨wy, hwy⟩ : ∃ wy, wy = x.u := ⟨_, rfl⟩
          have hSy : Srt eI 33 w0 wy g cap L := hwy ▸ HK.out x
          rw [← hwy]
          clear hwy HK a0 a1 a2 b0 b1 b2 keepC x hne C
          have hSy := hid hSy
          go_wp2_with fail
          go_roundw
          case rel => exact ⟨i, h, by omega, by omega, by omega, rfl, rfl, HD'.out, hSy.out⟩
          case measure => simp only [intOf]; omega
        · have HU' := hid (HU.out hc)
          have hcc : ¬ cmpI hv uv < 0 := fun e => hc ((cmpI_neg hv uv).1 e)
          generalize cmpI hv uv = cc at c0 hcc
          have hnd : (!decide (cc < 0)) = true := by simpa using hcc
          clear HU HD hc
          go_wp2_with fail
          obtain ⟨C, hC⟩ : ∃ C : World → Prop, C = fun u => Srt eI 33 w0 u g cap L := ⟨_, rfl⟩
          have keepC : ∀ x : Of C, ∀ w', Below x.u.heap.size x.u w' → C w' := fun x w' hb => by have := x.ok; subst hC; exact this.below hb
          have hfacts : ∀ x : Of C, Srt eI 33 w0 x.u g cap L := fun x => by have := x.ok; subst hC; exact this
          have a0 : ∀ x : Of C, x.u.cell? ⟨g, q * 3, none⟩ = some (.int .i64 hv) := fun x => ((hfacts x).lay.get hL1).1
          have a1 : ∀ x : Of C, x.u.cell? ⟨g, q * 3 + 1, none⟩ = some (.int .i64 ho) := fun x => ((hfacts x).lay.get hL1).2.1
          have a2 : ∀ x : Of C, x.u.cell? ⟨g, q * 3 + 2, none⟩ = some (.int .i64 ha) := fun x => ((hfacts x).lay.get hL1).2.2
          have b0 : ∀ x : Of C, x.u.cell? ⟨g, h * 3, none⟩ = some (.int .i64 uv) := fun x => ((hfacts x).lay.get hL2).1
          have b1 : ∀ x : Of C, x.u.cell? ⟨g, h * 3 + 1, none⟩ = some (.int .i64 uo) := fun x => ((hfacts x).lay.get hL2).2.1
          have b2 : ∀ x : Of C, x.u.cell? ⟨g, h * 3 + 2, none⟩ = some (.int .i64 ua) := fun x => ((hfacts x).lay.get hL2).2.2
          have HK : Hid (∀ x : Of C, Srt eI 33 w0 x.u g cap L) := hfacts
          haveI hne : Nonempty (Of C) := Of.some (w := wr) (by subst hC; exact hSr)
          have hC0 : C wr.drew := by subst hC; exact hSr.drew 1
          clear hC hfacts hSr hL1 hL2
          refine wp_region_class C (by kernel_rfl) (by kernel_rfl) hC0 ?_
          clear hC0
          repeat (go_big_quiet_step (first | (go_at_call 28; exact Of.call _ (c0 _) (keepC _))))
          refine wpQuiet_nil ?_
          rintro _ ⟨x, rfl⟩
          obtain ⟨wy, hwy⟩ : ∃ wy, wy = x.u := ⟨_, rfl⟩
          have hSy : Srt eI 33 w0 wy g cap L := hwy ▸ HK.out x
          rw [← hwy]
          clear hwy HK a0 a1 a2 b0 b1 b2 keepC x hne C
          have hSy := hid hSy
          go_wp2_with fail
          go_roundw
          case rel => exact ⟨h + 1, j, by omega, hjb, by omega, by simp, rfl, HU'.out, hSy.out⟩
          case measure => simp only [intOf]; omega
      · have hki : ¬ (i : Int) < (j : Int) := by omega
        obtain ⟨hF, hSr⟩ := hrel.out
        obtain rfl : i = j := by omega
        rw [HL.out] at hF hSr
        obtain ⟨U1, U2, V1, V2, hU, hV, hi, hn2, hmid, hmrg⟩ := HT.out.cut _ HC.out hF
        have ha' := HT.out.ha
        have hm' := HT.out.hm
        have hb' := HT.out.hb
        have hw3 : IntKind.i64.wrap ((n : Int) - (i : Int)) = ((n - i : Nat) : Int) := by rw [IntKind.wrap_i64]; omega
        obtain ⟨e, he⟩ : ∃ e, e = n - i := ⟨_, rfl⟩
        rw [← he] at hw3
        have HEQ : Hid (a = P.length ∧ i = a + U1.length ∧ m = i + U2.length ∧ e = m + V1.length ∧ b = e + V2.length ∧ mid = i + V1.length) := by
          have l1 : U.length = U1.length + U2.length := by rw [hU]; simp
          have l2 : V.length = V1.length + V2.length := by rw [hV]; simp
          unfold Hid; omega
        have HR1 : Hid (Rise En.ver U1 ∧ Rise En.ver U2 ∧ Rise En.ver V1 ∧ Rise En.ver V2) := by
          have r1 := HT.out.ru
          have r2 := HT.out.rv
          rw [hU] at r1
          rw [hV] at r2
          exact ⟨(List.pairwise_append.1 r1).1, (List.pairwise_append.1 r1).2.1, (List.pairwise_append.1 r2).1, (List.pairwise_append.1 r2).2.1⟩
        have HFIN : Hid (P ++ mrg En.ver U V ++ S = P ++ mrg En.ver U1 V1 ++ mrg En.ver U2 V2 ++ S) := by unfold Hid; rw [hmrg]; simp
        rw [hU, hV] at hSr
        have hs1 : Srt eI 33 w0 wr g cap (P ++ U1 ++ U2 ++ V1 ++ V2 ++ S) := by simpa using hSr
        have HS1 := hid hs1
        clear hs1
        have HNL : Hid (N = (P ++ U1 ++ U2 ++ V1 ++ V2 ++ S).length) := by have := HN.out; unfold Hid; rw [this, HL.out, hU, hV]; simp <;> omega
        clear hF hrel hSr hU hV hi hn2 hmid hmrg ha' hm' hb' he HS
        have HS := HS1
        clear HS1 HF HL HC HIN HSR HN HT
        go_upto_region 39 with fail
        go_cut [185] from 178 (fun v u => v = .bool (decide (i < m ∧ m < e)) ∧ Srt eI 33 w0 u g cap (P ++ U1 ++ U2 ++ V1 ++ V2 ++ S))
        case first =>
          by_cases g1 : i < m
          · have g1' : (i : Int) < (m : Int) := by omega
            by_cases g2 : m < e
            · have g2' : (m : Int) < (e : Int) := by omega
              go_wp2_with fail
              go_meet
              case rel => exact ⟨by simp [g1, g2], HS.out⟩
            · have g2' : ¬ (m : Int) < (e : Int) := by omega
              go_wp2_with fail
              go_meet
              case rel => exact ⟨by simp [g2], HS.out⟩
          · have g1' : ¬ (i : Int) < (m : Int) := by omega
            go_wp2_with fail
            go_meet
            case rel => exact ⟨by simp [g1], HS.out⟩
        case rest =>
        obtain ⟨hv0, hS0⟩ := hcut
        subst hv0
        clear HS
        have HS := hid hS0
        clear hS0
        go_upto_if 185 with fail
        go_cut [] from 178 (fun u => Srt eI 33 w0 u g cap (P ++ U1 ++ V1 ++ U2 ++ V2 ++ S))
        case first =>
          by_cases gg : i < m ∧ m < e
          · have gd : decide (i < m ∧ m < e) = true := decide_eq_true gg
            rw [gd]
            have c0 : ∀ u, Srt eI 33 w0 u g cap (P ++ U1 ++ U2 ++ V1 ++ V2 ++ S) → Calls Try.prog 50 #[.slice (some ⟨g, 0, none⟩) N c, .int .i64 (i : Int), .int .i64 (m : Int), .int .i64 (e : Int), .func (.func 28) #[] #[]] u fun r w' => r = .returned (.tuple #[]) ∧ Srt eI 33 w0 w' g cap (P ++ U1 ++ V1 ++ U2 ++ V2 ++ S) := fun u hu => by
              have hq := HEQ.out
              have := I.rotate_at (c := c) (P ++ U1) U2 V1 (V2 ++ S) (by simpa using hu) (by have := HNL.out; simpa using this) hn (List.length_pos_iff.1 (by omega)) (List.length_pos_iff.1 (by omega)) i m e (by simp; omega) (by omega) (by omega) (.func (.func 28) #[] #[])
              simpa using this
            have c0 := c0 _ HS.out
            clear gd gg
            go_wp2_with (go_at_call 50; refine c0.mono ?_; rintro _ w' ⟨rfl, hS'⟩; have HS' := hid hS'; clear c0 hS')
            go_meet
            case rel => exact HS'.out
          · have gd : decide (i < m ∧ m < e) = false := decide_eq_false gg
            rw [gd]
            have HS' : Hid (Srt eI 33 w0 wc g cap (P ++ U1 ++ V1 ++ U2 ++ V2 ++ S)) := by
              have hs := HS.out
              have he : (P ++ U1 ++ U2 ++ V1 ++ V2 ++ S) = (P ++ U1 ++ V1 ++ U2 ++ V2 ++ S) := by
                have hq := HEQ.out
                by_cases g1 : i < m
                · have : V1 = [] := List.length_eq_zero_iff.1 (by omega)
                  subst this; simp
                · have : U2 = [] := List.length_eq_zero_iff.1 (by omega)
                  subst this; simp
              rw [he] at hs; exact hs
            clear gd gg
            go_wp2_with fail
            go_meet
            case rel => exact HS'.out
        case rest =>
        clear HS
        have HS := hid hcut
        clear hcut
        go_upto_region 41 with fail
        go_cut [199] from 192 (fun v u => v = .bool (decide (a < i ∧ i < mid)) ∧ Srt eI 33 w0 u g cap (P ++ U1 ++ V1 ++ U2 ++ V2 ++ S))
        case first =>
          by_cases g1 : a < i
          · have g1' : (a : Int) < (i : Int) := by omega
            by_cases g2 : i < mid
            · have g2' : (i : Int) < (mid : Int) := by omega
              go_wp2_with fail
              go_meet
              case rel => exact ⟨by simp [g1, g2], HS.out⟩
            · have g2' : ¬ (i : Int) < (mid : Int) := by omega
              go_wp2_with fail
              go_meet
              case rel => exact ⟨by simp [g2], HS.out⟩
          · have g1' : ¬ (a : Int) < (i : Int) := by omega
            go_wp2_with fail
            go_meet
            case rel => exact ⟨by simp [g1], HS.out⟩
        case rest =>
        obtain ⟨hv0, hS0⟩ := hcut
        subst hv0
        clear HS
        have HS := hid hS0
        clear hS0
        go_upto_if 199 with fail
        go_cut [] from 192 (fun u => Srt eI 33 w0 u g cap (P ++ mrg En.ver U1 V1 ++ U2 ++ V2 ++ S))
        case first =>
          by_cases gg : a < i ∧ i < mid
          · have gd : decide (a < i ∧ i < mid) = true := decide_eq_true gg
            rw [gd]
            have c0 : ∀ u, Srt eI 33 w0 u g cap (P ++ U1 ++ V1 ++ U2 ++ V2 ++ S) → Calls Try.prog 47 #[.slice (some ⟨g, 0, none⟩) N c, .int .i64 (a : Int), .int .i64 (i : Int), .int .i64 (mid : Int), .func (.func 28) #[] #[]] u fun r w' => r = .returned (.tuple #[]) ∧ Srt eI 33 w0 w' g cap (P ++ mrg En.ver U1 V1 ++ U2 ++ V2 ++ S) := fun u hu => by
              have hq := HEQ.out
              have hr := HR1.out
              have := IH.out P U1 V1 (U2 ++ V2 ++ S) a i mid u (by omega) (by simpa using hu) (by have := HNL.out; simp at this ⊢; omega) ⟨hq.1, hq.2.1, hq.2.2.2.2.2, List.length_pos_iff.1 (by omega), List.length_pos_iff.1 (by omega), hr.1, hr.2.2.1⟩
              simpa using this
            have c0 := c0 _ HS.out
            clear gd gg
            go_wp2_with (go_at_call 47; refine c0.mono ?_; rintro _ w' ⟨rfl, hS'⟩; have HS' := hid hS'; clear c0 hS')
            go_meet
            case rel => exact HS'.out
          · have gd : decide (a < i ∧ i < mid) = false := decide_eq_false gg
            rw [gd]
            have HS' : Hid (Srt eI 33 w0 wc g cap (P ++ mrg En.ver U1 V1 ++ U2 ++ V2 ++ S)) := by
              have hs := HS.out
              have he : (P ++ U1 ++ V1 ++ U2 ++ V2 ++ S) = (P ++ mrg En.ver U1 V1 ++ U2 ++ V2 ++ S) := by
                have hq := HEQ.out
                by_cases g1 : a < i
                · have : V1 = [] := List.length_eq_zero_iff.1 (by omega)
                  subst this; simp [mrg_nil]
                · have : U1 = [] := List.length_eq_zero_iff.1 (by omega)
                  subst this; simp [nil_mrg]
              rw [he] at hs; exact hs
            clear gd gg
            go_wp2_with fail
            go_meet
            case rel => exact HS'.out
        case rest =>
        clear HS
        have HS := hid hcut
        clear hcut
        go_upto_region 43 with fail
        go_cut [213] from 206 (fun v u => v = .bool (decide (mid < e ∧ e < b)) ∧ Srt eI 33 w0 u g cap (P ++ mrg En.ver U1 V1 ++ U2 ++ V2 ++ S))
        case first =>
          by_cases g1 : mid < e
          · have g1' : (mid : Int) < (e : Int) := by omega
            by_cases g2 : e < b
            · have g2' : (e : Int) < (b : Int) := by omega
              go_wp2_with fail
              go_meet
              case rel => exact ⟨by simp [g1, g2], HS.out⟩
            · have g2' : ¬ (e : Int) < (b : Int) := by omega
              go_wp2_with fail
              go_meet
              case rel => exact ⟨by simp [g2], HS.out⟩
          · have g1' : ¬ (mid : Int) < (e : Int) := by omega
            go_wp2_with fail
            go_meet
            case rel => exact ⟨by simp [g1], HS.out⟩
        case rest =>
        obtain ⟨hv0, hS0⟩ := hcut
        subst hv0
        clear HS
        have HS := hid hS0
        clear hS0
        by_cases gg : mid < e ∧ e < b
        · have gd : decide (mid < e ∧ e < b) = true := decide_eq_true gg
          rw [gd]
          have c0 : ∀ u, Srt eI 33 w0 u g cap (P ++ mrg En.ver U1 V1 ++ U2 ++ V2 ++ S) → Calls Try.prog 47 #[.slice (some ⟨g, 0, none⟩) N c, .int .i64 (mid : Int), .int .i64 (e : Int), .int .i64 (b : Int), .func (.func 28) #[] #[]] u fun r w' => r = .returned (.tuple #[]) ∧ Srt eI 33 w0 w' g cap (P ++ mrg En.ver U1 V1 ++ mrg En.ver U2 V2 ++ S) := fun u hu => by
            have hq := HEQ.out
            have hr := HR1.out
            have := IH.out (P ++ mrg En.ver U1 V1) U2 V2 S mid e b u (by omega) (by simpa using hu) (by have := HNL.out; simp [mrg_len] at this ⊢; omega) ⟨by simp [mrg_len]; omega, by omega, by omega, List.length_pos_iff.1 (by omega), List.length_pos_iff.1 (by omega), hr.2.1, hr.2.2.2⟩
            simpa using this
          have c0 := c0 _ HS.out
          clear gd gg
          go_wp2_with (go_at_call 47; refine c0.mono ?_; rintro _ w' ⟨rfl, hS'⟩; have HS' := hid hS'; clear c0 hS')
          go_end0
          refine ⟨rfl, ?_⟩
          have hf := HS'.out
          rw [← HFIN.out] at hf
          simp only [List.append_assoc] at hf ⊢
          exact hf
        · have gd : decide (mid < e ∧ e < b) = false := decide_eq_false gg
          rw [gd]
          have HS' : Hid (Srt eI 33 w0 wc g cap (P ++ mrg En.ver U1 V1 ++ mrg En.ver U2 V2 ++ S)) := by
            have hs := HS.out
            have he : (P ++ mrg En.ver U1 V1 ++ U2 ++ V2 ++ S) = (P ++ mrg En.ver U1 V1 ++ mrg En.ver U2 V2 ++ S) := by
              have hq := HEQ.out
              by_cases g1 : mid < e
              · have : V2 = [] := List.length_eq_zero_iff.1 (by omega)
                subst this; simp [mrg_nil]
              · have : U2 = [] := List.length_eq_zero_iff.1 (by omega)
                subst this; simp [nil_mrg]
            rw [he] at hs; exact hs
          clear gd gg
          go_wp2_with fail
          go_end0
          refine ⟨rfl, ?_⟩
          have hf := HS'.out
          rw [← HFIN.out] at hf
          simp only [List.append_assoc] at hf ⊢
          exact hf
end I
end Go.Proofs.Ytlbnilendcelkaa
