/-
  JInts, JArg, JWhole: put together.
-/
import Derived.Test.YtglahlbponlepaaGreatG10
import Derived.ProofKit
import Derived.Deep.Strs
import Derived.Deep.CutRange
import Derived.Deep.CutBlock
import Derived.Deep.RegionHeld3
/-
  Numbers in a list that was handed in.
-/
namespace Go.Proofs.YtglahlbponlepaaGreat.J
open Go.RowKit

/-- numbers, one behind the other -/
def Ints (w : World) (a : Option Addr) (xs : List Int) : Prop := 0 < xs.length → ∃ b o, a = some ⟨b, o, none⟩ ∧ ∀ j (h : j < xs.length), w.cell? ⟨b, o + j, none⟩ = some (.int .i64 xs[j])
end Go.Proofs.YtglahlbponlepaaGreat.J

/-
  A []int, as it comes in.
-/
namespace Go.Proofs.YtglahlbponlepaaGreat
open Go.ChangeShapes Go.WideShapes Go.ChangeAt Go.RowKit Go.Deep

theorem choose_below {α : Type} {P : Nat → α → Prop} {n : Nat} (z : α) (h : ∀ i, i < n → ∃ x, P i x) : ∃ f : Nat → α, ∀ i, i < n → P i (f i) := by
  classical
  refine ⟨fun i => if hi : i < n then Classical.choose (h i hi) else z, fun i hi => ?_⟩
  simp only [dif_pos hi]
  exact Classical.choose_spec (h i hi)

theorem cells3 : Tryz.prog.cellsOf 3 = 1 := by kernel_rfl
section
variable {H : Type} {enc : TypeId × Value → H} {w : World} {base : Nat} {held : Bool}
theorem open_ints3 {fuel : Nat} {cs : List Value} {x : DataW H × List MemPlace} (h : DataW.trod enc Tryz.prog w base (fun _ => true) held fuel 22 cs = some x) :
    ∃ (a : Option Addr) (n cap : Nat) (xs : List Int), cs = [.slice a n cap] ∧ xs.length = n ∧ J.Ints w a xs := by
  rcases open_slice1 Tryz.underlying22 cells3 h with ⟨rfl, _⟩ | ⟨a, len, cap, m, n, V, D, Pl, rfl, _, hl, _, hmm, _, hx⟩
  · exact ⟨none, 0, 0, [], rfl, rfl, fun h => by simp at h⟩
  have hlm : len ≤ m := by rw [hmm]; split <;> omega
  have each : ∀ i, i < len → ∃ z : Int, w.cell? (a.add i) = some (.int .i64 z) := by
    intro i hi
    obtain ⟨h1, h2⟩ := hx i (by omega)
    obtain ⟨z, h3, _⟩ := DataW.trod_int Tryz.underlying3 h2
    simp at h3
    rw [h3] at h1
    exact ⟨z, h1⟩
  obtain ⟨f, hf⟩ := choose_below 0 each
  refine ⟨some a, len, cap, (List.range len).map f, rfl, by simp, fun hp => ?_⟩
  have hl0 : 0 < len := by simpa using hp
  obtain ⟨b, o, sp⟩ := a
  have hsp : sp = none := by simpa [Addr.add] using World.cell?_spot (hf 0 hl0)
  subst hsp
  refine ⟨b, o, rfl, fun j hj => ?_⟩
  have := hf j (by simpa using hj)
  rw [Addr.add_lit] at this
  simpa using this
end
end Go.Proofs.YtglahlbponlepaaGreat

/-
  JournalWhole: groups never lie upon one another; what was appended stands, whole, as long as it is not let go.
-/
namespace Go.Proofs.YtglahlbponlepaaGreat.J
open Go.RowKit
open Go.Proofs.YtglahlbponlepaaGreat.Dk (Box)

/-- what the law keeps between two rounds -/
def Rnd (w : World) (g dg i : Nat) (v8 v9 v10 : Value) (u : World) : Prop :=
  ∃ nx sy T H gs held A, v8 = .int .i64 ((A : Nat) : Int) ∧ Hid (A = (T + tot gs) % 16) ∧ v10 = .int .i64 ((held : Nat) : Int) ∧ held ≤ 4 ∧ (0 < held → held + 1 ≤ H) ∧ St w g dg i nx sy T H gs v9 u

/-- what is reserved, as it stands in memory -/
def hOf (g : Nat) (u : World) : Nat := match u.cell? ⟨g, 9, none⟩ with
  | some v => (intOf v).toNat
  | none => 0
theorem St.hcell {w u : World} {g dg i nx sy T H : Nat} {gs : List G} {v9 : Value} (h : St w g dg i nx sy T H gs v9 u) : hOf g u = H := by
  obtain ⟨⟨D, F, j, _⟩, _⟩ := h
  obtain ⟨a, c, hb⟩ := j.box
  obtain ⟨_, _, _, _, _, _, _, _, _, c9, _, _⟩ := box_cells hb
  unfold hOf
  rw [c9]
  show ((H : Int)).toNat = H
  omega
theorem st_open {w u : World} {g dg : Nat} {D : Dk.DS} {F : Nat → Prop} (t : Nat) (ht : t < 16) (h : JD u g dg ⟨2, 1, 1, 0, 16, (t : Int), 0, 0, false⟩ [] D F) (hD : DK D []) (hF : ∀ i, F i → w.heap.size ≤ i) (hB : Below w.heap.size w u) :
    St w g dg 0 1 0 t 0 [] (.slice none 0 0) u :=
  ⟨⟨D, F, h, hD.1, hD.2.1, h.ok, by rw [hD.len]; exact Nat.le_refl _, hD.2.2.2, fun q hq => (by cases hq), .inl ⟨rfl, rfl⟩, fun q hq => (by cases hq), hF⟩, hB, ht, by show 0 + 0 ≤ 16; omega, trivial, by show 0 + 1 ≤ 1; omega, by omega⟩

set_option maxRecDepth 100000 in
set_option maxHeartbeats 4000000 in
theorem whole_at (z0 : Int) (a : Option Addr) (n c : Nat) (zs : List Int) (w : World) (hl : zs.length = n) (hz : Ints w a zs) :
    Calls Tryz.prog 3 #[.int .i64 z0, .slice a n c] w fun r w' => r = .returned (.bool true) ∧ Below w.heap.size w w' := by
  have HL : Hid (zs.length = n) := hl
  have HZ : Hid (Ints w a zs) := hz
  have HA : Hid (∀ u, Calls Tryz.prog 16 #[] u fun r w' => r = .returned (.bool true) ∧ Below u.heap.size u w') := awake_at
  have hp := pick_eq z0 16 16
  obtain ⟨hp0, hp1⟩ := pk_in z0 16 (by decide)
  obtain ⟨t, ht⟩ : ∃ t : Nat, pk z0 16 = (t : Int) := ⟨(pk z0 16).toNat, by omega⟩
  rw [ht] at hp hp0 hp1
  have ht16 : t < 16 := by omega
  clear hl hz ht hp0 hp1
  go_enter Tryz.func3, Tryz.ntmps3
  go_wp2_with fail
  refine (hp w rfl (by decide) (by decide)).mono ?_
  rintro r w0 ⟨rfl, rfl⟩
  go_wp2_with fail
  refine (opened_law t (t : Int) w (by omega) rfl).mono ?_
  rintro r w1 ⟨dg, g, F, D, rfl, hJ, hD, hF, hB⟩
  have hst := st_open t ht16 hJ hD hF hB
  clear hJ hD hF hB
  go_wp2_with fail
  refine (hp w1 rfl (by decide) (by decide)).mono ?_
  rintro r w2 ⟨rfl, rfl⟩
  clear hp
  go_wp2_with fail
  go_loopw [8, 9, 10, 11] (fun v8 v9 v10 v11 u => ∃ i : Nat, i ≤ n ∧ i ≤ 40 ∧ v11 = .int .i64 (i : Int) ∧ Rnd w g dg i v8 v9 v10 u) (fun _ _ _ v11 _ => n - (intOf v11).toNat)
  case atStart => exact ⟨0, Nat.zero_le _, by omega, rfl, 1, 0, t, 0, [], 0, t, rfl, by show t = (t + 0) % 16; omega, rfl, by omega, fun h => by omega, hst⟩
  case round =>
    clear hst
    obtain ⟨i, hin, hi40, rfl, hR⟩ := hrel
    by_cases hgo : i < n ∧ i < 40
    · obtain ⟨hlt, hlt40⟩ := hgo
      have k1 : i < zs.length := by rw [HL.out]; exact hlt
      obtain ⟨b, o, rfl, hc⟩ := HZ.out (by omega)
      have cz := hc i k1
      have hbw : b < w.heap.size := block_lt_of_cell cz
      have hbel : Below w.heap.size w wr := by obtain ⟨_, _, _, _, _, _, _, _, _, _, _, _, h⟩ := hR; exact h.bel
      have cz' := (hbel.cell (p := ⟨b, o + i, none⟩) hbw).trans cz
      generalize (zs[i]'k1) = z at cz'
      have hk0 : (0 : Int) ≤ (i : Int) := by omega
      have hki : (i : Int) < (n : Int) := by omega
      have hk40 : (i : Int) < 40 := by omega
      obtain ⟨q0, q1⟩ := pk_in z 1000003 (by decide)
      have hpz := pick_eq z 1000003 1000003 wr rfl (by decide) (by decide)
      obtain ⟨N, hN⟩ : ∃ N : Nat, pk z 1000003 = (N : Int) := ⟨(pk z 1000003).toNat, by omega⟩
      rw [hN] at hpz q0 q1
      have hN1 : N < 1000003 := by omega
      clear hc cz hbel q0 q1 hN
      go_wp2_with fail
      refine hpz.mono ?_
      rintro r w3 ⟨rfl, rfl⟩
      clear hpz cz'
      have d5 : ((N : Int).tdiv 5) = ((N / 5 : Nat) : Int) := by rw [Int.tdiv_eq_ediv_of_nonneg (by omega)]; omega
      have hwd : IntKind.i64.wrap (((N / 5 : Nat) : Int)) = ((N / 5 : Nat) : Int) := by rw [IntKind.wrap_i64]; omega
      have hm4 : (((N / 5 : Nat) : Int) % 4) = ((N / 5 % 4 : Nat) : Int) := by omega
      have hm5 : ((N : Int) % 5) = ((N % 5 : Nat) : Int) := by omega
      go_upto_region 12 with fail
      obtain ⟨k, hk⟩ : ∃ k : Nat, 1 + (N : Int) / 5 % 4 = (k : Int) := ⟨1 + N / 5 % 4, by omega⟩
      have hk1 : 1 ≤ k := by omega
      have hk4 : k ≤ 4 := by omega
      simp only [hk]
      clear hk d5 hwd hm4
      go_upto_block 2 with fail
      go_cut [8, 9, 10] from 36 to 224 (fun v8 v9 v10 u => Rnd w g dg (i + 1) v8 v9 v10 u)
      case first =>
       as_aux_lemma =>
        obtain ⟨nx, sy, T, H, gs, held, A, rfl, hA, rfl, hh4, hhH, hS⟩ := hR
        have hi40' : i ≤ 40 := by omega
        have hA16 : A < 16 := by have := hA.out; omega
        obtain ⟨a9, c9, rfl⟩ : ∃ a c, u9 = .slice a gs.length c := by
          obtain ⟨_, _, _, _, _, _, _, _, _, ln, _⟩ := hS.ex
          exact ln.val
        rcases (by omega : N % 5 = 0 ∨ N % 5 = 1 ∨ 2 ≤ N % 5) with h5 | h5 | h5
        · as_aux_lemma =>
          have e5 : (N : Int) % 5 = 0 := by omega
          clear hm5 h5
          by_cases hg0 : gs.length = 0
          · as_aux_lemma =>
            have hgi : ¬ ((0 : Int) < ((gs.length : Nat) : Int)) := by omega
            clear hg0
            go_wp2_with fail
            refine (hS.flush hi40').mono ?_
            rintro r u1 ⟨rfl, hS1⟩
            go_wp2_with fail
            go_meet
            case rel => exact ⟨nx, nx - 1, T, H, gs, held, A, rfl, hA, rfl, hh4, hhH, hS1.more⟩
          · as_aux_lemma =>
            have hgi : (0 : Int) < ((gs.length : Nat) : Int) := by omega
            obtain ⟨m, hm⟩ : ∃ m : Nat, (N : Int) / 5 % ((gs.length : Nat) : Int) = (m : Int) := ⟨N / 5 % gs.length, by push_cast; rfl⟩
            have hml : m < gs.length := by
              have := Int.emod_lt_of_pos ((N : Int) / 5) hgi
              omega
            go_wp2_with fail
            refine (hS.flush hi40').mono ?_
            rintro r u1 ⟨rfl, hS1⟩
            obtain ⟨g9, o9, cap9, e9, hg9, hcap, hcm, s1, s2, s3⟩ : ∃ g o cap, Value.slice a9 gs.length c9 = .slice (some ⟨g, o, none⟩) gs.length cap ∧ g < u1.heap.size ∧ gs.length ≤ cap ∧ cap ≤ maxLen ∧ u1.cell? ⟨g, o + m * 3, none⟩ = some (.int .i64 ((gs[m]'hml).seq : Int)) ∧ u1.cell? ⟨g, o + m * 3 + 1, none⟩ = some (.int .i64 ((gs[m]'hml).at_ : Int)) ∧ u1.cell? ⟨g, o + m * 3 + 2, none⟩ = some (.slice (gs[m]'hml).al (gs[m]'hml).n (gs[m]'hml).cl) := by
              obtain ⟨_, _, _, _, _, _, _, _, _, ln, _⟩ := hS1.ex
              exact ln.get hml
            injection e9 with e9a _ e9c
            subst e9a e9c
            go_upto_region 29 with fail
            simp only [hm]
            have hm0 : (0 : Int) ≤ (m : Int) := by omega
            have hmi : (m : Int) < ((gs.length : Nat) : Int) := by omega
            have hR1 := hS1.release hi40' m hml ((gs[m]'hml).seq : Int) rfl
            have HT : Hid (tot (gs.take (m + 1)) + tot (gs.drop (m + 1)) = tot gs) := tot_take gs (m + 1)
            generalize ((gs[m]'hml).seq : Int) = sq at s1 hR1
            clear hm s2 s3 hg0 hS hS1
            go_wp2_with fail
            refine hR1.mono ?_
            rintro r u2 ⟨rfl, hS2⟩
            replace hS2 := hS2 g9 o9 c9 rfl
            have HS2 : Hid (St w g dg i nx (nx - 1) ((T + tot (gs.take (m + 1))) % 16) H (gs.drop (m + 1)) (.slice (if c9 = m + 1 then some ⟨g9, o9, none⟩ else some ⟨g9, o9 + (m + 1) * 3, none⟩) (gs.length - (m + 1)) (c9 - (m + 1))) u2) := hS2
            have hcm' : c9 ≤ 9223372036854775807 := by unfold maxLen at hcm; omega
            clear hS2 hR1 s1 hcm
            go_wp2_with fail
            all_goals
              go_meet
              case rel =>
                refine ⟨nx, nx - 1, (T + tot (gs.take (m + 1))) % 16, H, gs.drop (m + 1), held, A, rfl, ?_, rfl, hh4, hhH, ?_⟩
                · have e1 := hA.out
                  have e2 := HT.out
                  show A = _
                  omega
                · have e := HS2.out.more
                  first
                    | have hcc : ¬ c9 = m + 1 := by omega
                      rw [if_neg hcc] at e
                      exact e
                    | have hcc : c9 = m + 1 := by omega
                      rw [if_pos hcc, hcc, Nat.sub_self] at e
                      exact e
        · as_aux_lemma =>
          have e5 : (N : Int) % 5 = 1 := by omega
          clear hm5 h5
          go_wp2_with fail
          refine (hS.reserve k hk1 hk4).mono ?_
          rintro r u1 ⟨e, rfl, (⟨rfl, hS1⟩ | ⟨rfl, _, hS1⟩)⟩
          · as_aux_lemma =>
            go_wp2_with fail
            go_meet
            case rel => exact ⟨nx, sy, T, H + (k + 1), gs, k, A, rfl, hA, rfl, hk4, fun _ => by omega, hS1.more⟩
          · as_aux_lemma =>
            go_wp2_with fail
            go_meet
            case rel => exact ⟨nx, sy, T, H, gs, held, A, rfl, hA, rfl, hh4, hhH, hS1.more⟩
        · as_aux_lemma =>
          have n0 : ¬ ((N : Int) % 5 = 0) := by omega
          have n1 : ¬ ((N : Int) % 5 = 1) := by omega
          clear hm5
          go_wp2_with fail
          refine (row_law k wr (by omega) (by omega)).mono ?_
          rintro r u1 ⟨b1, c1, rfl, hc1, bb1⟩
          replace hS := hS.below bb1
          clear bb1
          go_wp2_with fail
          refine (images_imf k N u1 b1 c1 hc1 (by omega) (by omega)).mono ?_
          rintro r u2 ⟨al, cl, rfl, hI, bb2⟩
          clear hc1
          by_cases hh : N % 5 = 2 ∧ 0 < held
          · as_aux_lemma =>
            obtain ⟨hh1, hh2⟩ := hh
            have e5 : (N : Int) % 5 = 2 := by omega
            have e6 : (0 : Int) < (held : Int) := by omega
            replace hS := hS.below bb2
            clear h5 n0 n1 bb2 hI
            go_wp2_with fail
            refine (row_law held u2 hh2 (by omega)).mono ?_
            rintro r u3 ⟨b3, c3, rfl, hc3, bb3⟩
            replace hS := hS.below bb3
            clear bb3
            go_wp2_with fail
            refine (images_imf held N u3 b3 c3 hc3 (by omega) (by omega)).mono ?_
            rintro r u4' ⟨al3, cl3, rfl, hI3, bb4⟩
            have hSI := hS.img hI3 bb4
            clear hc3 hI3 bb4 hS
            go_wp2_with fail
            refine (St.held held N al3 cl3 hSI hi40' hh2 hh4 (by omega) (by have := hhH hh2; omega)).mono ?_
            rintro r u5 ⟨rfl, hA5⟩
            clear hSI
            rw [← hA.out] at hA5
            have al5 := (Below.refl u5.heap.size u5).alloc (Nat.le_refl _) (.cells #[.int .i64 (nx : Int), .int .i64 (A : Int), .slice al3 held cl3] 34)
            obtain ⟨v', u6, hrun, hS6⟩ := (hA5.below al5).line u5.heap.size (Dk.Box.new u5 #[.int .i64 (nx : Int), .int .i64 (A : Int), .slice al3 held cl3] 34) (by omega) 28
            obtain ⟨a6, c6, hv6⟩ : ∃ a c, v' = .slice a (gs.length + 1) c := by
              obtain ⟨_, _, _, _, _, _, _, _, _, ln, _⟩ := hS6.ex
              obtain ⟨a, c, e⟩ := ln.val
              exact ⟨a, c, by rw [e, List.length_append, List.length_singleton]⟩
            rw [hv6] at hrun hS6
            have HS6 : Hid (St w g dg (i + 1) (nx + 1) sy T (H - (held + 1)) (gs ++ [(⟨nx, A, held, N, al3, cl3⟩ : G)]) (.slice a6 (gs.length + 1) c6) u6) := hS6
            clear hS6 hv6 hA5 al5
            go_wp2_with (at_builtin; refine wpList_append_ran rfl _ _ _ _ rfl (.slice a9 gs.length c9) (.slice (some ⟨u5.heap.size, 0, none⟩) 1 1) _ u6 rfl rfl hrun ?_)
            go_meet
            case rel =>
              refine ⟨nx + 1, sy, T, (H - (held + 1)), _, 0, (A + held + 1) % 16, congrArg (Value.int .i64) (by omega), ?_, rfl, (by omega), (fun h => by omega), HS6.out⟩
              have e1 := hA.out
              show (A + held + 1) % 16 = _
              rw [tot_snoc]
              show (A + held + 1) % 16 = (T + (tot gs + (held + 1))) % 16
              omega
          · as_aux_lemma =>
            have hne : ¬ (N : Int) % 5 = 2 ∨ ¬ (0 : Int) < (held : Int) := by
              by_cases h2 : N % 5 = 2
              · exact .inr (by omega)
              · exact .inl (by omega)
            have hSI := hS.img hI bb2
            clear hI bb2 hS h5 hh n0 n1
            by_cases hroom : tot gs + H + (k + 1) ≤ 16
            · as_aux_lemma =>
              have cA := St.append k N al cl hSI hi40' hk1 hk4 (by omega) hroom
              clear hSI
              rcases hne with e5 | e5
              · as_aux_lemma =>
                go_wp2_with fail
                refine cA.mono ?_
                rintro r u5 ⟨rfl, hA5⟩
                clear cA
                rw [← hA.out] at hA5
                have al5 := (Below.refl u5.heap.size u5).alloc (Nat.le_refl _) (.cells #[.int .i64 (nx : Int), .int .i64 (A : Int), .slice al k cl] 34)
                obtain ⟨v', u6, hrun, hS6⟩ := (hA5.below al5).line u5.heap.size (Dk.Box.new u5 #[.int .i64 (nx : Int), .int .i64 (A : Int), .slice al k cl] 34) (by omega) 28
                obtain ⟨a6, c6, hv6⟩ : ∃ a c, v' = .slice a (gs.length + 1) c := by
                  obtain ⟨_, _, _, _, _, _, _, _, _, ln, _⟩ := hS6.ex
                  obtain ⟨a, c, e⟩ := ln.val
                  exact ⟨a, c, by rw [e, List.length_append, List.length_singleton]⟩
                rw [hv6] at hrun hS6
                have HS6 : Hid (St w g dg (i + 1) (nx + 1) sy T H (gs ++ [(⟨nx, A, k, N, al, cl⟩ : G)]) (.slice a6 (gs.length + 1) c6) u6) := hS6
                clear hS6 hv6 hA5 al5
                go_wp2_with (at_builtin; refine wpList_append_ran rfl _ _ _ _ rfl (.slice a9 gs.length c9) (.slice (some ⟨u5.heap.size, 0, none⟩) 1 1) _ u6 rfl rfl hrun ?_)
                go_meet
                case rel =>
                  refine ⟨nx + 1, sy, T, H, _, held, (A + k + 1) % 16, congrArg (Value.int .i64) (by omega), ?_, rfl, hh4, hhH, HS6.out⟩
                  have e1 := hA.out
                  show (A + k + 1) % 16 = _
                  rw [tot_snoc]
                  show (A + k + 1) % 16 = (T + (tot gs + (k + 1))) % 16
                  omega
              · as_aux_lemma =>
                go_wp2_with fail
                all_goals
                  refine cA.mono ?_
                  rintro r u5 ⟨rfl, hA5⟩
                  clear cA
                  rw [← hA.out] at hA5
                  have al5 := (Below.refl u5.heap.size u5).alloc (Nat.le_refl _) (.cells #[.int .i64 (nx : Int), .int .i64 (A : Int), .slice al k cl] 34)
                  obtain ⟨v', u6, hrun, hS6⟩ := (hA5.below al5).line u5.heap.size (Dk.Box.new u5 #[.int .i64 (nx : Int), .int .i64 (A : Int), .slice al k cl] 34) (by omega) 28
                  obtain ⟨a6, c6, hv6⟩ : ∃ a c, v' = .slice a (gs.length + 1) c := by
                    obtain ⟨_, _, _, _, _, _, _, _, _, ln, _⟩ := hS6.ex
                    obtain ⟨a, c, e⟩ := ln.val
                    exact ⟨a, c, by rw [e, List.length_append, List.length_singleton]⟩
                  rw [hv6] at hrun hS6
                  have HS6 : Hid (St w g dg (i + 1) (nx + 1) sy T H (gs ++ [(⟨nx, A, k, N, al, cl⟩ : G)]) (.slice a6 (gs.length + 1) c6) u6) := hS6
                  clear hS6 hv6 hA5 al5
                  go_wp2_with (at_builtin; refine wpList_append_ran rfl _ _ _ _ rfl (.slice a9 gs.length c9) (.slice (some ⟨u5.heap.size, 0, none⟩) 1 1) _ u6 rfl rfl hrun ?_)
                  go_meet
                  case rel =>
                    refine ⟨nx + 1, sy, T, H, _, held, (A + k + 1) % 16, congrArg (Value.int .i64) (by omega), ?_, rfl, hh4, hhH, HS6.out⟩
                    have e1 := hA.out
                    show (A + k + 1) % 16 = _
                    rw [tot_snoc]
                    show (A + k + 1) % 16 = (T + (tot gs + (k + 1))) % 16
                    omega
            · as_aux_lemma =>
              have hSt := hSI.st
              have him : Rc.Imgs u2 al (grpL N k) := by
                obtain ⟨⟨_, _, _, h⟩, _⟩ := hSI
                exact h.imgs
              have cA := St.full hSt hi40' k N al cl hk1 hk4 him hroom
              clear hSI hSt him
              rcases hne with e5 | e5
              · as_aux_lemma =>
                go_wp2_with fail
                refine cA.mono ?_
                rintro r u5 ⟨rfl, hA5⟩
                clear cA
                go_wp2_with fail
                go_meet
                case rel => exact ⟨nx, sy, T, H, gs, held, A, rfl, hA, rfl, hh4, hhH, hA5.more⟩
              · as_aux_lemma =>
                go_wp2_with fail
                all_goals
                  refine cA.mono ?_
                  rintro r u5 ⟨rfl, hA5⟩
                  clear cA
                  go_wp2_with fail
                  go_meet
                  case rel => exact ⟨nx, sy, T, H, gs, held, A, rfl, hA, rfl, hh4, hhH, hA5.more⟩
      case rest =>
       as_aux_lemma =>
        obtain ⟨nx, sy, T, H, gs, held, A, rfl, hA, rfl, hh4, hhH, hS⟩ := hcut
        obtain ⟨a9, c9, rfl⟩ : ∃ a c, u9 = .slice a gs.length c := by
          obtain ⟨_, _, _, _, _, _, _, _, _, ln, _⟩ := hS.ex
          exact ln.val
        have hi41 : i + 1 ≤ 40 := by omega
        clear hR hm5
        go_upto_region 35 with fail
        go_cut [147] from 141 to 146 (fun v u => v = .bool (decide (N % 5 = 1 ∧ 0 < held)) ∧ St w g dg (i + 1) nx sy T H gs (.slice a9 gs.length c9) u)
        case first =>
          by_cases h5 : N % 5 = 1
          · have e5 : (N : Int) % 5 = 1 := by omega
            by_cases hh : 0 < held
            · as_aux_lemma =>
              have e6 : (0 : Int) < (held : Int) := by omega
              go_wp2_with fail
              go_meet
              case rel => exact ⟨by rw [decide_eq_true ⟨h5, hh⟩], hS⟩
            · as_aux_lemma =>
              have e6 : ¬ (0 : Int) < (held : Int) := by omega
              go_wp2_with fail
              go_meet
              case rel => exact ⟨by rw [decide_eq_false (fun h => hh h.2)], hS⟩
          · have e5 : ¬ (N : Int) % 5 = 1 := by omega
            go_wp2_with fail
            go_meet
            case rel => exact ⟨by rw [decide_eq_false (fun h => h5 h.1)], hS⟩
        case rest =>
          clear hS
          obtain ⟨rfl, hS⟩ := hcut
          go_upto_if 147 with fail
          go_cut [10] from 141 to 224 (fun v10 u => ∃ (H' : Nat) (hd' : Nat), v10 = .int .i64 (hd' : Int) ∧ hd' ≤ 4 ∧ (0 < hd' → hd' + 1 ≤ H') ∧ St w g dg (i + 1) nx sy T H' gs (.slice a9 gs.length c9) u)
          case first =>
            by_cases hc : N % 5 = 1 ∧ 0 < held
            · as_aux_lemma =>
              simp only [decide_eq_true hc]
              obtain ⟨h5, hh⟩ := hc
              have hS0 := hS
              go_wp2_with fail
              go_loopw [151] (fun _ u => ∃ H', St w g dg (i + 1) nx sy T H' gs (.slice a9 gs.length c9) u) (fun _ u => hOf g u)
              case atStart => exact ⟨H, hS0⟩
              case round =>
                clear hS hS0
                obtain ⟨H', hS'⟩ := hrel
                have hm' := hS'.hcell
                go_wp2_with fail
                refine (hS'.cancel held hh hh4).mono ?_
                rintro r u1 ⟨e, rfl, (⟨rfl, hle, hS1⟩ | ⟨rfl, hlt', hS1⟩)⟩
                · as_aux_lemma =>
                  have hm1 := hS1.hcell
                  go_wp2_with fail
                  go_roundw
                  case rel => exact ⟨_, hS1⟩
                  case measure => rw [hm', hm1]; omega
                · as_aux_lemma =>
                  clear hS'
                  go_wp2_with fail
                  refine (hS1.reserve held hh hh4).mono ?_
                  rintro r u2 ⟨e, rfl, (⟨rfl, hS2⟩ | ⟨rfl, _, hS2⟩)⟩
                  · as_aux_lemma =>
                    go_wp2_with fail
                    go_meet
                    case rel => exact ⟨_, held, rfl, hh4, fun _ => by omega, hS2⟩
                  · as_aux_lemma =>
                    go_wp2_with fail
                    go_meet
                    case rel => exact ⟨_, 0, rfl, by omega, fun h => by omega, hS2⟩
            · as_aux_lemma =>
              simp only [decide_eq_false hc]
              go_wp2_with fail
              go_meet
              case rel => exact ⟨H, held, rfl, hh4, hhH, hS⟩
          case rest =>
            clear hS
            obtain ⟨H', hd', rfl, hd4, hdH, hS⟩ := hcut
            have hS0 := hS
            go_wp2_with fail
            go_loopw [18] (fun v18 u => ∃ m : Nat, m ≤ gs.length ∧ v18 = .int .i64 (m : Int) ∧ St w g dg (i + 1) nx sy T H' gs (.slice a9 gs.length c9) u) (fun v18 _ => gs.length - (intOf v18).toNat)
            case atStart => exact ⟨0, Nat.zero_le _, rfl, hS0⟩
            case round =>
              clear hS hS0
              obtain ⟨m, hm, rfl, hS⟩ := hrel
              by_cases hlt' : m < gs.length
              · as_aux_lemma =>
                obtain ⟨Q, hQ⟩ : ∃ Q, Q = (gs[m]'hlt') := ⟨_, rfl⟩
                obtain ⟨ch1, ch2, ch3, ch4, _⟩ := chain_at gs T _ m hlt' hS.chain
                rw [← hQ] at ch1 ch2 ch3 ch4
                have hm50 : m < 50 := by have := hS.nlen; have := hS.nxi; omega
                have hqa : Q.at_ < 16 := by rw [ch2]; exact Nat.mod_lt _ (by decide)
                obtain ⟨g9, o9, cap9, e9, hg9, hcap, hcm, s1, s2, s3⟩ : ∃ g o cap, Value.slice a9 gs.length c9 = .slice (some ⟨g, o, none⟩) gs.length cap ∧ g < wr.heap.size ∧ gs.length ≤ cap ∧ cap ≤ maxLen ∧ wr.cell? ⟨g, o + m * 3, none⟩ = some (.int .i64 (Q.seq : Int)) ∧ wr.cell? ⟨g, o + m * 3 + 1, none⟩ = some (.int .i64 (Q.at_ : Int)) ∧ wr.cell? ⟨g, o + m * 3 + 2, none⟩ = some (.slice Q.al Q.n Q.cl) := by
                  obtain ⟨_, _, _, _, _, _, _, _, _, ln, _⟩ := hS.ex
                  rw [hQ]
                  exact ln.get hlt'
                injection e9 with e9a _ e9c
                subst e9a e9c
                have HC : Hid (∀ u, Below wr.heap.size wr u → u.cell? ⟨g9, o9 + m * 3, none⟩ = some (.int .i64 (Q.seq : Int)) ∧ u.cell? ⟨g9, o9 + m * 3 + 1, none⟩ = some (.int .i64 (Q.at_ : Int)) ∧ u.cell? ⟨g9, o9 + m * 3 + 2, none⟩ = some (.slice Q.al Q.n Q.cl)) := fun u bu =>
                  ⟨(bu.cell (p := ⟨g9, o9 + m * 3, none⟩) hg9).trans s1, (bu.cell (p := ⟨g9, o9 + m * 3 + 1, none⟩) hg9).trans s2, (bu.cell (p := ⟨g9, o9 + m * 3 + 2, none⟩) hg9).trans s3⟩
                have HRd : Hid (∀ (u : World) (b : Nat) (P : Int), St w g dg (i + 1) nx sy T H' gs (.slice (some ⟨g9, o9, none⟩) gs.length c9) u → b ≤ Q.n → P = ((2 + (Q.at_ + b) % 16 : Nat) : Int) → Calls Tryz.prog 13 #[.pointer (some ⟨dg, 0, none⟩), .int .i64 P] u fun r u' => ∃ gr cr, r = .returned (.tuple #[.slice (some ⟨gr, 0, none⟩) 4096 cr, .int .i64 0]) ∧ u.heap.size ≤ gr ∧ Rc.RowB u' gr cr ((Rc.putL 1 Q.seq (grpL Q.N Q.n)).getD b []) ∧ Below u.heap.size u u') := fun u b P hu hb hP => by
                  subst hQ
                  exact hu.read (by omega) m hlt' b hb P hP
                have HIm : Hid (∀ u : World, St w g dg (i + 1) nx sy T H' gs (.slice (some ⟨g9, o9, none⟩) gs.length c9) u → Rc.Imgs u Q.al (grpL Q.N Q.n)) := fun u hu => by
                  obtain ⟨⟨_, _, _, _, _, _, _, _, _, _, im, _⟩, _⟩ := hu
                  exact (im Q (by rw [hQ]; exact List.getElem_mem hlt')).imgs
                have hseq : 1 ≤ Q.seq ∧ Q.seq ≤ 50 := by have := hS.nlen; have := hS.nxi; omega
                have HOk : Hid (Rc.okGroup ((1 : Nat) : Int) ((Q.seq : Nat) : Int) (grpL Q.N Q.n)) := grpL_ok _ _ Q.N Q.n ch3.1 (by omega) (by rw [Rc.okStamp_iff]; omega)
                have HPl : Hid ((Rc.putL 1 Q.seq (grpL Q.N Q.n)).length = Q.n + 1 ∧ ∀ x ∈ Rc.putL 1 Q.seq (grpL Q.N Q.n), x.length = 4096) := ⟨by rw [Rc.putL_length, grpL_length], fun x hx => Rc.putL_len HOk.out x hx⟩
                have HGet : Hid (∀ (u : World) (a : Option Addr) (cc : Nat), Rc.Lsts u a (Rc.putL 1 Q.seq (grpL Q.N Q.n)) → Calls Tryz.prog 14 #[.slice a (Q.n + 1) cc] u fun r w' => ∃ a9 c9, r = .returned (.tuple #[.agg #[.int .i64 1, .int .i64 (Q.seq : Int), .slice a9 Q.n c9], .int .i64 0]) ∧ Rc.Imgs w' a9 (grpL Q.N Q.n) ∧ Below u.heap.size u w') := fun u a cc hL =>
                  Rc.get_put 1 Q.seq (grpL Q.N Q.n) a Q.n (Q.n + 1) cc u HOk.out (grpL_length _ _) rfl hL
                obtain ⟨PL, hPL⟩ : ∃ l, l = Rc.putL 1 Q.seq (grpL Q.N Q.n) := ⟨_, rfl⟩
                rw [← hPL] at HRd HPl HGet
                obtain ⟨IM, hIM⟩ : ∃ l, l = grpL Q.N Q.n := ⟨_, rfl⟩
                have HIl : Hid (IM.length = Q.n) := by rw [hIM]; exact grpL_length _ _
                rw [← hIM] at HIm HGet
                generalize Q.at_ = qa at *
                generalize Q.seq = qs' at *
                generalize Q.n = qn at *
                generalize Q.al = qal at *
                generalize Q.cl = qcl at *
                clear hPL hIM HOk hQ ch1 ch2 ch4 s1 s2 s3 hcm
                have hm0 : (0 : Int) ≤ (m : Int) := by omega
                have hmi : (m : Int) < ((gs.length : Nat) : Int) := by omega
                have HS0 : Hid (St w g dg (i + 1) nx sy T H' gs (.slice (some ⟨g9, o9, none⟩) gs.length c9) wr) := hS
                clear hS
                generalize wr = w4 at HC HS0 hg9 ⊢
                obtain ⟨i0, hi0, hz0, hz1, hz2⟩ := info_parts Rc.info31
                go_wp2_with fail
                go_loopw [19, 20] (fun v19 v20 u => ∃ (b : Nat) (qs : List Rc.GG), b ≤ qn + 1 ∧ v20 = .int .i64 (b : Int) ∧ u.ownsRow w4.heap.size 40 1 v19 b (Rc.lstC qs) ∧ Rc.GetJ w4.heap.size u qs ∧ qs.map Rc.GG.xs = PL.take b ∧ Below w4.heap.size w4 u) (fun _ v20 _ => qn + 1 - (intOf v20).toNat)
                case atStart => exact ⟨0, [], Nat.zero_le _, rfl, World.ownsRow_nil _ _ _ _, ⟨fun p hp => (by cases hp), List.nodup_nil⟩, rfl, Below.refl _ _⟩
                case round =>
                  obtain ⟨bb, qs, hb, rfl, hown, hJ, hq, B⟩ := hrel
                  have HJ : Hid (Rc.GetJ w4.heap.size wr qs) := hJ
                  have HQ : Hid (qs.map Rc.GG.xs = PL.take bb) := hq
                  obtain ⟨av, cv, rfl⟩ := Rc.owns_shape hown
                  obtain ⟨s1, s2, s3⟩ := HC.out wr B
                  have hS := HS0.out.below B
                  clear hJ hq
                  by_cases hlt4 : bb < qn + 1
                  · as_aux_lemma =>
                    have hle4 : (bb : Int) ≤ (qn : Int) := by omega
                    have cR := HRd.out wr bb (2 + ((qa : Int) + (bb : Int)) % 16) hS (by omega) (by push_cast; rfl)
                    have HX : Hid ((PL.getD bb []).length = 4096 ∧ PL.take (bb + 1) = PL.take bb ++ [PL.getD bb []]) := by
                      have hlp : bb < PL.length := by rw [HPl.out.1]; exact hlt4
                      have e : PL.getD bb [] = PL[bb] := by simp [List.getD, hlp]
                      rw [e]
                      exact ⟨HPl.out.2 _ (List.getElem_mem hlp), List.take_succ_eq_append_getElem hlp⟩
                    generalize PL.getD bb [] = X at cR HX
                    have HOWN : Hid (wr.ownsRow w4.heap.size 40 1 (.slice av bb cv) bb (Rc.lstC qs)) := hown
                    have hq50 : qn ≤ 4 := ch3.2
                    clear hS s1 hown
                    go_wp2_with fail
                    refine cR.mono ?_
                    rintro r u1 ⟨gr, cr, rfl, hgr, hrow, bb1⟩
                    clear cR
                    have O1 : Hid (u1.ownsRow w4.heap.size 40 1 (.slice av bb cv) bb (Rc.lstC qs)) := Rc.owns_below HOWN.out bb1
                    have own1 := (O1.out).alloc (.cells #[.slice (some ⟨gr, 0, none⟩) 4096 cr] 40)
                    have B1 := B.trans (bb1.mono B.size)
                    have J1 : Hid (Rc.GetJ w4.heap.size u1 (qs ++ [⟨0, X, gr, cr⟩])) := HJ.out.snoc bb1 ⟨0, X, gr, cr⟩ hrow hgr HX.out.1 B.size
                    clear bb1 hrow
                    have z1 := B1.size
                    go_wp2_with (at_builtin; refine wpList_append_own _ rfl _ _ 39 rfl w4.heap.size 40 i0 (.slice none 0 0) 1 24 Tryz.underlying39 hi0 hz0 hz1 hz2 rfl (by decide) _ bb _ rfl own1 ⟨u1.heap.size, 0, none⟩ 1 1 [.slice (some ⟨gr, 0, none⟩) 4096 cr] rfl rfl ?c1 ?c2 ?c3 ?c4 ?c5 ?_)
                    case c1 =>
                      intro i u hi'
                      match i, hi' with
                      | 0, hi' => simp at hi'; subst hi'; simp [Addr.add]
                    case c2 => intro u hu; simp at hu; subst hu; rfl
                    case c3 => unfold maxLen; omega
                    case c4 => omega
                    case c5 => simp; omega
                    · intro v' u2 hown2 hgrow _
                      have al1 := (Below.refl u1.heap.size u1).alloc (Nat.le_refl _) (.cells #[.slice (some ⟨gr, 0, none⟩) 4096 cr] 40)
                      have B2 : Below w4.heap.size w4 u2 := (B1.alloc z1 _).grown hgrow (by simp; omega) (fun k hk => (O1.out.lt k hk).1)
                      have J2 : Rc.GetJ w4.heap.size u2 (qs ++ [⟨0, X, gr, cr⟩]) := (J1.out.below al1).grown own1 (by decide) hgrow
                      clear hgrow own1 al1
                      go_wp2_with fail
                      go_roundw
                      case rel => exact ⟨bb + 1, qs ++ [⟨0, X, gr, cr⟩], by omega, by push_cast; rfl, by simpa [Rc.lstC] using hown2, J2, by rw [List.map_append, HQ.out, HX.out.2]; rfl, B2⟩
                      case measure => simp [intOf]; omega
                  · as_aux_lemma =>
                    obtain rfl : bb = qn + 1 := by omega
                    have hql : qs.length = qn + 1 := by
                      have := congrArg List.length HQ.out
                      rw [List.length_map, List.length_take, HPl.out.1] at this
                      omega
                    have hLs := Rc.lsts_of hown HJ.out hql
                    rw [HQ.out, List.take_of_length_le (by rw [HPl.out.1]; exact Nat.le_refl _)] at hLs
                    have cG := HGet.out wr av cv hLs
                    have hgt4 : ¬ ((qn + 1 : Nat) : Int) ≤ (qn : Int) := by omega
                    clear hown hLs hql hlt4 hb
                    go_wp2_with fail
                    refine cG.mono ?_
                    rintro r u1 ⟨a7, c7, rfl, hI7, bb1⟩
                    have B1 := B.trans (bb1.mono B.size)
                    have al := (Below.refl u1.heap.size u1).alloc (Nat.le_refl _) (.cells #[.int .i64 1, .int .i64 (qs' : Int), .slice a7 qn c7] 44)
                    have B2 := B1.trans (al.mono B1.size)
                    have x2 := Dk.Box.new u1 #[.int .i64 1, .int .i64 (qs' : Int), .slice a7 qn c7] 44
                    have HS51 : Hid (∀ u, Below (u1.alloc (.cells #[.int .i64 1, .int .i64 (qs' : Int), .slice a7 qn c7] 44)).heap.size (u1.alloc (.cells #[.int .i64 1, .int .i64 (qs' : Int), .slice a7 qn c7] 44)) u → u.cell? ⟨u1.heap.size, 0, none⟩ = some (.int .i64 1) ∧ u.cell? ⟨u1.heap.size, 1, none⟩ = some (.int .i64 (qs' : Int)) ∧ u.cell? ⟨u1.heap.size, 2, none⟩ = some (.slice a7 qn c7) ∧ u.cell? ⟨g9, o9 + m * 3, none⟩ = some (.int .i64 (qs' : Int)) ∧ u.cell? ⟨g9, o9 + m * 3 + 2, none⟩ = some (.slice qal qn qcl)) := fun u bu => by
                      obtain ⟨t1, _, t3⟩ := HC.out u (B2.trans (bu.mono B2.size))
                      have y := x2.below bu
                      exact ⟨y.cell 0, y.cell 1, y.cell 2, t1, t3⟩
                    have cS := Rc.sameImages_at a7 qal qn c7 qn qcl IM IM (u1.alloc (.cells #[.int .i64 1, .int .i64 (qs' : Int), .slice a7 qn c7] 44)).drew HIl.out HIl.out (by omega) ((hI7.below al).below ((Below.refl _ (u1.alloc (.cells #[.int .i64 1, .int .i64 (qs' : Int), .slice a7 qn c7] 44))).drew)) (HIm.out _ (HS0.out.below B2.drew))
                    rw [decide_eq_true rfl] at cS
                    clear cG bb1 hI7 al x2 B1 B s1 s2 s3 hS HJ HQ
                    go_upto_region 51 with fail
                    go_region_held3 (fun u => u.cell? ⟨u1.heap.size, 0, none⟩ = some (.int .i64 1) ∧ u.cell? ⟨u1.heap.size, 1, none⟩ = some (.int .i64 (qs' : Int)) ∧ u.cell? ⟨u1.heap.size, 2, none⟩ = some (.slice a7 qn c7) ∧ u.cell? ⟨g9, o9 + m * 3, none⟩ = some (.int .i64 (qs' : Int)) ∧ u.cell? ⟨g9, o9 + m * 3 + 2, none⟩ = some (.slice qal qn qcl))
                      (first | with_reducible exact HS51.out _ ((Below.refl _ (u1.alloc (.cells #[.int .i64 1, .int .i64 (qs' : Int), .slice a7 qn c7] 44))).drew) | with_reducible exact HS51.out _ B7)
                      (first
                        | (go_at_call 15; refine Calls.mono cS ?_; rintro r u7 ⟨rfl, hw7⟩; have B7 : Below (u1.alloc (.cells #[.int .i64 1, .int .i64 (qs' : Int), .slice a7 qn c7] 44)).heap.size (u1.alloc (.cells #[.int .i64 1, .int .i64 (qs' : Int), .slice a7 qn c7] 44)) u7 := ((Below.refl _ (u1.alloc (.cells #[.int .i64 1, .int .i64 (qs' : Int), .slice a7 qn c7] 44))).drew).trans hw7))
                    have B8 := B2.trans (B7.mono B2.size)
                    clear cS HS51 B7 hw7
                    go_wp2_with fail
                    go_roundw
                    case rel => exact ⟨m + 1, by omega, by push_cast; rfl, HS0.out.below B8⟩
                    case measure => simp [intOf]; omega
              · as_aux_lemma =>
                obtain rfl : m = gs.length := by omega
                go_wp2_with fail
                go_roundw
                case rel => exact ⟨i + 1, by omega, by omega, by push_cast; rfl, nx, sy, T, H', gs, hd', A, rfl, hA, rfl, hd4, hdH, hS⟩
                case measure => simp [intOf]; omega
    · have hB : Below w.heap.size w wr := by obtain ⟨_, _, _, _, _, _, _, _, _, _, _, _, h⟩ := hR; exact h.bel
      clear hR
      by_cases e1 : (i : Int) < (n : Int)
      · have e2 : ¬ (i : Int) < 40 := by omega
        clear hgo
        go_wp2_with fail
        refine (HA.out _).mono ?_
        rintro r w3 ⟨rfl, b3⟩
        go_wp2_with fail
        go_ret
        exact ⟨rfl, hB.trans (b3.mono hB.size)⟩
      · clear hgo
        go_wp2_with fail
        refine (HA.out _).mono ?_
        rintro r w3 ⟨rfl, b3⟩
        go_wp2_with fail
        go_ret
        exact ⟨rfl, hB.trans (b3.mono hB.size)⟩
end Go.Proofs.YtglahlbponlepaaGreat.J
