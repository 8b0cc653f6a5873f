/-
  SetsUndo's walk.
-/
import Derived.Test.YtdlhgamepfcahaaUndoS
namespace Go.Proofs.Ytdlhgamepfcahaa
open Go.RowKit Go.Maps
theorem RdOps.all {w : World} {a0 : Option Addr} {os : List Op4} (hr : RdOps w a0 os) : ∀ u, Below w.heap.size w u → RdOps u a0 os := fun u hu hp => by
  obtain ⟨b, o, e, hc⟩ := hr hp
  refine ⟨b, o, e, fun j hj => ?_⟩
  obtain ⟨c0, c1, c2, c3⟩ := hc j hj
  have hb : b < w.heap.size := block_lt_of_cell c0
  refine ⟨?_, ?_, ?_, ?_⟩
  · rw [hu.cell (p := ⟨b, o + j * 4, none⟩) hb]; exact c0
  · rw [hu.cell (p := ⟨b, o + j * 4 + 1, none⟩) hb]; exact c1
  · rw [hu.cell (p := ⟨b, o + j * 4 + 2, none⟩) hb]; exact c2
  · rw [hu.cell (p := ⟨b, o + j * 4 + 3, none⟩) hb]; exact c3
theorem row_at {u : World} {B n c : Nat} {a : Option Addr} {l : List Int} (h : u.ownsRow B 3 1 (.slice a n c) l.length (zcs l)) (k : Nat) (hk : k < l.length) : ∃ g, a = some ⟨g, 0, none⟩ ∧ u.cell? ⟨g, k, none⟩ = some (.int .i64 l[k]) := by
  obtain ⟨g, cap, e, hc⟩ := ownsRow_cell h k hk
  injection e with e
  exact ⟨g, e, by rw [hc]; simp [zcs, encI, hk]⟩
def vals (W : List (Int × Int)) (l : List Int) : List Int := l.map fun x => (gt W x).getD 0
set_option maxRecDepth 100000 in
set_option maxHeartbeats 16000000 in
theorem undoL_at (a0 : Option Addr) (n0 c0 : Nat) (xs : List Op4) (a1 : Option Addr) (n1 c1 : Nat) (ys : List Op4) (w : World) (hl0 : xs.length = n0) (hr0 : RdOps w a0 xs) (hn0 : n0 ≤ c0 ∧ c0 ≤ 9223372036854775807) (hl1 : ys.length = n1) (hr1 : RdOps w a1 ys) (hn1 : n1 ≤ c1 ∧ c1 ≤ 9223372036854775807) :
    Calls Try.prog 5 #[.slice a0 n0 c0, .slice a1 n1 c1] w fun r w' => r = .returned (.bool true) ∧ Below w.heap.size w w' := by
  have HA : Hid (xs.length = n0 ∧ (∀ u, Below w.heap.size w u → RdOps u a0 xs) ∧ n0 ≤ 9223372036854775807) := ⟨hl0, hr0.all, by omega⟩
  have HY : Hid (ys.length = n1 ∧ (∀ u, Below w.heap.size w u → RdOps u a1 ys)) := ⟨hl1, hr1.all⟩
  have hc1 : (n1 : Int) ≤ (c1 : Int) := by omega
  have hc2 : (c1 : Int) ≤ 9223372036854775807 := by omega
  clear hl0 hr0 hn0 hl1 hr1 hn1
  have cN := new_at w
  unfold ptr at cN
  go_enter Try.func5, Try.ntmps5
  go_wp2_with fail
  refine Calls.mono cN ?_
  rintro e w1 ⟨g, rfl, -, i1, b1⟩
  clear cN
  have s1 : Sd w w1 g ⟨[], [], []⟩ [] := ⟨_, i1, (fun p hp => by cases hp), b1⟩
  clear i1 b1
  have c := s1.play true a0 n0 c0 xs HA.out.1 HA.out.2.1 HA.out.2.2
  clear s1
  generalize (SS.play (⟨[], [], []⟩ : SS Int) true (xs.take 200)) = S1 at c
  unfold ptr at c
  go_wp2_with fail
  refine Calls.mono c ?_
  rintro e w2 ⟨rfl, s2⟩
  clear c HA
  have H2 : Hid (Sd w w2 g S1 []) := s2
  clear s2
  go_wp2_with fail
  go_loopw [31] (fun _ u => ∃ S, Sd w u g S []) (fun _ u => dep u g)
  case atStart => exact ⟨_, H2.out⟩
  case round =>
    obtain ⟨S0, s3⟩ := hrel
    clear H2
    obtain ⟨w3, hw3⟩ : ∃ w3, w3 = wr := ⟨_, rfl⟩
    subst hw3
    have H3 : Hid (Sd w w3 g S0 []) := s3
    have cD := s3.depth
    have hd8 := s3.gd.2.2
    unfold ptr at cD
    clear s3
    by_cases h8 : S0.M.length = 8
    · have c := H3.out.keep
      unfold ptr at c
      have hk : Hid (S0.keep.2.M.length + 1 = S0.M.length) := by
        unfold Hid SS.keep
        rw [if_neg (by omega)]
        show S0.M.dropLast.length + 1 = _
        rw [List.length_dropLast]; omega
      rw [h8] at cD
      go_wp2_with fail
      refine Calls.mono cD ?_
      rintro e wz ⟨rfl, hz⟩
      subst wz
      go_wp2_with fail
      refine Calls.mono c ?_
      rintro e w4 ⟨rfl, s4⟩
      go_wp2
      go_roundw
      case rel => exact ⟨_, s4⟩
      case measure =>
        rw [s4.dep, H3.out.dep]
        have := hk.out
        omega
    · obtain ⟨d, hd⟩ : ∃ d, d = S0.M.length := ⟨_, rfl⟩
      have HD : Hid (d = S0.M.length) := hd
      rw [← hd] at cD h8 hd8
      have h8' : ¬ (d : Int) = 8 := by omega
      have hd7 : (d : Int) ≤ 7 := by omega
      clear hd
      have cM := H3.out.mark
      have eM : S0.mark = (0, { S0 with M := S0.M ++ [S0.W] }) := by unfold SS.mark; rw [if_neg (by rw [← HD.out]; omega)]
      rw [eM] at cM
      unfold ptr at cM
      go_wp2_with fail
      refine Calls.mono cD ?_
      rintro e wz ⟨rfl, hz⟩
      subst wz
      go_wp2_with fail
      refine Calls.mono cD ?_
      rintro e wz ⟨rfl, hz⟩
      subst wz
      go_wp2_with fail
      refine Calls.mono cM ?_
      rintro e w4 ⟨rfl, s4⟩
      clear cM cD eM H3
      have c := s4.writes
      clear s4
      unfold ptr at c
      go_wp2_with fail
      refine Calls.mono c ?_
      rintro e w5 ⟨v7, rfl, s5⟩
      clear c
      have c := s5.reads
      clear s5
      unfold ptr at c
      go_wp2_with fail
      refine Calls.mono c ?_
      rintro e w6 ⟨v8, rfl, s6⟩
      clear c
      try dsimp only at s6
      have qv7 : ∃ a c, v7 = .slice a (srt (kys S0.W)).length c := ownsRow_slice (s6.own (p := (v7, srt (kys S0.W))) (by simp))
      obtain ⟨a7, c7, rfl⟩ := qv7
      have qv8 : ∃ a c, v8 = .slice a (srt (kys S0.R)).length c := ownsRow_slice (s6.own (p := (v8, srt (kys S0.R))) (by simp))
      obtain ⟨a8, c8, rfl⟩ := qv8
      try dsimp only at s6
      obtain ⟨l7, hl7⟩ : ∃ l, l = srt (kys S0.W) := ⟨_, rfl⟩
      obtain ⟨l8, hl8⟩ : ∃ l, l = srt (kys S0.R) := ⟨_, rfl⟩
      rw [← hl7, ← hl8] at s6
      have HG : Hid (l7.length ≤ 256 ∧ l8.length ≤ 256 ∧ (∀ x ∈ l7, (Lit.int .i64 x).wf = true ∧ (gt S0.W x).isSome = true) ∧ (∀ x ∈ l8, (Lit.int .i64 x).wf = true ∧ (gt S0.R x).isSome = true) ∧ l7 = srt (kys S0.W)) := by
        have G := s6.gd
        refine ⟨by rw [hl7, srt_len, kys_len]; exact G.2.1.le, by rw [hl8, srt_len, kys_len]; exact G.1.le, fun x hx => ?_, fun x hx => ?_, hl7⟩
        · rw [hl7, srt_mem] at hx
          exact ⟨cell_wf (G.2.1.cl x hx), (gt_some_iff _ _).1 hx⟩
        · rw [hl8, srt_mem] at hx
          exact ⟨cell_wf (G.1.cl x hx), (gt_some_iff _ _).1 hx⟩
      rw [← hl7, ← hl8]
      obtain ⟨n7, hn7⟩ : ∃ n, n = l7.length := ⟨_, rfl⟩
      obtain ⟨n8, hn8⟩ : ∃ n, n = l8.length := ⟨_, rfl⟩
      have h7le : n7 ≤ 256 := by rw [hn7]; exact HG.out.1
      have h8le : n8 ≤ 256 := by rw [hn8]; exact HG.out.2.1
      rw [← hn7, ← hn8] at s6 ⊢
      have HN : Hid (n7 = l7.length ∧ n8 = l8.length) := ⟨hn7, hn8⟩
      clear hl7 hl8 hn7 hn8
      have H6 : Hid (Sd w w6 g { S0 with M := S0.M ++ [S0.W] } [(.slice a8 n8 c8, l8), (.slice a7 n7 c7, l7)]) := s6
      clear s6
      obtain ⟨i0, hi0, hz0, hz1, hz2⟩ := info_parts infoI
      go_wp2_with fail
      go_loopw [46, 9] (fun i v u => ∃ k : Nat, k ≤ n7 ∧ i = .int .i64 (k : Int) ∧ u.ownsRow w6.heap.size 3 1 v k (zcs (vals S0.W (l7.take k))) ∧ Below w6.heap.size w6 u) (fun i _ _ => n7 - (iv i).toNat)
      case atStart => exact ⟨0, Nat.zero_le _, rfl, ⟨rfl, .inl ⟨rfl, rfl⟩⟩, Below.refl _ _⟩
      case round =>
        obtain ⟨k, hk, rfl, hrow, hb⟩ := hrel
        obtain ⟨w7, hw7⟩ : ∃ w7, w7 = wr := ⟨_, rfl⟩
        subst hw7
        obtain ⟨a9, c9, rfl⟩ := ownsRow_slice hrow
        have s7 := H6.out.below hb
        by_cases hlt : k < n7
        · have hki : (k : Int) < (n7 : Int) := by omega
          have hk7 : k < l7.length := by rw [← HN.out.1]; exact hlt
          have o7 := s7.own (p := (.slice a7 n7 c7, l7)) (by simp)
          obtain ⟨q7, rfl, x7⟩ := row_at o7 k hk7
          have cV := s7.value l7[k] (HG.out.2.2.1 _ (List.getElem_mem hk7)).1
          have hst : Hid (vals S0.W (l7.take (k + 1)) = vals S0.W (l7.take k) ++ [(gt S0.W l7[k]).getD 0]) := by
            unfold Hid vals
            rw [List.take_succ_eq_append_getElem hk7, List.map_append]
            rfl
          dsimp only at cV
          generalize l7[k] = x at *
          generalize (gt S0.W x).getD 0 = z at *
          generalize (gt S0.W x).isSome = zb at *
          unfold ptr at cV
          have HRow : Hid (w7.ownsRow w6.heap.size 3 1 (.slice a9 k c9) k (zcs (vals S0.W (l7.take k)))) := hrow
          have HBl : Hid (Below w6.heap.size w6 w7) := hb
          have hsz : Hid (w6.heap.size ≤ w7.heap.size) := hb.size
          clear hrow hb s7 o7
          go_wp2_with fail
          refine Calls.mono cV ?_
          rintro e wz ⟨rfl, hz⟩
          subst wz
          clear cV
          go_wp2_with (first
            | (at_builtin; refine wpList_append_own _ rfl _ _ 37 rfl w6.heap.size 3 i0 (.int .i64 0) 1 8 Try.underlying37 hi0 hz0 hz1 hz2 rfl (by decide) _ _ _ rfl (HRow.out.alloc _) ⟨w7.heap.size, 0, none⟩ 1 1 [.int .i64 z] rfl rfl (cell_one_new _ _ _) (by simp [Value.oneCell']) (by unfold maxLen; omega) (by omega) (by have := hsz.out; simp; omega) ?_; intro v' wv hown' hg3 hnil3; go_frame)
            | go_in)
          go_roundw
          case rel =>
            refine ⟨k + 1, by omega, by simp, ?_, ?_⟩
            · rw [hst.out]
              simpa [zcs, encI] using hown'
            · exact (HBl.out.alloc hsz.out _).grown hg3 (by have := hsz.out; simp; omega) (fun j hj => (HRow.out.lt j hj).1)
          case measure => simp only [iv]; omega
        · have hkn : k = n7 := by omega
          subst k
          have hki : ¬ (n7 : Int) < (n7 : Int) := by omega
          have e9 : l7.take n7 = l7 := by rw [List.take_of_length_le (by rw [HN.out.1]; exact Nat.le_refl _)]
          rw [e9] at hrow
          have s8 : Sd w w7 g { S0 with M := S0.M ++ [S0.W] } [(.slice a9 n7 c9, vals S0.W l7), (.slice a8 n8 c8, l8), (.slice a7 n7 c7, l7)] := Sd.row (Nat.le_refl _) H6.out hb hrow
          have H8 : Hid (Sd w w7 g { S0 with M := S0.M ++ [S0.W] } [(.slice a9 n7 c9, vals S0.W l7), (.slice a8 n8 c8, l8), (.slice a7 n7 c7, l7)]) := s8
          clear e9 s8 hrow hb s7 H6
          obtain ⟨Y, hY⟩ : ∃ Y : List (Value × List Int), Y = [(.slice a9 n7 c9, vals S0.W l7), (.slice a8 n8 c8, l8), (.slice a7 n7 c7, l7)] := ⟨_, rfl⟩
          rw [← hY] at H8
          have HYY : Hid (Y = [(.slice a9 n7 c9, vals S0.W l7), (.slice a8 n8 c8, l8), (.slice a7 n7 c7, l7)]) := hY
          clear hY
          go_wp2_with fail
          go_loopw [14] (fun i u => ∃ k : Nat, k ≤ 200 ∧ k ≤ n1 ∧ i = .int .i64 (k : Int) ∧ ∃ S, Sd w u g S Y ∧ Inn S0 S) (fun i _ => 200 - (iv i).toNat)
          case atStart => exact ⟨0, by omega, by omega, rfl, _, H8.out, Inn.start S0⟩
          case round =>
            obtain ⟨k, hk200, hkn, rfl, S, s9, hin⟩ := hrel
            obtain ⟨w9, hw9⟩ : ∃ w9, w9 = wr := ⟨_, rfl⟩
            subst hw9
            clear H8
            have cD := s9.depth
            have hdl := s9.gd.2.2
            have hge : d + 1 ≤ S.M.length := by rw [HD.out]; exact hin.len
            obtain ⟨m, hm⟩ : ∃ m, m = S.M.length := ⟨_, rfl⟩
            have HM : Hid (m = S.M.length) := hm
            rw [← hm] at cD hdl hge
            have hmi : (m : Int) ≤ 8 := by omega
            have H9 : Hid (Sd w w9 g S Y ∧ Inn S0 S) := ⟨s9, hin⟩
            clear hm s9 hin
            unfold ptr at cD
            by_cases hgo : k < n1 ∧ k < 200
            · obtain ⟨hg1, hg2⟩ := hgo
              have hi1 : (k : Int) < (n1 : Int) := by omega
              have hi2 : (k : Int) < 200 := by omega
              have hkl : k < ys.length := by rw [HY.out.1]; exact hg1
              obtain ⟨bb, oo, rfl, hc⟩ := HY.out.2 w9 (by obtain ⟨F, _, _, h⟩ := H9.out.1; exact h) (by omega)
              obtain ⟨x0, -, -, -⟩ := hc k hkl
              have hone : Hid (∀ u, Below w.heap.size w u → RdOps u (some ⟨bb, oo + k * 4, none⟩) [ys[k]]) := fun u hu hp => by
                obtain ⟨b', o', e', hc'⟩ := HY.out.2 u hu (by omega)
                injection e' with e'
                injection e' with e1 e2
                subst e1 e2
                refine ⟨_, _, rfl, fun j hj => ?_⟩
                have hj0 : j = 0 := by simp at hj; omega
                subst hj0
                simpa using hc' k hkl
              generalize hx : ys[k] = x at *
              have cP := H9.out.1.play true (some ⟨bb, oo + k * 4, none⟩) 1 (c1 - k) [x] rfl hone.out (by omega)
              have eP : SS.play S true ([x].take 200) = S.step true x := rfl
              rw [eP] at cP
              unfold ptr at cP
              clear hc eP hx
              by_cases h56 : x.kind = 5 ∨ x.kind = 6
              · by_cases hmd : m = d + 1
                · have hmd' : (m : Int) = (d : Int) + 1 := by omega
                  clear cP
                  subst hmd
                  rcases h56 with h5 | h5
                  · rw [h5] at x0
                    go_wp2_with fail
                    refine Calls.mono cD ?_
                    rintro e wz ⟨rfl, hz⟩
                    subst wz
                    go_wp2
                    go_roundw
                    case rel => exact ⟨k + 1, by omega, by omega, by simp, _, H9.out⟩
                    case measure => simp only [iv]; omega
                  · rw [h5] at x0
                    go_wp2_with fail
                    refine Calls.mono cD ?_
                    rintro e wz ⟨rfl, hz⟩
                    subst wz
                    go_wp2
                    go_roundw
                    case rel => exact ⟨k + 1, by omega, by omega, by simp, _, H9.out⟩
                    case measure => simp only [iv]; omega
                · have hmd' : ¬ (m : Int) = (d : Int) + 1 := by omega
                  have hin2 : Hid (Inn S0 (S.step true x)) := H9.out.2.step x (fun _ => by rw [← HM.out, ← HD.out]; exact hmd)
                  rcases h56 with h5 | h5
                  · rw [h5] at x0
                    go_wp2_with fail
                    refine Calls.mono cD ?_
                    rintro e wz ⟨rfl, hz⟩
                    subst wz
                    go_wp2_with fail
                    refine Calls.mono cP ?_
                    rintro e wn ⟨rfl, sn⟩
                    go_wp2
                    go_roundw
                    case rel => exact ⟨k + 1, by omega, by omega, by simp, _, sn, hin2.out⟩
                    case measure => simp only [iv]; omega
                  · rw [h5] at x0
                    go_wp2_with fail
                    refine Calls.mono cD ?_
                    rintro e wz ⟨rfl, hz⟩
                    subst wz
                    go_wp2_with fail
                    refine Calls.mono cP ?_
                    rintro e wn ⟨rfl, sn⟩
                    go_wp2
                    go_roundw
                    case rel => exact ⟨k + 1, by omega, by omega, by simp, _, sn, hin2.out⟩
                    case measure => simp only [iv]; omega
              · have h5 : ¬ x.kind = 5 := fun e => h56 (.inl e)
                have h6 : ¬ x.kind = 6 := fun e => h56 (.inr e)
                have hin2 : Hid (Inn S0 (S.step true x)) := H9.out.2.step x (fun e => absurd e h56)
                clear h56
                generalize x.kind = xk at *
                go_wp2_with fail
                refine Calls.mono cP ?_
                rintro e wn ⟨rfl, sn⟩
                go_wp2
                go_roundw
                case rel => exact ⟨k + 1, by omega, by omega, by simp, _, sn, hin2.out⟩
                case measure => simp only [iv]; omega
            · clear cD
              have fin : Hid (∃ S, Sd w w9 g S Y ∧ Inn S0 S) := ⟨S, H9.out⟩
              have hways : (¬ (k : Int) < (n1 : Int)) ∨ ((k : Int) < (n1 : Int) ∧ ¬ (k : Int) < 200) := by omega
              clear H9 HM
              rcases hways with h1 | ⟨h1, h2⟩
              all_goals
                go_wp2_with fail
                go_loopw [97] (fun _ u => ∃ S, Sd w u g S Y ∧ Inn S0 S) (fun _ u => dep u g)
                case atStart => exact fin.out
                case round =>
                  obtain ⟨S', s10, hin⟩ := hrel
                  obtain ⟨w10, hw10⟩ : ∃ w10, w10 = wr := ⟨_, rfl⟩
                  subst hw10
                  have cD := s10.depth
                  have hge' : d + 1 ≤ S'.M.length := by rw [HD.out]; exact hin.len
                  have hdl' := s10.gd.2.2
                  obtain ⟨m', hm'⟩ : ∃ m, m = S'.M.length := ⟨_, rfl⟩
                  have HM' : Hid (m' = S'.M.length) := hm'
                  rw [← hm'] at cD hge' hdl'
                  have H10 : Hid (Sd w w10 g S' Y ∧ Inn S0 S') := ⟨s10, hin⟩
                  have cK := s10.keep
                  have cU := s10.undo
                  unfold ptr at cD cK cU
                  clear hm' s10 hin fin
                  by_cases hmd : m' = d + 1
                  · have hmd' : ¬ (d : Int) + 1 < (m' : Int) := by omega
                    obtain ⟨u0, u1, u2, u3⟩ := H10.out.2.undo (by rw [← HM'.out, ← HD.out]; exact hmd)
                    rw [u0] at cU
                    have HU : Hid (S'.undo.2.M = S0.M ∧ S'.undo.2.W = S0.W ∧ ∀ i, (gt S0.R i).isSome = true → (gt S'.undo.2.R i).isSome = true) := ⟨u1, u2, u3⟩
                    generalize S'.undo.2 = Z at *
                    clear u0 u1 u2 u3 cK H10
                    go_wp2_with fail
                    refine Calls.mono cD ?_
                    rintro e wz ⟨rfl, hz⟩
                    subst wz
                    go_wp2_with fail
                    refine Calls.mono cU ?_
                    rintro e w11 ⟨rfl, s11⟩
                    clear cU cD
                    have cD := s11.depth
                    rw [HU.out.1, ← HD.out] at cD
                    have cW := s11.writes
                    unfold ptr at cD cW
                    go_wp2_with fail
                    refine Calls.mono cD ?_
                    rintro e wz ⟨rfl, hz⟩
                    subst wz
                    go_wp2_with fail
                    refine Calls.mono cW ?_
                    rintro e w12 ⟨v12, rfl, s12⟩
                    clear cD cW s11
                    rw [HU.out.2.1, ← HG.out.2.2.2.2] at s12
                    have o12 := s12.own (p := (v12, l7)) (by simp)
                    have o7 := s12.own (p := (.slice a7 n7 c7, l7)) (by rw [HYY.out]; simp)
                    have cS := same_at o12 o7 HG.out.1 rfl
                    have H12 : Hid (Sd w w12 g Z Y) := s12.less
                    clear o12 o7 s12
                    go_wp2_with fail
                    refine Calls.mono cS ?_
                    rintro e w13 ⟨rfl, q, rfl⟩
                    clear cS
                    obtain ⟨w13, hw13⟩ : ∃ w13, w13 = w12.drewN q := ⟨_, rfl⟩
                    have s13 : Sd w w13 g Z Y := hw13 ▸ H12.out.drew q
                    rw [← hw13]
                    clear hw13 H12
                    have H13 : Hid (Sd w w13 g Z Y) := s13
                    clear s13
                    go_wp2_with fail
                    go_loopw [121] (fun i u => ∃ k : Nat, k ≤ n7 ∧ i = .int .i64 (k : Int) ∧ u = w13) (fun i _ => n7 - (iv i).toNat)
                    case atStart => exact ⟨0, Nat.zero_le _, rfl, rfl⟩
                    case round =>
                      obtain ⟨j, hj, rfl, rfl⟩ := hrel
                      obtain ⟨w14, hw14⟩ : ∃ w14, w14 = wr := ⟨_, rfl⟩
                      subst hw14
                      by_cases hjl : j < n7
                      · have hji : (j : Int) < (n7 : Int) := by omega
                        have hj7 : j < l7.length := by rw [← HN.out.1]; exact hjl
                        obtain ⟨q7, rfl, x7⟩ := row_at (H13.out.own (p := (.slice a7 n7 c7, l7)) (by rw [HYY.out]; simp)) j hj7
                        have hj9 : j < (vals S0.W l7).length := by simpa [vals] using hj7
                        obtain ⟨q9, rfl, x9⟩ := row_at (H13.out.own (p := (.slice a9 n7 c9, vals S0.W l7)) (by rw [HYY.out]; simp)) j hj9
                        have e9 : (vals S0.W l7)[j] = (gt S0.W l7[j]).getD 0 := by simp [vals]
                        rw [e9] at x9
                        obtain ⟨hwf, hsm⟩ := HG.out.2.2.1 _ (List.getElem_mem hj7)
                        have cV := H13.out.value l7[j] hwf
                        rw [HU.out.2.1, hsm] at cV
                        unfold ptr at cV
                        clear e9 hwf hsm
                        generalize (gt S0.W l7[j]).getD 0 = z at *
                        generalize l7[j] = y at *
                        go_wp2_with fail
                        refine Calls.mono cV ?_
                        rintro e wz ⟨rfl, hz⟩
                        subst wz
                        go_wp2
                        go_roundw
                        case rel => exact ⟨j + 1, by omega, by simp, trivial⟩
                        case measure => simp only [iv]; omega
                      · have hji : ¬ (j : Int) < (n7 : Int) := by omega
                        go_wp2_with fail
                        go_loopw [145] (fun i u => ∃ k : Nat, k ≤ n8 ∧ i = .int .i64 (k : Int) ∧ u = w14) (fun i _ => n8 - (iv i).toNat)
                        case atStart => exact ⟨0, Nat.zero_le _, rfl, rfl⟩
                        case round =>
                          obtain ⟨t, ht, rfl, rfl⟩ := hrel
                          by_cases htl : t < n8
                          · have hti : (t : Int) < (n8 : Int) := by omega
                            have ht8 : t < l8.length := by rw [← HN.out.2]; exact htl
                            obtain ⟨q8, rfl, x8⟩ := row_at (H13.out.own (p := (.slice a8 n8 c8, l8)) (by rw [HYY.out]; simp)) t ht8
                            obtain ⟨hwf, hsm⟩ := HG.out.2.2.2.1 _ (List.getElem_mem ht8)
                            have cV := H13.out.seen l8[t] hwf
                            rw [HU.out.2.2 _ hsm] at cV
                            unfold ptr at cV
                            clear hwf hsm
                            generalize (gt Z.R l8[t]).getD 0 = z at *
                            generalize l8[t] = y at *
                            go_wp2_with fail
                            refine Calls.mono cV ?_
                            rintro e wz ⟨rfl, hz⟩
                            subst wz
                            go_wp2
                            go_roundw
                            case rel => exact ⟨t + 1, by omega, by simp, trivial⟩
                            case measure => simp only [iv]; omega
                          · have hti : ¬ (t : Int) < (n8 : Int) := by omega
                            have ca := awake_at wr
                            go_wp2_with fail
                            refine Calls.mono ca ?_
                            rintro e wz ⟨rfl, hz⟩
                            go_wp2
                            go_ret
                            exact ⟨rfl, by obtain ⟨F, _, _, h⟩ := H13.out.below hz; exact h⟩
                  · have hmd' : (d : Int) + 1 < (m' : Int) := by omega
                    obtain ⟨k1, k2⟩ := H10.out.2.keep (by rw [← HM'.out, ← HD.out]; exact hmd)
                    have HK : Hid (Inn S0 S'.keep.2 ∧ S'.keep.2.M.length + 1 = S'.M.length) := ⟨k1, k2⟩
                    clear k1 k2 cU
                    go_wp2_with fail
                    refine Calls.mono cD ?_
                    rintro e wz ⟨rfl, hz⟩
                    subst wz
                    go_wp2_with fail
                    refine Calls.mono cK ?_
                    rintro e wn ⟨rfl, sn⟩
                    go_wp2
                    go_roundw
                    case rel => exact ⟨_, sn, HK.out.1⟩
                    case measure =>
                      rw [sn.dep, H10.out.1.dep]
                      have := HK.out.2
                      omega
end Go.Proofs.Ytdlhgamepfcahaa
