/-
  SchedFair's walk.
-/
import Derived.Test.YtjhhncbadkpbaaaFair
namespace Go.Proofs.Ytjhhncbadkpbaaa
open Go.RowKit
theorem FairSit.round {w : World} {B s tb bb ag n r : Nat} (h : FairSit w B s tb bb ag n r n) : FairSit w B s tb bb ag n (r + 1) 0 := by
  obtain ⟨S, tv, K, hs, hf, hd, hK⟩ := h
  exact ⟨S, tv, K, hs, hf.round, hd, hK⟩
theorem FairSit.hB {w : World} {B s tb bb ag n r m : Nat} (h : FairSit w B s tb bb ag n r m) : B ≤ w.heap.size := by
  obtain ⟨S, tv, K, hs, _⟩ := h
  exact hs.is.hB
theorem FairSit.start {w w' : World} {B s tb bb ag : Nat} (h : Sit w B s SS0 tb bb (.slice none 0 0) [] false []) (hb : Below w.heap.size w w') (hd : DBox w' ag (fil 10)) : FairSit w' B s tb bb ag 0 0 0 :=
  ⟨SS0, _, [], h.below hb, ⟨rfl, rfl, fun j hj => absurd hj (Nat.not_lt_zero _)⟩, hd, fun k hk => by cases hk⟩
set_option maxRecDepth 20000 in
set_option maxHeartbeats 4000000 in
theorem fair_at (n r : Int) (w : World) : Calls Try.prog 7 #[.int .i64 n, .int .i64 r] w fun q w' => q = .returned (.bool true) ∧ Below w.heap.size w w' := by
  obtain ⟨N, hN⟩ : ∃ N : Nat, n % 20 = (N : Int) := ⟨(n % 20).toNat, by omega⟩
  obtain ⟨R, hR⟩ : ∃ R : Nat, r % 6 = (R : Int) := ⟨(r % 6).toNat, by omega⟩
  have hN20 : N < 20 := by omega
  obtain ⟨N1, hN1⟩ : ∃ N1, N1 = N + 1 := ⟨_, rfl⟩
  have HN1 : Hid (N1 = N + 1) := hN1
  have hN21 : N1 < 21 := by omega
  have hR6 : R < 6 := by omega
  have c1 := kitPick_at n 20 w (by decide) (by decide)
  have c2 := kitPick_at r 6 w (by decide) (by decide)
  rw [hN] at c1
  rw [hR] at c2
  clear hN hR hN1
  have cN := new_sit w w.heap.size (Nat.le_refl _)
  obtain ⟨s, hs⟩ : ∃ s, s = w.heap.size + 2 := ⟨_, rfl⟩
  obtain ⟨tb, htb⟩ : ∃ tb, tb = w.heap.size := ⟨_, rfl⟩
  obtain ⟨bb, hbb⟩ : ∃ bb, bb = w.heap.size + 1 := ⟨_, rfl⟩
  have cN' : Calls Try.prog 8 #[] ((w.alloc (.cells #[.slice none 0 0] 25)).alloc (.cells #[.bool false] 4)) fun r w' => r = .returned (ptr s) ∧ Sit w' w.heap.size s SS0 tb bb (.slice none 0 0) [] false [] ∧ Below w.heap.size w w' := by
    rw [hs, htb, hbb]; exact cN
  have Htb : Hid (tb = w.heap.size) := htb
  have Hbb : Hid (bb = w.heap.size + 1) := hbb
  obtain ⟨B, hB⟩ : ∃ B, B = w.heap.size := ⟨_, rfl⟩
  have HB : Hid (B = w.heap.size) := hB
  rw [← hB] at cN'
  have hmk := make_do 10 (by decide)
  have hmk' : ∀ u : World, (Instr.makeSlice 43 (.int .i64 10) (.int .i64 10)).run Try.prog u = .ok (.slice (some ⟨u.heap.size, 0, none⟩) 10 10) (u.alloc (.cells (dosC (fil 0)).toArray 45)) := hmk
  obtain ⟨Z0, hZ0⟩ : ∃ Z0, Z0 = (dosC (fil 0)).toArray := ⟨_, rfl⟩
  rw [← hZ0] at hmk'
  have HZ0 : Hid (Z0 = (dosC (fil 0)).toArray) := hZ0
  clear cN hs htb hbb hB hmk hZ0
  unfold ptr at *
  go_enter Try.func7, Try.ntmps7
  go_wp2_with fail
  refine Calls.mono c1 ?_
  rintro q wx ⟨rfl, hwx⟩
  subst wx
  clear c1
  go_wp2_with fail
  refine Calls.mono c2 ?_
  rintro q wx ⟨rfl, hwx⟩
  subst wx
  clear c2
  go_wp2_with fail
  refine Calls.mono cN' ?_
  rintro q w1 ⟨rfl, h1, b1⟩
  rw [← Hbb.out, ← Htb.out]
  have H1 : Hid (Sit w1 B s SS0 tb bb (.slice none 0 0) [] false []) := h1
  have B1 : Hid (Below B w w1) := b1
  clear cN' h1 b1
  go_wp2_with fail
  obtain ⟨ag, hag⟩ : ∃ ag, ag = w1.heap.size := ⟨_, rfl⟩
  have d2 : DBox (w1.alloc (.cells Z0 45)) ag (fil 0) := by rw [hag, HZ0.out]; exact Box.new w1 _ 45
  have b2 : Below ag w1 (w1.alloc (.cells Z0 45)) := by rw [hag]; exact (Below.refl _ _).alloc (Nat.le_refl _) _
  rw [← hag]
  have Hag : Hid (ag = w1.heap.size) := hag
  have D2 : Hid (DBox (w1.alloc (.cells Z0 45)) ag (fil 0)) := d2
  have B2 : Hid (Below ag w1 (w1.alloc (.cells Z0 45))) := b2
  clear d2 b2 hag hmk'
  generalize w1.alloc (.cells Z0 45) = w2 at D2 B2 ⊢
  go_loopw [27] (fun i u => ∃ k : Nat, k ≤ 10 ∧ i = .int .i64 (k : Int) ∧ DBox u ag (fil k) ∧ Below ag w1 u) (fun i _ => 10 - (intOf i).toNat)
  case atStart => exact ⟨0, by decide, rfl, D2.out, B2.out⟩
  case round =>
    obtain ⟨k, hk, rfl, hd, hb⟩ := hrel
    have HD : Hid (DBox wr ag (fil k)) := hd
    have HBw : Hid (Below ag w1 wr) := hb
    by_cases hlt : k < 10
    · have hki : (k : Int) < 10 := by omega
      have hlf := fil_len k hk
      have x0 := (hd.at k (by omega)).1
      have f0 := Box.frozen hd (k * 3)
      have d3 := hd.set0 k 1 (by omega)
      rw [fil_set k hlt] at d3
      have HD3 : Hid (DBox (wr.setCell ⟨ag, k * 3, none⟩ (.int .i64 1)) ag (fil (k + 1))) := d3
      generalize ((fil k)[k]'(by omega)).tell = z at x0
      clear hd hb d3 hlf
      go_wp2_with fail
      go_roundw
      case rel => exact ⟨k + 1, by omega, by go_num, HD3.out, HBw.out.setCell (p := ⟨ag, k * 3, none⟩) (Nat.le_refl _) _⟩
      case measure => simp [intOf]; omega
    · have hk10 : k = 10 := by omega
      subst hk10
      rw [show (((10 : Nat) : Int)) = 10 from rfl]
      have F0 : Hid (FairSit wr B s tb bb ag 0 0 0) := FairSit.start H1.out (by rw [← Hag.out]; exact hb) hd
      have B0 : Hid (Below B w wr) := B1.out.trans (hb.mono (by rw [Hag.out]; exact H1.out.is.hB))
      clear hd hb D2 B2 HD HBw H1 B1
      go_wp2_with fail
      go_loopw [10] (fun i u => ∃ k : Nat, k ≤ N1 ∧ i = .int .i64 (k : Int) ∧ FairSit u B s tb bb ag k 0 0 ∧ Below B w u) (fun i _ => N1 - (intOf i).toNat)
      case atStart => exact ⟨0, by omega, rfl, F0.out, B0.out⟩
      case round =>
        obtain ⟨k, hk, rfl, hF, hb⟩ := hrel
        obtain ⟨wa, hwa⟩ : ∃ wa, wa = wr := ⟨_, rfl⟩
        subst hwa
        have HF : Hid (FairSit wa B s tb bb ag k 0 0) := hF
        have HBa : Hid (Below B w wa) := hb
        by_cases hlt : k < N1
        · have hki : (k : Int) < 1 + (N : Int) := by have := HN1.out; omega
          have ca := hF.add (by omega)
          unfold tkC ptr at ca
          clear hF hb
          go_wp2_with fail
          refine Calls.mono ca ?_
          rintro q wb ⟨rfl, hF2, b2⟩
          have HF2 : Hid (FairSit wb B s tb bb ag (k + 1) 0 0) := hF2
          have HB2 : Hid (Below B w wb) := HBa.out.trans b2
          clear ca hF2 b2
          go_wp2_with fail
          go_roundw
          case rel => exact ⟨k + 1, by omega, by go_num, HF2.out, HB2.out⟩
          case measure => simp [intOf]; omega
        · have hkN : k = N1 := by omega
          subst k
          have hkx : ¬ ((N1 : Int) < 1 + (N : Int)) := by have := HN1.out; omega
          clear hF hb F0 B0
          go_wp2_with fail
          go_loopw [13] (fun i u => ∃ r : Nat, r ≤ R ∧ i = .int .i64 (r : Int) ∧ FairSit u B s tb bb ag (N1) r 0 ∧ Below B w u) (fun i _ => R - (intOf i).toNat)
          case atStart => exact ⟨0, by omega, rfl, HF.out, HBa.out⟩
          case round =>
            obtain ⟨r, hr, rfl, hF, hb⟩ := hrel
            obtain ⟨wc, hwc⟩ : ∃ wc, wc = wr := ⟨_, rfl⟩
            subst hwc
            have HFc : Hid (FairSit wc B s tb bb ag (N1) r 0) := hF
            have HBc : Hid (Below B w wc) := hb
            clear hF hb
            by_cases hlt : r < R
            · have hri : (r : Int) < (R : Int) := by omega
              go_wp2_with fail
              go_loopw [14] (fun i u => ∃ m : Nat, m ≤ N1 ∧ i = .int .i64 ((m + 1 : Nat) : Int) ∧ FairSit u B s tb bb ag (N1) r m ∧ Below B w u) (fun i _ => N1 + 1 - (intOf i).toNat)
              case atStart => exact ⟨0, by omega, rfl, HFc.out, HBc.out⟩
              case round =>
                obtain ⟨m, hm, rfl, hF, hb⟩ := hrel
                obtain ⟨wd, hwd⟩ : ∃ wd, wd = wr := ⟨_, rfl⟩
                subst hwd
                have HFd : Hid (FairSit wd B s tb bb ag (N1) r m) := hF
                have HBd : Hid (Below B w wd) := hb
                by_cases hlm : m < N1
                · have cp := hF.pick hlm (by omega) (by omega)
                  have hmi : ((m + 1 : Nat) : Int) ≤ 1 + (N : Int) := by have := HN1.out; omega
                  have hmi0 : (0 : Int) ≤ ((m + 1 : Nat) : Int) := by omega
                  obtain ⟨M, hM⟩ : ∃ M : Int, M = ((m + 1 : Nat) : Int) := ⟨_, rfl⟩
                  rw [← hM] at cp hmi hmi0 ⊢
                  have HM : Hid (M = ((m + 1 : Nat) : Int)) := hM
                  clear hF hb hM
                  unfold ptr at cp
                  go_wp2_with fail
                  refine Calls.mono cp ?_
                  rintro q we ⟨rfl, b2, hF2, cs⟩
                  have HF2 : Hid (FairSit we B s tb bb ag (N1) r (m + 1)) := hF2
                  have HB2 : Hid (Below B w we) := HBd.out.trans b2
                  clear cp hF2 b2
                  rw [show ((r + 1 : Nat) : Int) = (r : Int) + 1 by omega] at cs
                  go_wp2_with fail
                  refine Calls.mono cs ?_
                  rintro q wx ⟨rfl, hwx⟩
                  subst wx
                  clear cs
                  go_wp2_with fail
                  go_roundw
                  case rel => exact ⟨m + 1, by omega, by rw [HM.out]; go_num, HF2.out, HB2.out⟩
                  case measure => have := HM.out; simp [intOf]; omega
                · have hmN : m = N1 := by omega
                  subst m
                  have HF2 : Hid (FairSit wd B s tb bb ag (N1) (r + 1) 0) := hF.round
                  have hmi : ¬ (((N1 + 1 : Nat) : Int) ≤ 1 + (N : Int)) := by have := HN1.out; omega
                  obtain ⟨M, hM⟩ : ∃ M : Int, M = ((N1 + 1 : Nat) : Int) := ⟨_, rfl⟩
                  rw [← hM] at hmi ⊢
                  clear hF hb hM
                  go_wp2_with fail
                  go_roundw
                  case rel => exact ⟨r + 1, by omega, by go_num, HF2.out, HBd.out⟩
                  case measure => simp [intOf]; omega
            · have hrR : r = R := by omega
              subst r
              have cA := awake_at wc
              go_wp2_with fail
              refine Calls.mono cA ?_
              rintro q wz ⟨rfl, bz⟩
              have HBz : Hid (Below B w wz) := HBc.out.trans (bz.mono HFc.out.hB)
              clear cA bz
              go_wp2_with fail
              go_ret
              exact ⟨rfl, by rw [← HB.out]; exact HBz.out⟩
end Go.Proofs.Ytjhhncbadkpbaaa
