/-
  SchedNumbers' walk.
-/
import Derived.Test.YtjhhncbadkpbaaaOwn
import Derived.Test.YtjhhncbadkpbaaaAwk0
namespace Go.Proofs.Ytjhhncbadkpbaaa
open Go.RowKit
/-- a sched whose tasks are all over -/
structure Br (S : SS) (k : Nat) : Prop where
  g : S.G.length = k
  len : S.E.length = k
  e : ∀ e ∈ S.E, e.st = 3
  l : S.L = []
  n : S.now = none
theorem alv_none : ∀ (E : List En) (G : List Nat), (∀ e ∈ E, e.st = 3) → alv E G = []
  | [], _, _ => by simp [alv]
  | _ :: _, [], _ => by simp [alv]
  | e :: E, g :: G, h => by rw [alv_cons, if_pos (h e (by simp))]; exact alv_none E G (fun x hx => h x (by simp [hx]))
def briefV : Value := .iface 36 (.agg #[])
theorem brief_round {w : World} {B s k : Nat} {S : SS} (h : IsS w B s S) (hb : Br S k) (hk : k < 200) :
    Calls Try.prog 9 #[ptr s, briefV] w fun r w' => r = .returned (.tuple #[.int .i64 ((k + 1 : Nat) : Int), .int .i64 0]) ∧ Below B w w' ∧
      Calls Try.prog 10 #[ptr s, .int .u64 0] w' fun r w'' => r = .returned (.tuple #[.int .i64 ((k + 1 : Nat) : Int), .int .u8 3, .bool true]) ∧ Below B w' w'' ∧ ∃ S', IsS w'' B s S' ∧ Br S' (k + 1) := by
  have hal := alv_none S.E S.G hb.e
  have c := add_at h (by rw [hal]; decide) (by rw [hb.g]; omega) (by rw [hb.l]; decide) 36 (.agg #[])
  rw [hb.g] at c
  refine c.mono ?_
  rintro r w' ⟨g, rfl, T⟩
  refine ⟨rfl, T.bel, ?_⟩
  obtain ⟨S1, hS1⟩ : ∃ S1, S1 = S.add g (.iface 36 (.agg #[])) := ⟨_, rfl⟩
  have hL1 : S1.L = [k] := by rw [hS1]; show S.L ++ [S.G.length] = _; rw [hb.l, hb.g]; rfl
  have hE1 : S1.E = S.E ++ [⟨.iface 36 (.agg #[]), 1, 0⟩] := by rw [hS1]; rfl
  have hG1 : S1.G = S.G ++ [g] := by rw [hS1]; rfl
  have hn1 : S1.now = none := by rw [hS1]; exact hb.n
  rw [← hS1] at T
  have hek : S1.E[k]? = some ⟨.iface 36 (.agg #[]), 1, 0⟩ := by rw [hE1, List.getElem?_append_right (by rw [hb.len]; exact Nat.le_refl _), hb.len]; simp
  have hi : S1.L[0 % S1.L.length]? = some k := by rw [hL1]; rfl
  have hkG : k < S1.G.length := by rw [hG1]; simp [hb.g]
  refine (pick_at T.is hn1 0 (by decide) (by rw [hL1]; show 0 < 1; decide) (by rw [hL1]; show 1 < 100000; decide) k hi hkG 36 (.agg #[]) 0 hek (by decide) 53 brief_tsk
    (fun st S2 _ => st = 3 ∧ S2 = { S1 with L := S1.L.eraseIdx (0 % S1.L.length), now := some k, wk := false }) (fun w1 T1 => ?_)).mono ?_
  · refine (brief_step w1).mono ?_
    rintro r w2 ⟨rfl, b2⟩
    exact ⟨3, _, rfl, by decide, T1.is.below b2, b2.mono T1.is.hB, rfl, rfl, hek, by show (S1.L.eraseIdx (0 % S1.L.length)).length < 1000000; rw [hL1]; show 0 < 1000000; decide, rfl, rfl⟩
  · rintro r w9 ⟨st, S2, w2, rfl, ⟨rfl, rfl⟩, _, _, _, T9, b9⟩
    refine ⟨rfl, b9, _, T9.is, ?_⟩
    have ef : SS.fin { S1 with L := S1.L.eraseIdx (0 % S1.L.length), now := some k, wk := false } k ⟨.iface 36 (.agg #[]), 1, 0⟩ 3 = ⟨S1.G, S1.E.set k ⟨.nilIface, 3, 1⟩, S1.L.eraseIdx (0 % S1.L.length), none, false⟩ := rfl
    rw [ef]
    refine ⟨by show S1.G.length = _; rw [hG1]; simp [hb.g], by show (S1.E.set _ _).length = _; rw [hE1]; simp [hb.len], ?_, by show S1.L.eraseIdx _ = []; rw [hL1]; rfl, rfl⟩
    intro e he
    change e ∈ S1.E.set k _ at he
    rw [hE1, List.set_append_right k _ (by rw [hb.len]; exact Nat.le_refl _), hb.len] at he
    rcases List.mem_append.1 he with h1 | h1
    · exact hb.e e h1
    · simp at h1; rw [h1]
/-- a sched that fills up -/
structure Fl (S : SS) (j : Nat) : Prop where
  g : S.G.length = 100 + j
  a : (alv S.E S.G).length = j
  l : S.L.length = j
theorem fill_round {w : World} {B s j : Nat} {S : SS} (h : IsS w B s S) (hf : Fl S j) (hj : j < 64) :
    Calls Try.prog 9 #[ptr s, briefV] w fun r w' => ∃ z : Int, r = .returned (.tuple #[.int .i64 z, .int .i64 0]) ∧ Below B w w' ∧ ∃ S', IsS w' B s S' ∧ Fl S' (j + 1) := by
  refine (add_at h (by rw [hf.a]; exact hj) (by rw [hf.g]; omega) (by rw [hf.l]; omega) 36 (.agg #[])).mono ?_
  rintro r w' ⟨g, rfl, T⟩
  refine ⟨_, rfl, T.bel, _, T.is, ⟨by simp [SS.add, hf.g]; omega, ?_, by simp [SS.add, hf.l]⟩⟩
  show (alv (S.E ++ [_]) (S.G ++ [g])).length = _
  rw [alv_snoc _ _ _ _ h.len (by simp)]
  simp [hf.a]
set_option maxRecDepth 20000 in
set_option maxHeartbeats 4000000 in
theorem numbers_at (w : World) : Calls Try.prog 3 #[] w fun r w' => r = .returned (.bool true) ∧ Below w.heap.size w w' := by
  have cN := new_at w
  obtain ⟨B, hB⟩ : ∃ B, B = w.heap.size := ⟨_, rfl⟩
  have HB : Hid (B = w.heap.size) := hB
  rw [← hB] at cN ⊢
  clear hB
  unfold ptr at *
  go_enter Try.func3, Try.ntmps3
  go_wp2_with fail
  refine Calls.mono cN ?_
  rintro r w1 ⟨rfl, i1, b1⟩
  obtain ⟨s, hs⟩ : ∃ s, s = B := ⟨_, rfl⟩
  have i1' : IsS w1 B s SS0 := by rw [hs]; exact i1
  rw [← hs]
  have Hs : Hid (s = B) := hs
  obtain ⟨og, hog⟩ : ∃ og, og = w1.heap.size := ⟨_, rfl⟩
  have x2 : Box (w1.alloc (.cells (owC s 0 (.slice none 0 0)) 27)) og (owC s 0 (.slice none 0 0)) 27 := by rw [hog]; exact Box.new w1 _ 27
  have b2 : Below w1.heap.size w1 (w1.alloc (.cells (owC s 0 (.slice none 0 0)) 27)) := (Below.refl _ _).alloc (Nat.le_refl _) _
  have i2 := i1'.below b2
  have c2 : Calls Try.prog 9 #[ptr s, .iface 24 (ptr og)] (w1.alloc (.cells (owC s 0 (.slice none 0 0)) 27)) fun r w' => ∃ g, r = .returned (.tuple #[.int .i64 1, .int .i64 0]) ∧ To (w1.alloc (.cells (owC s 0 (.slice none 0 0)) 27)) B s (SS0.add g (.iface 24 (ptr og))) w' := add_at i2 (by decide) (by decide) (by decide) 24 (ptr og)
  have H2 : Hid (Box (w1.alloc (.cells (owC s 0 (.slice none 0 0)) 27)) og (owC s 0 (.slice none 0 0)) 27) := x2
  have B2 : Hid (Below B w (w1.alloc (.cells (owC s 0 (.slice none 0 0)) 27))) := b1.trans (b2.mono i1'.hB)
  have Hog : Hid (og = w1.heap.size) := hog
  have hBo : B ≤ og := by rw [hog]; exact i1'.hB
  clear cN i1 b1 i1' hs x2 b2 i2 hog
  unfold owC ptr at *
  go_wp2_with fail
  rw [← Hog.out]
  refine Calls.mono c2 ?_
  rintro r w3 ⟨g1, rfl, T3⟩
  have x3 := T3.kt _ _ _ H2.out oth27
  have y1 : w3.cell? ⟨og, 1, none⟩ = some (.int .i64 0) := x3.cell 1
  have f1 := x3.frozen 1
  have x4 : Box (w3.setCell ⟨og, 1, none⟩ (.int .i64 1)) og (owC s 1 (.slice none 0 0)) 27 := x3.store 1 (.int .i64 1)
  have k4 : Kt (fun t => t ≠ 27) w3 (w3.setCell ⟨og, 1, none⟩ (.int .i64 1)) := (Kt.refl _ _).setCell x3 (by simp) 1 _
  have i4 : IsS (w3.setCell ⟨og, 1, none⟩ (.int .i64 1)) B s ⟨[g1], [⟨.iface 24 (ptr og), 1, 0⟩], [0], none, false⟩ := T3.is.kt k4 (by decide) (by decide) (by decide)
  have B4 : Hid (Below B w (w3.setCell ⟨og, 1, none⟩ (.int .i64 1))) := (B2.out.trans T3.bel).setCell (p := ⟨og, 1, none⟩) hBo _
  obtain ⟨w4, hw4⟩ : ∃ w4, w3.setCell ⟨og, 1, none⟩ (.int .i64 1) = w4 := ⟨_, rfl⟩
  rw [hw4] at x4 i4 B4
  have cP : Calls Try.prog 10 #[ptr s, .int .u64 0] w4 fun r w' => r = .returned (.tuple #[.int .i64 1, .int .u8 1, .bool true]) ∧ Below B w4 w' ∧ ∃ tv, Box w' og (owC s 1 tv) 27 ∧ w'.ownsRow B 4 1 tv 2 [.bool true, .bool false] := by
    refine (pick_at i4 rfl 0 (by decide) (by show 0 < 1; decide) (by show 1 < 100000; decide) 0 rfl (by show 0 < 1; decide) 24 (ptr og) 0 rfl (by decide) 51 (own_tsk og)
      (fun st S2 w2 => st = 2 ∧ S2 = ⟨[g1], [⟨.iface 24 (ptr og), 1, 0⟩], [], some 0, true⟩ ∧ ∃ tv, Box w2 og (owC s 1 tv) 27 ∧ w2.ownsRow B 4 1 tv 2 [.bool true, .bool false]) (fun w5 T5 => ?_)).mono ?_
    · obtain ⟨h1, h2⟩ := wake_self (S := ⟨[g1], [⟨.iface 24 (ptr og), 1, 0⟩], [], some 0, false⟩) (i := 0) rfl rfl rfl rfl
      have c := own_step (S := ⟨[g1], [⟨.iface 24 (ptr og), 1, 0⟩], [], some 0, false⟩) (id := 1) T5.is h1 h2 (T5.kt _ _ _ x4 oth27) hBo (by intro e he; simp at he; rw [he]; show 1 < 200; decide) (by show 1 < 1000000; decide) (by show 0 < 1000000; decide)
      refine c.mono ?_
      rintro r w6 ⟨rfl, O6⟩
      exact ⟨2, _, rfl, by decide, O6.is, O6.bel, rfl, rfl, rfl, by show 0 < 1000000; decide, rfl, rfl, O6.tv⟩
    · rintro r w7 ⟨st, S2, w2, rfl, ⟨rfl, rfl, tv, h1, h2⟩, _, _, _, T7, b7⟩
      exact ⟨rfl, b7, tv, T7.kt _ _ _ h1 oth27, ownsRow_kt h2 T7.kt oth4⟩
  clear x3 x4 k4 i4 T3 c2 H2 B2
  unfold ptr at *
  go_wp2_with fail
  refine Calls.mono cP ?_
  rintro r w5 ⟨rfl, b5, tv, x5, o5⟩
  obtain ⟨tg, tc, rfl, y0⟩ := ownsRow_cell o5 0 (by decide)
  obtain ⟨tg', tc', e5, y1'⟩ := ownsRow_cell o5 1 (by decide)
  injection e5 with e6 _ e7
  injection e6 with e6
  injection e6 with e6
  subst e6
  have z2 : w5.cell? ⟨og, 2, none⟩ = some (.slice (some ⟨tg, 0, none⟩) 2 tc) := x5.cell 2
  have y0' : w5.cell? ⟨tg, 0, none⟩ = some (.bool true) := y0
  have y1'' : w5.cell? ⟨tg, 1, none⟩ = some (.bool false) := y1'
  have B5 : Hid (Below B w w5) := B4.out.trans b5
  have cN2 := new_at w5
  clear cP x5 o5 b5 y0 y1' B4 e7
  go_wp2_with fail
  refine Calls.mono cN2 ?_
  rintro r w6 ⟨rfl, i6, b6⟩
  obtain ⟨q, hq⟩ : ∃ q, q = w5.heap.size := ⟨_, rfl⟩
  have hB5 : B ≤ w5.heap.size := by have h1 := B5.out.size; have h2 := HB.out; omega
  have I6 : Hid (IsS w6 B q SS0) := by rw [hq]; exact i6.base hB5
  have B6 : Hid (Below B w w6) := B5.out.trans (b6.mono hB5)
  rw [← hq]
  clear cN2 i6 b6 hq hB5
  have HBr : Hid (∀ k, k ≤ 100 → ∀ (u : World), (∃ S, IsS u B q S ∧ Br S k) → B ≤ u.heap.size) := fun k _ u h => by obtain ⟨S, h, _⟩ := h; exact h.hB
  go_wp2_with fail
  go_loopw [9] (fun i u => ∃ k : Nat, k ≤ 100 ∧ i = .int .i64 ((k + 1 : Nat) : Int) ∧ (∃ S, IsS u B q S ∧ Br S k) ∧ Below B w u) (fun i _ => 101 - (intOf i).toNat)
  case atStart => exact ⟨0, by omega, rfl, ⟨SS0, I6.out, ⟨rfl, rfl, by simp [SS0], rfl, rfl⟩⟩, B6.out⟩
  case round =>
    obtain ⟨k, hk, rfl, ⟨S, hI, hb⟩, hbl⟩ := hrel
    have HI : Hid (IsS wr B q S) := hI
    have HBl : Hid (Below B w wr) := hbl
    have Hb : Hid (Br S k) := hb
    by_cases hlt : k < 100
    · have cA := brief_round hI hb (by omega)
      obtain ⟨M, hM⟩ : ∃ M : Int, M = ((k + 1 : Nat) : Int) := ⟨_, rfl⟩
      have hM1 : M ≤ 100 := by omega
      have hM0 : 0 ≤ M := by omega
      rw [← hM] at cA ⊢
      have HM : Hid (M = ((k + 1 : Nat) : Int)) := hM
      clear hI hb hbl hM
      unfold briefV ptr at cA
      go_wp2_with fail
      refine Calls.mono cA ?_
      rintro r wa ⟨rfl, ba, cP⟩
      have HBa : Hid (Below B w wa) := HBl.out.trans ba
      clear cA ba
      go_wp2_with fail
      refine Calls.mono cP ?_
      rintro r wb ⟨rfl, bb, hS'⟩
      have HBb : Hid (Below B w wb) := HBa.out.trans bb
      have HS' : Hid (∃ S, IsS wb B q S ∧ Br S (k + 1)) := hS'
      clear cP bb hS'
      go_wp2_with fail
      go_roundw
      case rel => exact ⟨k + 1, by omega, by rw [HM.out]; go_num, HS'.out, HBb.out⟩
      case measure => have := HM.out; simp [intOf]; omega
    · have hk100 : k = 100 := by omega
      subst hk100
      have hal := alv_none S.E S.G hb.e
      have HF0 : Hid (∃ S, IsS wr B q S ∧ Fl S 0) := ⟨S, hI, ⟨hb.g, by rw [hal]; rfl, by rw [hb.l]; rfl⟩⟩
      clear hI hb hbl hal HI Hb
      rw [show (((100 + 1 : Nat) : Int)) = 101 from rfl]
      go_wp2_with fail
      go_loopw [15] (fun i u => ∃ j : Nat, j ≤ 64 ∧ i = .int .i64 (j : Int) ∧ (∃ S, IsS u B q S ∧ Fl S j) ∧ Below B w u) (fun i _ => 64 - (intOf i).toNat)
      case atStart => exact ⟨0, by omega, rfl, HF0.out, HBl.out⟩
      case round =>
        obtain ⟨j, hj, rfl, ⟨S2, hI, hb⟩, hbl⟩ := hrel
        obtain ⟨wc, hwc⟩ : ∃ wc, wc = wr := ⟨_, rfl⟩
        subst hwc
        have HI : Hid (IsS wc B q S2) := hI
        have HBc : Hid (Below B w wc) := hbl
        have Hb : Hid (Fl S2 j) := hb
        by_cases hlj : j < 64
        · have hji : (j : Int) < 64 := by omega
          have cA := fill_round hI hb hlj
          clear hI hb hbl
          unfold briefV ptr at cA
          go_wp2_with fail
          refine Calls.mono cA ?_
          rintro r wd ⟨z, rfl, bd, hS'⟩
          have HBd : Hid (Below B w wd) := HBc.out.trans bd
          have HS' : Hid (∃ S, IsS wd B q S ∧ Fl S (j + 1)) := hS'
          clear cA bd hS'
          go_wp2_with fail
          go_roundw
          case rel => exact ⟨j + 1, by omega, by go_num, HS'.out, HBd.out⟩
          case measure => simp [intOf]; omega
        · have hj64 : j = 64 := by omega
          subst hj64
          have cF := add_full hI (by rw [hb.a]; exact Nat.le_refl _) 36 (.agg #[])
          have cA := awake_at wc
          have hBc := hI.hB
          rw [show (((64 : Nat) : Int)) = 64 from rfl]
          clear hI hb hbl
          unfold ptr at cF
          go_wp2_with fail
          refine Calls.mono cF ?_
          rintro r wx ⟨rfl, hwx⟩
          subst wx
          clear cF
          go_wp2_with fail
          refine Calls.mono cA ?_
          rintro r wz ⟨rfl, bz⟩
          have HBz : Hid (Below B w wz) := HBc.out.trans (bz.mono hBc)
          clear cA bz
          go_wp2_with fail
          go_ret
          exact ⟨rfl, HBz.out⟩
end Go.Proofs.Ytjhhncbadkpbaaa
