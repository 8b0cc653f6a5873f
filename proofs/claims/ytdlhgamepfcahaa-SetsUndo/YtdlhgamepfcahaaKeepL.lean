/-
  Two sets side by side; SetsKeep's walk.
-/
import Derived.Test.YtdlhgamepfcahaaRising
import Derived.Test.YtdlhgamepfcahaaAwake
namespace Go.Proofs.Ytdlhgamepfcahaa
open Go.RowKit Go.Maps
theorem IsS.base {α : Type} {enc : α → Value} {tS tM : TypeId} {w : World} {B B' g : Nat} {S : SS α} {F : Nat → Prop} (h : IsS enc tS tM w B' g S F) (hB : B ≤ B') : IsS enc tS tM w B g S F := by
  obtain ⟨rb, wb, v, X, h⟩ := h
  refine ⟨rb, wb, v, X, { h with row := ?_, fB := fun x hx => ⟨by have := (h.fB x hx).1; omega, (h.fB x hx).2⟩ }⟩
  refine ⟨h.row.1, ?_⟩
  rcases h.row.2 with h1 | ⟨q, cap, cur, h1, hb, hg, r⟩
  · exact .inl h1
  · exact .inr ⟨q, cap, cur, h1, by omega, hg, r⟩
/-- two sets, apart -/
def Pair (w u : World) (g1 : Nat) (S1 : SS Int) (g2 : Nat) (S2 : SS Int) : Prop :=
  (∃ F1 F2, IsS encI 52 49 u w.heap.size g1 S1 F1 ∧ IsS encI 52 49 u w.heap.size g2 S2 F2 ∧ ∀ x, F1 x → ¬ F2 x) ∧ Below w.heap.size w u
section
variable {w u : World} {g1 g2 : Nat} {S1 S2 : SS Int}
theorem Pair.below {u' : World} (h : Pair w u g1 S1 g2 S2) (hb : Below u.heap.size u u') : Pair w u' g1 S1 g2 S2 := by
  obtain ⟨⟨F1, F2, h1, h2, h3⟩, h4⟩ := h
  exact ⟨⟨F1, F2, h1.below hb, h2.below hb, h3⟩, h4.trans (hb.mono h1.Ble)⟩
theorem Pair.drew (h : Pair w u g1 S1 g2 S2) (q : Nat) : Pair w (u.drewN q) g1 S1 g2 S2 := h.below ⟨rfl, rfl, rfl, Nat.le_refl _, fun _ _ => rfl⟩
theorem Pair.one {u' : World} {S' : SS Int} {F1 F2 : Nat → Prop} (h1 : IsS encI 52 49 u w.heap.size g2 S2 F2) (h3 : ∀ x, F1 x → ¬ F2 x) (h4 : Below w.heap.size w u) (ht : To encI 52 49 u w.heap.size g1 S' F1 u') : Pair w u' g1 S' g2 S2 :=
  ⟨⟨_, F2, ht.1, h1.upd ht.2.2 (fun x hx hx' => h3 x hx' hx), fun x hx hx2 => hx.elim (fun h => h3 x h hx2) (fun h => by have := (h1.fB x hx2).2; omega)⟩, h4.trans ht.2.1⟩
theorem Pair.two {u' : World} {S' : SS Int} {F1 F2 : Nat → Prop} (h1 : IsS encI 52 49 u w.heap.size g1 S1 F1) (h3 : ∀ x, F1 x → ¬ F2 x) (h4 : Below w.heap.size w u) (ht : To encI 52 49 u w.heap.size g2 S' F2 u') : Pair w u' g1 S1 g2 S' :=
  ⟨⟨F1, _, h1.upd ht.2.2 (fun x hx hx' => h3 x hx hx'), ht.1, fun x hx hx2 => hx2.elim (fun h => h3 x hx h) (fun h => by have := (h1.fB x hx).2; omega)⟩, h4.trans ht.2.1⟩
theorem Pair.mark (h : Pair w u g1 S1 g2 S2) : Calls Try.prog 12 #[ptr g1] u fun r u' => r = .returned (.int .i64 S1.mark.1) ∧ Pair w u' g1 S1.mark.2 g2 S2 := by
  obtain ⟨⟨F1, F2, h1, h2, h3⟩, h4⟩ := h
  exact (mark_at h1).mono fun _ _ ⟨e, ht⟩ => ⟨e, Pair.one h2 h3 h4 ht⟩
theorem Pair.keep (h : Pair w u g1 S1 g2 S2) : Calls Try.prog 14 #[ptr g1] u fun r u' => r = .returned (.int .i64 S1.keep.1) ∧ Pair w u' g1 S1.keep.2 g2 S2 := by
  obtain ⟨⟨F1, F2, h1, h2, h3⟩, h4⟩ := h
  exact (keep_at h1).mono fun _ _ ⟨e, ht⟩ => ⟨e, Pair.one h2 h3 h4 ht⟩
theorem Pair.play1 (h : Pair w u g1 S1 g2 S2) (b : Bool) (a0 : Option Addr) (n0 c0 : Nat) (os : List Op4) (hl : os.length = n0) (hr : ∀ u, Below w.heap.size w u → RdOps u a0 os) (hn : n0 ≤ 9223372036854775807) : Calls Try.prog 29 #[ptr g1, .slice a0 n0 c0, .bool b] u fun r u' => r = .returned (.tuple #[]) ∧ Pair w u' g1 (S1.play b (os.take 200)) g2 S2 := by
  obtain ⟨⟨F1, F2, h1, h2, h3⟩, h4⟩ := h
  exact (play_at h1 b a0 n0 c0 os hl (fun v hv => hr v (h4.trans hv)) hn).mono fun _ _ ⟨e, ht⟩ => ⟨e, Pair.one h2 h3 h4 ht⟩
theorem Pair.play2 (h : Pair w u g1 S1 g2 S2) (b : Bool) (a0 : Option Addr) (n0 c0 : Nat) (os : List Op4) (hl : os.length = n0) (hr : ∀ u, Below w.heap.size w u → RdOps u a0 os) (hn : n0 ≤ 9223372036854775807) : Calls Try.prog 29 #[ptr g2, .slice a0 n0 c0, .bool b] u fun r u' => r = .returned (.tuple #[]) ∧ Pair w u' g1 S1 g2 (S2.play b (os.take 200)) := by
  obtain ⟨⟨F1, F2, h1, h2, h3⟩, h4⟩ := h
  exact (play_at h2 b a0 n0 c0 os hl (fun v hv => hr v (h4.trans hv)) hn).mono fun _ _ ⟨e, ht⟩ => ⟨e, Pair.two h1 h3 h4 ht⟩
theorem Pair.writes1 (h : Pair w u g1 S1 g2 S2) : Calls Try.prog 19 #[ptr g1] u fun r u' => ∃ v, r = .returned v ∧ u'.ownsRow u.heap.size 3 1 v S1.W.length (zcs (srt (kys S1.W))) ∧ Below u.heap.size u u' ∧ Pair w u' g1 S1 g2 S2 := by
  obtain ⟨⟨F1, F2, h1, h2, h3⟩, h4⟩ := id h
  exact (writes_at h1).mono fun _ _ ⟨v, e, k1, k2⟩ => ⟨v, e, k1, k2, h.below k2⟩
theorem Pair.writes2 (h : Pair w u g1 S1 g2 S2) : Calls Try.prog 19 #[ptr g2] u fun r u' => ∃ v, r = .returned v ∧ u'.ownsRow u.heap.size 3 1 v S2.W.length (zcs (srt (kys S2.W))) ∧ Below u.heap.size u u' ∧ Pair w u' g1 S1 g2 S2 := by
  obtain ⟨⟨F1, F2, h1, h2, h3⟩, h4⟩ := id h
  exact (writes_at h2).mono fun _ _ ⟨v, e, k1, k2⟩ => ⟨v, e, k1, k2, h.below k2⟩
theorem Pair.reads1 (h : Pair w u g1 S1 g2 S2) : Calls Try.prog 18 #[ptr g1] u fun r u' => ∃ v, r = .returned v ∧ u'.ownsRow u.heap.size 3 1 v S1.R.length (zcs (srt (kys S1.R))) ∧ Below u.heap.size u u' ∧ Pair w u' g1 S1 g2 S2 := by
  obtain ⟨⟨F1, F2, h1, h2, h3⟩, h4⟩ := id h
  exact (reads_at h1).mono fun _ _ ⟨v, e, k1, k2⟩ => ⟨v, e, k1, k2, h.below k2⟩
theorem Pair.reads2 (h : Pair w u g1 S1 g2 S2) : Calls Try.prog 18 #[ptr g2] u fun r u' => ∃ v, r = .returned v ∧ u'.ownsRow u.heap.size 3 1 v S2.R.length (zcs (srt (kys S2.R))) ∧ Below u.heap.size u u' ∧ Pair w u' g1 S1 g2 S2 := by
  obtain ⟨⟨F1, F2, h1, h2, h3⟩, h4⟩ := id h
  exact (reads_at h2).mono fun _ _ ⟨v, e, k1, k2⟩ => ⟨v, e, k1, k2, h.below k2⟩
theorem Pair.value1 (h : Pair w u g1 S1 g2 S2) (i : Int) (hi : (Lit.int .i64 i).wf = true) : Calls Try.prog 20 #[ptr g1, .int .i64 i] u fun r u' => r = .returned (.tuple #[.int .i64 ((gt S1.W i).getD 0), .bool (gt S1.W i).isSome]) ∧ u' = u := by
  obtain ⟨⟨F1, F2, h1, h2, h3⟩, h4⟩ := h
  exact value_at h1 i hi
theorem Pair.value2 (h : Pair w u g1 S1 g2 S2) (i : Int) (hi : (Lit.int .i64 i).wf = true) : Calls Try.prog 20 #[ptr g2, .int .i64 i] u fun r u' => r = .returned (.tuple #[.int .i64 ((gt S2.W i).getD 0), .bool (gt S2.W i).isSome]) ∧ u' = u := by
  obtain ⟨⟨F1, F2, h1, h2, h3⟩, h4⟩ := h
  exact value_at h2 i hi
end
/-- SameInts of two rows with the same list -/
theorem same_at {u : World} {B B' n n' : Nat} {v v' : Value} {l l' : List Int} (h : u.ownsRow B 3 1 v n (zcs l)) (h' : u.ownsRow B' 3 1 v' n' (zcs l')) (hl : n ≤ 256) (e : l = l') : Calls Try.prog 25 #[v, v'] u fun r u' => r = .returned (.bool true) ∧ ∃ q, u' = u.drewN q := by
  subst e
  have e1 : n = l.length := by have := h.1; simp [zcs] at this; omega
  have e2 : n' = l.length := by have := h'.1; simp [zcs] at this; omega
  subst e1 e2
  exact same_ints h h' (by omega)
theorem srt_len (l : List Int) : (srt l).length = l.length := by unfold srt; simp
theorem srt_mem (l : List Int) (x : Int) : x ∈ srt l ↔ x ∈ l := by unfold srt; simp
theorem Pair.gd {w u : World} {g1 g2 : Nat} {S1 S2 : SS Int} (h : Pair w u g1 S1 g2 S2) : Gd S1.R ∧ Gd S1.W := by
  obtain ⟨⟨F1, F2, ⟨rb, wb, v, X, h1⟩, h2, h3⟩, h4⟩ := h
  exact ⟨h1.rd.gd, h1.wr.gd⟩
theorem step_false (S : SS Int) (M : List (List (Int × Int))) (x : Op4) : ({ S with M := M } : SS Int).step false x = { S.step false x with M := M } := by
  unfold SS.step
  split
  · unfold SS.read
    dsimp only
    split
    · rfl
    · split
      · split <;> rfl
      · split <;> rfl
  · split
    · unfold SS.write
      dsimp only
      split
      · rfl
      · split <;> rfl
    · rfl
theorem play_false (xs : List Op4) : ∀ (S : SS Int) (M : List (List (Int × Int))), ({ S with M := M } : SS Int).play false xs = { S.play false xs with M := M } := by
  induction xs with
  | nil => exact fun _ _ => rfl
  | cons x xs ih =>
    intro S M
    have e : ∀ S : SS Int, S.play false (x :: xs) = (S.step false x).play false xs := fun _ => rfl
    rw [e, e, step_false, ih]
set_option maxRecDepth 100000 in
set_option maxHeartbeats 8000000 in
theorem keepL_at (a0 : Option Addr) (n0 c0 : Nat) (os : List Op4) (w : World) (hl : os.length = n0) (hr : RdOps w a0 os) (hn : n0 ≤ 9223372036854775807) :
    Calls Try.prog 6 #[.slice a0 n0 c0] w fun r w' => r = .returned (.bool true) ∧ Below w.heap.size w w' := by
  have HR : Hid (∀ u, Below w.heap.size w u → RdOps u a0 os) := fun u hu hp => by
    obtain ⟨b, o, e, hc⟩ := hr hp
    refine ⟨b, o, e, fun j hj => ?_⟩
    obtain ⟨c0, c1, c2, c3⟩ := hc j hj
    have hb : b < w.heap.size := block_lt_of_cell c0
    refine ⟨?_, ?_, ?_, ?_⟩
    · rw [hu.cell (p := ⟨b, o + j * 4, none⟩) hb]; exact c0
    · rw [hu.cell (p := ⟨b, o + j * 4 + 1, none⟩) hb]; exact c1
    · rw [hu.cell (p := ⟨b, o + j * 4 + 2, none⟩) hb]; exact c2
    · rw [hu.cell (p := ⟨b, o + j * 4 + 3, none⟩) hb]; exact c3
  have HL : Hid (os.length = n0 ∧ n0 ≤ 9223372036854775807) := ⟨hl, hn⟩
  clear hr hl hn
  have cN := new_at w
  unfold ptr at cN
  go_enter Try.func6, Try.ntmps6
  go_wp2_with fail
  refine Calls.mono cN ?_
  rintro e w1 ⟨g1, rfl, hg1, i1, b1⟩
  clear cN
  have cN := new_at w1
  unfold ptr at cN
  go_wp2_with fail
  refine Calls.mono cN ?_
  rintro e w2 ⟨g2, rfl, hg2, i2, b2⟩
  clear cN
  have P2 : Pair w w2 g1 ⟨[], [], []⟩ g2 ⟨[], [], []⟩ := ⟨⟨_, _, i1.below b2, i2.base b1.size, fun x hx hx' => by omega⟩, b1.trans (b2.mono b1.size)⟩
  have HP : Hid (Pair w w2 g1 ⟨[], [], []⟩ g2 ⟨[], [], []⟩) := P2
  clear i1 i2 b1 b2 hg1 hg2 P2
  have c := HP.out.mark
  have e1 : (SS.mark (⟨[], [], []⟩ : SS Int)) = (0, ⟨[], [], [[]]⟩) := rfl
  rw [e1] at c
  unfold ptr at c
  go_wp2_with fail
  refine Calls.mono c ?_
  rintro e w3 ⟨rfl, P3⟩
  clear c HP e1
  have HP3 : Hid (Pair w w3 g1 ⟨[], [], [[]]⟩ g2 ⟨[], [], []⟩) := P3
  clear P3
  have c := HP3.out.play1 false a0 n0 c0 os HL.out.1 HR.out HL.out.2
  unfold ptr at c
  go_wp2_with fail
  refine Calls.mono c ?_
  rintro e w4 ⟨rfl, P4⟩
  clear c HP3
  have c := P4.play2 false a0 n0 c0 os HL.out.1 HR.out HL.out.2
  obtain ⟨Q, hQ⟩ : ∃ Q : SS Int, Q = (⟨[], [], []⟩ : SS Int).play false (os.take 200) := ⟨_, rfl⟩
  have hM : SS.play (⟨[], [], [[]]⟩ : SS Int) false (os.take 200) = { Q with M := [[]] } := by rw [hQ]; exact play_false (os.take 200) ⟨[], [], []⟩ [[]]
  rw [hM, ← hQ] at c
  clear P4 hQ hM
  unfold ptr at c
  go_wp2_with fail
  refine Calls.mono c ?_
  rintro e w5 ⟨rfl, P5⟩
  clear c
  have c := P5.keep
  have e1 : SS.keep ({ Q with M := [[]] } : SS Int) = (0, { Q with M := [] }) := rfl
  rw [e1] at c
  clear P5 e1
  obtain ⟨A, hA, eR, eW⟩ : ∃ A : SS Int, A = { Q with M := [] } ∧ A.R = Q.R ∧ A.W = Q.W := ⟨_, rfl, rfl, rfl⟩
  dsimp only at c
  rw [← hA] at c
  clear hA
  have ER : Hid (A.R = Q.R) := eR
  have EW : Hid (A.W = Q.W) := eW
  clear eR eW
  unfold ptr at c
  go_wp2_with fail
  refine Calls.mono c ?_
  rintro e w6 ⟨rfl, P6⟩
  clear c
  have G6 := P6.gd
  have GD : Hid (Gd A.R ∧ Gd A.W) := G6
  clear G6
  have c := P6.writes1
  clear P6
  unfold ptr at c
  go_wp2_with fail
  refine Calls.mono c ?_
  rintro e w7 ⟨v1, rfl, r1, -, P7⟩
  clear c
  have R1 : Hid (w7.ownsRow w6.heap.size 3 1 v1 A.W.length (zcs (srt (kys A.W)))) := r1
  clear r1
  have c := P7.writes2
  clear P7
  unfold ptr at c
  go_wp2_with fail
  refine Calls.mono c ?_
  rintro e w8 ⟨v2, rfl, r2, b8, P8⟩
  clear c
  have cs := same_at (ownsRow_below R1.out b8.block) r2 GD.out.2.le (by rw [EW.out])
  have HP8 : Hid (Pair w w8 g1 A g2 Q) := P8
  clear R1 r2 b8 P8
  go_wp2_with fail
  refine Calls.mono cs ?_
  rintro e w9 ⟨rfl, q, rfl⟩
  clear cs
  have c := (HP8.out.drew q).reads1
  clear HP8
  unfold ptr at c
  go_wp2_with fail
  refine Calls.mono c ?_
  rintro e w10 ⟨v3, rfl, r1, -, P7⟩
  clear c
  have R1 : Hid (w10.ownsRow (w8.drewN q).heap.size 3 1 v3 A.R.length (zcs (srt (kys A.R)))) := r1
  clear r1
  have c := P7.reads2
  clear P7
  unfold ptr at c
  go_wp2_with fail
  refine Calls.mono c ?_
  rintro e w11 ⟨v4, rfl, r2, b8, P8⟩
  clear c
  have cs := same_at (ownsRow_below R1.out b8.block) r2 GD.out.1.le (by rw [ER.out])
  have HP8 : Hid (Pair w w11 g1 A g2 Q) := P8
  clear R1 r2 b8 P8
  go_wp2_with fail
  refine Calls.mono cs ?_
  rintro e w12 ⟨rfl, q2, rfl⟩
  clear cs
  have c := (HP8.out.drew q2).writes1
  clear HP8
  unfold ptr at c
  go_wp2_with fail
  refine Calls.mono c ?_
  rintro e w13 ⟨v5, rfl, r1, -, P9⟩
  clear c
  obtain ⟨a5, c5, rfl⟩ := ownsRow_slice r1
  obtain ⟨n, hn⟩ : ∃ n, n = A.W.length := ⟨_, rfl⟩
  rw [← hn] at r1
  have HN : Hid (n = A.W.length) := hn
  have hn256 : n ≤ 256 := by rw [hn]; exact GD.out.2.le
  have HV : Hid (∀ k, k < n → ∃ x g, a5 = some ⟨g, 0, none⟩ ∧ w13.cell? ⟨g, k, none⟩ = some (.int .i64 x) ∧ (Lit.int .i64 x).wf = true ∧ (gt A.W x).isSome = true) := fun k hk => by
    obtain ⟨g, cap, e, hc⟩ := ownsRow_cell r1 k hk
    injection e with e
    have hk2 : k < (srt (kys A.W)).length := by rw [srt_len, kys_len, ← hn]; exact hk
    have hm : (srt (kys A.W))[k] ∈ kys A.W := (srt_mem _ _).1 (List.getElem_mem hk2)
    refine ⟨(srt (kys A.W))[k], g, e, ?_, cell_wf (GD.out.2.cl _ hm), (gt_some_iff _ _).1 hm⟩
    rw [hc]
    simp [zcs, encI, hk2]
  have HP9 : Hid (Pair w w13 g1 A g2 Q) := P9
  rw [← hn]
  clear hn r1 P9
  go_wp2_with fail
  go_loopw [52] (fun i u => ∃ k : Nat, k ≤ n ∧ i = .int .i64 (k : Int) ∧ u = w13) (fun i _ => n - (iv i).toNat)
  case atStart => exact ⟨0, Nat.zero_le _, rfl, rfl⟩
  case round =>
    obtain ⟨k, hk, rfl, rfl⟩ := hrel
    by_cases hlt : k < n
    · have hki : (k : Int) < (n : Int) := by omega
      obtain ⟨x, g, rfl, hx, hwf, hsome⟩ := HV.out k hlt
      have c1 := HP9.out.value1 x hwf
      have c2 := HP9.out.value2 x hwf
      rw [← EW.out] at c2
      rw [hsome] at c1 c2
      unfold ptr at c1 c2
      generalize (gt A.W x).getD 0 = z at *
      clear hwf hsome
      go_wp2_with fail
      refine Calls.mono c1 ?_
      rintro e wz ⟨rfl, hz⟩
      subst wz
      go_wp2_with fail
      refine Calls.mono c2 ?_
      rintro e wz ⟨rfl, hz⟩
      subst wz
      go_wp2
      go_roundw
      case rel => exact ⟨k + 1, by omega, by simp, trivial⟩
      case measure => simp only [iv]; omega
    · have hki : ¬ (k : Int) < (n : Int) := by omega
      have ca := awake_at wr
      go_wp2_with fail
      refine Calls.mono ca ?_
      rintro e wz ⟨rfl, hz⟩
      go_wp2
      go_ret
      exact ⟨rfl, (HP9.out.below hz).2⟩
end Go.Proofs.Ytdlhgamepfcahaa
