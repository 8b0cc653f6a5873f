/-
  The document's own sets: Reads, Writes.
-/
import Derived.Test.YtdneikfocefnfaaRfSort
namespace Go.Proofs.Ytdneikfocefnfaa
open Go.RowKit
set_option maxRecDepth 100000 in
theorem qrising_nil (w : World) : Calls Try.prog 56 #[.slice none 0 0] w fun e w' => e = .returned (.slice none 0 0) ∧ w' = w := by
  go_enter Try.func56, Try.ntmps56
  go_wp2_with fail
  go_loopw [3] (fun v u => v = .int .i64 1 ∧ u = w) (fun _ _ => 0)
  case atStart => exact ⟨rfl, rfl⟩
  case round =>
    obtain ⟨rfl, rfl⟩ := hrel
    go_wp2_with fail
    go_ret
    exact ⟨rfl, rfl⟩
set_option maxRecDepth 100000 in
set_option maxHeartbeats 4000000 in
theorem qreads_at {w : World} {B r o : Nat} {t : TypeId} {S : SS Int} {F : Nat → Prop} {cs : Array Value} (h0 : IsR w B r o t S F cs) :
    Calls Try.prog 26 #[.pointer (some ⟨r, o, none⟩)] w fun e w' => ∃ v, e = .returned v ∧ w'.ownsRow w.heap.size 3 1 v S.R.length (zcs (srt (kys S.R))) ∧ Below w.heap.size w w' := by
  obtain ⟨vR, vW, vM, Y, hq⟩ := h0
  obtain ⟨i0, hi0, hz0, hz1, hz2⟩ := info_parts infoI
  obtain ⟨a, c, e0⟩ := ownsRow_slice hq.rR
  subst e0
  obtain ⟨n, hn⟩ : ∃ n, n = S.R.length := ⟨_, rfl⟩
  have HC : Hid (∀ u, Below w.heap.size w u → u.cell? ⟨r, o, none⟩ = some (.slice a n c) ∧ ∀ k (hk : k < S.R.length), ∃ g, a = some ⟨g, 0, none⟩ ∧ u.cell? ⟨g, k * 2, none⟩ = some (.int .i64 S.R[k].1)) := fun u hu => by
    have b := hq.box.below hu hq.box.lt
    refine ⟨by rw [hn]; exact (b.cell _).trans hq.cR, fun k hk => ?_⟩
    obtain ⟨g, e, x1, _⟩ := pair_at (ownsRow_below hq.rR hu.block) k hk
    exact ⟨g, e, x1⟩
  have hl : S.R.length ≤ 256 := hq.lR
  have HN : Hid (n = S.R.length) := hn
  rw [← hn] at hl ⊢
  obtain ⟨ks, hks⟩ : ∃ ks, ks = kys S.R := ⟨_, rfl⟩
  have HK : Hid (ks.length = n ∧ ∀ k (hk : k < n) (hk' : k < S.R.length), ks[k]? = some S.R[k].1) := by
    refine ⟨by rw [hks, kys_len, hn], fun k hk hk' => ?_⟩
    rw [hks]
    simp [kys, hk']
  rw [← hks]
  clear hq hn hks
  have c0 := (HC.out w (Below.refl _ _)).1
  go_enter Try.func26, Try.ntmps26
  go_wp2_with fail
  go_loopw [3, 4] (fun v i u => ∃ k : Nat, k ≤ n ∧ i = .int .i64 (k : Int) ∧ Hid (u.ownsRow w.heap.size 3 1 v k (zcs (ks.take k)) ∧ Below w.heap.size w u)) (fun _ i _ => n - (iv i).toNat)
  case atStart => exact ⟨0, Nat.zero_le _, rfl, by simpa [zcs] using World.ownsRow_nil _ _ _ _, Below.refl _ _⟩
  case round =>
    obtain ⟨k, hk, rfl, hrel⟩ := hrel
    obtain ⟨av, cv, ev⟩ := ownsRow_slice hrel.out.1
    subst ev
    have HV : Hid (wr.ownsRow w.heap.size 3 1 (.slice av k cv) k (zcs (ks.take k)) ∧ Below w.heap.size w wr) := hrel
    clear hrel
    have cr := (HC.out wr HV.out.2).1
    by_cases hlt : k < n
    · have hki : (k : Int) < (n : Int) := by omega
      have hkL : k < S.R.length := by rw [← HN.out]; exact hlt
      obtain ⟨g, hag, x1⟩ := (HC.out wr HV.out.2).2 k hkL
      subst hag
      have hks1 : Hid (ks.take (k + 1) = ks.take k ++ [S.R[k].1]) := by
        have h1 := HK.out.2 k hlt hkL
        have hkk : k < ks.length := by rw [HK.out.1]; exact hlt
        rw [List.getElem?_eq_getElem hkk] at h1
        injection h1 with h1
        unfold Hid
        rw [List.take_succ_eq_append_getElem hkk, h1]
      generalize S.R[k].1 = y at *
      have hsz : Hid (w.heap.size ≤ wr.heap.size) := HV.out.2.size
      go_wp2_with (first
        | (at_builtin; refine wpList_append_own_at _ rfl _ _ 37 rfl w.heap.size 3 i0 (.int .i64 0) 1 8 Try.underlying37 hi0 hz0 hz1 hz2 rfl (by decide) _ k _ rfl (HV.out.1.alloc _) ⟨wr.heap.size, 0, none⟩ 1 1 [.int .i64 y] rfl rfl (World.news_of_block (cs := #[.int .i64 y]) (t := 3) (fr := (0, 0)) (heap_alloc_new wr _)) (by intro u hu; simp at hu; subst hu; rfl) (by unfold maxLen; omega) (by omega) (by have := hsz.out; simp; omega) ?_; intro v' w4 hown' hgrow hnil hloc
           obtain ⟨a', c', rfl⟩ := ownsRow_slice hown'
           have HW : Hid (w4.ownsRow w.heap.size 3 1 (.slice a' (k + 1) c') (k + 1) (zcs (ks.take (k + 1))) ∧ Below w.heap.size w w4) := by
             refine ⟨?_, (HV.out.2.alloc hsz.out _).grown hgrow (by have := hsz.out; simp; omega) (fun q e => (HV.out.1.lt q e).1)⟩
             rw [hks1.out]
             simpa [zcs, encI] using hown'
           clear hown' hgrow hnil hloc)
        | go_in)
      go_roundw
      case rel => exact ⟨k + 1, by omega, by simp, HW⟩
      case measure => simp only [iv]; omega
    · have hkn : k = n := by omega
      subst hkn
      have hki : ¬ (k : Int) < (k : Int) := by omega
      have hfull : ks.take k = ks := by rw [← HK.out.1]; exact List.take_length
      have hnil : (Value.slice av k cv = .slice none 0 0) ∨ ∃ q, av = some ⟨q, 0, none⟩ := by
        rcases HV.out.1.2 with ⟨e, _⟩ | ⟨q, cap, cur, e, _⟩
        · exact .inl e
        · injection e with e; exact .inr ⟨q, e⟩
      rcases hnil with e | ⟨q, hq2⟩
      · injection e with e1 e2 e3
        subst e1
        subst e3
        subst e2
        have HE : Hid (ks = []) := List.length_eq_zero_iff.1 HK.out.1
        clear hfull hki
        have hr := qrising_nil wr
        go_wp2_with fail
        refine Calls.mono hr ?_
        rintro e wx ⟨rfl, hwx⟩
        subst wx
        go_wp2
        go_ret
        refine ⟨_, rfl, ?_, HV.out.2⟩
        rw [HE.out, show srt [] = [] by unfold srt; simp]
        exact World.ownsRow_nil _ _ _ _
      · subst hq2
        have hRg : Rng wr wr w.heap.size q k cv ks ks := ⟨HK.out.1, List.Perm.refl _, by have := HV.out.1; rwa [hfull] at this, ⟨rfl, rfl, rfl, Nat.le_refl _, fun _ _ _ => rfl⟩⟩
        have hr := qrising_at hRg (by omega)
        clear hRg hfull
        go_wp2_with fail
        refine Calls.mono hr ?_
        rintro e w6 ⟨rfl, hR6⟩
        have HF : Hid (w6.ownsRow w.heap.size 3 1 (.slice (some ⟨q, 0, none⟩) k cv) k (zcs (srt ks)) ∧ Below w.heap.size w w6) := ⟨hR6.row, HV.out.2.grown hR6.grw HV.out.2.size (fun x e => by cases e; exact (HV.out.1.lt _ rfl).1)⟩
        clear hR6 hr
        go_wp2
        go_ret
        exact ⟨_, rfl, HF.out.1, HF.out.2⟩
set_option maxRecDepth 100000 in
set_option maxHeartbeats 4000000 in
theorem qwrites_at {w : World} {B r o : Nat} {t : TypeId} {S : SS Int} {F : Nat → Prop} {cs : Array Value} (h0 : IsR w B r o t S F cs) :
    Calls Try.prog 27 #[.pointer (some ⟨r, o, none⟩)] w fun e w' => ∃ v, e = .returned v ∧ w'.ownsRow w.heap.size 3 1 v S.W.length (zcs (srt (kys S.W))) ∧ Below w.heap.size w w' := by
  obtain ⟨vR, vW, vM, Y, hq⟩ := h0
  obtain ⟨i0, hi0, hz0, hz1, hz2⟩ := info_parts infoI
  obtain ⟨a, c, e0⟩ := ownsRow_slice hq.rW
  subst e0
  obtain ⟨n, hn⟩ : ∃ n, n = S.W.length := ⟨_, rfl⟩
  have HC : Hid (∀ u, Below w.heap.size w u → u.cell? ⟨r, o + 1, none⟩ = some (.slice a n c) ∧ ∀ k (hk : k < S.W.length), ∃ g, a = some ⟨g, 0, none⟩ ∧ u.cell? ⟨g, k * 2, none⟩ = some (.int .i64 S.W[k].1)) := fun u hu => by
    have b := hq.box.below hu hq.box.lt
    refine ⟨by rw [hn]; exact (b.cell _).trans hq.cW, fun k hk => ?_⟩
    obtain ⟨g, e, x1, _⟩ := pair_at (ownsRow_below hq.rW hu.block) k hk
    exact ⟨g, e, x1⟩
  have hl : S.W.length ≤ 256 := hq.lW
  have HN : Hid (n = S.W.length) := hn
  rw [← hn] at hl ⊢
  obtain ⟨ks, hks⟩ : ∃ ks, ks = kys S.W := ⟨_, rfl⟩
  have HK : Hid (ks.length = n ∧ ∀ k (hk : k < n) (hk' : k < S.W.length), ks[k]? = some S.W[k].1) := by
    refine ⟨by rw [hks, kys_len, hn], fun k hk hk' => ?_⟩
    rw [hks]
    simp [kys, hk']
  rw [← hks]
  clear hq hn hks
  have c0 := (HC.out w (Below.refl _ _)).1
  go_enter Try.func27, Try.ntmps27
  go_wp2_with fail
  go_loopw [3, 4] (fun v i u => ∃ k : Nat, k ≤ n ∧ i = .int .i64 (k : Int) ∧ Hid (u.ownsRow w.heap.size 3 1 v k (zcs (ks.take k)) ∧ Below w.heap.size w u)) (fun _ i _ => n - (iv i).toNat)
  case atStart => exact ⟨0, Nat.zero_le _, rfl, by simpa [zcs] using World.ownsRow_nil _ _ _ _, Below.refl _ _⟩
  case round =>
    obtain ⟨k, hk, rfl, hrel⟩ := hrel
    obtain ⟨av, cv, ev⟩ := ownsRow_slice hrel.out.1
    subst ev
    have HV : Hid (wr.ownsRow w.heap.size 3 1 (.slice av k cv) k (zcs (ks.take k)) ∧ Below w.heap.size w wr) := hrel
    clear hrel
    have cr := (HC.out wr HV.out.2).1
    by_cases hlt : k < n
    · have hki : (k : Int) < (n : Int) := by omega
      have hkL : k < S.W.length := by rw [← HN.out]; exact hlt
      obtain ⟨g, hag, x1⟩ := (HC.out wr HV.out.2).2 k hkL
      subst hag
      have hks1 : Hid (ks.take (k + 1) = ks.take k ++ [S.W[k].1]) := by
        have h1 := HK.out.2 k hlt hkL
        have hkk : k < ks.length := by rw [HK.out.1]; exact hlt
        rw [List.getElem?_eq_getElem hkk] at h1
        injection h1 with h1
        unfold Hid
        rw [List.take_succ_eq_append_getElem hkk, h1]
      generalize S.W[k].1 = y at *
      have hsz : Hid (w.heap.size ≤ wr.heap.size) := HV.out.2.size
      go_wp2_with (first
        | (at_builtin; refine wpList_append_own_at _ rfl _ _ 37 rfl w.heap.size 3 i0 (.int .i64 0) 1 8 Try.underlying37 hi0 hz0 hz1 hz2 rfl (by decide) _ k _ rfl (HV.out.1.alloc _) ⟨wr.heap.size, 0, none⟩ 1 1 [.int .i64 y] rfl rfl (World.news_of_block (cs := #[.int .i64 y]) (t := 3) (fr := (0, 0)) (heap_alloc_new wr _)) (by intro u hu; simp at hu; subst hu; rfl) (by unfold maxLen; omega) (by omega) (by have := hsz.out; simp; omega) ?_; intro v' w4 hown' hgrow hnil hloc
           obtain ⟨a', c', rfl⟩ := ownsRow_slice hown'
           have HW : Hid (w4.ownsRow w.heap.size 3 1 (.slice a' (k + 1) c') (k + 1) (zcs (ks.take (k + 1))) ∧ Below w.heap.size w w4) := by
             refine ⟨?_, (HV.out.2.alloc hsz.out _).grown hgrow (by have := hsz.out; simp; omega) (fun q e => (HV.out.1.lt q e).1)⟩
             rw [hks1.out]
             simpa [zcs, encI] using hown'
           clear hown' hgrow hnil hloc)
        | go_in)
      go_roundw
      case rel => exact ⟨k + 1, by omega, by simp, HW⟩
      case measure => simp only [iv]; omega
    · have hkn : k = n := by omega
      subst hkn
      have hki : ¬ (k : Int) < (k : Int) := by omega
      have hfull : ks.take k = ks := by rw [← HK.out.1]; exact List.take_length
      have hnil : (Value.slice av k cv = .slice none 0 0) ∨ ∃ q, av = some ⟨q, 0, none⟩ := by
        rcases HV.out.1.2 with ⟨e, _⟩ | ⟨q, cap, cur, e, _⟩
        · exact .inl e
        · injection e with e; exact .inr ⟨q, e⟩
      rcases hnil with e | ⟨q, hq2⟩
      · injection e with e1 e2 e3
        subst e1
        subst e3
        subst e2
        have HE : Hid (ks = []) := List.length_eq_zero_iff.1 HK.out.1
        clear hfull hki
        have hr := qrising_nil wr
        go_wp2_with fail
        refine Calls.mono hr ?_
        rintro e wx ⟨rfl, hwx⟩
        subst wx
        go_wp2
        go_ret
        refine ⟨_, rfl, ?_, HV.out.2⟩
        rw [HE.out, show srt [] = [] by unfold srt; simp]
        exact World.ownsRow_nil _ _ _ _
      · subst hq2
        have hRg : Rng wr wr w.heap.size q k cv ks ks := ⟨HK.out.1, List.Perm.refl _, by have := HV.out.1; rwa [hfull] at this, ⟨rfl, rfl, rfl, Nat.le_refl _, fun _ _ _ => rfl⟩⟩
        have hr := qrising_at hRg (by omega)
        clear hRg hfull
        go_wp2_with fail
        refine Calls.mono hr ?_
        rintro e w6 ⟨rfl, hR6⟩
        have HF : Hid (w6.ownsRow w.heap.size 3 1 (.slice (some ⟨q, 0, none⟩) k cv) k (zcs (srt ks)) ∧ Below w.heap.size w w6) := ⟨hR6.row, HV.out.2.grown hR6.grw HV.out.2.size (fun x e => by cases e; exact (HV.out.1.lt _ rfl).1)⟩
        clear hR6 hr
        go_wp2
        go_ret
        exact ⟨_, rfl, HF.out.1, HF.out.2⟩
end Go.Proofs.Ytdneikfocefnfaa
