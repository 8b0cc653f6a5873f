/-
  The document's own sets: Seen, Value, Read, Write, wherever they lie.
-/
import Derived.Test.YtdneikfocefnfaaRf
namespace Go.Proofs.Ytdneikfocefnfaa
open Go.RowKit
theorem info91 : (Try.prog.info? 91).map (fun i => (i.zero, i.size, i.bytes)) = some (some (.agg #[.int .i64 0, .int .i64 0]), 2, 16) := by kernel_rfl
theorem prs_set : ∀ (L : List (Int × Int)) (k : Nat) (p : Int × Int) (v : Int), L[k]? = some p → (prs L).set (k * 2 + 1) (.int .i64 v) = prs (L.set k (p.1, v))
  | [], _, _, _, h => by simp at h
  | x :: L, 0, p, v, h => by simp at h; subst h; simp [prs_cons]
  | x :: L, k + 1, p, v, h => by
    have := prs_set L k p v (by simpa using h)
    rw [prs_cons, show (k + 1) * 2 + 1 = (k * 2 + 1) + 1 + 1 by omega]
    simp only [List.set_cons_succ, this, prs_cons]
theorem pt_at (L : List (Int × Int)) (hn : (kys L).Nodup) (k : Nat) (h : k < L.length) (v : Int) : pt L L[k].1 v = L.set k (L[k].1, v) := by
  have hm : L[k].1 ∈ kys L := List.mem_map_of_mem (f := (·.1)) (List.getElem_mem h)
  unfold pt
  rw [if_pos ((gt_some_iff _ _).1 hm)]
  apply List.ext_getElem?
  intro j
  rw [List.getElem?_map, List.getElem?_set]
  by_cases e : k = j
  · subst e
    rw [if_pos rfl, if_pos h, List.getElem?_eq_getElem h]
    simp
  · rw [if_neg e]
    cases hj : L[j]? with
    | none => rfl
    | some p =>
      have hjl : j < L.length := (List.getElem?_eq_some_iff.1 hj).1
      have hp : L[j] = p := (List.getElem?_eq_some_iff.1 hj).2
      have : p.1 ≠ L[k].1 := fun e' => e (by
        have h1 : (kys L)[j]'(by simpa [kys] using hjl) = (kys L)[k]'(by simpa [kys] using h) := by simp only [kys, List.getElem_map, hp, e']
        exact ((List.getElem_inj hn).1 h1).symm)
      simp [this]
set_option maxRecDepth 100000 in
set_option maxHeartbeats 2000000 in
theorem qseen_at {w : World} {B r : Nat} {vR : Value} {L : List (Int × Int)} {o : Nat} {t : TypeId} {cs : Array Value} (hb : Box w r cs t) (ho : cs[o]? = some vR) (h : w.ownsRow B 89 2 vR L.length (prs L)) (hl : L.length ≤ 256) (i : Int) :
    Calls Try.prog 23 #[.pointer (some ⟨r, o, none⟩), .int .i64 i] w fun e w' => e = .returned (.tuple #[.int .i64 ((gt L i).getD 0), .bool (gt L i).isSome]) ∧ w' = w := by
  have c0 : w.cell? ⟨r, o, none⟩ = some vR := (hb.cell _).trans ho
  obtain ⟨a, c, rfl⟩ := ownsRow_slice h
  have HR : Hid (∀ k (hk : k < L.length), ∃ g, a = some ⟨g, 0, none⟩ ∧ w.cell? ⟨g, k * 2, none⟩ = some (.int .i64 L[k].1) ∧ w.cell? ⟨g, k * 2 + 1, none⟩ = some (.int .i64 L[k].2)) := fun k hk => pair_at h k hk
  obtain ⟨n, hn⟩ : ∃ n, n = L.length := ⟨_, rfl⟩
  rw [← hn] at c0 hl
  have HN : Hid (n = L.length) := hn
  clear h hb hn
  go_enter Try.func23, Try.ntmps23
  go_wp2
  go_loopw [6] (fun v u => ∃ k : Nat, k ≤ n ∧ v = .int .i64 (k : Int) ∧ u = w ∧ Hid (∀ j (hj : j < L.length), j < k → L[j].1 ≠ i)) (fun v _ => n - (iv v).toNat)
  case atStart => exact ⟨0, Nat.zero_le _, rfl, rfl, fun j _ hj => by omega⟩
  case round =>
    obtain ⟨k, hk, rfl, rfl, hno⟩ := hrel
    by_cases hlt : k < n
    · have hki : (k : Int) < (n : Int) := by omega
      have hkL : k < L.length := by rw [← HN.out]; exact hlt
      obtain ⟨g, rfl, x1, x2⟩ := HR.out k hkL
      by_cases he : L[k].1 = i
      · have hg : Hid (gt L i = some L[k].2) := gt_first L k hkL i (fun j hj => hno.out j (by omega) hj) he
        rw [he] at x1
        generalize L[k].2 = z at *
        clear he
        go_wp2
        go_ret2
        rw [hg.out]
        simp
      · have hno2 : Hid (∀ j (hj : j < L.length), j < k + 1 → L[j].1 ≠ i) := fun j hj hjk => by
          by_cases e : j = k
          · subst e; exact he
          · exact hno.out j hj (by omega)
        generalize L[k].1 = y at *
        go_wp2
        go_roundw
        case rel => exact ⟨k + 1, by omega, by simp, trivial, hno2⟩
        case measure => simp only [iv]; omega
    · have hki : ¬ (k : Int) < (n : Int) := by omega
      have hg : Hid (gt L i = none) := gt_last L i (fun j hj => hno.out j hj (by rw [← HN.out] at hj; omega))
      go_wp2
      go_ret2
      rw [hg.out]
      simp

set_option maxRecDepth 100000 in
set_option maxHeartbeats 2000000 in
theorem qvalue_at {w : World} {B r : Nat} {vW : Value} {L : List (Int × Int)} {o : Nat} {t : TypeId} {cs : Array Value} (hb : Box w r cs t) (ho : cs[o + 1]? = some vW) (h : w.ownsRow B 91 2 vW L.length (prs L)) (hl : L.length ≤ 256) (i : Int) :
    Calls Try.prog 21 #[.pointer (some ⟨r, o, none⟩), .int .i64 i] w fun e w' => e = .returned (.tuple #[.int .i64 ((gt L i).getD 0), .bool (gt L i).isSome]) ∧ w' = w := by
  have c0 : w.cell? ⟨r, o + 1, none⟩ = some vW := (hb.cell _).trans ho
  obtain ⟨a, c, rfl⟩ := ownsRow_slice h
  have HR : Hid (∀ k (hk : k < L.length), ∃ g, a = some ⟨g, 0, none⟩ ∧ w.cell? ⟨g, k * 2, none⟩ = some (.int .i64 L[k].1) ∧ w.cell? ⟨g, k * 2 + 1, none⟩ = some (.int .i64 L[k].2)) := fun k hk => pair_at h k hk
  obtain ⟨n, hn⟩ : ∃ n, n = L.length := ⟨_, rfl⟩
  rw [← hn] at c0 hl
  have HN : Hid (n = L.length) := hn
  clear h hb hn
  go_enter Try.func21, Try.ntmps21
  go_wp2
  go_loopw [6] (fun v u => ∃ k : Nat, k ≤ n ∧ v = .int .i64 (k : Int) ∧ u = w ∧ Hid (∀ j (hj : j < L.length), j < k → L[j].1 ≠ i)) (fun v _ => n - (iv v).toNat)
  case atStart => exact ⟨0, Nat.zero_le _, rfl, rfl, fun j _ hj => by omega⟩
  case round =>
    obtain ⟨k, hk, rfl, rfl, hno⟩ := hrel
    by_cases hlt : k < n
    · have hki : (k : Int) < (n : Int) := by omega
      have hkL : k < L.length := by rw [← HN.out]; exact hlt
      obtain ⟨g, rfl, x1, x2⟩ := HR.out k hkL
      by_cases he : L[k].1 = i
      · have hg : Hid (gt L i = some L[k].2) := gt_first L k hkL i (fun j hj => hno.out j (by omega) hj) he
        rw [he] at x1
        generalize L[k].2 = z at *
        clear he
        go_wp2
        go_ret2
        rw [hg.out]
        simp
      · have hno2 : Hid (∀ j (hj : j < L.length), j < k + 1 → L[j].1 ≠ i) := fun j hj hjk => by
          by_cases e : j = k
          · subst e; exact he
          · exact hno.out j hj (by omega)
        generalize L[k].1 = y at *
        go_wp2
        go_roundw
        case rel => exact ⟨k + 1, by omega, by simp, trivial, hno2⟩
        case measure => simp only [iv]; omega
    · have hki : ¬ (k : Int) < (n : Int) := by omega
      have hg : Hid (gt L i = none) := gt_last L i (fun j hj => hno.out j hj (by rw [← HN.out] at hj; omega))
      go_wp2
      go_ret2
      rw [hg.out]
      simp
set_option maxRecDepth 100000 in
set_option maxHeartbeats 4000000 in
theorem qread_at {w : World} {B r o : Nat} {t : TypeId} {S : SS Int} {F : Nat → Prop} {cs : Array Value} (h0 : IsR w B r o t S F cs) (i x : Int) :
    Calls Try.prog 9 #[.pointer (some ⟨r, o, none⟩), .int .i64 i, .int .i64 x] w fun e w' => e = .returned (.int .i64 (S.read i x).1) ∧ ToR w B r o t (S.read i x).2 F cs w' := by
  have H0 : Hid (ToR w B r o t S F cs w) := ToR.refl h0
  obtain ⟨vR, vW, vM, Y, hq⟩ := h0
  have c0 : w.cell? ⟨r, o, none⟩ = some vR := (hq.box.cell _).trans hq.cR
  have h := hq.rR
  have HQ0 : Hid (IsQ w B r o t S F cs vR vW vM Y) := hq
  have hl : S.R.length ≤ 256 := hq.lR
  obtain ⟨a, c, e0⟩ := ownsRow_slice h
  subst e0
  obtain ⟨i0, hi0, hz0, hz1, hz2⟩ := info_parts info57
  have HR : Hid (∀ k (hk : k < S.R.length), ∃ g, a = some ⟨g, 0, none⟩ ∧ w.cell? ⟨g, k * 2, none⟩ = some (.int .i64 S.R[k].1) ∧ w.cell? ⟨g, k * 2 + 1, none⟩ = some (.int .i64 S.R[k].2)) := fun k hk => pair_at h k hk
  clear hq
  by_cases h1 : i < 0 ∨ 1024 ≤ i ∨ x < 0
  · have e1 : Hid (S.read i x = (2, S)) := by unfold Hid SS.read; rw [if_pos h1]
    generalize S.read i x = q at *
    clear h HR HQ0
    rcases Int.lt_or_le i 0 with k1 | k1
    · go_enter Try.func9, Try.ntmps9
      go_wp2
      go_ret
      rw [e1.out]; exact ⟨rfl, H0.out⟩
    · rcases Int.lt_or_le i 1024 with k2 | k2
      · have k3 : x < 0 := by omega
        go_enter Try.func9, Try.ntmps9
        go_wp2
        go_ret
        rw [e1.out]; exact ⟨rfl, H0.out⟩
      · go_enter Try.func9, Try.ntmps9
        go_wp2
        go_ret
        rw [e1.out]; exact ⟨rfl, H0.out⟩
  have k1 : ¬ i < 0 := by omega
  have k2 : ¬ 1024 ≤ i := by omega
  have k3 : ¬ x < 0 := by omega
  obtain ⟨n, hn⟩ : ∃ n, n = S.R.length := ⟨_, rfl⟩
  have HRow : Hid (w.ownsRow B 89 2 (.slice a n c) n (prs S.R)) := by rw [hn]; exact h
  rw [← hn] at c0 hl HQ0
  have HN : Hid (n = S.R.length) := hn
  have hsome : Hid (∀ u, gt S.R i = some u → S.read i x = if u = x then (0, S) else (131, S)) := fun u hu => by unfold SS.read; rw [if_neg h1]; simp [hu]
  have hnone : Hid (gt S.R i = none → S.read i x = if 256 ≤ n then (3, S) else (0, { S with R := S.R ++ [(i, x)] })) := fun hu => by unfold SS.read; rw [if_neg h1]; simp [hu, hn]
  clear h hn h1
  generalize S.read i x = q at *
  go_enter Try.func9, Try.ntmps9
  go_wp2
  go_loopw [7] (fun v u => ∃ k : Nat, k ≤ n ∧ v = .int .i64 (k : Int) ∧ u = w ∧ Hid (∀ j (hj : j < S.R.length), j < k → S.R[j].1 ≠ i)) (fun v _ => n - (iv v).toNat)
  case atStart => exact ⟨0, Nat.zero_le _, rfl, rfl, fun j _ hj => by omega⟩
  case round =>
    obtain ⟨k, hk, rfl, hu, hno⟩ := hrel
    subst wr
    by_cases hlt : k < n
    · have hki : (k : Int) < (n : Int) := by omega
      have hkL : k < S.R.length := by rw [← HN.out]; exact hlt
      obtain ⟨g, hag, x1, x2⟩ := HR.out k hkL
      subst hag
      by_cases he : S.R[k].1 = i
      · have hg : Hid (gt S.R i = some S.R[k].2) := gt_first S.R k hkL i (fun j hj => hno.out j (by omega) hj) he
        have hq := hsome.out _ hg.out
        rw [he] at x1
        generalize S.R[k].2 = z at *
        clear he hg
        by_cases hz : z = x
        · subst hz
          have HQ : Hid (q = (0, S)) := by rw [if_pos rfl] at hq; exact hq
          clear hq hsome hnone
          go_wp2
          go_ret
          rw [HQ.out]; exact ⟨rfl, H0.out⟩
        · have HQ : Hid (q = (131, S)) := by rw [if_neg hz] at hq; exact hq
          clear hq hsome hnone
          go_wp2
          go_ret
          rw [HQ.out]; exact ⟨rfl, H0.out⟩
      · have hno2 : Hid (∀ j (hj : j < S.R.length), j < k + 1 → S.R[j].1 ≠ i) := fun j hj hjk => by
          by_cases e : j = k
          · subst e; exact he
          · exact hno.out j hj (by omega)
        generalize S.R[k].1 = y at *
        go_wp2
        go_roundw
        case rel => exact ⟨k + 1, by omega, by simp, trivial, hno2⟩
        case measure => simp only [iv]; omega
    · have hki : ¬ (k : Int) < (n : Int) := by omega
      have hq := hnone.out (gt_last S.R i (fun j hj => hno.out j hj (by rw [← HN.out] at hj; omega)))
      clear hno hsome hnone HR
      by_cases hf : n = 256
      · have hf' : (n : Int) = 256 := by omega
        have HQ : Hid (q = (3, S)) := by rw [if_pos (by omega)] at hq; exact hq
        clear hq
        subst hf
        go_wp2
        go_ret
        rw [HQ.out]; exact ⟨rfl, H0.out⟩
      · have hf' : ¬ (n : Int) = 256 := by omega
        have HQ : Hid (q = (0, { S with R := S.R ++ [(i, x)] })) := by rw [if_neg (by omega)] at hq; exact hq
        clear hq
        have HSB : Hid (B ≤ w.heap.size) := HQ0.out.hB
        have HX : Hid (Box w r cs t ∧ t ≠ 89 ∧ cs[o]? = some (.slice a n c)) := ⟨HQ0.out.box, HQ0.out.ty.1, HQ0.out.cR⟩
        go_wp2_with (first
          | (at_builtin; refine wpList_append_own_at _ rfl _ _ 26 rfl B 89 i0 (.agg #[.int .i64 0, .int .i64 0]) 2 16 Try.underlying26 hi0 hz0 hz1 hz2 rfl (by decide) _ n _ rfl (HRow.out.alloc _) ⟨w.heap.size, 0, none⟩ 1 1 [.int .i64 i, .int .i64 x] rfl rfl (World.news_of_block (cs := #[.int .i64 i, .int .i64 x]) (t := 89) (fr := (0, 0)) (heap_alloc_new w _)) (by intro u hu; simp at hu; rcases hu with rfl | rfl <;> rfl) (by unfold maxLen; omega) (by omega) (by have := HSB.out; simp; omega) ?_; intro v' w4 hown' hgrow hnil hloc
             obtain ⟨a', c', rfl⟩ := ownsRow_slice hown'
             have x4 : Box w4 r cs t := (hgrow.block r (by have := HX.out.1.lt; simp; omega) (fun e => row_box HRow.out HX.out.1 HX.out.2.1 e.symm)).trans (HX.out.1.alloc _)
             have f4 := x4.frozen (o)
             have c4 : w4.cell? ⟨r, o, none⟩ = some (.slice a n c) := (x4.cell _).trans HX.out.2.2)
          | go_in)
        go_ret
        rw [HQ.out]
        refine ⟨rfl, ?_⟩
        have hlr := HX.out.1.lt
        have hss := hgrow.size
        have x5 := x4.store (o) (.slice a' (n + 1) c')
        have hne : (Value.slice a' (n + 1) c').ownBlock ≠ some r := row_box hown' x4 HX.out.2.1
        refine HQ0.out.newR (v' := .slice a' (n + 1) c') x5 ?_ ?_ (fun k hk hkr hkv => ?_) ?_ ?_ ?_
        · rw [prs_snoc, List.length_append, ← HN.out]
          exact ownsRow_grown hown' (grown_store w4 r (o) _) (fun k hk e => hne (by rw [hk]; exact e.symm))
        · exact hloc.imp id (fun h => ⟨_, h, by simp⟩)
        · exact (heap_setCell_other w4 ⟨r, o, none⟩ k _ hkr).trans ((hgrow.block k (by simp; omega) (fun e => hkv e.symm)).trans (Below.heap_alloc w _ k hk))
        · simp at hss ⊢; omega
        · exact (((Below.refl B w).alloc HSB.out _).grown hgrow (by have := HSB.out; simp; omega) (fun k e => (HRow.out.lt k e).1)).grown (grown_store w4 r (o) _) (by have := HSB.out; simp at hss; omega) (fun k e => by cases e; exact (HQ0.out.fB r HQ0.out.fr).1)
        · rw [List.length_append, ← HN.out]; simp; omega
set_option maxRecDepth 100000 in
set_option maxHeartbeats 4000000 in
theorem qwrite_at {w : World} {B r o : Nat} {t : TypeId} {S : SS Int} {F : Nat → Prop} {cs : Array Value} (h0 : IsR w B r o t S F cs) (hnd : (kys S.W).Nodup) (i x : Int) :
    Calls Try.prog 11 #[.pointer (some ⟨r, o, none⟩), .int .i64 i, .int .i64 x] w fun e w' => e = .returned (.int .i64 (S.write i x).1) ∧ ToR w B r o t (S.write i x).2 F cs w' := by
  have H0 : Hid (ToR w B r o t S F cs w) := ToR.refl h0
  obtain ⟨vR, vW, vM, Y, hq⟩ := h0
  have c0 : w.cell? ⟨r, o + 1, none⟩ = some vW := (hq.box.cell _).trans hq.cW
  have h := hq.rW
  have HQ0 : Hid (IsQ w B r o t S F cs vR vW vM Y) := hq
  have hl : S.W.length ≤ 256 := hq.lW
  obtain ⟨a, c, e0⟩ := ownsRow_slice h
  subst e0
  obtain ⟨i0, hi0, hz0, hz1, hz2⟩ := info_parts info91
  have HR : Hid (∀ k (hk : k < S.W.length), ∃ g, a = some ⟨g, 0, none⟩ ∧ w.cell? ⟨g, k * 2, none⟩ = some (.int .i64 S.W[k].1) ∧ w.cell? ⟨g, k * 2 + 1, none⟩ = some (.int .i64 S.W[k].2)) := fun k hk => pair_at h k hk
  clear hq
  by_cases h1 : i < 0 ∨ 1024 ≤ i
  · have e1 : Hid (S.write i x = (2, S)) := by unfold Hid SS.write; rw [if_pos h1]
    generalize S.write i x = q at *
    clear h HR HQ0
    rcases Int.lt_or_le i 0 with k1 | k1
    · go_enter Try.func11, Try.ntmps11
      go_wp2
      go_ret
      rw [e1.out]; exact ⟨rfl, H0.out⟩
    · rcases Int.lt_or_le i 1024 with k2 | k2
      · omega
      · go_enter Try.func11, Try.ntmps11
        go_wp2
        go_ret
        rw [e1.out]; exact ⟨rfl, H0.out⟩
  have k1 : ¬ i < 0 := by omega
  have k2 : ¬ 1024 ≤ i := by omega
  obtain ⟨n, hn⟩ : ∃ n, n = S.W.length := ⟨_, rfl⟩
  have HRow : Hid (w.ownsRow B 91 2 (.slice a n c) n (prs S.W)) := by rw [hn]; exact h
  rw [← hn] at c0 hl HQ0
  have HN : Hid (n = S.W.length) := hn
  have hsome : Hid (∀ u, gt S.W i = some u → S.write i x = (0, { S with W := pt S.W i x })) := fun u hu => by unfold SS.write; rw [if_neg h1, if_neg (by simp [hu])]
  have hnone : Hid (gt S.W i = none → S.write i x = if 256 ≤ n then (3, S) else (0, { S with W := S.W ++ [(i, x)] })) := fun hu => by
    unfold SS.write
    rw [if_neg h1]
    by_cases hn2 : 256 ≤ n
    · rw [if_pos hn2, if_pos ⟨by simp [hu], by omega⟩]
    · rw [if_neg hn2, if_neg (by omega), pt_none _ _ _ hu]
  clear h hn h1
  generalize S.write i x = q at *
  go_enter Try.func11, Try.ntmps11
  go_wp2
  go_loopw [7] (fun v u => ∃ k : Nat, k ≤ n ∧ v = .int .i64 (k : Int) ∧ u = w ∧ Hid (∀ j (hj : j < S.W.length), j < k → S.W[j].1 ≠ i)) (fun v _ => n - (iv v).toNat)
  case atStart => exact ⟨0, Nat.zero_le _, rfl, rfl, fun j _ hj => by omega⟩
  case round =>
    obtain ⟨k, hk, rfl, hu, hno⟩ := hrel
    subst wr
    by_cases hlt : k < n
    · have hki : (k : Int) < (n : Int) := by omega
      have hkL : k < S.W.length := by rw [← HN.out]; exact hlt
      obtain ⟨g, hag, x1, x2⟩ := HR.out k hkL
      subst hag
      by_cases he : S.W[k].1 = i
      · have hg : Hid (gt S.W i = some S.W[k].2) := gt_first S.W k hkL i (fun j hj => hno.out j (by omega) hj) he
        have hq := hsome.out _ hg.out
        obtain ⟨_, _, cur, e1, hB9, hbg, hcap, hmx, hsz9, htk⟩ : ∃ (g' cap : Nat) (cur : Array Value), Value.slice (some ⟨g, 0, none⟩) n c = .slice (some ⟨g', 0, none⟩) n cap ∧ B ≤ g' ∧ Box w g' cur 91 ∧ n ≤ cap ∧ cap ≤ maxLen ∧ cur.size = cap * 2 ∧ cur.toList.take (n * 2) = prs S.W := by
          rcases HRow.out.2 with ⟨e, _⟩ | ⟨g', cap, cur, e, a1, a2, a3, a4, a5, a6⟩
          · cases e
          · exact ⟨g', cap, cur, e, a1, a2, a3, a4, a5, a6⟩
        injection e1 with e1 e2 e3
        injection e1 with e1
        injection e1 with e1
        subst e1
        subst e3
        have f2 := hbg.frozen (k * 2 + 1)
        have b2 := hbg.store (k * 2 + 1) (.int .i64 x)
        have hpt : Hid (pt S.W i x = S.W.set k (S.W[k].1, x)) := by unfold Hid; rw [← he]; exact pt_at S.W hnd k hkL x
        have K : Hid (ToR w B r o t { S with W := pt S.W i x } F cs (w.setCell ⟨g, k * 2 + 1, none⟩ (.int .i64 x))) := by
          have q0 := HQ0.out
          have hgr := grown_store w g (k * 2 + 1) (.int .i64 x)
          have hrg : r ≠ g := fun e => row_box q0.rW q0.box q0.ty.2.1 (by rw [e]; rfl)
          have hb' : Box (w.setCell ⟨g, k * 2 + 1, none⟩ (.int .i64 x)) r cs t := q0.box.other g _ _ hrg
          have hcs : cs.setIfInBounds (o + 1) (.slice (some ⟨g, 0, none⟩) n c) = cs := by
            apply Array.ext_getElem?
            intro j
            rw [Array.getElem?_setIfInBounds]
            split
            · rename_i e
              subst e
              split
              · exact q0.cW.symm
              · rename_i e2; exact absurd (Array.getElem?_eq_some_iff.1 q0.cW).1 e2
            · rfl
          refine q0.newW (v' := .slice (some ⟨g, 0, none⟩) n c) (by rw [hcs]; exact hb') ?_ (.inl rfl) (fun k' _ _ hk' => hgr.block k' (by omega) (fun e => hk' (by injection e with e; rw [e]; rfl))) hgr.size ((Below.refl B w).grown hgr q0.hB (fun k' e => by cases e; exact hB9)) ?_
          · have hlen : (pt S.W i x).length = n := by rw [hpt.out, List.length_set, HN.out]
            rw [hlen]
            refine ⟨?_, .inr ⟨g, c, _, rfl, hB9, b2, hcap, hmx, by simpa using hsz9, ?_⟩⟩
            · rw [hpt.out]
              have := HRow.out.1
              have e9 := prs_set S.W k S.W[k] x (List.getElem?_eq_getElem hkL)
              rw [← e9]
              simpa using this
            · rw [hpt.out, ← prs_set S.W k S.W[k] x (List.getElem?_eq_getElem hkL), ← htk]
              rw [Array.toList_setIfInBounds, List.take_set]
          · rw [hpt.out, List.length_set]; exact q0.lW
        have HQ : Hid (q = (0, { S with W := pt S.W i x })) := hq
        rw [he] at x1
        generalize S.W[k].2 = z at *
        clear he hg hq hsome hnone hbg b2 htk hpt HR HRow HQ0 hno
        go_wp2
        go_ret
        rw [HQ.out]; exact ⟨rfl, K.out⟩
      · have hno2 : Hid (∀ j (hj : j < S.W.length), j < k + 1 → S.W[j].1 ≠ i) := fun j hj hjk => by
          by_cases e : j = k
          · subst e; exact he
          · exact hno.out j hj (by omega)
        generalize S.W[k].1 = y at *
        go_wp2
        go_roundw
        case rel => exact ⟨k + 1, by omega, by simp, trivial, hno2⟩
        case measure => simp only [iv]; omega
    · have hki : ¬ (k : Int) < (n : Int) := by omega
      have hq := hnone.out (gt_last S.W i (fun j hj => hno.out j hj (by rw [← HN.out] at hj; omega)))
      clear hno hsome hnone HR
      by_cases hf : n = 256
      · have hf' : (n : Int) = 256 := by omega
        have HQ : Hid (q = (3, S)) := by rw [if_pos (by omega)] at hq; exact hq
        clear hq
        subst hf
        go_wp2
        go_ret
        rw [HQ.out]; exact ⟨rfl, H0.out⟩
      · have hf' : ¬ (n : Int) = 256 := by omega
        have HQ : Hid (q = (0, { S with W := S.W ++ [(i, x)] })) := by rw [if_neg (by omega)] at hq; exact hq
        clear hq
        have HSB : Hid (B ≤ w.heap.size) := HQ0.out.hB
        have HX : Hid (Box w r cs t ∧ t ≠ 91 ∧ cs[o + 1]? = some (.slice a n c)) := ⟨HQ0.out.box, HQ0.out.ty.2.1, HQ0.out.cW⟩
        go_wp2_with (first
          | (at_builtin; refine wpList_append_own_at _ rfl _ _ 27 rfl B 91 i0 (.agg #[.int .i64 0, .int .i64 0]) 2 16 Try.underlying27 hi0 hz0 hz1 hz2 rfl (by decide) _ n _ rfl (HRow.out.alloc _) ⟨w.heap.size, 0, none⟩ 1 1 [.int .i64 i, .int .i64 x] rfl rfl (World.news_of_block (cs := #[.int .i64 i, .int .i64 x]) (t := 91) (fr := (0, 0)) (heap_alloc_new w _)) (by intro u hu; simp at hu; rcases hu with rfl | rfl <;> rfl) (by unfold maxLen; omega) (by omega) (by have := HSB.out; simp; omega) ?_; intro v' w4 hown' hgrow hnil hloc
             obtain ⟨a', c', rfl⟩ := ownsRow_slice hown'
             have x4 : Box w4 r cs t := (hgrow.block r (by have := HX.out.1.lt; simp; omega) (fun e => row_box HRow.out HX.out.1 HX.out.2.1 e.symm)).trans (HX.out.1.alloc _)
             have f4 := x4.frozen (o + 1)
             have c4 : w4.cell? ⟨r, o + 1, none⟩ = some (.slice a n c) := (x4.cell _).trans HX.out.2.2)
          | go_in)
        go_ret
        rw [HQ.out]
        refine ⟨rfl, ?_⟩
        have hlr := HX.out.1.lt
        have hss := hgrow.size
        have x5 := x4.store (o + 1) (.slice a' (n + 1) c')
        have hne : (Value.slice a' (n + 1) c').ownBlock ≠ some r := row_box hown' x4 HX.out.2.1
        refine HQ0.out.newW (v' := .slice a' (n + 1) c') x5 ?_ ?_ (fun k hk hkr hkv => ?_) ?_ ?_ ?_
        · rw [prs_snoc, List.length_append, ← HN.out]
          exact ownsRow_grown hown' (grown_store w4 r (o + 1) _) (fun k hk e => hne (by rw [hk]; exact e.symm))
        · exact hloc.imp id (fun h => ⟨_, h, by simp⟩)
        · exact (heap_setCell_other w4 ⟨r, o + 1, none⟩ k _ hkr).trans ((hgrow.block k (by simp; omega) (fun e => hkv e.symm)).trans (Below.heap_alloc w _ k hk))
        · simp at hss ⊢; omega
        · exact (((Below.refl B w).alloc HSB.out _).grown hgrow (by have := HSB.out; simp; omega) (fun k e => (HRow.out.lt k e).1)).grown (grown_store w4 r (o + 1) _) (by have := HSB.out; simp at hss; omega) (fun k e => by cases e; exact (HQ0.out.fB r HQ0.out.fr).1)
        · rw [List.length_append, ← HN.out]; simp; omega
end Go.Proofs.Ytdneikfocefnfaa
