/-
  The document's own sets: Read.
-/
import Derived.Test.YtdneikfocefnfaaRef
import Derived.Test.YtdneikfocefnfaaMarked
namespace Go.Proofs.Ytdneikfocefnfaa
open Go.RowKit
theorem info57 : (Try.prog.info? 89).map (fun i => (i.zero, i.size, i.bytes)) = some (some (.agg #[.int .i64 0, .int .i64 0]), 2, 16) := by kernel_rfl
theorem prs_snoc (L : List (Int × Int)) (i x : Int) : prs (L ++ [(i, x)]) = prs L ++ [.int .i64 i, .int .i64 x] := by simp [prs]
/-- one more pair in a row of the document's sets; j: which of its cells, t: the row's type -/
structure Add1 (w w' : World) (B r j : Nat) (t : TypeId) (cs : Array Value) (v : Value) (L : List (Int × Int)) : Prop where
  ex : ∃ v', Box w' r (cs.setIfInBounds j v') 30 ∧ w'.ownsRow B t 2 v' L.length (prs L) ∧ (v'.ownBlock = v.ownBlock ∨ ∃ k, v'.ownBlock = some k ∧ w.heap.size ≤ k)
  st : ∀ k, k < w.heap.size → k ≠ r → v.ownBlock ≠ some k → w'.heap[k]? = w.heap[k]?
  bel : Below B w w'
set_option maxRecDepth 100000 in
set_option maxHeartbeats 4000000 in
theorem rread_at {w : World} {B r : Nat} {vR vW vM : Value} {L : List (Int × Int)} (hb : Box w r #[vR, vW, vM] 30) (h : w.ownsRow B 89 2 vR L.length (prs L)) (hl : L.length ≤ 256) (hB : B ≤ r) (i x : Int) :
    Calls Try.prog 9 #[ptr r, .int .i64 i, .int .i64 x] w fun e w' => (e = .returned (.int .i64 (SS.read (⟨L, [], []⟩ : SS Int) i x).1)) ∧ ((SS.read (⟨L, [], []⟩ : SS Int) i x).2.R = L ∧ w' = w ∨ (SS.read (⟨L, [], []⟩ : SS Int) i x).2.R = L ++ [(i, x)] ∧ Add1 w w' B r 0 89 #[vR, vW, vM] vR (L ++ [(i, x)])) := by
  have c0 : w.cell? ⟨r, 0, none⟩ = some vR := hb.cell 0
  obtain ⟨a, c, rfl⟩ := ownsRow_slice h
  obtain ⟨i0, hi0, hz0, hz1, hz2⟩ := info_parts info57
  have HR : Hid (∀ k (hk : k < L.length), ∃ g, a = some ⟨g, 0, none⟩ ∧ w.cell? ⟨g, k * 2, none⟩ = some (.int .i64 L[k].1) ∧ w.cell? ⟨g, k * 2 + 1, none⟩ = some (.int .i64 L[k].2)) := fun k hk => pair_at h k hk
  by_cases h1 : i < 0 ∨ 1024 ≤ i ∨ x < 0
  · have e1 : Hid (SS.read (⟨L, [], []⟩ : SS Int) i x = (2, ⟨L, [], []⟩)) := by unfold Hid SS.read; rw [if_pos h1]
    generalize SS.read (⟨L, [], []⟩ : SS Int) i x = q at *
    clear hb h HR
    unfold ptr
    rcases Int.lt_or_le i 0 with k1 | k1
    · go_enter Try.func9, Try.ntmps9
      go_wp2
      go_ret
      rw [e1.out]; exact ⟨rfl, .inl ⟨rfl, rfl⟩⟩
    · rcases Int.lt_or_le i 1024 with k2 | k2
      · have k3 : x < 0 := by omega
        go_enter Try.func9, Try.ntmps9
        go_wp2
        go_ret
        rw [e1.out]; exact ⟨rfl, .inl ⟨rfl, rfl⟩⟩
      · go_enter Try.func9, Try.ntmps9
        go_wp2
        go_ret
        rw [e1.out]; exact ⟨rfl, .inl ⟨rfl, rfl⟩⟩
  have k1 : ¬ i < 0 := by omega
  have k2 : ¬ 1024 ≤ i := by omega
  have k3 : ¬ x < 0 := by omega
  obtain ⟨n, hn⟩ : ∃ n, n = L.length := ⟨_, rfl⟩
  have HRow : Hid (w.ownsRow B 89 2 (.slice a n c) n (prs L)) := by rw [hn]; exact h
  rw [← hn] at c0 hl hb
  have HX : Hid (Box w r #[.slice a n c, vW, vM] 30) := hb
  have HN : Hid (n = L.length) := hn
  have hsome : Hid (∀ u, gt L i = some u → SS.read (⟨L, [], []⟩ : SS Int) i x = if u = x then (0, ⟨L, [], []⟩) else (131, ⟨L, [], []⟩)) := fun u hu => by unfold SS.read; rw [if_neg h1]; simp [hu]
  have hnone : Hid (gt L i = none → SS.read (⟨L, [], []⟩ : SS Int) i x = if 256 ≤ n then (3, ⟨L, [], []⟩) else (0, ⟨L ++ [(i, x)], [], []⟩)) := fun hu => by unfold SS.read; rw [if_neg h1]; simp [hu, hn]
  clear h hb hn h1
  rw [← HN.out]
  generalize SS.read (⟨L, [], []⟩ : SS Int) i x = q at *
  unfold ptr
  go_enter Try.func9, Try.ntmps9
  go_wp2
  go_loopw [7] (fun v u => ∃ k : Nat, k ≤ n ∧ v = .int .i64 (k : Int) ∧ u = w ∧ Hid (∀ j (hj : j < L.length), j < k → L[j].1 ≠ i)) (fun v _ => n - (iv v).toNat)
  case atStart => exact ⟨0, Nat.zero_le _, rfl, rfl, fun j _ hj => by omega⟩
  case round =>
    obtain ⟨k, hk, rfl, rfl, hno⟩ := hrel
    by_cases hlt : k < n
    · have hki : (k : Int) < (n : Int) := by omega
      have hkL : k < L.length := by rw [← HN.out]; exact hlt
      obtain ⟨g, rfl, x1, x2⟩ := HR.out k hkL
      by_cases he : L[k].1 = i
      · have hg : Hid (gt L i = some L[k].2) := gt_first L k hkL i (fun j hj => hno.out j (by omega) hj) he
        have hq := hsome.out _ hg.out
        rw [he] at x1
        generalize L[k].2 = z at *
        clear he hg
        by_cases hz : z = x
        · subst hz
          have HQ : Hid (q = (0, ⟨L, [], []⟩)) := by rw [if_pos rfl] at hq; exact hq
          clear hq hsome hnone
          go_wp2
          go_ret
          rw [HQ.out]; exact ⟨rfl, .inl ⟨rfl, rfl⟩⟩
        · have HQ : Hid (q = (131, ⟨L, [], []⟩)) := by rw [if_neg hz] at hq; exact hq
          clear hq hsome hnone
          go_wp2
          go_ret
          rw [HQ.out]; exact ⟨rfl, .inl ⟨rfl, rfl⟩⟩
      · have hno2 : Hid (∀ j (hj : j < L.length), j < k + 1 → L[j].1 ≠ i) := fun j hj hjk => by
          by_cases e : j = k
          · subst e; exact he
          · exact hno.out j hj (by omega)
        generalize L[k].1 = y at *
        go_wp2
        go_roundw
        case rel => exact ⟨k + 1, by omega, by simp, trivial, hno2⟩
        case measure => simp only [iv]; omega
    · have hki : ¬ (k : Int) < (n : Int) := by omega
      have hq := hnone.out (gt_last L i (fun j hj => hno.out j hj (by rw [← HN.out] at hj; omega)))
      clear hno hsome hnone HR
      by_cases hf : n = 256
      · have hf' : (n : Int) = 256 := by omega
        have HQ : Hid (q = (3, ⟨L, [], []⟩)) := by rw [if_pos (by omega)] at hq; exact hq
        clear hq
        subst hf
        go_wp2
        go_ret
        rw [HQ.out]; exact ⟨rfl, .inl ⟨rfl, rfl⟩⟩
      · have hf' : ¬ (n : Int) = 256 := by omega
        have HQ : Hid (q = (0, ⟨L ++ [(i, x)], [], []⟩)) := by rw [if_neg (by omega)] at hq; exact hq
        clear hq
        obtain ⟨w3, hw3⟩ : ∃ w3, w3 = wr := ⟨_, rfl⟩
        subst hw3
        have hsB : B ≤ w3.heap.size := by have := HX.out.lt; omega
        have HSB : Hid (B ≤ w3.heap.size) := hsB
        clear hsB
        go_wp2_with (first
          | (at_builtin; refine wpList_append_own_at _ rfl _ _ 26 rfl B 89 i0 (.agg #[.int .i64 0, .int .i64 0]) 2 16 Try.underlying26 hi0 hz0 hz1 hz2 rfl (by decide) _ n _ rfl (HRow.out.alloc _) ⟨w3.heap.size, 0, none⟩ 1 1 [.int .i64 i, .int .i64 x] rfl rfl (World.news_of_block (cs := #[.int .i64 i, .int .i64 x]) (t := 89) (fr := (0, 0)) (heap_alloc_new w3 _)) (by intro u hu; simp at hu; rcases hu with rfl | rfl <;> rfl) (by unfold maxLen; omega) (by omega) (by have := HSB.out; simp; omega) ?_; intro v' w4 hown' hgrow hnil hloc
             obtain ⟨a', c', rfl⟩ := ownsRow_slice hown'
             have x4 : Box w4 r #[.slice a n c, vW, vM] 30 := (hgrow.block r (by have := HX.out.lt; simp; omega) (fun e => by
               obtain ⟨cs, hc⟩ := ownsRow_box HRow.out r e.symm
               exact (HX.out.ne hc (by decide)) rfl)).trans (HX.out.alloc _)
             have f4 := x4.frozen 0
             have c4 : w4.cell? ⟨r, 0, none⟩ = some (.slice a n c) := x4.cell 0)
          | go_in)
        go_ret
        rw [HQ.out]
        refine ⟨rfl, .inr ⟨rfl, ?_⟩⟩
        have hlr := HX.out.lt
        have hss := hgrow.size
        have x5 := x4.store 0 (.slice a' (n + 1) c')
        have hne : (Value.slice a' (n + 1) c').ownBlock ≠ some r := fun e => by
          obtain ⟨cs, hc⟩ := ownsRow_box hown' r e
          exact (x4.ne hc (by decide)) rfl
        refine ⟨⟨_, x5, ?_, ?_⟩, fun k hk hkr hkv => ?_, ?_⟩
        · rw [prs_snoc, List.length_append, ← HN.out]
          exact ownsRow_grown hown' (grown_store w4 r 0 _) (fun k hk e => hne (by rw [hk]; exact e.symm))
        · exact hloc.imp id (fun h => ⟨_, h, by simp⟩)
        · exact (heap_setCell_other w4 ⟨r, 0, none⟩ k _ hkr).trans ((hgrow.block k (by simp; omega) (fun e => hkv e.symm)).trans (Below.heap_alloc w3 _ k hk))
        · exact (((Below.refl B w3).alloc HSB.out _).grown hgrow (by have := HSB.out; simp; omega) (fun k e => (HRow.out.lt k e).1)).grown (grown_store w4 r 0 _) (by have := HSB.out; simp at hss; omega) (fun k e => by cases e; exact hB)
end Go.Proofs.Ytdneikfocefnfaa
