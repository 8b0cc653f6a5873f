/-
  Sets and rows beside them; what SetsUndo holds through its calls.
-/
import Derived.Test.YtdlhgamepfcahaaKeepL
namespace Go.Proofs.Ytdlhgamepfcahaa
open Go.RowKit Go.Maps
theorem ownsRow_base {w : World} {B B' n : Nat} {e : TypeId} {v : Value} {xs : List Value} (h : w.ownsRow B' e 1 v n xs) (hB : B ≤ B') : w.ownsRow B e 1 v n xs := by
  refine ⟨h.1, ?_⟩
  rcases h.2 with h1 | ⟨q, cap, cur, h1, hb, hg, r⟩
  · exact .inl h1
  · exact .inr ⟨q, cap, cur, h1, by omega, hg, r⟩
/-- sets, and rows that lie beside them -/
def Sd (w u : World) (g : Nat) (S : SS Int) (Y : List (Value × List Int)) : Prop :=
  ∃ F, IsS encI 52 49 u w.heap.size g S F ∧ (∀ p ∈ Y, u.ownsRow w.heap.size 3 1 p.1 p.2.length (zcs p.2) ∧ ∀ k, p.1.ownBlock = some k → ¬ F k ∧ k < u.heap.size) ∧ Below w.heap.size w u
section
variable {w u : World} {g : Nat} {S : SS Int} {Y : List (Value × List Int)}
theorem Sd.below {u' : World} (h : Sd w u g S Y) (hb : Below u.heap.size u u') : Sd w u' g S Y := by
  obtain ⟨F, h1, h2, h3⟩ := h
  have := hb.size
  exact ⟨F, h1.below hb, fun p hp => ⟨ownsRow_below (h2 p hp).1 hb.block, fun k hk => ⟨((h2 p hp).2 k hk).1, by have := ((h2 p hp).2 k hk).2; omega⟩⟩, h3.trans (hb.mono h1.Ble)⟩
theorem Sd.drew (h : Sd w u g S Y) (q : Nat) : Sd w (u.drewN q) g S Y := h.below ⟨rfl, rfl, rfl, Nat.le_refl _, fun _ _ => rfl⟩
theorem Sd.to {u' : World} {S' : SS Int} {F : Nat → Prop} (h2 : ∀ p ∈ Y, u.ownsRow w.heap.size 3 1 p.1 p.2.length (zcs p.2) ∧ ∀ k, p.1.ownBlock = some k → ¬ F k ∧ k < u.heap.size) (h3 : Below w.heap.size w u) (ht : To encI 52 49 u w.heap.size g S' F u') : Sd w u' g S' Y := by
  have hs := ht.2.2.1
  refine ⟨_, ht.1, fun p hp => ⟨?_, fun k hk => ?_⟩, h3.trans ht.2.1⟩
  · obtain ⟨o, hb⟩ := h2 p hp
    refine ⟨o.1, ?_⟩
    rcases o.2 with h1 | ⟨q, cap, cur, h1, hq, hg, r⟩
    · exact .inl h1
    · have hq' := hb q (by rw [h1]; rfl)
      exact .inr ⟨q, cap, cur, h1, hq, (ht.2.2.2 q hq'.2 hq'.1).trans hg, r⟩
  · obtain ⟨hF, hl⟩ := (h2 p hp).2 k hk
    exact ⟨fun h => h.elim hF (fun h => by omega), by omega⟩
theorem Sd.row {v : Value} {l : List Int} {n : Nat} {B' : Nat} {u0 : World} (hB : u0.heap.size ≤ B') (h0 : Sd w u0 g S Y) (hb : Below u0.heap.size u0 u) (hv : u.ownsRow B' 3 1 v n (zcs l)) : Sd w u g S ((v, l) :: Y) := by
  obtain ⟨F, h1, h2, h3⟩ := h0
  have hs := hb.size
  have e : n = l.length := by have := hv.1; simp [zcs] at this; omega
  subst e
  refine ⟨F, h1.below hb, fun p hp => ?_, h3.trans (hb.mono h1.Ble)⟩
  rcases List.mem_cons.1 hp with rfl | hp
  · have := h1.Ble
    refine ⟨ownsRow_base hv (by omega), fun k hk => ?_⟩
    obtain ⟨cs, hc⟩ := ownsRow_box hv k hk
    have := (hv.lt k hk).1
    exact ⟨fun hF => by have := (h1.fB k hF).2; omega, Box.lt hc⟩
  · exact ⟨ownsRow_below (h2 p hp).1 hb.block, fun k hk => ⟨((h2 p hp).2 k hk).1, by have := ((h2 p hp).2 k hk).2; omega⟩⟩
theorem Sd.mark (h : Sd w u g S Y) : Calls Try.prog 12 #[ptr g] u fun r u' => r = .returned (.int .i64 S.mark.1) ∧ Sd w u' g S.mark.2 Y := by
  obtain ⟨F, h1, h2, h3⟩ := h
  exact (mark_at h1).mono fun _ _ ⟨e, ht⟩ => ⟨e, Sd.to h2 h3 ht⟩
theorem Sd.keep (h : Sd w u g S Y) : Calls Try.prog 14 #[ptr g] u fun r u' => r = .returned (.int .i64 S.keep.1) ∧ Sd w u' g S.keep.2 Y := by
  obtain ⟨F, h1, h2, h3⟩ := h
  exact (keep_at h1).mono fun _ _ ⟨e, ht⟩ => ⟨e, Sd.to h2 h3 ht⟩
theorem Sd.undo (h : Sd w u g S Y) : Calls Try.prog 16 #[ptr g] u fun r u' => r = .returned (.int .i64 S.undo.1) ∧ Sd w u' g S.undo.2 Y := by
  obtain ⟨F, h1, h2, h3⟩ := h
  exact (undo_at h1).mono fun _ _ ⟨e, ht⟩ => ⟨e, Sd.to h2 h3 ht⟩
theorem Sd.play (h : Sd w u g S Y) (b : Bool) (a0 : Option Addr) (n0 c0 : Nat) (os : List Op4) (hl : os.length = n0) (hr : ∀ u, Below w.heap.size w u → RdOps u a0 os) (hn : n0 ≤ 9223372036854775807) : Calls Try.prog 29 #[ptr g, .slice a0 n0 c0, .bool b] u fun r u' => r = .returned (.tuple #[]) ∧ Sd w u' g (S.play b (os.take 200)) Y := by
  obtain ⟨F, h1, h2, h3⟩ := h
  exact (play_at h1 b a0 n0 c0 os hl (fun v hv => hr v (h3.trans hv)) hn).mono fun _ _ ⟨e, ht⟩ => ⟨e, Sd.to h2 h3 ht⟩
theorem Sd.depth (h : Sd w u g S Y) : Calls Try.prog 24 #[ptr g] u fun r u' => r = .returned (.int .i64 (S.M.length : Int)) ∧ u' = u := by
  obtain ⟨F, h1, h2, h3⟩ := h
  exact depth_at h1
theorem Sd.value (h : Sd w u g S Y) (i : Int) (hi : (Lit.int .i64 i).wf = true) : Calls Try.prog 20 #[ptr g, .int .i64 i] u fun r u' => r = .returned (.tuple #[.int .i64 ((gt S.W i).getD 0), .bool (gt S.W i).isSome]) ∧ u' = u := by
  obtain ⟨F, h1, h2, h3⟩ := h
  exact value_at h1 i hi
theorem Sd.seen (h : Sd w u g S Y) (i : Int) (hi : (Lit.int .i64 i).wf = true) : Calls Try.prog 22 #[ptr g, .int .i64 i] u fun r u' => r = .returned (.tuple #[.int .i64 ((gt S.R i).getD 0), .bool (gt S.R i).isSome]) ∧ u' = u := by
  obtain ⟨F, h1, h2, h3⟩ := h
  exact seen_at h1 i hi
theorem Sd.writes (h : Sd w u g S Y) : Calls Try.prog 19 #[ptr g] u fun r u' => ∃ v, r = .returned v ∧ Sd w u' g S ((v, srt (kys S.W)) :: Y) := by
  obtain ⟨F, h1, h2, h3⟩ := id h
  exact (writes_at h1).mono fun _ _ ⟨v, e, k1, k2⟩ => ⟨v, e, Sd.row (Nat.le_refl _) h k2 k1⟩
theorem Sd.reads (h : Sd w u g S Y) : Calls Try.prog 18 #[ptr g] u fun r u' => ∃ v, r = .returned v ∧ Sd w u' g S ((v, srt (kys S.R)) :: Y) := by
  obtain ⟨F, h1, h2, h3⟩ := id h
  exact (reads_at h1).mono fun _ _ ⟨v, e, k1, k2⟩ => ⟨v, e, Sd.row (Nat.le_refl _) h k2 k1⟩
theorem Sd.gd (h : Sd w u g S Y) : Gd S.R ∧ Gd S.W ∧ S.M.length ≤ 8 := by
  obtain ⟨F, ⟨rb, wb, v, X, h1⟩, _⟩ := h
  exact ⟨h1.rd.gd, h1.wr.gd, by rw [h1.em, List.length_map]; exact h1.dep⟩
theorem Sd.less {p : Value × List Int} (h : Sd w u g S (p :: Y)) : Sd w u g S Y := by
  obtain ⟨F, h1, h2, h3⟩ := h
  exact ⟨F, h1, fun q hq => h2 q (List.mem_cons_of_mem _ hq), h3⟩
theorem Sd.own (h : Sd w u g S Y) {p : Value × List Int} (hp : p ∈ Y) : u.ownsRow w.heap.size 3 1 p.1 p.2.length (zcs p.2) := by
  obtain ⟨F, h1, h2, h3⟩ := h
  exact (h2 p hp).1
end
/-- how many marks, as the world has it -/
def dep (u : World) (g : Nat) : Nat := match u.cell? ⟨g, 3, none⟩ with
  | some (.slice _ n _) => n
  | _ => 0
theorem Sd.dep {w u : World} {g : Nat} {S : SS Int} {Y : List (Value × List Int)} (h : Sd w u g S Y) : dep u g = S.M.length := by
  obtain ⟨F, ⟨rb, wb, v, X, h1⟩, _⟩ := h
  have c := h1.box.cell 3
  obtain ⟨a, cap, rfl⟩ := ownsRow_slice h1.row
  unfold Go.Proofs.Ytdlhgamepfcahaa.dep
  rw [c, h1.em, List.length_map]
  rfl
/-- what stands within a scope: the mark itself, and all that was read ahead of it -/
def Inn (S0 S : SS Int) : Prop := (∃ T, S.M = (S0.M ++ [S0.W]) ++ T) ∧ ∀ i, (gt S0.R i).isSome = true → (gt S.R i).isSome = true
theorem Inn.start (S0 : SS Int) : Inn S0 { S0 with M := S0.M ++ [S0.W] } := ⟨⟨[], by simp⟩, fun _ h => h⟩
theorem read_seen (S : SS Int) (i v j : Int) (h : (gt S.R j).isSome = true) : (gt (S.read i v).2.R j).isSome = true := by
  unfold SS.read
  split
  · exact h
  · split
    · split <;> exact h
    · rename_i hn
      split
      · exact h
      · show (gt (S.R ++ [(i, v)]) j).isSome = true
        rw [gt_append _ _ _ _ hn]
        split
        · rfl
        · exact h
theorem read_M (S : SS Int) (i v : Int) : (S.read i v).2.M = S.M := by
  unfold SS.read
  split
  · rfl
  · split
    · split <;> rfl
    · split <;> rfl
theorem write_M (S : SS Int) (i v : Int) : (S.write i v).2.M = S.M ∧ (S.write i v).2.R = S.R := by
  unfold SS.write
  split
  · exact ⟨rfl, rfl⟩
  · split <;> exact ⟨rfl, rfl⟩
theorem Inn.len {S0 S : SS Int} (h : Inn S0 S) : S0.M.length + 1 ≤ S.M.length := by
  obtain ⟨⟨T, e⟩, _⟩ := h
  have := congrArg List.length e
  simp only [List.length_append, List.length_singleton] at this
  omega
theorem Inn.cut {S0 S : SS Int} (h : Inn S0 S) (hk : S.M.length ≠ S0.M.length + 1) : ∃ T, S.M.dropLast = (S0.M ++ [S0.W]) ++ T := by
  obtain ⟨⟨T, e⟩, _⟩ := h
  have hT : T ≠ [] := fun e' => hk (by rw [e, e']; simp)
  exact ⟨T.dropLast, by rw [e, List.dropLast_append_of_ne_nil hT]⟩
theorem Inn.step {S0 S : SS Int} (h : Inn S0 S) (x : Op4) (hk : (x.kind = 5 ∨ x.kind = 6) → S.M.length ≠ S0.M.length + 1) : Inn S0 (S.step true x) := by
  have hlen := h.len
  obtain ⟨⟨T, e⟩, hR⟩ := id h
  unfold SS.step
  split
  · exact ⟨⟨T, by rw [read_M]; exact e⟩, fun i hi => read_seen _ _ _ _ (hR i hi)⟩
  split
  · exact ⟨⟨T, by rw [(write_M _ _ _).1]; exact e⟩, fun i hi => by rw [(write_M _ _ _).2]; exact hR i hi⟩
  rw [if_neg (by simp)]
  split
  · unfold SS.mark
    split
    · exact h
    · exact ⟨⟨T ++ [S.W], by show S.M ++ [S.W] = _; rw [e]; simp⟩, hR⟩
  split
  · rename_i h5
    unfold SS.keep
    rw [if_neg (by omega)]
    exact ⟨h.cut (hk (.inl h5)), hR⟩
  split
  · rename_i h6
    unfold SS.undo
    rw [if_neg (by omega)]
    exact ⟨h.cut (hk (.inr h6)), hR⟩
  · exact h
theorem Inn.keep {S0 S : SS Int} (h : Inn S0 S) (hk : S.M.length ≠ S0.M.length + 1) : Inn S0 S.keep.2 ∧ S.keep.2.M.length + 1 = S.M.length := by
  have hlen := h.len
  unfold SS.keep
  rw [if_neg (by omega)]
  refine ⟨⟨h.cut hk, h.2⟩, ?_⟩
  show S.M.dropLast.length + 1 = S.M.length
  rw [List.length_dropLast]
  omega
theorem Inn.undo {S0 S : SS Int} (h : Inn S0 S) (hk : S.M.length = S0.M.length + 1) : S.undo.1 = 0 ∧ S.undo.2.M = S0.M ∧ S.undo.2.W = S0.W ∧ ∀ i, (gt S0.R i).isSome = true → (gt S.undo.2.R i).isSome = true := by
  obtain ⟨⟨T, e⟩, hR⟩ := h
  have hT : T = [] := List.length_eq_zero_iff.1 (by
    have := congrArg List.length e
    simp only [List.length_append, List.length_singleton] at this
    omega)
  subst hT
  unfold SS.undo
  rw [if_neg (by omega)]
  refine ⟨rfl, ?_, ?_, hR⟩
  · show S.M.dropLast = _
    rw [e]; simp
  · show S.M.getLastD [] = _
    rw [e]; simp
end Go.Proofs.Ytdlhgamepfcahaa
