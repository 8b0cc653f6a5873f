/-
  The steps of a transaction's end, in memory.
-/
import Derived.Test.YtlbjalodjcajfaaGreatMem
import Derived.Test.YtlbjalodjcajfaaGreatSet
import Derived.Test.YtlbjalodjcajfaaGreatTxm
import Derived.Deep.Cut
import Derived.Deep.CutRange
import Derived.Deep.LoopGhost
namespace Go.Proofs.YtlbjalodjcajfaaGreat
open Go.RowKit Go.Sort Go.Maps
def civ : Value → Int | .int _ q => q | _ => 0
inductive Stp where
  | stay
  | lock (i : Int)
  | adv
  | look (i : Int)
  | pub (i : Int)
def IsStp (w : World) (Q : Nat → Prop) (g : Nat) (v : Value) (s : Stp) : Prop :=
  ∃ tb, Q tb ∧ Box w tb #[ptr g] 30 ∧ match s with
  | .stay => v = .func (.func 47) #[] #[ptr tb]
  | .adv => v = .func (.func 51) #[] #[ptr tb]
  | .lock i => ∃ ib, Q ib ∧ Box w ib #[.int .i64 i] 3 ∧ v = .func (.func 49) #[] #[ptr tb, ptr ib]
  | .look i => ∃ ib, Q ib ∧ Box w ib #[.int .i64 i] 3 ∧ v = .func (.func 54) #[] #[ptr tb, ptr ib]
  | .pub i => ∃ ib, Q ib ∧ Box w ib #[.int .i64 i] 3 ∧ v = .func (.func 56) #[] #[ptr tb, ptr ib]
def LeftAt (w : World) (Q : Nat → Prop) (g : Nat) (lv : Value) (L : List Stp) : Prop :=
  ∃ a c, lv = .slice a L.length c ∧ L.length ≤ c ∧ ∀ j (hj : j < L.length), ∃ lb off cs v, a = some ⟨lb, off, none⟩ ∧ Q lb ∧ Box w lb cs 80 ∧ cs[off + j]? = some v ∧ IsStp w Q g v L[j]
/-- the steps of its end -/
def ends (S : SS En) : List Stp := if S.W.length = 0 then [.stay] else (srt (kys S.W)).map .lock ++ .adv :: ((srt (kys S.R)).map .look ++ (srt (kys S.W)).map .pub)
theorem ownsRow_below {w w' : World} {B n : Nat} {e : TypeId} {size : Nat} {v : Value} {xs : List Value} (h : w.ownsRow B e size v n xs) (hb : ∀ k, k < w.heap.size → w'.heap[k]? = w.heap[k]?) : w'.ownsRow B e size v n xs := by
  refine ⟨h.1, ?_⟩
  rcases h.2 with h | ⟨q, cap, cur, rfl, hq, hg, r⟩
  · exact .inl h
  · exact .inr ⟨q, cap, cur, rfl, hq, (hb q (Box.lt hg)).trans hg, r⟩
theorem ownsRow_base {w : World} {B B' n : Nat} {e : TypeId} {v : Value} {xs : List Value} (h : w.ownsRow B' e 1 v n xs) (hB : B ≤ B') : w.ownsRow B e 1 v n xs := by
  refine ⟨h.1, ?_⟩
  rcases h.2 with h | ⟨g, cap, cur, rfl, hb, r⟩
  · exact .inl h
  · exact .inr ⟨g, cap, cur, rfl, Nat.le_trans hB hb, r⟩
theorem infoF : (Tryz.prog.info? 80).map (fun i => (i.zero, i.size, i.bytes)) = some (some .nilFunc, 1, 8) := by kernel_rfl
/-- so far: the steps L stand in the row v -/
structure Bld (w u : World) (g : Nat) (v : Value) (L : List Stp) : Prop where
  bel : Below w.heap.size w u
  tb : Box u w.heap.size #[ptr g] 30
  row : ∃ vs : List Value, vs.length = L.length ∧ u.ownsRow w.heap.size 80 1 v L.length vs ∧ ∀ j (hj : j < L.length), ∃ x, vs[j]? = some x ∧ IsStp u (fun x => w.heap.size ≤ x ∧ x < u.heap.size) g x L[j]
theorem IsStp.kt {w w' : World} {B g : Nat} {v : Value} {s : Stp} (h : IsStp w (fun x => B ≤ x ∧ x < w.heap.size) g v s) (hs : w.heap.size ≤ w'.heap.size) (hk : ∀ k cs t, Box w k cs t → t ≠ 80 → Box w' k cs t) : IsStp w' (fun x => B ≤ x ∧ x < w'.heap.size) g v s := by
  obtain ⟨tb, q, b, h⟩ := h
  have hq : ∀ x, B ≤ x ∧ x < w.heap.size → B ≤ x ∧ x < w'.heap.size := fun x hx => ⟨hx.1, Nat.lt_of_lt_of_le hx.2 hs⟩
  refine ⟨tb, hq _ q, hk _ _ _ b (by decide), ?_⟩
  cases s with
  | stay => exact h
  | adv => exact h
  | lock i => obtain ⟨ib, q, b, h⟩ := h; exact ⟨ib, hq _ q, hk _ _ _ b (by decide), h⟩
  | look i => obtain ⟨ib, q, b, h⟩ := h; exact ⟨ib, hq _ q, hk _ _ _ b (by decide), h⟩
  | pub i => obtain ⟨ib, q, b, h⟩ := h; exact ⟨ib, hq _ q, hk _ _ _ b (by decide), h⟩
/-- what an append of one more leaves -/
theorem Bld.add {w u u1 w4 : World} {g n : Nat} {v v' : Value} {L : List Stp} {vs : List Value} {x : Value} {s : Stp} (h : Bld w u g v L) (hn : L.length = n) (hv : vs.length = L.length) (hp : ∀ j (hj : j < L.length), ∃ x, vs[j]? = some x ∧ IsStp u (fun x => w.heap.size ≤ x ∧ x < u.heap.size) g x L[j])
    (hb : Below u.heap.size u u1) (hs : IsStp u1 (fun x => w.heap.size ≤ x ∧ x < u1.heap.size) g x s) (hr0 : u.ownsRow w.heap.size 80 1 v n vs) (hr : w4.ownsRow w.heap.size 80 1 v' (n + 1) (vs ++ [x])) (hg : u1.grownBy w4 v.ownBlock) : Bld w w4 g v' (L ++ [s]) ∧ ∀ k cs t, Box u k cs t → t ≠ 80 → Box w4 k cs t := by
  rw [← hn] at hr0 hr
  have hr1 : u1.ownsRow w.heap.size 80 1 v L.length vs := ownsRow_below hr0 hb.block
  have hk1 : ∀ k cs t, Box u1 k cs t → t ≠ 80 → Box w4 k cs t := fun k cs t b ht => (hg.block k b.lt (fun e => by
    obtain ⟨cs', hc⟩ := ownsRow_box hr1 k e.symm
    exact (b.ne hc ht) rfl)).trans b
  have hk : ∀ k cs t, Box u k cs t → t ≠ 80 → Box w4 k cs t := fun k cs t b ht => hk1 k cs t (b.below hb b.lt) ht
  have hle : w.heap.size ≤ u.heap.size := h.bel.size
  refine ⟨⟨((h.bel.trans (hb.mono hle))).grown hg (Nat.le_trans hle hb.size) (fun k e => (hr1.lt k e).1), hk _ _ _ h.tb (by decide), vs ++ [x], by simp [hv], by simpa using hr, fun j hj => ?_⟩, hk⟩
  by_cases e : j < L.length
  · obtain ⟨y, hy, hys⟩ := hp j e
    refine ⟨y, by rw [List.getElem?_append_left (by omega)]; exact hy, ?_⟩
    rw [List.getElem_append_left e]
    exact hys.kt (Nat.le_trans hb.size hg.size) hk
  · have ej : j = L.length := by simp at hj; omega
    subst ej
    refine ⟨x, by rw [← hv]; simp, ?_⟩
    rw [List.getElem_append_right (Nat.le_refl _)]
    simp only [Nat.sub_self, List.getElem_cons_zero]
    exact hs.kt hg.size hk1
theorem Bld.below {w u u' : World} {g : Nat} {v : Value} {L : List Stp} (h : Bld w u g v L) (hb : Below u.heap.size u u') : Bld w u' g v L := by
  obtain ⟨vs, hv, hr, hp⟩ := h.row
  refine ⟨h.bel.trans (hb.mono h.bel.size), h.tb.below hb h.tb.lt, vs, hv, ownsRow_below hr hb.block, fun j hj => ?_⟩
  obtain ⟨x, hx, hs⟩ := hp j hj
  exact ⟨x, hx, hs.kt hb.size (fun k cs t b _ => b.below hb b.lt)⟩
theorem Bld.left {w u : World} {g : Nat} {v : Value} {L : List Stp} (h : Bld w u g v L) (hn : L ≠ []) : LeftAt u (fun x => w.heap.size ≤ x ∧ x < u.heap.size) g v L := by
  obtain ⟨vs, hv, hr, hp⟩ := h.row
  rcases hr.2 with ⟨_, e0⟩ | ⟨q, cap, cur, rfl, hb, hg, hcap, hcur, hle, ht⟩
  · exact absurd (List.length_eq_zero_iff.1 e0) hn
  · refine ⟨some ⟨q, 0, none⟩, cap, rfl, by omega, fun j hj => ?_⟩
    obtain ⟨x, hx, hs⟩ := hp j hj
    refine ⟨q, 0, cur, x, rfl, ⟨hb, Box.lt hg⟩, hg, ?_, hs⟩
    rw [← hx, ← ht, List.getElem?_take, if_pos (by omega)]
    simp
end Go.Proofs.YtlbjalodjcajfaaGreat
