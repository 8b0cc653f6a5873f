/-
  SchedFair's walk: the line goes round.
-/
import Derived.Test.YtjhhncbadkpbaaaDos
import Derived.Test.YtjhhncbadkpbaaaAwake
namespace Go.Proofs.Ytjhhncbadkpbaaa
open Go.RowKit

/-- n tasks, r rounds done, and m steps of the next one -/
structure Fair (S : SS) (n r m : Nat) : Prop where
  g : S.G.length = n
  l : S.L = (List.range n).drop m ++ (List.range n).take m
  e : ∀ j, j < n → ∃ v, S.E[j]? = some ⟨v, 1, r + if j < m then 1 else 0⟩
def stp : Do3 := ⟨1, 0, false⟩
def alw : List Do3 := List.replicate 10 stp
theorem doAt_alw (r : Nat) (h : r < 10) : doAt alw r = stp := by unfold doAt alw; rw [List.getElem?_replicate, if_pos h]; rfl
theorem Fair.next {S : SS} {n r m : Nat} (h : Fair S n r m) (hm : m < n) (v : Value) (he : S.E[m]? = some ⟨v, 1, r⟩) (h0 : S.L[0]? = some m) : Fair (S.pickTo 0 m ⟨v, 1, r⟩ stp) n r (m + 1) ∧ (S.pickTo 0 m ⟨v, 1, r⟩ stp).E[m]? = some ⟨v, 1, r + 1⟩ ∧ S.pickSt 0 m stp = 1 := by
  have hE : m < S.E.length := (List.getElem?_eq_some_iff.1 he).1
  have e1 : S.pickTo 0 m ⟨v, 1, r⟩ stp = ⟨S.G, S.E.set m ⟨v, 1, r + 1⟩, S.L.eraseIdx (0 % S.L.length) ++ [m], none, false⟩ := rfl
  rw [e1]
  have e2 : S.L.eraseIdx (0 % S.L.length) = (List.range n).drop (m + 1) ++ (List.range n).take m := by
    rw [Nat.zero_mod, h.l]
    have hd : (List.range n).drop m = m :: (List.range n).drop (m + 1) := by
      rw [List.drop_eq_getElem_cons (by simpa using hm)]
      simp
    rw [hd]
    rfl
  refine ⟨⟨h.g, ?_, fun j hj => ?_⟩, List.getElem?_set_self hE, rfl⟩
  · show S.L.eraseIdx _ ++ [m] = _
    rw [e2, List.append_assoc]
    have ht : (List.range n).take (m + 1) = (List.range n).take m ++ [m] := by
      rw [List.take_succ_eq_append_getElem (by simpa using hm)]
      simp
    rw [ht]
  · by_cases hjm : j = m
    · subst hjm
      refine ⟨v, ?_⟩
      rw [if_pos (by omega)]
      exact List.getElem?_set_self hE
    · obtain ⟨v', h'⟩ := h.e j hj
      refine ⟨v', ?_⟩
      show (S.E.set m _)[j]? = _
      rw [List.getElem?_set_ne (Ne.symm hjm), h']
      by_cases hlt : j < m
      · rw [if_pos hlt, if_pos (by omega)]
      · rw [if_neg hlt, if_neg (by omega)]
theorem Fair.round {S : SS} {n r : Nat} (h : Fair S n r n) : Fair S n (r + 1) 0 := by
  refine ⟨h.g, ?_, fun j hj => ?_⟩
  · rw [h.l]
    have e1 : (List.range n).drop n = [] := List.drop_eq_nil_of_le (by simp)
    have e2 : (List.range n).take n = List.range n := List.take_of_length_le (by simp)
    rw [e1, e2]
    simp
  · obtain ⟨v, h'⟩ := h.e j hj
    refine ⟨v, ?_⟩
    rw [h', if_pos hj]
    rfl
theorem Fair.head {S : SS} {n r m : Nat} (h : Fair S n r m) (hm : m < n) : S.L[0]? = some m ∧ 0 < S.L.length := by
  have hd : (List.range n).drop m = m :: (List.range n).drop (m + 1) := by
    rw [List.drop_eq_getElem_cons (by simpa using hm)]
    simp
  rw [h.l, hd]
  exact ⟨rfl, by simp⟩
theorem Fair.add {S : SS} {n : Nat} (h : Fair S n 0 0) (hlen : S.E.length = S.G.length) (g : Nat) (v : Value) : Fair (S.add g v) (n + 1) 0 0 := by
  refine ⟨by simp [SS.add, h.g], ?_, fun j hj => ?_⟩
  · show S.L ++ [S.G.length] = _
    rw [h.l, h.g, List.range_succ]
    simp
  · show ∃ v', (S.E ++ [_])[j]? = _
    by_cases hjn : j < n
    · rw [List.getElem?_append_left (by rw [hlen, h.g]; exact hjn)]
      exact h.e j hjn
    · have : j = n := by omega
      subst this
      refine ⟨v, ?_⟩
      rw [List.getElem?_append_right (by rw [hlen, h.g]; exact Nat.le_refl _), hlen, h.g]
      simp
/-- the situation of the law -/
def FairSit (w : World) (B s tb bb ag n r m : Nat) : Prop := ∃ S tv K, Sit w B s S tb bb tv [] false K ∧ Fair S n r m ∧ DBox w ag alw ∧ ∀ k ∈ K, k.xs = alw ∧ k.la = some ⟨ag, 0, none⟩ ∧ k.lc = 10
theorem FairSit.pick {w : World} {B s tb bb ag n r m : Nat} (h : FairSit w B s tb bb ag n r m) (hm : m < n) (hn : n ≤ 20) (hr : r < 10) :
    Calls Try.prog 10 #[ptr s, .int .u64 0] w fun q w' => q = .returned (.tuple #[.int .i64 ((m + 1 : Nat) : Int), .int .u8 1, .bool true]) ∧ Below B w w' ∧ FairSit w' B s tb bb ag n r (m + 1) ∧ Calls Try.prog 22 #[ptr s, .int .i64 ((m + 1 : Nat) : Int)] w' fun q w'' => q = .returned (.int .i64 ((r + 1 : Nat) : Int)) ∧ w'' = w' := by
  obtain ⟨S, tv, K, hs, hf, hd, hK⟩ := h
  obtain ⟨h0, hp⟩ := hf.head hm
  obtain ⟨v, he⟩ := hf.e m hm
  rw [if_neg (Nat.lt_irrefl _), Nat.add_zero] at he
  have hmK : m < K.length := by rw [hs.hlen, hf.g]; exact hm
  have hk : K[m]? = some K[m] := List.getElem?_eq_getElem hmK
  have hx := (hK _ (List.getElem_mem hmK)).1
  have hgl := hf.g
  obtain ⟨n1, n2, n3⟩ := hf.next hm v he h0
  have c := hs.pick 0 (by decide) hp (by omega) (by simp) m K[m] ⟨v, 1, r⟩ (by rw [Nat.zero_mod]; exact h0) hk he (by show r < 100000; omega)
  have ed : doAt K[m].xs r = stp := by rw [hx]; exact doAt_alw r hr
  rw [ed] at c
  refine c.mono ?_
  rintro q w' ⟨rfl, tv', hs', hb, hfr, _⟩
  refine ⟨by rw [n3]; rfl, hb, ⟨_, tv', K, hs', n1, ?_, hK⟩, ?_⟩
  · exact hfr _ _ _ hd oth45 (fun h5 => by
      rcases h5 with ⟨l, hl, rfl⟩ | h5 | h5
      · obtain ⟨j, hj, rfl⟩ := List.getElem_of_mem hl
        have hE : j < S.E.length := by rw [hs.is.len, ← hs.hlen]; exact hj
        exact (Box.ne hd (hs.tk j _ _ (List.getElem?_eq_getElem hj) (List.getElem?_eq_getElem hE)).2.1 (by decide)) rfl
      · exact (Box.ne hd hs.tw.tbox (by decide)) h5
      · obtain ⟨cs, hcs⟩ := ownsRow_box hs.tw.row _ h5
        exact (Box.ne hd hcs (by decide)) rfl)
  · exact steps_in hs'.is m _ n2 (by rw [n1.g]; omega)
theorem FairSit.add {w : World} {B s tb bb ag n : Nat} (h : FairSit w B s tb bb ag n 0 0) (hn : n < 20) :
    Calls Try.prog 9 #[ptr s, .iface 47 (ptr w.heap.size)] (w.alloc (.cells (tkC s (some ⟨ag, 0, none⟩) 10 10 0 tb bb) 51)) fun q w' => q = .returned (.tuple #[.int .i64 ((n + 1 : Nat) : Int), .int .i64 0]) ∧ FairSit w' B s tb bb ag (n + 1) 0 0 ∧ Below B w w' := by
  obtain ⟨S, tv, K, hs, hf, hd, hK⟩ := h
  have hb : Below w.heap.size w (w.alloc (.cells (tkC s (some ⟨ag, 0, none⟩) 10 10 0 tb bb) 51)) := (Below.refl w.heap.size w).alloc (Nat.le_refl _) _
  have x := Box.new w (tkC s (some ⟨ag, 0, none⟩) 10 10 0 tb bb) 51
  have hgl := hf.g
  have hal := alv_le S.E S.G
  have c := (hs.below hb).add (by omega) (by omega) ⟨w.heap.size, some ⟨ag, 0, none⟩, 10, alw⟩ x ((hd.row B).keep (hb.mono hs.is.hB) (fun _ _ y => y.alloc _)) hs.is.hB (fun l hl => by have := tk_lt hs l hl; show l.tg ≠ w.heap.size; omega)
  rw [hgl] at c
  refine c.mono ?_
  rintro q w' ⟨g, rfl, h1, h2, h3⟩
  refine ⟨rfl, ⟨_, tv, _, h1, hf.add hs.is.len g _, h3 _ _ _ (Box.alloc hd _) oth45, ?_⟩, (hb.mono hs.is.hB).trans h2⟩
  intro k hk
  rcases List.mem_append.1 hk with h4 | h4
  · exact hK k h4
  · simp at h4; subst h4; exact ⟨rfl, rfl, rfl⟩
/-- the row, filled up to a place -/
def fil (k : Nat) : List Do3 := List.replicate k stp ++ List.replicate (10 - k) do0
theorem fil_set (k : Nat) (h : k < 10) : (fil k).set k ⟨1, ((fil k)[k]'(by unfold fil; simp; omega)).wake, ((fil k)[k]'(by unfold fil; simp; omega)).inner⟩ = fil (k + 1) := by
  match k, h with
  | 0, _ => rfl
  | 1, _ => rfl
  | 2, _ => rfl
  | 3, _ => rfl
  | 4, _ => rfl
  | 5, _ => rfl
  | 6, _ => rfl
  | 7, _ => rfl
  | 8, _ => rfl
  | 9, _ => rfl
  | k + 10, h => exact absurd h (by omega)
theorem fil_len (k : Nat) (h : k ≤ 10) : (fil k).length = 10 := by unfold fil; simp; omega
end Go.Proofs.Ytjhhncbadkpbaaa
