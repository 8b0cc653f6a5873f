/-
  SchedSteps: the situation of the law.
-/
import Derived.Test.YtjhhncbadkpbaaaStepsP
import Derived.Test.YtjhhncbadkpbaaaArgs
import Derived.Test.YtjhhncbadkpbaaaAwake
namespace Go.Proofs.Ytjhhncbadkpbaaa
open Go.RowKit
def StSit (w : World) (B s tb bb m : Nat) (S : SS) : Prop := ∃ tv told K, Sit w B s S tb bb tv told false K ∧ S.G.length = m ∧ told.length ≤ S.sum
theorem oth3 : Oth 3 := ⟨by decide, by decide, by decide⟩
theorem StSit.is {w : World} {B s tb bb m : Nat} {S : SS} (h : StSit w B s tb bb m S) : IsS w B s S := by obtain ⟨_, _, _, h, _⟩ := h; exact h.is
theorem StSit.good {w : World} {B s tb bb m : Nat} {S : SS} (h : StSit w B s tb bb m S) : Good S := by obtain ⟨_, _, _, h, _⟩ := h; exact h.good
theorem StSit.g {w : World} {B s tb bb m : Nat} {S : SS} (h : StSit w B s tb bb m S) : S.G.length = m := by obtain ⟨_, _, _, _, h, _⟩ := h; exact h
theorem StSit.Ll {w : World} {B s tb bb m : Nat} {S : SS} (h : StSit w B s tb bb m S) : S.L.length ≤ m := by obtain ⟨_, _, _, h, e, _⟩ := h; rw [← e]; exact h.Ll
theorem StSit.bad {w : World} {B s tb bb m : Nat} {S : SS} (h : StSit w B s tb bb m S) : w.cell? ⟨bb, 0, none⟩ = some (.bool false) := by obtain ⟨_, _, _, h, _⟩ := h; exact h.tw.bbox.cell 0
theorem StSit.below {w w' : World} {B s tb bb m : Nat} {S : SS} (h : StSit w B s tb bb m S) (hb : Below w.heap.size w w') : StSit w' B s tb bb m S := by
  obtain ⟨tv, told, K, h, r⟩ := h
  exact ⟨tv, told, K, h.below hb, r⟩
theorem StSit.start {w : World} {B s tb bb : Nat} (h : Sit w B s SS0 tb bb (.slice none 0 0) [] false []) : StSit w B s tb bb 0 SS0 := ⟨_, _, _, h, rfl, Nat.le_refl _⟩
theorem StSit.add {w : World} {B s tb bb m : Nat} {S : SS} (h : StSit w B s tb bb m S) (hm : m < 60) {la : Option Addr} {ln lc : Nat} {xs : List Do3} (hd : DoRow w B la xs) (hl : xs.length = ln) :
    Calls Try.prog 9 #[ptr s, .iface 47 (ptr w.heap.size)] (w.alloc (.cells (tkC s la ln lc 0 tb bb) 51)) fun q w' => q = .returned (.tuple #[.int .i64 ((m + 1 : Nat) : Int), .int .i64 0]) ∧ (∃ S', StSit w' B s tb bb (m + 1) S' ∧ S'.sum = S.sum) ∧ Below B w w' := by
  obtain ⟨tv, told, K, hs, hg, ht⟩ := h
  subst hl
  have hb : Below w.heap.size w (w.alloc (.cells (tkC s la xs.length lc 0 tb bb) 51)) := (Below.refl w.heap.size w).alloc (Nat.le_refl _) _
  have x := Box.new w (tkC s la xs.length lc 0 tb bb) 51
  have hal := alv_le S.E S.G
  have c := (hs.below hb).add (by omega) (by omega) ⟨w.heap.size, la, lc, xs⟩ x (hd.keep (hb.mono hs.is.hB) (fun _ _ y => y.alloc _)) hs.is.hB (fun l hl => by
    obtain ⟨i, hi, rfl⟩ := List.getElem_of_mem hl
    have hE : i < S.E.length := by rw [hs.is.len, ← hs.hlen]; exact hi
    have := (hs.tk i _ _ (List.getElem?_eq_getElem hi) (List.getElem?_eq_getElem hE)).2.1.lt
    show K[i].tg ≠ w.heap.size
    omega)
  rw [hg] at c
  refine c.mono ?_
  rintro q w' ⟨g, rfl, h1, h2, h3⟩
  have es : (S.add g (.iface 47 (ptr w.heap.size))).sum = S.sum := by unfold SS.sum SS.add; simp
  exact ⟨rfl, ⟨_, ⟨tv, told, _, h1, by simp [SS.add, hg], by rw [es]; exact ht⟩, es⟩, (hb.mono hs.is.hB).trans h2⟩
theorem StSit.pick {w : World} {B s tb bb m : Nat} {S : SS} (h : StSit w B s tb bb m S) (p : Nat) (hp : p < 18446744073709551616) (h0 : 0 < S.L.length) (hm : m < 60) (hsum : S.sum < 10000) :
    ∃ i st, S.L[p % S.L.length]? = some i ∧ st < 200 ∧ Calls Try.prog 10 #[ptr s, .int .u64 (p : Int)] w fun r w' => r = .returned (.tuple #[.int .i64 ((i + 1 : Nat) : Int), .int .u8 ((st : Nat) : Int), .bool true]) ∧ (∃ S', StSit w' B s tb bb m S' ∧ S'.sum = S.sum + 1) ∧ Below B w w' ∧ (∀ k cs, Box w k cs 3 → Box w' k cs 3) ∧ Calls Try.prog 21 #[ptr s, .int .i64 ((i + 1 : Nat) : Int)] w' fun r w'' => r = .returned (.int .u8 ((st : Nat) : Int)) ∧ w'' = w' := by
  obtain ⟨tv, told, K, hs, hg, ht⟩ := h
  have hkl : p % S.L.length < S.L.length := Nat.mod_lt _ h0
  have hi : S.L[p % S.L.length]? = some S.L[p % S.L.length] := List.getElem?_eq_getElem hkl
  generalize S.L[p % S.L.length] = i at hi
  obtain ⟨e, he, h1⟩ := hs.good.ln i (List.mem_of_getElem? hi)
  have hiK : i < K.length := by rw [hs.hlen]; exact hs.is.ll i (List.mem_of_getElem? hi)
  have hk : K[i]? = some K[i] := List.getElem?_eq_getElem hiK
  have hle := le_sumS he
  have c := hs.pick p hp h0 (by omega) (by omega) i K[i] e hi hk he (by omega)
  obtain ⟨e', r1, r2⟩ := pick_stat (p := p) (doAt K[i].xs e.n) he h1
  have hsm := pick_sum (p := p) (doAt K[i].xs e.n) he h1
  have hGG := pick_G (p := p) (doAt K[i].xs e.n) he h1
  refine ⟨i, S.pickSt p i (doAt K[i].xs e.n), hi, ?_, c.mono ?_⟩
  · unfold SS.pickSt SS.finSt
    split
    · decide
    · split <;> decide
  · rintro r w' ⟨rfl, tv', hs', hb, hfr, _⟩
    have htl := toldBy_len (S.beg p i) told (doAt K[i].xs e.n)
    refine ⟨rfl, ⟨_, ⟨tv', _, K, hs', by rw [hGG]; exact hg, by rw [hsm]; omega⟩, hsm⟩, hb, fun k cs hx => ?_, ?_⟩
    · refine hfr _ _ _ hx oth3 (fun h5 => ?_)
      rcases h5 with ⟨l, hl, rfl⟩ | h5 | h5
      · obtain ⟨j, hj, rfl⟩ := List.getElem_of_mem hl
        have hE : j < S.E.length := by rw [hs.is.len, ← hs.hlen]; exact hj
        exact (hx.ne (hs.tk j _ _ (List.getElem?_eq_getElem hj) (List.getElem?_eq_getElem hE)).2.1 (by decide)) rfl
      · exact (hx.ne hs.tw.tbox (by decide)) h5
      · obtain ⟨cs', hcs⟩ := ownsRow_box hs.tw.row _ h5
        exact (hx.ne hcs (by decide)) rfl
    · have := status_in hs'.is i e' r1 (by rw [hGG]; omega)
      rw [r2] at this
      exact this
theorem StSit.empty {w : World} {B s tb bb m : Nat} {S : SS} (h : StSit w B s tb bb m S) (h0 : S.L = []) (p : Int) :
    Calls Try.prog 10 #[ptr s, .int .u64 p] w fun r w' => r = .returned (.tuple #[.int .i64 0, .int .u8 0, .bool false]) ∧ w' = w := by
  obtain ⟨tv, told, K, hs, _⟩ := h
  exact hs.empty h0 p
theorem contains_succ (L : List Nat) (k i : Nat) (h : k < L.length) : (L.take (k + 1)).contains i = ((L.take k).contains i || L[k] == i) := by
  rw [List.take_succ_eq_append_getElem h]
  rw [Bool.eq_iff_iff]
  simp only [List.contains_eq_mem, Bool.or_eq_true, decide_eq_true_eq, List.mem_append, List.mem_singleton, beq_iff_eq]
  constructor
  · rintro (h | h)
    · exact .inl h
    · exact .inr h.symm
  · rintro (h | h)
    · exact .inl h
    · exact .inr h.symm
end Go.Proofs.Ytjhhncbadkpbaaa
